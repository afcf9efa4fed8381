/- Package cores: the walk of rotate. -/
import Derived.Test.YtningajaimbncaaCorG
namespace Go.Proofs.Ytningajaimbncaa
open Go.RowKit

set_option maxHeartbeats 1000000 in
theorem over_W {B X x sl p : Nat} (W : World) (c4 : W.cell? ⟨p, 4, none⟩ = some (.int .i64 (x : Nat))) (cX : W.cell? ⟨X, 0, none⟩ = some (.pointer (some ⟨B, 0, none⟩))) (c1 : W.cell? ⟨B, 1, none⟩ = some (.int .i64 (sl : Nat))) (_ : p < W.heap.size) (_ : X < W.heap.size) (_ : B < W.heap.size) :
    Calls Try.prog 34 (#[.pointer (some ⟨p, 0, none⟩)] ++ #[.pointer (some ⟨X, 0, none⟩)]) W fun e w' => e = .returned (.bool (decide (x = sl))) ∧ ∃ j, w' = W.drewN j := by
  show Calls Try.prog 34 #[.pointer (some ⟨p, 0, none⟩), .pointer (some ⟨X, 0, none⟩)] W _
  by_cases h0 : x = sl
  · rw [decide_eq_true h0]
    subst h0
    go_enter Try.func34, Try.ntmps34
    go_wp2_with fail
    go_quiet (fail)
    go_wp2_with fail
    go_ret
    exact ⟨by simp, _, rfl⟩
  · rw [decide_eq_false h0]
    have g0 : ((x : Int) == (sl : Int)) = false := beq_eq_false_iff_ne.2 (by omega)
    go_enter Try.func34, Try.ntmps34
    go_wp2_with fail
    go_quiet (fail)
    go_wp2_with fail
    go_ret
    exact ⟨by simp, _, rfl⟩
/-- The question in whatever world the row alone has turned. -/
theorem asks_over {w0 w : World} {B X : Nat} {T : ThN} {P : Nat → Nat} {s : StM} {qv : Value} (h : MemN w0 w B T P s qv) (hX : w.heap[X]? = some (.cells #[.pointer (some ⟨B, 0, none⟩)] 57 (0, 0))) :
    Asks 34 #[.pointer (some ⟨X, 0, none⟩)] P s.q (s.over T.sl) w qv.ownBlock := by
  intro k hk W hg
  have hb : ∀ (b : Nat) (cs : Array Value) (t : TypeId) (fr : Nat × Nat), w.heap[b]? = some (.cells cs t fr) → ¬ t = 58 → W.heap[b]? = some (.cells cs t fr) := fun b _ _ _ hb ht => (hg.block b (heap_lt hb) (fun e => own_ne h.own hb ht b e.symm rfl)).trans hb
  have h1 := hb _ _ _ _ (h.thr k hk).1 (by decide)
  have h2 := hb _ _ _ _ hX (by decide)
  have h3 := hb _ _ _ _ h.hp (by decide)
  exact over_W W (five_at h1).2.2.2.2 (one_at h2) (trio_at h3).2.1 (heap_lt h1) (heap_lt h2) (heap_lt h3)
theorem filter_sum (p : Nat → Bool) : ∀ q : List Nat, (q.filter fun k => !p k).length + (q.filter p).length = q.length
  | [] => rfl
  | x :: r => by
    have ih := filter_sum p r
    cases hx : p x with
    | true => simp [hx]; omega
    | false => simp [hx]; omega
/-- The queue behind the moving. -/
theorem MemN.rot {w0 w w4 : World} {B : Nat} {T : ThN} {P : Nat → Nat} {s : StM} {qv qv' : Value} {p : Nat → Bool} {L : Nat} (h : MemN w0 w B T P s qv) (hg : w.grownBy w4 qv.ownBlock) (hL : s.q.length = L) (ho : w4.ownsRow w0.heap.size 58 1 qv' L (shP.flat ((s.q.filter fun k => !p k).map P ++ (s.q.filter p).map P))) :
    w4.heap[B]? = some (.cells #[.int .i64 (T.c : Nat), .int .i64 (T.sl : Nat), qv] 48 (0, 0)) ∧ MemN w0 (w4.setCell ⟨B, 2, none⟩ qv') B T P ⟨(s.q.filter fun k => !p k) ++ s.q.filter p, s.left, s.ran⟩ qv' ∧ KeepN w (w4.setCell ⟨B, 2, none⟩ qv') := by
  have hbk : ∀ (b : Nat) (cs : Array Value) (t : TypeId) (fr : Nat × Nat), w.heap[b]? = some (.cells cs t fr) → ¬ t = 58 → w4.heap[b]? = some (.cells cs t fr) := fun b _ _ _ hb ht => (hg.block b (heap_lt hb) (fun e => own_ne h.own hb ht b e.symm rfl)).trans hb
  have hmem : ∀ k, k ∈ (s.q.filter fun k => !p k) ++ s.q.filter p → k ∈ s.q := fun k hk => by
    rcases List.mem_append.1 hk with hk | hk
    · exact (List.mem_filter.1 hk).1
    · exact (List.mem_filter.1 hk).1
  have hlen : ((s.q.filter fun k => !p k) ++ s.q.filter p).length = L := by rw [List.length_append, filter_sum, hL]
  have G := h.putQ (P' := P) (s' := ⟨(s.q.filter fun k => !p k) ++ s.q.filter p, s.left, s.ran⟩) (qv' := qv') hg (by
      show w4.ownsRow _ _ _ _ ((s.q.filter fun k => !p k) ++ s.q.filter p).length (shP.flat (((s.q.filter fun k => !p k) ++ s.q.filter p).map P))
      rw [hlen, List.map_append]
      exact ho) (fun k hk => ⟨hbk _ _ _ _ (h.thr k (hmem k hk)).1 (by decide), (h.thr k (hmem k hk)).2⟩) (fun i hi j hj e => h.inj i (hmem i hi) j (hmem j hj) e) (by
      show ((s.q.filter fun k => !p k) ++ s.q.filter p).length ≤ 64
      rw [hlen, ← hL]
      exact h.len)
  exact ⟨G.1, G.2, (keep_row h.own hg).trans (keep_set G.1 (Or.inr rfl))⟩
/-- What is in memory while the moved ones begin again. -/
structure LpM (w0 w wr : World) (B : Nat) (T : ThN) (P : Nat → Nat) (q' : List Nat) (left ran : Nat → Nat) (qv : Value) (ad : Option Addr) (cap : Nat) (M : List Nat) (j : Nat) : Prop where
  m : MemN w0 wr B T P ⟨q', left, fun k => if k ∈ M.take j then 0 else ran k⟩ qv
  k : KeepN w wr
  r : shP.At wr ad cap (M.map P)
theorem LpM.next {w0 w wr : World} {B : Nat} {T : ThN} {P : Nat → Nat} {q' : List Nat} {left ran : Nat → Nat} {qv : Value} {ad : Option Addr} {cap : Nat} {M : List Nat} {j k : Nat} (h : LpM w0 w wr B T P q' left ran qv ad cap M j) (hk : M[j]? = some k) (hq : k ∈ q') (hne : ∀ b off, ad = some ⟨b, off, none⟩ → ¬ b = P k) :
    LpM w0 w (wr.setCell ⟨P k, 4, none⟩ (.int .i64 0)) B T P q' left ran qv ad cap M (j + 1) := by
  have e : M.take (j + 1) = M.take j ++ [k] := by rw [List.take_add_one, hk]; rfl
  refine ⟨(h.m.setR hq 0).congr (fun _ _ => rfl) (fun i _ => ?_), h.k.trans (h.m.keepT hq 4 _), at_kept h.r fun b off e hb => ⟨Below.heap_setCell _ _ _ _ (hne b off e), by simpa using hb⟩⟩
  show (if i ∈ M.take (j + 1) then 0 else ran i) = upd (fun k => if k ∈ M.take j then 0 else ran k) k 0 i
  rw [e]
  unfold upd
  by_cases h1 : i = k
  · simp [h1]
  · simp [h1]
set_option maxHeartbeats 2000000 in
set_option maxRecDepth 100000 in
theorem rotate_W {w0 w : World} {B : Nat} {T : ThN} {P : Nat → Nat} {s : StM} {qv : Value} (HM : Hid (MemN w0 w B T P s qv)) :
    Calls Try.prog 26 #[.pointer (some ⟨B, 0, none⟩)] w fun e w' => e = .returned (.tuple #[]) ∧ (∃ qv', MemN w0 w' B T P (s.rot T.sl) qv') ∧ KeepN w w' := by
  obtain ⟨i0, hi, hz0, hz1, hz2⟩ := info_parts' info_ptr
  have eg : ∀ args w, (callFunc 34 args).run Try.prog w = .ok (.enter 34 args) w := enters_of Try.func34 (by kernel_rfl) rfl
  have BA := below_alloc w (.cells #[.pointer (some ⟨B, 0, none⟩)] 57)
  have MA := Lib.hid (HM.out.step BA)
  have XA := Lib.hid (heap_alloc_new w (.cells #[.pointer (some ⟨B, 0, none⟩)] 57))
  have KA := Lib.hid (keep_below BA)
  obtain ⟨_, _, c2⟩ := MA.out.cells
  have hBA := MA.out.lt
  obtain ⟨qa, qc, rfl, hA⟩ := MA.out.rows
  have HA := Lib.hid hA
  obtain ⟨p, hpd⟩ : ∃ p, s.over T.sl = p := ⟨_, rfl⟩
  have HPD := Lib.hid hpd
  have hnq : s.q.length ≤ 64 := HM.out.len
  have hmovl : (s.q.filter p).length ≤ 64 := Nat.le_trans (List.length_filter_le _ _) hnq
  have hsum : (s.q.filter fun k => !p k).length + (s.q.filter p).length = s.q.length := by
    exact filter_sum p s.q
  have HAS : Hid (Asks 34 #[.pointer (some ⟨w.heap.size, 0, none⟩)] P s.q p (w.alloc (.cells #[.pointer (some ⟨B, 0, none⟩)] 57)) (Value.slice qa s.q.length qc).ownBlock) := Lib.hid (by rw [← hpd]; exact asks_over MA.out XA.out)
  have HC : Hid (∀ k, k ∈ s.q → ∀ W, Below (w.alloc (.cells #[.pointer (some ⟨B, 0, none⟩)] 57)).heap.size (w.alloc (.cells #[.pointer (some ⟨B, 0, none⟩)] 57)) W → Calls Try.prog 34 (#[.pointer (some ⟨P k, 0, none⟩)] ++ #[.pointer (some ⟨w.heap.size, 0, none⟩)]) W fun e w' => e = .returned (.bool (p k)) ∧ ∃ j, w' = W.drewN j) := Lib.hid fun k hk W hb => HAS.out k hk W (below_row hb _)
  obtain ⟨N, hN⟩ : ∃ N, s.q.length = N := ⟨_, rfl⟩
  obtain ⟨mn, hmn⟩ : ∃ mn, (s.q.filter p).length = mn := ⟨_, rfl⟩
  obtain ⟨rn, hrn⟩ : ∃ rn, (s.q.filter fun k => !p k).length = rn := ⟨_, rfl⟩
  rw [hmn] at hmovl
  rw [hN, hmn, hrn] at hsum
  rw [hN] at hnq c2 HAS MA
  have HN := Lib.hid hN
  have HMN := Lib.hid hmn
  have HRN := Lib.hid hrn
  have hXl : w.heap.size < (w.alloc (.cells #[.pointer (some ⟨B, 0, none⟩)] 57)).heap.size := by simp
  have cX := one_at XA.out
  clear hA hpd hN hmn hrn BA
  go_enter Try.func26, Try.ntmps26
  go_upto_region 1 with fail
  have hww : w.heap.size ≤ (w.alloc (.cells #[.pointer (some ⟨B, 0, none⟩)] 57)).heap.size := by simp
  generalize w.alloc (.cells #[.pointer (some ⟨B, 0, none⟩)] 57) = wa at MA XA KA HA HAS HC c2 cX hBA hXl hww ⊢
  have HXB : Hid (w.heap.size = w.heap.size) := Lib.hid rfl
  obtain ⟨X, hXX⟩ : ∃ X, w.heap.size = X := ⟨_, rfl⟩
  rw [hXX] at XA HAS HC cX hXl ⊢
  go_upto_region 3 with (first
    | (go_at_call 35; (with_reducible refine (those_W p 34 #[.pointer (some ⟨X, 0, none⟩)] eg _ HA HN hnq HC).mono ?_); rintro e w2 ⟨v, rfl, ho, hb⟩; have HO2 := Lib.hid ho; have HB2 := Lib.hid hb; clear ho hb)
    | fail)
  have M2 := Lib.hid (MA.out.step HB2.out)
  have X2 := Lib.hid (heap_step XA.out HB2.out)
  have MD := Lib.hid (M2.out.step ((Below.refl w2.heap.size w2).drew))
  have OD := Lib.hid MD.out.own
  have XD : Hid (w2.drew.heap[X]? = some (.cells #[.pointer (some ⟨B, 0, none⟩)] 57 (0, 0))) := Lib.hid X2.out
  have AS2 : Hid (Asks 34 #[.pointer (some ⟨X, 0, none⟩)] P s.q p w2.drew (Value.slice qa N qc).ownBlock) := Lib.hid (by rw [← HPD.out]; exact asks_over MD.out XD.out)
  have K2 := Lib.hid (KA.out.trans (keep_below HB2.out))
  have hNN := HN.out
  have hMM := HMN.out
  rw [hMM] at HO2
  rw [hNN] at OD
  obtain ⟨ma, mc, rfl, _, _, _, msome⟩ := own_shape HO2.out
  have HMS := Lib.hid msome
  have HAM := Lib.hid (Shape.At.own (S := shP) HO2.out (by rw [List.length_map]; exact hMM))
  have hob : ∀ n, (Value.slice qa n qc).ownBlock = (Value.slice qa N qc).ownBlock := fun n => by cases qa <;> rfl
  have HOB := Lib.hid hob
  have HQL := Lib.hid (fun (n g : Nat) (e : (Value.slice qa n qc).ownBlock = some g) => (own_lt MA.out.own ((hob n).symm.trans e)).2)
  clear hob
  have c22 := M2.out.cells.2.2
  have hB2 := M2.out.lt
  have cX2 := one_at X2.out
  have hX2 := heap_lt X2.out
  have HRL : Hid (((s.q.filter fun k => !p k).map P).length = rn) := Lib.hid (by rw [List.length_map]; exact HRN.out)
  have HML : Hid (((s.q.filter p).map P).length = mn) := Lib.hid (by rw [List.length_map]; exact hMM)
  have h0w := MD.out.b.size
  clear msome hNN hMM c2 hBA hXl cX HC HAS
  go_cut [3] from 13 to 23 (fun a wy => a = .slice ma mn mc ∧ ∃ qv', Hid (MemN w0 wy B T P ⟨(s.q.filter fun k => !p k) ++ s.q.filter p, s.left, s.ran⟩ qv') ∧ Hid (KeepN w wy) ∧ Hid (shP.At wy ma mc ((s.q.filter p).map P)))
  case first =>
    go_region_law
      (first
      | (go_simp; go_at_call 36; (with_reducible refine (delT_W 34 #[.pointer (some ⟨X, 0, none⟩)] eg _ OD HN hnq AS2 rn HRN).mono ?_); rintro e w3 ⟨rfl, ho3, hg3⟩; have O3 := Lib.hid ho3; have G3 := Lib.hid hg3; have X3 := Lib.hid ((hg3.block X (heap_lt XD.out) (fun e => own_ne (t := 57) OD.out XD.out (by decide) X e.symm rfl)).trans XD.out); have cX3 := one_at X3.out; have hX3 := heap_lt X3.out; have A3 := Lib.hid (at_kept (HAM.out.step ((Below.refl w2.heap.size w2).drew)) fun b off e hb => ⟨hg3.block b hb (fun q => by obtain ⟨g', e', h1, _⟩ := HMS.out _ e; cases e'; have := HQL.out _ _ q.symm; omega), Nat.lt_of_lt_of_le hb hg3.size⟩); have hs3 := hg3.size; clear ho3 hg3)
      | (refine step_append_n shP rfl _ _ 46 rfl w0.heap.size 58 i0 _ 8 Try.underlying46 hi hz0 hz1 hz2 rfl (.slice qa rn qc) rn ((s.q.filter fun k => !p k).map P) ((s.q.filter p).map P) HRL rfl O3.out ma mn mc rfl HML A3.out (by unfold maxLen; omega) (by omega) (by omega) ?_; intro ra rc w4 own4 grow4 _; rw [hsum] at own4; have R4 := Lib.hid (MD.out.rot (p := p) (grown_trans G3.out (by rw [← HOB.out rn]; exact grow4)) HN.out own4); have X4 := Lib.hid ((grow4.block X (heap_lt X3.out) (fun e => own_ne (t := 57) O3.out X3.out (by decide) X e.symm rfl)).trans X3.out); have cX4 := one_at X4.out; have hX4 := heap_lt X4.out; have A4 := Lib.hid (at_kept A3.out fun b off e hb => ⟨grow4.block b hb (fun q => by obtain ⟨g', e', h1, _⟩ := HMS.out _ e; cases e'; have := HQL.out _ _ q.symm; omega), Nat.lt_of_lt_of_le hb grow4.size⟩); have hB4 := heap_lt R4.out.1; have cB4 := (trio_at R4.out.1).2.2; have fB4 := frozen_of_row w4 B 2 _ _ R4.out.1; clear own4 grow4))
    all_goals go_wp2_with fail
    all_goals go_meet
    all_goals exact ⟨rfl, _, Lib.hid R4.out.2.1, Lib.hid (K2.out.trans ((keep_below ((Below.refl w2.heap.size w2).drew)).trans R4.out.2.2)), Lib.hid (at_kept A4.out fun b off e hb => ⟨Below.heap_setCell w4 ⟨B, 2, none⟩ _ b (fun q => by
      obtain ⟨g', e', h1, _⟩ := HMS.out _ e
      cases e'
      have := MA.out.lt
      simp only at q
      omega), by simpa using hb⟩)⟩
  case rest =>
    obtain ⟨rfl, qv', M5, K5, A5⟩ := hcut
    have HME : Hid (∀ k ∈ s.q.filter p, k ∈ (s.q.filter fun k => !p k) ++ s.q.filter p ∧ P k < w.heap.size) := Lib.hid fun k hk => ⟨List.mem_append_right _ hk, heap_lt (HM.out.thr k (List.mem_filter.1 hk).1).1⟩
    clear M2 X2 MD OD XD AS2 K2 HO2 HB2 HAM c22 hB2 cX2 hX2 HRL h0w
    obtain ⟨Q', hQ'⟩ : ∃ Q', (s.q.filter fun k => !p k) ++ s.q.filter p = Q' := ⟨_, rfl⟩
    obtain ⟨M, hM⟩ : ∃ M, s.q.filter p = M := ⟨_, rfl⟩
    have HQ' := Lib.hid hQ'
    have HMM := Lib.hid hM
    rw [hQ'] at M5
    rw [hQ', hM] at HME
    rw [hM] at A5 HML HMN
    clear hQ' hM
    go_wp2_with fail
    go_loopw [26] (fun i wr => ∃ j : Nat, j ≤ mn ∧ i = .int .i64 j ∧ Hid (LpM w0 w wr B T P Q' s.left s.ran qv' ma mc M j)) (fun i _ => mn - (intOf i).toNat)
    case atStart => exact ⟨0, Nat.zero_le _, rfl, Lib.hid ⟨M5.out.congr (fun _ _ => rfl) (fun _ _ => by simp), K5.out, A5.out⟩⟩
    case round =>
      clear M5 K5 A5
      obtain ⟨j, hj, rfl, HL⟩ := hrel
      by_cases hlt : j < mn
      · obtain ⟨k, hk⟩ : ∃ k, M[j]? = some k := ⟨M[j]'(by rw [HMN.out]; exact hlt), List.getElem?_eq_getElem _⟩
        have hkm : (M.map P)[j]? = some (P k) := by rw [List.getElem?_map, hk]; rfl
        obtain ⟨b, off, rfl, hbl, e0⟩ := at_ptr HL.out.r hkm
        obtain ⟨hq, hPk⟩ := HME.out k (List.mem_of_getElem? hk)
        obtain ⟨_, _, _, h4, hPl, hPf⟩ := HL.out.m.thrAt hq
        have LN := Lib.hid (HL.out.next hk hq fun b' off' e => by
          obtain ⟨g', e', h1, _⟩ := HMS.out _ e
          cases e'
          intro q
          omega)
        have f4 := hPf 4
        obtain ⟨pk, hp⟩ : ∃ pk, P k = pk := ⟨_, rfl⟩
        rw [hp] at e0 h4 hPl f4 LN
        clear hkm hk hPf hp hPk
        go_wp2_with fail
        go_roundw
        case rel => exact ⟨j + 1, by omega, by go_num, LN⟩
        case measure => simp [intOf]; omega
      · obtain rfl : j = mn := by omega
        have hMj : M.take j = M := by rw [← HMN.out, List.take_length]
        have hl := HL.out
        obtain ⟨hm1, hk1, _⟩ := hl
        rw [hMj] at hm1
        have HM1 := Lib.hid hm1
        have HK1 := Lib.hid hk1
        clear hm1 hk1 hlt hj HL
        go_wp2_with fail
        go_end0
        refine ⟨rfl, ⟨qv', ?_⟩, HK1.out⟩
        have e : s.rot T.sl = ⟨Q', s.left, fun k => if p k = true then 0 else s.ran k⟩ := by
          unfold StM.rot
          rw [HPD.out, ← HQ'.out]
        rw [e]
        refine HM1.out.congr (fun _ _ => rfl) fun k hk => ?_
        replace hk : k ∈ Q' := hk
        show (if p k = true then 0 else s.ran k) = if k ∈ M then 0 else s.ran k
        have hkq : k ∈ s.q := by
          rw [← HQ'.out, List.mem_append] at hk
          rcases hk with hk | hk
          · exact (List.mem_filter.1 hk).1
          · exact (List.mem_filter.1 hk).1
        have hiff : k ∈ M ↔ p k = true := by
          rw [← HMM.out, List.mem_filter]
          exact ⟨fun h => h.2, fun h => ⟨hkq, h⟩⟩
        by_cases h : p k = true
        · rw [if_pos h, if_pos (hiff.2 h)]
        · rw [if_neg h, if_neg fun q => h (hiff.1 q)]
end Go.Proofs.Ytningajaimbncaa
