/- Package cores: the walk of run. -/
import Derived.Test.YtningajaimbncaaCorE
import Derived.Test.YtningajaimbncaaSrtI
namespace Go.Proofs.Ytningajaimbncaa
open Go.RowKit

theorem at_kept {α : Type} {S : Shape α} {w w' : World} {ad : Option Addr} {cap : Nat} {l : List α} (h : S.At w ad cap l) (hk : ∀ b off, ad = some ⟨b, off, none⟩ → b < w.heap.size → w'.heap[b]? = w.heap[b]? ∧ b < w'.heap.size) : S.At w' ad cap l :=
  ⟨h.1, fun h0 => by
    obtain ⟨b, off, e, hlt, hl⟩ := h.2 h0
    obtain ⟨h1, h2⟩ := hk b off e hlt
    exact ⟨b, off, e, h2, fun k hk => (World.cell?_of_block (a := ⟨b, off + k, none⟩) h1).trans (hl k hk)⟩⟩
theorem MemN.grown {w0 w w' : World} {B : Nat} {T : ThN} {P : Nat → Nat} {s : StM} {qv : Value} (h : MemN w0 w B T P s qv) {base sz n : Nat} {v : Value} {xs : List Value} (ho : w.ownsRow base 3 sz v n xs) (hbase : w0.heap.size ≤ base) (hg : w.grownBy w' v.ownBlock) : MemN w0 w' B T P s qv := by
  have hk : ∀ (b : Nat) (cs : Array Value) (t : TypeId) (fr : Nat × Nat), w.heap[b]? = some (.cells cs t fr) → ¬ t = 3 → w'.heap[b]? = some (.cells cs t fr) := fun b _ _ _ hb ht => (hg.block b (heap_lt hb) (fun e => own_ne ho hb ht b e.symm rfl)).trans hb
  refine ⟨h.b.grown hg h.b.size (fun _ e => Nat.le_trans hbase (own_lt ho e).1), h.hB, hk _ _ _ _ h.hp (by decide), ?_, fun k hq => ⟨hk _ _ _ _ (h.thr k hq).1 (by decide), (h.thr k hq).2⟩, h.inj, h.len⟩
  refine own_heap h.own fun g o hgo ho' => (hg.block g (heap_lt ho') (fun e => ?_)).trans ho'
  obtain ⟨h1, h2⟩ := h.own
  rcases h2 with ⟨rfl, _⟩ | ⟨g', cap, cur, hv, _, hh, r⟩
  · cases hgo
  · rw [hv] at hgo
    simp only [Value.ownBlock, Option.some.injEq] at hgo
    subst hgo
    exact own_ne (t := 58) ho hh (by decide) g' e.symm rfl
theorem KeepN.grown {w wr w' : World} (h : KeepN w wr) {base e sz n : Nat} {v : Value} {xs : List Value} (ho : wr.ownsRow base e sz v n xs) (hbase : w.heap.size ≤ base) (hg : wr.grownBy w' v.ownBlock) : KeepN w w' :=
  ⟨Nat.le_trans h.sz hg.size, fun b cs t fr hb h1 h2 h3 => by
    have h4 := h.at_ b cs t fr hb h1 h2 h3
    exact (hg.block b (heap_lt h4) (fun e => by have := (own_lt ho e.symm).1; have := heap_lt hb; omega)).trans h4⟩
theorem did_next (s : StM) {R : List Nat} {j k : Nat} (hk : R[j]? = some k) (hn : R.Pairwise fun x y => ¬ x = y) : ¬ k ∈ R.take j ∧ (∀ x, s.decM (R.take (j + 1)) x = upd (s.decM (R.take j)) k (s.left k - 1) x) ∧ ∀ x, s.incM (R.take (j + 1)) x = upd (s.incM (R.take j)) k (s.ran k + 1) x := by
  have e : R.take (j + 1) = R.take j ++ [k] := by rw [List.take_add_one, hk]; rfl
  have hni : ¬ k ∈ R.take j := fun h => by
    obtain ⟨i, hi, hik⟩ := List.mem_take_iff_getElem.1 h
    have hlt := (List.getElem?_eq_some_iff.1 hk).1
    have hjk := (List.getElem?_eq_some_iff.1 hk).2
    exact List.pairwise_iff_getElem.1 hn i j (by omega) hlt (by omega) (by rw [hik, hjk])
  refine ⟨hni, fun x => ?_, fun x => ?_⟩
  · unfold StM.decM upd
    rw [e]
    by_cases h : x = k
    · subst h; simp
    · simp [h]
  · unfold StM.incM upd
    rw [e]
    by_cases h : x = k
    · subst h; simp
    · simp [h]
/-- What is in memory while run runs. -/
structure LpR (w0 w w1 wr : World) (B : Nat) (T : ThN) (P : Nat → Nat) (s : StM) (qv : Value) (ad : Option Addr) (cap : Nat) (R : List Nat) (j : Nat) (v : Value) : Prop where
  m : MemN w0 wr B T P ⟨s.q, s.decM (R.take j), s.incM (R.take j)⟩ qv
  o : wr.ownsRow w1.heap.size 3 1 v j (shI.flat ((R.take j).map fun k => ((k : Nat) : Int)))
  k : KeepN w wr
  r : shP.At wr ad cap (R.map P)
  le : w1.heap.size ≤ wr.heap.size
section
variable {w0 w w1 wr w' : World} {B : Nat} {T : ThN} {P : Nat → Nat} {s : StM} {qv v v' : Value} {ad : Option Addr} {cap : Nat} {R : List Nat} {j k : Nat}
theorem LpR.next (h : LpR w0 w w1 wr B T P s qv ad cap R j v) (hk : R[j]? = some k) (hn : R.Pairwise fun x y => ¬ x = y) (hq : k ∈ s.q) (hP : P k < w.heap.size) (hlo : ∀ b off, ad = some ⟨b, off, none⟩ → w.heap.size ≤ b ∧ b < w1.heap.size) (hw1 : w.heap.size ≤ w1.heap.size)
    (x : Nat) (hx : x = s.left k - 1) (y : Nat) (hy : y = s.ran k + 1) :
    MemN w0 ((wr.setCell ⟨P k, 2, none⟩ (.int .i64 (x : Nat))).setCell ⟨P k, 4, none⟩ (.int .i64 (y : Nat))) B T P ⟨s.q, s.decM (R.take (j + 1)), s.incM (R.take (j + 1))⟩ qv ∧
    ((wr.setCell ⟨P k, 2, none⟩ (.int .i64 (x : Nat))).setCell ⟨P k, 4, none⟩ (.int .i64 (y : Nat))).ownsRow w1.heap.size 3 1 v j (shI.flat ((R.take j).map fun k => ((k : Nat) : Int))) ∧
    KeepN w ((wr.setCell ⟨P k, 2, none⟩ (.int .i64 (x : Nat))).setCell ⟨P k, 4, none⟩ (.int .i64 (y : Nat))) ∧
    shP.At ((wr.setCell ⟨P k, 2, none⟩ (.int .i64 (x : Nat))).setCell ⟨P k, 4, none⟩ (.int .i64 (y : Nat))) ad cap (R.map P) := by
  obtain ⟨_, h2, h3⟩ := did_next s hk hn
  have M1 := h.m.setL hq x
  have M2 := M1.setR hq y
  have K1 := h.k.trans (h.m.keepT hq 2 (.int .i64 (x : Nat)))
  have hne : ∀ g, v.ownBlock = some g → g ≠ P k := fun g hg e => by have := (own_lt h.o hg).1; omega
  refine ⟨(M2.congr (fun i _ => ?_) fun i _ => ?_), own_set (own_set h.o hne _) hne _, K1.trans (M1.keepT hq 4 _), at_kept h.r fun b off e hb => ⟨?_, by simpa using hb⟩⟩
  · show s.decM (R.take (j + 1)) i = upd (s.decM (R.take j)) k x i
    rw [h2, hx]
  · show s.incM (R.take (j + 1)) i = upd (s.incM (R.take j)) k y i
    rw [h3, hy]
  · have := (hlo b off e).1
    exact (Below.heap_setCell _ _ _ _ (by show ¬ b = P k; omega)).trans (Below.heap_setCell _ _ _ _ (by show ¬ b = P k; omega))
end
theorem int_one (X : World) (a : Int) (cap : Nat) : shI.At (X.alloc (.cells #[.int .i64 a] 3)) (some ⟨X.heap.size, 0, none⟩) cap [a] :=
  Shape.At.lit (S := shI) [a] (heap_alloc_new X _)
set_option maxHeartbeats 2000000 in
set_option maxRecDepth 100000 in
theorem run_W {w0 w : World} {B : Nat} {T : ThN} {P : Nat → Nat} {s : StM} {qv : Value} {aq : Nat → List Nat} {R : List Nat} (HM : Hid (MemN w0 w B T P s qv)) (HV : Hid (∀ k ∈ s.q, T.lev k < 32)) (HQ : Hid (∀ j, j < 32 → (s.ready.filter fun k => decide (T.lev k = j)) = aq j)) (hc1 : 1 ≤ T.c) (hc : T.c ≤ 8)
    (HR : Hid ((downN aq 32).take T.c = R)) (HN : Hid (R.Pairwise fun x y => ¬ x = y)) (HI : Hid (∀ k ∈ R, k ∈ s.q ∧ 0 < s.left k)) (HB : Hid (∀ k ∈ s.q, s.left k ≤ 10000 ∧ s.ran k ≤ 10000)) :
    Calls Try.prog 25 #[.pointer (some ⟨B, 0, none⟩)] w fun e w' => (∃ ra rc, e = .returned (.slice ra R.length rc) ∧ w'.ownsRow w.heap.size 3 1 (.slice ra R.length rc) R.length (shI.flat (sortI (R.map fun k => ((k : Nat) : Int))))) ∧ MemN w0 w' B T P (s.did R) qv ∧ KeepN w w' := by
  obtain ⟨i0, hi, hz0, hz1, hz2⟩ := info_parts' info_int
  go_enter Try.func25, Try.ntmps25
  go_wp2_with (first
    | (go_at_call 33; (with_reducible refine (first_W HM HV HQ hc1 hc).mono ?_); rintro e w1 ⟨⟨ad, m, cap, rfl, hm, hm8, hA, hlo⟩, hb⟩; rw [HR.out] at hm hA; have HB1 := Lib.hid hb; have HA1 := Lib.hid hA; have HLO := Lib.hid hlo; have HML := Lib.hid hm; clear hb hA hlo hm)
    | fail)
  have HLW : Hid (∀ b off, ad = some ⟨b, off, none⟩ → w.heap.size ≤ b ∧ (0 < R.length → b < w1.heap.size)) := Lib.hid fun b off e => ⟨HLO.out b off e, fun h0 => by
    obtain ⟨b', off', e', hlt, _⟩ := HA1.out.2 (by rw [List.length_map]; exact h0)
    rw [e] at e'
    cases e'
    exact hlt⟩
  go_loopw [3, 9] (fun x i wr => ∃ j : Nat, j ≤ m ∧ i = .int .i64 j ∧ Hid (LpR w0 w w1 wr B T P s qv ad cap R j x)) (fun _ i _ => m - (intOf i).toNat)
  case atStart => exact ⟨0, Nat.zero_le _, rfl, Lib.hid ⟨(HM.out.step HB1.out).congr (fun _ _ => by simp [StM.decM]) (fun _ _ => by simp [StM.incM]), World.ownsRow_nil _ _ _ _, keep_below HB1.out, HA1.out, Nat.le_refl _⟩⟩
  case round =>
    obtain ⟨j, hj, rfl, HL⟩ := hrel
    by_cases hlt : j < m
    · obtain ⟨k, hk⟩ : ∃ k, R[j]? = some k := ⟨R[j]'(by rw [HML.out]; exact hlt), List.getElem?_eq_getElem _⟩
      have hkm : (R.map P)[j]? = some (P k) := by rw [List.getElem?_map, hk]; rfl
      obtain ⟨b, off, rfl, hbl, e0⟩ := at_ptr HL.out.r hkm
      obtain ⟨hq, hl0⟩ := HI.out k (List.mem_of_getElem? hk)
      obtain ⟨hb1, hb2⟩ := HB.out k hq
      have hni := (did_next s hk HN.out).1
      obtain ⟨_, h2, h3, h4, hPl, hPf⟩ := HL.out.m.thrAt hq
      obtain ⟨x, hx⟩ : ∃ x, s.left k = x := ⟨_, rfl⟩
      obtain ⟨y, hy⟩ : ∃ y, s.ran k = y := ⟨_, rfl⟩
      rw [show (⟨s.q, s.decM (R.take j), s.incM (R.take j)⟩ : StM).left k = x by rw [← hx]; exact if_neg hni] at h2
      rw [show (⟨s.q, s.decM (R.take j), s.incM (R.take j)⟩ : StM).ran k = y by rw [← hy]; exact if_neg hni] at h4
      rw [hx] at hl0 hb1
      rw [hy] at hb2
      obtain ⟨x1, hx1⟩ : ∃ x1, x - 1 = x1 := ⟨_, rfl⟩
      obtain ⟨y1, hy1⟩ : ∃ y1, y + 1 = y1 := ⟨_, rfl⟩
      have hxx : (x : Int) - 1 = (x1 : Int) := by omega
      have hyy : (y : Int) + 1 = (y1 : Int) := by omega
      have hPw := heap_lt (HM.out.thr k hq).1
      have hlo2 : ∀ b' off', some (⟨b, off, none⟩ : Addr) = some ⟨b', off', none⟩ → w.heap.size ≤ b' ∧ b' < w1.heap.size := fun b' off' e => ⟨(HLW.out b' off' e).1, (HLW.out b' off' e).2 (by have := HML.out; omega)⟩
      obtain ⟨N1, N2, N3, N4⟩ := HL.out.next hk HN.out hq hPw hlo2 HB1.out.size x1 (by rw [hx]; exact hx1.symm) y1 (by rw [hy]; exact hy1.symm)
      have M2 := Lib.hid N1
      have O2 := Lib.hid N2
      have K2 := Lib.hid N3
      have A2 := Lib.hid N4
      have f2 := hPf 2
      have f4 := hPf 4
      have HK := Lib.hid hk
      have HW := HL.out.le
      have HLO2 := Lib.hid hlo2
      obtain ⟨p, hp⟩ : ∃ p, P k = p := ⟨_, rfl⟩
      rw [hp] at e0 h2 h3 h4 hPl f2 f4 M2 O2 K2 A2
      have hy1b : y1 ≤ 10001 := by omega
      have HPP := Lib.hid hp
      clear N1 N2 N3 N4 hPf hkm hk hx hy hni hlo2 hPw hp hx1 hy1
      go_upto_region 7 with fail
      have hsz : w1.heap.size ≤ ((wr.setCell ⟨p, 2, none⟩ (.int .i64 (x1 : Nat))).setCell ⟨p, 4, none⟩ (.int .i64 (y1 : Nat))).heap.size := by simpa using HW
      clear h2 h3 h4 hPl f2 f4 e0 hbl
      generalize (wr.setCell ⟨p, 2, none⟩ (.int .i64 (x1 : Nat))).setCell ⟨p, 4, none⟩ (.int .i64 (y1 : Nat)) = w2 at M2 O2 K2 A2 hsz ⊢
      obtain ⟨_, _, q3, _, hPl2, _⟩ := M2.out.thrAt hq
      rw [HPP.out] at q3 hPl2
      obtain ⟨sa, sc, rfl, _⟩ := own_shape O2.out
      have HJL : Hid (((R.take j).map fun k => ((k : Nat) : Int)).length = j) := Lib.hid (by rw [List.length_map, List.length_take, HML.out]; omega)
      have OA := Lib.hid (own_step O2.out (below_alloc w2 (.cells #[.int .i64 (k : Nat)] 3)))
      have MA := Lib.hid (M2.out.step (below_alloc w2 (.cells #[.int .i64 (k : Nat)] 3)))
      have KA := Lib.hid (K2.out.trans (keep_below (below_alloc w2 (.cells #[.int .i64 (k : Nat)] 3))))
      have AA := Lib.hid (A2.out.step (below_alloc w2 (.cells #[.int .i64 (k : Nat)] 3)))
      have NA := Lib.hid (int_one w2 (k : Nat) 1)
      have hww := HB1.out.size
      have h0w := Nat.le_trans HM.out.b.size hww
      have hj8 : j ≤ 8 := by omega
      go_wp2_with (first
        | (at_builtin; refine wpList_append_n shI rfl _ _ 29 rfl w1.heap.size 3 i0 _ 8 Try.underlying29 hi hz0 hz1 hz2 rfl (.slice sa j sc) j ((R.take j).map fun k => ((k : Nat) : Int)) [((k : Nat) : Int)] HJL rfl OA.out (some ⟨w2.heap.size, 0, none⟩) 1 1 rfl (Lib.hid rfl) NA.out (by unfold maxLen; omega) (by omega) (by simp; omega) ?_; intro ra rc w3 own3 grow3 _; have O3 := Lib.hid own3; have M3 := Lib.hid (MA.out.grown OA.out h0w grow3); have K3 := Lib.hid (KA.out.grown OA.out hww grow3); have A3 := Lib.hid (at_kept AA.out fun b' off' e hb => ⟨grow3.block b' hb (fun q => by have h1 := (HLO2.out b' off' e).2; have h2 := (own_lt OA.out q.symm).1; omega), Nat.lt_of_lt_of_le hb grow3.size⟩); have S3 := Lib.hid grow3.size; clear own3 grow3)
        | fail)
      go_roundw
      case rel => exact ⟨j + 1, by omega, by go_num, Lib.hid ⟨M3.out, by
        have e : R.take (j + 1) = R.take j ++ [k] := by rw [List.take_add_one, HK.out]; rfl
        rw [e, List.map_append]
        exact O3.out, K3.out, A3.out, by have := S3.out; simp at this; omega⟩⟩
      case measure => simp [intOf]; omega
    · obtain rfl : j = m := by omega
      have hRj : R.take j = R := by rw [← HML.out, List.take_length]
      have hl := HL.out
      obtain ⟨hm1, ho1, hk1, _, hle⟩ := hl
      rw [hRj] at hm1 ho1
      obtain ⟨ra, rc, rfl, _⟩ := own_shape ho1
      have HO := Lib.hid ho1
      have HM1 := Lib.hid hm1
      have HK1 := Lib.hid hk1
      have HLN : Hid ((R.map fun k => ((k : Nat) : Int)).length = j) := Lib.hid (by rw [List.length_map]; exact HML.out)
      have hww := HB1.out.size
      clear hm1 ho1 hk1 hlt hj HL
      go_wp2_with (first
        | (go_at_call 28; (with_reducible refine (sortI_row _ HO HLN (by omega)).mono ?_); rintro e w2 ⟨rfl, ho2, hg2⟩; have O2 := Lib.hid ho2; have M2 := Lib.hid (HM1.out.grown HO.out (Nat.le_trans HM.out.b.size hww) hg2); have K2 := Lib.hid (HK1.out.grown HO.out hww hg2); clear ho2 hg2)
        | fail)
      go_ret
      rw [HML.out]
      exact ⟨⟨ra, rc, rfl, own_base O2.out hww⟩, M2.out, K2.out⟩
end Go.Proofs.Ytningajaimbncaa
