/- WheelCancel: what was set and cancelled again is as if it had not been set. -/
import Derived.Test.YtnnphmpodcmmoaaWPar
import Derived.Test.YtnnphmpodcmmoaaInsU
namespace Go.Proofs.Ytnnphmpodcmmoaa
open Go.RowKit

set_option maxHeartbeats 1000000 in
set_option maxRecDepth 100000 in
theorem clone_T (xs : List TmT) (sa : Option Addr) (n c : Nat) (w : World) (H1 : Hid (xs.length = n)) (HA : Hid (shT.At w sa c xs)) (hn : n ≤ 5864062014634) :
    Calls Try.prog 14 #[.slice sa n c] w fun e w' => ∃ ra rc, e = .returned (.slice ra n rc) ∧ w'.ownsRow w.heap.size 36 3 (.slice ra n rc) n (shT.flat xs) ∧ Below w.heap.size w w' := by
  obtain ⟨i0, hi, hz0, hz1, hz2⟩ := info_parts' info_tm
  have qn : ∀ (w : World) (a : Option Addr) (n c n' c' : Nat), (binOp .eql 22 (.slice a n c) (.slice none n' c')).run Try.prog w = .ok (.bool a.isNone) w := fun w a n c n' c' => Lib.run_eql_slice_nil w _ _ a n c n' c' Try.underlying22
  cases sa with
  | none =>
    obtain ⟨rfl, hx⟩ := HA.out.1 rfl
    have hn0 : n = 0 := by rw [← H1.out, hx]; rfl
    subst hn0 hx
    clear HA H1
    go_enter Try.func14, Try.ntmps14
    go_wp2_with fail
    go_ret
    exact ⟨_, _, rfl, World.ownsRow_nil _ _ _ _, Below.refl _ _⟩
  | some a =>
    have hown : (w.alloc (.cells #[] 36)).ownsRow w.heap.size 36 3 (.slice (some ⟨w.heap.size, 0, none⟩) 0 0) 0 [] := World.ownsRow_made w #[] 0 (Nat.le_refl _) (by decide) rfl
    have HO := Lib.hid hown
    have HA2 := Lib.hid (HA.out.step (below_alloc w (.cells #[] 36)))
    clear hown
    go_enter Try.func14, Try.ntmps14
    go_wp2_with (first
      | (at_builtin; refine wpList_append_at shT rfl _ _ 22 rfl w.heap.size 36 i0 _ 24 Try.underlying22 hi hz0 hz1 hz2 rfl (.slice (some ⟨w.heap.size, 0, none⟩) 0 0) [] xs rfl HO.out (some a) n c rfl H1 HA2.out ?h63 ?hby ?hba ?_)
      | fail)
    case h63 => simp; unfold maxLen; omega
    case hby => simp; omega
    case hba => simp
    intro ra rc w3 own3 grow3 _
    have B3 : Below w.heap.size w w3 := (below_alloc w _).grown grow3 (by simp) (fun k hk => by simp [Value.ownBlock] at hk; omega)
    have O3 := Lib.hid own3
    clear own3 grow3
    go_wp2_with fail
    go_ret
    exact ⟨_, _, rfl, O3.out, B3⟩
theorem cut_ins {p : FiT} {l : List FiT} (hq : setQ l p.2 = false) : cutL p.2 (insT p l) = l := by
  have h0 := setQ_no hq
  clear hq
  induction l with
  | nil => simp [insT, cutL]
  | cons q r ih =>
    have hqn : ¬ q.2 = p.2 := h0 q List.mem_cons_self
    have hr := ih fun x hx => h0 x (List.mem_cons_of_mem _ hx)
    have hrr : cutL p.2 r = r := List.filter_eq_self.2 fun x hx => by simpa using h0 x (List.mem_cons_of_mem _ hx)
    unfold insT
    split
    · unfold cutL at hr ⊢
      rw [List.filter_cons_of_pos (by simpa using hqn), hr]
    · unfold cutL at hrr ⊢
      rw [List.filter_cons_of_neg (by simp), List.filter_cons_of_pos (by simpa using hqn), hrr]
/-- Set and cancelled: nothing else. -/
theorem add_cancel {s : StT} {id tk : Int} (he : errT s ⟨1, id, tk⟩ = 0) : stepT (stepT s ⟨1, id, tk⟩) ⟨2, id, 0⟩ = s ∧ (stepT s ⟨1, id, tk⟩).set.length = s.set.length + 1 := by
  obtain ⟨_, hq⟩ := err_add he rfl
  simp only at hq
  have e1 : stepT s ⟨1, id, tk⟩ = addT s id tk.toNat := by unfold stepT; rw [if_pos he]; rfl
  have hq2 : setQ (addT s id tk.toNat).set id = true := setQ_mem.2 ⟨_, mem_ins.2 (Or.inl rfl)⟩
  have he2 : errT (addT s id tk.toNat) ⟨2, id, 0⟩ = 0 := by simp [errT, hq2]
  rw [e1]
  refine ⟨?_, len_ins⟩
  unfold stepT
  rw [if_pos he2]
  show cutT (addT s id tk.toNat) id = s
  unfold cutT addT
  simp only
  rw [cut_ins (p := (s.now + tk.toNat, id)) hq]
theorem with_run {ops : List TmT} {k : Nat} {id tk : Int} (he : errT (runT newT (ops.take k)) ⟨1, id, tk⟩ = 0) : runT newT (ops.take k ++ [⟨1, id, tk⟩, ⟨2, id, 0⟩] ++ ops.drop k) = runT newT ops := by
  rw [run_append, run_append]
  have h := (add_cancel he).1
  have e : runT (runT newT (ops.take k)) [⟨1, id, tk⟩, ⟨2, id, 0⟩] = runT newT (ops.take k) := h
  rw [e, ← run_append, List.take_append_drop]
theorem tm_oneAt (X : World) (a : TmT) (cap : Nat) : shT.At (X.alloc (.cells #[.int .i64 a.k, .int .i64 a.i, .int .i64 a.n] 36)) (some ⟨X.heap.size, 0, none⟩) cap [a] :=
  Shape.At.lit (S := shT) [a] (heap_alloc_new X _)
/-- A reading of what lay there before stays while a row that was made later grows. -/
theorem Shape.At.same_grown {α : Type} {S : Shape α} {w0 w w' : World} {ad : Option Addr} {cap e n sz : Nat} {l : List α} {v : Value} {xs : List Value} (h : S.At w ad cap l) (ho : w.ownsRow w0.heap.size e sz v n xs) (hg : w.grownBy w' v.ownBlock) (h0 : S.At w0 ad cap l) : S.At w' ad cap l :=
  ⟨h.1, fun h1 => by
    obtain ⟨b, off, e, hlt, hl⟩ := h.2 h1
    obtain ⟨b0, off0, e', hlt0, _⟩ := h0.2 h1
    rw [e] at e'
    cases e'
    refine ⟨b, off, e, Nat.lt_of_lt_of_le hlt hg.size, fun k hk => ?_⟩
    have : w'.heap[b]? = w.heap[b]? := hg.block b hlt (fun q => by have := (own_lt ho q.symm).1; omega)
    exact (World.cell?_of_block (a := ⟨b, off + k, none⟩) this).trans (hl k hk)⟩
section
variable {ad : Option Addr} {cap n k : Nat} {ops : List TmT}
set_option maxHeartbeats 4000000 in
set_option maxRecDepth 100000 in
theorem can_big (id tk : Int) (w : World) (HA : Hid (shT.At w ad cap ops)) (hm : Hid (ops.length = n)) (hn : n ≤ 5864062014634) (hcap : n ≤ cap) (HW : Hid (∀ o ∈ ops, WfI o.i)) (hwf : WfI id) (hkn : k ≤ n) (hbig : 398 < n) :
    Calls Try.prog 6 #[.slice ad n cap, .int .i64 (k : Int), .int .i64 id, .int .i64 tk] w fun e w' => e = .returned (.bool true) ∧ Below w.heap.size w w' := by
  obtain ⟨i0, hi, hz0, hz1, hz2⟩ := info_parts info_tm
  have hkn0 : (0 : Int) ≤ (k : Int) := by omega
  have hkn1 : (k : Int) ≤ (n : Int) := by omega
  have hkc : (k : Int) ≤ (cap : Int) := by omega
  have hkc2 : k ≤ cap := by omega
  have hd0 : decide ((n : Int) < (k : Int)) = false := decide_eq_false (by omega)
  have hk5 : k ≤ 5864062014634 := by omega
  have HMK : Hid ((ops.take k).length = k) := Lib.hid (by rw [List.length_take, hm.out]; omega)
  have HM1 : Hid ((ops.take k ++ [(⟨1, id, tk⟩ : TmT)]).length = k + 1) := Lib.hid (by rw [List.length_append, HMK.out]; rfl)
  have HM2 : Hid ((ops.take k ++ [(⟨1, id, tk⟩ : TmT), ⟨2, id, 0⟩] ++ ops.drop k).length = n + 2) := Lib.hid (by
    rw [List.length_append, List.length_append, HMK.out, List.length_drop, hm.out]
    simp
    omega)
  have HT := Lib.hid (HA.out.take k)
  have hwt : ∀ o ∈ ops.take k, WfI o.i := fun o ho => HW.out o (List.mem_of_mem_take ho)
  have hw1 : ∀ o ∈ ops.take k ++ [(⟨1, id, tk⟩ : TmT)], WfI o.i := fun o ho => by
    rcases List.mem_append.1 ho with h | h
    · exact hwt o h
    · simp only [List.mem_cons, List.not_mem_nil, or_false] at h
      rw [h]; exact hwf
  have hw2 : ∀ o ∈ ops.take k ++ [(⟨1, id, tk⟩ : TmT), ⟨2, id, 0⟩] ++ ops.drop k, WfI o.i := fun o ho => by
    rcases List.mem_append.1 ho with h | h
    · rcases List.mem_append.1 h with h | h
      · exact hwt o h
      · simp only [List.mem_cons, List.not_mem_nil, or_false] at h
        rcases h with rfl | rfl <;> exact hwf
    · exact HW.out o (List.mem_of_mem_drop h)
  obtain ⟨u1, hu1, _, _, hp1⟩ := play_some HMK.out (by omega) hwt
  obtain ⟨u2, _, _, _, hp2⟩ := play_some HM1.out (by omega) hw1
  obtain ⟨u3, hu3, _, _, hp3⟩ := play_some hm.out (by omega) HW.out
  obtain ⟨u4, _, _, hu4, hp4⟩ := play_some HM2.out (by omega) hw2
  obtain rfl := hu4 (by omega)
  have HP1 := Lib.hid hp1
  have HP2 := Lib.hid hp2
  have HP3 := Lib.hid hp3
  have HP4 := Lib.hid hp4
  clear hp1 hp2 hp3 hp4 hwt hw1 hw2 hwf hu4
  go_enter Try.func6, Try.ntmps6
  go_upto_region 10 with (first
    | (go_at_call 13; (with_reducible refine (alive11_N _).mono ?_); rintro e w1 ⟨rfl, hb⟩; have B1 := Lib.hid hb; have A1 := Lib.hid (HA.out.step hb); have T1 := Lib.hid (HT.out.step hb); clear hb)
    | (go_at_call 9; (with_reducible refine (HP1.out _ ad cap T1).mono ?_); rintro e w2 ⟨rb2, m2, rd2, fa2, F2, fc2, N2, rfl, hb⟩; have B2 := Lib.hid (pstep B1.out hb); have A2 := Lib.hid (A1.out.step hb); have T2 := Lib.hid (T1.out.step hb); clear hb)
    | (go_at_call 14; (with_reducible refine (clone_T (ops.take k) ad k cap _ HMK T2 hk5).mono ?_); rintro e w3 ⟨ra3, rc3, rfl, own, hb⟩; have bx := below_alloc w3 (.cells #[.int .i64 1, .int .i64 id, .int .i64 tk] 36); have O3 := Lib.hid (own_step own bx); have B3 := Lib.hid (pstep (pstep B2.out hb) bx); have A3 := Lib.hid ((A2.out.step hb).step bx); have N3 := Lib.hid (tm_oneAt w3 ⟨1, id, tk⟩ 1); have hs3 : w2.heap.size ≤ (w3.alloc (.cells #[.int .i64 1, .int .i64 id, .int .i64 tk] 36)).heap.size := Nat.le_trans hb.size bx.size; clear hb own bx)
    | (at_builtin; refine wpList_append_n shT rfl _ _ 22 rfl w2.heap.size 36 i0 _ 24 Try.underlying22 hi hz0 hz1 hz2 rfl (.slice ra3 k rc3) k (ops.take k) [⟨1, id, tk⟩] HMK rfl O3.out (some ⟨w3.heap.size, 0, none⟩) 1 1 rfl (Lib.hid rfl) N3.out (by unfold maxLen; omega) (by omega) hs3 ?_; intro ra4 rc4 w4 own4 grow4 _; have P4 := Lib.hid (Shape.At.own (S := shT) own4 HM1.out); have B4 := Lib.hid (B3.out.grown grow4 B3.out.size (fun _ hq => Nat.le_trans B2.out.size (own_lt O3.out hq).1)); have A4 := Lib.hid (A3.out.same_grown O3.out grow4 A2.out); clear own4 grow4)
    | (go_at_call 9; (with_reducible refine (HP2.out _ ra4 rc4 P4).mono ?_); rintro e w5 ⟨rb5, m5, rd5, fa5, F5, fc5, N5, rfl, hb⟩; have B5 := Lib.hid (pstep B4.out hb); have A5 := Lib.hid (A4.out.step hb); clear hb)
    | (go_at_call 14; (with_reducible refine (clone_T ops ad n cap _ hm A5 hn).mono ?_); rintro e w6 ⟨ra6, rc6, rfl, own, hb⟩; have bx := below_alloc w6 (.cells #[.int .i64 1, .int .i64 id, .int .i64 tk, .int .i64 2, .int .i64 id, .int .i64 0] 36); have O6 := Lib.hid (own_step own bx); have B6 := Lib.hid (pstep (pstep B5.out hb) bx); have A6 := Lib.hid ((A5.out.step hb).step bx); have N6 := Lib.hid (heap_alloc_new w6 (.cells #[.int .i64 1, .int .i64 id, .int .i64 tk, .int .i64 2, .int .i64 id, .int .i64 0] 36)); have hs6 : w5.heap.size ≤ (w6.alloc (.cells #[.int .i64 1, .int .i64 id, .int .i64 tk, .int .i64 2, .int .i64 id, .int .i64 0] 36)).heap.size := Nat.le_trans hb.size bx.size; have hvb : ∀ g, (Value.slice ra6 n rc6).ownBlock = some g → w6.heap.size ≠ g := (fun g hg e => by have := (own_lt own hg).2; omega); clear hb own bx)
    | (go_at_call 15; (with_reducible refine (insu_any ops ⟨1, id, tk⟩ ⟨2, id, 0⟩ n rc6 k w6.heap.size w5.heap.size _ ra6 N6 hm hn hs6 O6 hkn hvb).mono ?_); rintro e w7 ⟨ra7, rc7, rfl, own7, grow7, _⟩; have P7 := Lib.hid (Shape.At.own (S := shT) own7 HM2.out); have B7 := Lib.hid (B6.out.grown grow7 B6.out.size (fun _ hq => Nat.le_trans B5.out.size (own_lt O6.out hq).1)); have A7 := Lib.hid (A6.out.same_grown O6.out grow7 A5.out); clear own7 grow7)
    | (go_at_call 9; (with_reducible refine (HP3.out _ ad cap A7).mono ?_); rintro e w8 ⟨rb8, m8, rd8, fa8, F8, fc8, N8, rfl, hb⟩; have B8 := Lib.hid (pstep B7.out hb); have P8 := Lib.hid (P7.out.step hb); clear hb)
    | (go_at_call 9; (with_reducible refine (HP4.out _ ra7 rc7 P8).mono ?_); rintro e w9 ⟨rb9, m9, rd9, fa9, F9, fc9, N9, rfl, hb⟩; have B9 := Lib.hid (pstep B8.out hb); clear hb)
    | fail)
  rcases hu1 with rfl | rfl
  all_goals rcases hu3 with rfl | rfl
  all_goals go_wp2_with fail
  all_goals go_ret
  all_goals exact ⟨rfl, B9.out⟩
set_option maxHeartbeats 4000000 in
set_option maxRecDepth 100000 in
theorem can_ok (id tk : Int) (w : World) (HA : Hid (shT.At w ad cap ops)) (hm : Hid (ops.length = n)) (hn : n ≤ 5864062014634) (hcap : n ≤ cap) (HW : Hid (∀ o ∈ ops, WfI o.i)) (hwf : WfI id) (hkn : k ≤ n) (hsm : n ≤ 398) :
    Calls Try.prog 6 #[.slice ad n cap, .int .i64 (k : Int), .int .i64 id, .int .i64 tk] w fun e w' => e = .returned (.bool true) ∧ Below w.heap.size w w' := by
  obtain ⟨i0, hi, hz0, hz1, hz2⟩ := info_parts info_tm
  have hkn0 : (0 : Int) ≤ (k : Int) := by omega
  have hkn1 : (k : Int) ≤ (n : Int) := by omega
  have hkc : (k : Int) ≤ (cap : Int) := by omega
  have hkc2 : k ≤ cap := by omega
  have hd0 : decide ((n : Int) < (k : Int)) = false := decide_eq_false (by omega)
  have hk5 : k ≤ 5864062014634 := by omega
  have HMK : Hid ((ops.take k).length = k) := Lib.hid (by rw [List.length_take, hm.out]; omega)
  have HM1 : Hid ((ops.take k ++ [(⟨1, id, tk⟩ : TmT)]).length = k + 1) := Lib.hid (by rw [List.length_append, HMK.out]; rfl)
  have HM2 : Hid ((ops.take k ++ [(⟨1, id, tk⟩ : TmT), ⟨2, id, 0⟩] ++ ops.drop k).length = n + 2) := Lib.hid (by
    rw [List.length_append, List.length_append, HMK.out, List.length_drop, hm.out]
    simp
    omega)
  have HT := Lib.hid (HA.out.take k)
  have hwt : ∀ o ∈ ops.take k, WfI o.i := fun o ho => HW.out o (List.mem_of_mem_take ho)
  have hw1 : ∀ o ∈ ops.take k ++ [(⟨1, id, tk⟩ : TmT)], WfI o.i := fun o ho => by
    rcases List.mem_append.1 ho with h | h
    · exact hwt o h
    · simp only [List.mem_cons, List.not_mem_nil, or_false] at h
      rw [h]; exact hwf
  have hw2 : ∀ o ∈ ops.take k ++ [(⟨1, id, tk⟩ : TmT), ⟨2, id, 0⟩] ++ ops.drop k, WfI o.i := fun o ho => by
    rcases List.mem_append.1 ho with h | h
    · rcases List.mem_append.1 h with h | h
      · exact hwt o h
      · simp only [List.mem_cons, List.not_mem_nil, or_false] at h
        rcases h with rfl | rfl <;> exact hwf
    · exact HW.out o (List.mem_of_mem_drop h)
  obtain ⟨fd1, hfd1⟩ : ∃ fd, (runT newT (ops.take k)).fired = fd := ⟨_, rfl⟩
  obtain ⟨N1, hN1⟩ : ∃ N, (runT newT (ops.take k)).set.length = N := ⟨_, rfl⟩
  obtain ⟨fd, hfd⟩ : ∃ fd, (runT newT ops).fired = fd := ⟨_, rfl⟩
  obtain ⟨N, hN⟩ : ∃ N, (runT newT ops).set.length = N := ⟨_, rfl⟩
  obtain ⟨L, hL⟩ : ∃ L, fd.length = L := ⟨_, rfl⟩
  have HL := Lib.hid hL
  have hb1 := (bnd_run (ops := ops) bnd_new HW.out).cnt
  rw [hm.out, hfd, hN, hL] at hb1
  have hb2 := (bnd_run (ops := ops.take k) bnd_new hwt).cnt
  rw [HMK.out, hN1] at hb2
  obtain ⟨x, hx⟩ : ∃ x, errT (runT newT (ops.take k)) ⟨1, id, tk⟩ = x := ⟨_, rfl⟩
  have HP1 := Lib.hid (play_fired HMK.out (by omega) hwt hfd1 rfl hN1)
  have HP3 := Lib.hid (play_fired hm.out (by omega) HW.out hfd hL hN)
  have hex : (errsT newT (ops.take k ++ [(⟨1, id, tk⟩ : TmT)]))[k]? = some x := by
    rw [errs_append, List.getElem?_append_right (by rw [errs_len, HMK.out]; exact Nat.le_refl _), errs_len, HMK.out, Nat.sub_self]
    show some (errT (runT newT (ops.take k)) ⟨1, id, tk⟩) = _
    rw [hx]
  have HEX := Lib.hid hex
  have hwk : IntKind.i64.wrap ((k : Int) + 1) = (k : Int) + 1 := by rw [IntKind.wrap_i64]; omega
  have hwN : IntKind.i64.wrap ((N1 : Int) + 1) = (N1 : Int) + 1 := by rw [IntKind.wrap_i64]; omega
  have hL9 : L ≤ 9223372036854775807 := by omega
  by_cases hx0 : x = 0
  · subst hx0
    have h2 := add_cancel hx
    have hN2 : (runT newT (ops.take k ++ [(⟨1, id, tk⟩ : TmT)])).set.length = N1 + 1 := by
      rw [run_append, ← hN1]
      exact h2.2
    have HP2 : Hid (∀ (X : World) (a : Option Addr) (c : Nat), Hid (shT.At X a c (ops.take k ++ [(⟨1, id, tk⟩ : TmT)])) → Calls Try.prog 9 #[.slice a (k + 1) c] X fun e w' => ∃ E fa F fc, e = .returned (.tuple #[.slice (some ⟨E, 0, none⟩) (k + 1) (k + 1), .slice fa F fc, .int .i64 ((N1 : Int) + 1), .int .i64 0]) ∧ w'.cell? ⟨E, k, none⟩ = some (.int .i64 0) ∧ E < w'.heap.size ∧ Below X.heap.size X w') := Lib.hid fun X a c HX => by
      refine (play_ok X HX HM1 (by omega) (Lib.hid hw1)).mono ?_
      rintro e w' ⟨E, fa, fc, rfl, h1, _, h3⟩
      obtain ⟨b, off, eb, hlt, hc⟩ := at_int h1 HEX.out
      cases eb
      rw [Nat.zero_add] at hc
      exact ⟨E, fa, _, fc, by rw [hN2]; rfl, hc, hlt, h3⟩
    have hr := with_run hx
    have HP4 := Lib.hid (play_fired (fd := fd) (F := L) (N := N) HM2.out (by omega) hw2 (by rw [hr]; exact hfd) hL (by rw [hr]; exact hN))
    clear hfd1 hN1 hfd hN hL hx hex hwt hw1 hw2 hwf hN2 hr h2
    go_enter Try.func6, Try.ntmps6
    go_wp2_with (first
    | (go_at_call 13; (with_reducible refine (alive11_N _).mono ?_); rintro e w1 ⟨rfl, hb⟩; have B1 := Lib.hid hb; have A1 := Lib.hid (HA.out.step hb); have T1 := Lib.hid (HT.out.step hb); clear hb)
    | (go_at_call 9; (with_reducible refine (HP1.out _ ad cap T1).mono ?_); rintro e w2 ⟨rb2, fa2, fc2, rfl, hf, hb⟩; clear hf; have B2 := Lib.hid (pstep B1.out hb); have A2 := Lib.hid (A1.out.step hb); have T2 := Lib.hid (T1.out.step hb); clear hb)
    | (go_at_call 14; (with_reducible refine (clone_T (ops.take k) ad k cap _ HMK T2 hk5).mono ?_); rintro e w3 ⟨ra3, rc3, rfl, own, hb⟩; have bx := below_alloc w3 (.cells #[.int .i64 1, .int .i64 id, .int .i64 tk] 36); have O3 := Lib.hid (own_step own bx); have B3 := Lib.hid (pstep (pstep B2.out hb) bx); have A3 := Lib.hid ((A2.out.step hb).step bx); have N3 := Lib.hid (tm_oneAt w3 ⟨1, id, tk⟩ 1); have hs3 : w2.heap.size ≤ (w3.alloc (.cells #[.int .i64 1, .int .i64 id, .int .i64 tk] 36)).heap.size := Nat.le_trans hb.size bx.size; clear hb own bx)
    | (at_builtin; refine wpList_append_n shT rfl _ _ 22 rfl w2.heap.size 36 i0 _ 24 Try.underlying22 hi hz0 hz1 hz2 rfl (.slice ra3 k rc3) k (ops.take k) [⟨1, id, tk⟩] HMK rfl O3.out (some ⟨w3.heap.size, 0, none⟩) 1 1 rfl (Lib.hid rfl) N3.out (by unfold maxLen; omega) (by omega) hs3 ?_; intro ra4 rc4 w4 own4 grow4 _; have P4 := Lib.hid (Shape.At.own (S := shT) own4 HM1.out); have B4 := Lib.hid (B3.out.grown grow4 B3.out.size (fun _ hq => Nat.le_trans B2.out.size (own_lt O3.out hq).1)); have A4 := Lib.hid (A3.out.same_grown O3.out grow4 A2.out); clear own4 grow4)
    | (go_at_call 9; (with_reducible refine (HP2.out _ ra4 rc4 P4).mono ?_); rintro e w5 ⟨E5, fa5, L5, fc5, rfl, hc5, hE5, hb⟩; have C5 := Lib.hid hc5; have X5 := Lib.hid hE5; clear hc5 hE5; have B5 := Lib.hid (pstep B4.out hb); have A5 := Lib.hid (A4.out.step hb); have K5 : Hid (∀ X, Below w5.heap.size w5 X → X.cell? ⟨E5, k, none⟩ = some (.int .i64 0) ∧ E5 < X.heap.size) := Lib.hid (fun X hX => ⟨(hX.cell (p := ⟨E5, k, none⟩) X5.out).trans C5.out, Nat.lt_of_lt_of_le X5.out hX.size⟩); clear hb)
    | (go_at_call 14; (with_reducible refine (clone_T ops ad n cap _ hm A5 hn).mono ?_); rintro e w6 ⟨ra6, rc6, rfl, own, hb⟩; have bx := below_alloc w6 (.cells #[.int .i64 1, .int .i64 id, .int .i64 tk, .int .i64 2, .int .i64 id, .int .i64 0] 36); have O6 := Lib.hid (own_step own bx); have B6 := Lib.hid (pstep (pstep B5.out hb) bx); have A6 := Lib.hid ((A5.out.step hb).step bx); have N6 := Lib.hid (heap_alloc_new w6 (.cells #[.int .i64 1, .int .i64 id, .int .i64 tk, .int .i64 2, .int .i64 id, .int .i64 0] 36)); have hs6 : w5.heap.size ≤ (w6.alloc (.cells #[.int .i64 1, .int .i64 id, .int .i64 tk, .int .i64 2, .int .i64 id, .int .i64 0] 36)).heap.size := Nat.le_trans hb.size bx.size; have D6 := Lib.hid ((hb.mono (Nat.le_refl _)).trans (bx.mono hb.size)); have hvb : ∀ g, (Value.slice ra6 n rc6).ownBlock = some g → w6.heap.size ≠ g := (fun g hg e => by have := (own_lt own hg).2; omega); clear hb own bx)
    | (go_at_call 15; (with_reducible refine (insu_any ops ⟨1, id, tk⟩ ⟨2, id, 0⟩ n rc6 k w6.heap.size w5.heap.size _ ra6 N6 hm hn hs6 O6 hkn hvb).mono ?_); rintro e w7 ⟨ra7, rc7, rfl, own7, grow7, _⟩; have P7 := Lib.hid (Shape.At.own (S := shT) own7 HM2.out); have B7 := Lib.hid (B6.out.grown grow7 B6.out.size (fun _ hq => Nat.le_trans B5.out.size (own_lt O6.out hq).1)); have A7 := Lib.hid (A6.out.same_grown O6.out grow7 A5.out); have D7 := Lib.hid (D6.out.grown grow7 D6.out.size (fun _ hq => (own_lt O6.out hq).1)); clear own7 grow7)
    | (go_at_call 9; (with_reducible refine (HP3.out _ ad cap A7).mono ?_); rintro e w8 ⟨rb8, fa8, fc8, rfl, hf, hb⟩; have F8 := Lib.hid hf; clear hf; have B8 := Lib.hid (pstep B7.out hb); have P8 := Lib.hid (P7.out.step hb); have D8 := Lib.hid (pstep D7.out hb); have C8 : Hid (∀ {X}, Below w8.heap.size w8 X → X.cell? ⟨E5, k, none⟩ = some (.int .i64 0) ∧ E5 < X.heap.size) := Lib.hid (fun hX => K5.out _ (pstep D8.out hX)); clear hb)
    | (go_at_call 9; (with_reducible refine (HP4.out _ ra7 rc7 P8).mono ?_); rintro e w9 ⟨rb9, fa9, fc9, rfl, hf, hb⟩; have F9 := Lib.hid (F8.out.step hb); have G9 := Lib.hid hf; have c9 := (C8.out hb).1; have e9 := (C8.out hb).2; clear hf; have B9 := Lib.hid (pstep B8.out hb); clear hb)
    | (go_at_call 12; (with_reducible refine (equalF _ HL F9 G9 hL9).mono ?_); rintro e w10 ⟨rfl, hb⟩; have B10 := Lib.hid (pstep B9.out hb); clear hb)
    | fail)
    go_ret
    exact ⟨rfl, B10.out⟩
  · have hxb : (x != 0) = true := by simpa using hx0
    have HP2 : Hid (∀ (X : World) (a : Option Addr) (c : Nat), Hid (shT.At X a c (ops.take k ++ [(⟨1, id, tk⟩ : TmT)])) → Calls Try.prog 9 #[.slice a (k + 1) c] X fun e w' => ∃ E fa F fc N2, e = .returned (.tuple #[.slice (some ⟨E, 0, none⟩) (k + 1) (k + 1), .slice fa F fc, .int .i64 N2, .int .i64 0]) ∧ w'.cell? ⟨E, k, none⟩ = some (.int .i64 x) ∧ E < w'.heap.size ∧ Below X.heap.size X w') := Lib.hid fun X a c HX => by
      refine (play_ok X HX HM1 (by omega) (Lib.hid hw1)).mono ?_
      rintro e w' ⟨E, fa, fc, rfl, h1, _, h3⟩
      obtain ⟨b, off, eb, hlt, hc⟩ := at_int h1 HEX.out
      cases eb
      rw [Nat.zero_add] at hc
      exact ⟨E, fa, _, fc, _, rfl, hc, hlt, h3⟩
    have HP4 := Lib.hid (play_fired HM2.out (by omega) hw2 rfl rfl rfl)
    clear hfd1 hN1 hfd hN hL hx hex hwt hw1 hw2 hwf
    go_enter Try.func6, Try.ntmps6
    go_wp2_with (first
    | (go_at_call 13; (with_reducible refine (alive11_N _).mono ?_); rintro e w1 ⟨rfl, hb⟩; have B1 := Lib.hid hb; have A1 := Lib.hid (HA.out.step hb); have T1 := Lib.hid (HT.out.step hb); clear hb)
    | (go_at_call 9; (with_reducible refine (HP1.out _ ad cap T1).mono ?_); rintro e w2 ⟨rb2, fa2, fc2, rfl, hf, hb⟩; clear hf; have B2 := Lib.hid (pstep B1.out hb); have A2 := Lib.hid (A1.out.step hb); have T2 := Lib.hid (T1.out.step hb); clear hb)
    | (go_at_call 14; (with_reducible refine (clone_T (ops.take k) ad k cap _ HMK T2 hk5).mono ?_); rintro e w3 ⟨ra3, rc3, rfl, own, hb⟩; have bx := below_alloc w3 (.cells #[.int .i64 1, .int .i64 id, .int .i64 tk] 36); have O3 := Lib.hid (own_step own bx); have B3 := Lib.hid (pstep (pstep B2.out hb) bx); have A3 := Lib.hid ((A2.out.step hb).step bx); have N3 := Lib.hid (tm_oneAt w3 ⟨1, id, tk⟩ 1); have hs3 : w2.heap.size ≤ (w3.alloc (.cells #[.int .i64 1, .int .i64 id, .int .i64 tk] 36)).heap.size := Nat.le_trans hb.size bx.size; clear hb own bx)
    | (at_builtin; refine wpList_append_n shT rfl _ _ 22 rfl w2.heap.size 36 i0 _ 24 Try.underlying22 hi hz0 hz1 hz2 rfl (.slice ra3 k rc3) k (ops.take k) [⟨1, id, tk⟩] HMK rfl O3.out (some ⟨w3.heap.size, 0, none⟩) 1 1 rfl (Lib.hid rfl) N3.out (by unfold maxLen; omega) (by omega) hs3 ?_; intro ra4 rc4 w4 own4 grow4 _; have P4 := Lib.hid (Shape.At.own (S := shT) own4 HM1.out); have B4 := Lib.hid (B3.out.grown grow4 B3.out.size (fun _ hq => Nat.le_trans B2.out.size (own_lt O3.out hq).1)); have A4 := Lib.hid (A3.out.same_grown O3.out grow4 A2.out); clear own4 grow4)
    | (go_at_call 9; (with_reducible refine (HP2.out _ ra4 rc4 P4).mono ?_); rintro e w5 ⟨E5, fa5, L5, fc5, N5, rfl, hc5, hE5, hb⟩; have C5 := Lib.hid hc5; have X5 := Lib.hid hE5; clear hc5 hE5; have B5 := Lib.hid (pstep B4.out hb); have A5 := Lib.hid (A4.out.step hb); have K5 : Hid (∀ X, Below w5.heap.size w5 X → X.cell? ⟨E5, k, none⟩ = some (.int .i64 x) ∧ E5 < X.heap.size) := Lib.hid (fun X hX => ⟨(hX.cell (p := ⟨E5, k, none⟩) X5.out).trans C5.out, Nat.lt_of_lt_of_le X5.out hX.size⟩); clear hb)
    | (go_at_call 14; (with_reducible refine (clone_T ops ad n cap _ hm A5 hn).mono ?_); rintro e w6 ⟨ra6, rc6, rfl, own, hb⟩; have bx := below_alloc w6 (.cells #[.int .i64 1, .int .i64 id, .int .i64 tk, .int .i64 2, .int .i64 id, .int .i64 0] 36); have O6 := Lib.hid (own_step own bx); have B6 := Lib.hid (pstep (pstep B5.out hb) bx); have A6 := Lib.hid ((A5.out.step hb).step bx); have N6 := Lib.hid (heap_alloc_new w6 (.cells #[.int .i64 1, .int .i64 id, .int .i64 tk, .int .i64 2, .int .i64 id, .int .i64 0] 36)); have hs6 : w5.heap.size ≤ (w6.alloc (.cells #[.int .i64 1, .int .i64 id, .int .i64 tk, .int .i64 2, .int .i64 id, .int .i64 0] 36)).heap.size := Nat.le_trans hb.size bx.size; have D6 := Lib.hid ((hb.mono (Nat.le_refl _)).trans (bx.mono hb.size)); have hvb : ∀ g, (Value.slice ra6 n rc6).ownBlock = some g → w6.heap.size ≠ g := (fun g hg e => by have := (own_lt own hg).2; omega); clear hb own bx)
    | (go_at_call 15; (with_reducible refine (insu_any ops ⟨1, id, tk⟩ ⟨2, id, 0⟩ n rc6 k w6.heap.size w5.heap.size _ ra6 N6 hm hn hs6 O6 hkn hvb).mono ?_); rintro e w7 ⟨ra7, rc7, rfl, own7, grow7, _⟩; have P7 := Lib.hid (Shape.At.own (S := shT) own7 HM2.out); have B7 := Lib.hid (B6.out.grown grow7 B6.out.size (fun _ hq => Nat.le_trans B5.out.size (own_lt O6.out hq).1)); have A7 := Lib.hid (A6.out.same_grown O6.out grow7 A5.out); have D7 := Lib.hid (D6.out.grown grow7 D6.out.size (fun _ hq => (own_lt O6.out hq).1)); clear own7 grow7)
    | (go_at_call 9; (with_reducible refine (HP3.out _ ad cap A7).mono ?_); rintro e w8 ⟨rb8, fa8, fc8, rfl, hf, hb⟩; clear hf; have B8 := Lib.hid (pstep B7.out hb); have P8 := Lib.hid (P7.out.step hb); have D8 := Lib.hid (pstep D7.out hb); have C8 : Hid (∀ {X}, Below w8.heap.size w8 X → X.cell? ⟨E5, k, none⟩ = some (.int .i64 x) ∧ E5 < X.heap.size) := Lib.hid (fun hX => K5.out _ (pstep D8.out hX)); clear hb)
    | (go_at_call 9; (with_reducible refine (HP4.out _ ra7 rc7 P8).mono ?_); rintro e w9 ⟨rb9, fa9, fc9, rfl, hf, hb⟩; have c9 := (C8.out hb).1; have e9 := (C8.out hb).2; clear hf; have B9 := Lib.hid (pstep B8.out hb); clear hb)
    | fail)
    go_ret
    exact ⟨rfl, B9.out⟩
set_option maxHeartbeats 4000000 in
set_option maxRecDepth 100000 in
theorem can_out (k id tk : Int) (w : World) (h : ¬ (0 ≤ k ∧ k ≤ (n : Int))) :
    Calls Try.prog 6 #[.slice ad n cap, .int .i64 k, .int .i64 id, .int .i64 tk] w fun e w' => e = .returned (.bool true) ∧ Below w.heap.size w w' := by
  have h' : decide (k < 0) = true ∨ (decide (k < 0) = false ∧ decide ((n : Int) < k) = true) := by
    by_cases q : k < 0
    · exact Or.inl (decide_eq_true q)
    · exact Or.inr ⟨decide_eq_false q, decide_eq_true (by omega)⟩
  rcases h' with h1 | ⟨h1, h2⟩
  all_goals go_enter Try.func6, Try.ntmps6
  all_goals go_wp2_with (first
    | (go_at_call 13; (with_reducible refine (alive11_N _).mono ?_); rintro e w1 ⟨rfl, hb⟩; have B1 := Lib.hid hb; clear hb)
    | fail)
  all_goals go_ret
  all_goals exact ⟨rfl, B1.out⟩
end
theorem wheelCancel_walk (v u r t : Value) (w : World) (h : ArgTms w v) (h2 : ArgInt w u) (h3 : ArgInt w r) (h4 : ArgInt w t) (hl : lenOf v ≤ 5864062014634) : Calls Try.prog 6 #[v, u, r, t] w fun e w' => e = .returned (.bool true) ∧ Below w.heap.size w w' := by
  obtain ⟨a1, c1, l, rfl, hA, hW, _, hc⟩ := h
  obtain ⟨k, rfl, _⟩ := h2
  obtain ⟨id, rfl, hid⟩ := h3
  obtain ⟨tk, rfl, _⟩ := h4
  simp only [lenOf] at hl
  by_cases q1 : 0 ≤ k ∧ k ≤ (l.length : Int)
  · obtain ⟨k', rfl⟩ : ∃ k' : Nat, k = k' := ⟨k.toNat, by omega⟩
    by_cases q2 : l.length ≤ 398
    · exact can_ok id tk w (Lib.hid hA) (Lib.hid rfl) hl hc (Lib.hid hW) hid (by omega) q2
    · exact can_big id tk w (Lib.hid hA) (Lib.hid rfl) hl hc (Lib.hid hW) hid (by omega) (by omega)
  · exact can_out k id tk w q1
end Go.Proofs.Ytnnphmpodcmmoaa
