/- Package nest: the walk of nest.Step. -/
import Derived.Test.YteeejkcehajokaaNesC
namespace Go.Proofs.Yteeejkcehajokaa
open Go.RowKit

/-- Is the core right? -/
noncomputable def okN (c : CoreT) : Bool := @decide (RtN c) (Classical.propDecidable _)
theorem okN_true {c : CoreT} : okN c = true ↔ RtN c := by unfold okN; exact @decide_eq_true_iff _ (Classical.propDecidable _)
theorem okN_false {c : CoreT} (h : ¬ RtN c) : okN c = false := by
  cases e : okN c with
  | false => rfl
  | true => exact absurd (okN_true.1 e) h
theorem retB_eq {P : Prop} {b : Bool} {e : Ending} (h : RetB P e) (hb : b = true ↔ P) : e = .returned (.bool b) := by
  obtain ⟨b', rfl, h'⟩ := h
  have : b' = b := by rw [Bool.eq_iff_iff, h', hb]
  rw [this]
/-- What a step answers. -/
noncomputable def stepNN (c : CoreT) (k : Int) : CoreT × Int :=
  if errN (okN c) c k = 0 then (newN c k, 0) else (⟨false, []⟩, errN (okN c) c k)
theorem errN_no (c : CoreT) (k : Int) : errN false c k = 1 := by unfold errN; exact if_pos rfl
/-- The boxes of the core and of the result. -/
structure Sc (w wx : World) (on : Bool) (v : Value) : Prop where
  b : Below w.heap.size w wx
  r : wx.heap[w.heap.size]? = some (.cells #[.bool on, v] 24 (0, 0))
  z : wx.heap[w.heap.size + 1]? = some (.cells #[.bool false, .slice none 0 0] 24 (0, 0))
theorem Sc.step {w wx wy : World} {on : Bool} {v : Value} (h : Sc w wx on v) (hb : Below wx.heap.size wx wy) : Sc w wy on v :=
  ⟨pstep h.b hb, heap_step h.r hb, heap_step h.z hb⟩
theorem sc_new (w : World) (on : Bool) (v : Value) : Sc w ((w.alloc (.cells #[.bool on, v] 24)).alloc (.cells #[.bool false, .slice none 0 0] 24)) on v :=
  ⟨below_two w _ _, heap_step (heap_alloc_new w _) (below_alloc _ _), heap_alloc2_new w _ _⟩
theorem Sc.cells {w wx : World} {on : Bool} {v : Value} (h : Sc w wx on v) : (wx.cell? ⟨w.heap.size, 0, none⟩ = some (.bool on) ∧ wx.cell? ⟨w.heap.size, 1, none⟩ = some v) ∧ (wx.cell? ⟨w.heap.size + 1, 0, none⟩ = some (.bool false) ∧ wx.cell? ⟨w.heap.size + 1, 1, none⟩ = some (.slice none 0 0)) ∧ (∀ i, wx.frozen? ⟨w.heap.size, i, none⟩ = false) ∧ (∀ i, wx.frozen? ⟨w.heap.size + 1, i, none⟩ = false) :=
  ⟨pair_at h.r, pair_at h.z, fun i => frozen_of_row _ _ i _ _ h.r, fun i => frozen_of_row _ _ i _ _ h.z⟩
/-- Frames of one's own in the core's box. -/
theorem Sc.put {w wx : World} {on : Bool} {v : Value} (h : Sc w wx on v) (v' : Value) : Sc w (wx.setCell ⟨w.heap.size, 1, none⟩ v') on v' :=
  ⟨h.b.setCell (by simp) _, heap_setCell_same _ _ 1 _ _ _ h.r, (Below.heap_setCell _ _ _ _ (by simp)).trans h.z⟩
theorem Sc.grown {w wx wy : World} {on : Bool} {v : Value} {M n : Nat} {u : Value} {xs : List Value} (h : Sc w wx on v) (ho : wx.ownsRow M 43 2 u n xs) (hM : w.heap.size ≤ M) (hg : wx.grownBy wy u.ownBlock) : Sc w wy on v :=
  ⟨h.b.grown hg h.b.size (fun k hk => Nat.le_trans hM (own_lt ho hk).1),
    (hg.block _ (heap_lt h.r) (fun e => own_ne ho h.r (by decide) _ e.symm rfl)).trans h.r,
    (hg.block _ (heap_lt h.z) (fun e => own_ne ho h.z (by decide) _ e.symm rfl)).trans h.z⟩
theorem res_stored {w : World} {b : Nat} {x y x' y' : Value} {T : TypeId} (h : w.heap[b]? = some (.cells #[x, y] T (0, 0))) : ((w.setCell ⟨b, 0, none⟩ x').setCell ⟨b, 1, none⟩ y').heap[b]? = some (.cells #[x', y'] T (0, 0)) :=
  heap_setCell_same _ b 1 _ _ y' (heap_setCell_same _ b 0 _ _ x' h)
theorem set2_below {w wx : World} {b : Nat} (x y : Value) (h : Below w.heap.size w wx) (hb : w.heap.size ≤ b) : Below w.heap.size w ((wx.setCell ⟨b, 0, none⟩ x).setCell ⟨b, 1, none⟩ y) := (h.setCell hb _).setCell hb _

set_option maxHeartbeats 1000000 in
set_option maxRecDepth 100000 in
theorem step_form {ad : Option Addr} {cap n : Nat} {l : List FrT} (on : Bool) (kind : Int) (w : World) (HA : Hid (shF.At w ad cap l)) (hm : Hid (l.length = n)) (hn : n ≤ 9223372036854775807) (ho : Hid (¬ RtN ⟨on, l⟩)) :
    Calls Try.prog 7 #[.agg #[.bool on, .slice ad n cap], .int .i64 kind] w fun e w' => e = .returned (.tuple #[.agg #[.bool false, .slice none 0 0], .int .i64 1]) ∧ Below w.heap.size w w' := by
  have S0 := Lib.hid (sc_new w on (.slice ad n cap))
  have HA0 := Lib.hid (HA.out.step S0.out.b)
  go_enter Try.func7, Try.ntmps7
  go_wp2_with (first
    | (go_at_call 11; (with_reducible refine (right_N on _ HA0 hm hn).mono ?_); rintro e w1 ⟨hr, hb⟩; have he := retB_eq hr (b := false) ⟨(fun h => by cases h), fun h => absurd h ho.out⟩; subst he; have S1 := Lib.hid (S0.out.step hb); have G1 := S1.out.cells; clear hb hr)
    | fail)
  refine bodyPost_ret (results_row_tmp1 rfl _ _ (w.heap.size + 1) 24 #[.bool false, .slice none 0 0] (0, 0) _ rfl (res_stored S1.out.z) Try.underlying24 rfl size_core) rfl ⟨rfl, set2_below _ _ S1.out.b (by omega)⟩
set_option maxHeartbeats 1000000 in
set_option maxRecDepth 100000 in
theorem step_err {ad : Option Addr} {cap n : Nat} {l : List FrT} (on : Bool) (kind : Int) (w : World) (HA : Hid (shF.At w ad cap l)) (hm : Hid (l.length = n)) (hn : n ≤ 400) (ho : Hid (RtN ⟨on, l⟩)) (x : Int) (hx : Hid (errN true ⟨on, l⟩ kind = x)) (hx0 : (x != 0) = true) :
    Calls Try.prog 7 #[.agg #[.bool on, .slice ad n cap], .int .i64 kind] w fun e w' => e = .returned (.tuple #[.agg #[.bool false, .slice none 0 0], .int .i64 x]) ∧ Below w.heap.size w w' := by
  have S0 := Lib.hid (sc_new w on (.slice ad n cap))
  have HA0 := Lib.hid (HA.out.step S0.out.b)
  go_enter Try.func7, Try.ntmps7
  go_wp2_with (first
    | (go_at_call 11; (with_reducible refine (right_N on _ HA0 hm (by omega)).mono ?_); rintro e w1 ⟨hr, hb⟩; have he := retB_eq hr (b := true) ⟨fun _ => ho.out, fun _ => rfl⟩; subst he; have S1 := Lib.hid (S0.out.step hb); have HA1 := Lib.hid (HA0.out.step hb); have G1 := S1.out.cells; clear hb hr)
    | (go_at_call 16; (with_reducible refine (check_N on kind _ HA1 hm hn x hx).mono ?_); rintro e w2 ⟨rfl, hb⟩; have S2 := Lib.hid (S1.out.step hb); have G2 := S2.out.cells; clear hb)
    | fail)
  refine bodyPost_ret (results_row_tmp1 rfl _ _ (w.heap.size + 1) 24 #[.bool false, .slice none 0 0] (0, 0) _ rfl (res_stored S2.out.z) Try.underlying24 rfl size_core) rfl ⟨rfl, set2_below _ _ S2.out.b (by omega)⟩
set_option maxHeartbeats 1000000 in
set_option maxRecDepth 100000 in
theorem step_ok {ad : Option Addr} {cap n : Nat} {l : List FrT} (on : Bool) (kind : Int) (w : World) (HA : Hid (shF.At w ad cap l)) (hm : Hid (l.length = n)) (hn : n ≤ 400) (ho : Hid (RtN ⟨on, l⟩)) (hx : Hid (errN true ⟨on, l⟩ kind = 0)) (on' : Bool) (l' : List FrT) (n' : Nat) (hc : Hid (newN ⟨on, l⟩ kind = ⟨on', l'⟩)) (hm' : Hid (l'.length = n')) :
    Calls Try.prog 7 #[.agg #[.bool on, .slice ad n cap], .int .i64 kind] w fun e w' => ∃ ra rc, e = .returned (.tuple #[.agg #[.bool on', .slice ra n' rc], .int .i64 0]) ∧ shF.At w' ra rc l' ∧ Below w.heap.size w w' := by
  have S0 := Lib.hid (sc_new w on (.slice ad n cap))
  have HA0 := Lib.hid (HA.out.step S0.out.b)
  go_enter Try.func7, Try.ntmps7
  go_wp2_with (first
    | (go_at_call 11; (with_reducible refine (right_N on _ HA0 hm (by omega)).mono ?_); rintro e w1 ⟨hr, hb⟩; have he := retB_eq hr (b := true) ⟨fun _ => ho.out, fun _ => rfl⟩; subst he; have S1 := Lib.hid (S0.out.step hb); have HA1 := Lib.hid (HA0.out.step hb); have G1 := S1.out.cells; clear hb hr)
    | (go_at_call 16; (with_reducible refine (check_N on kind _ HA1 hm hn 0 hx).mono ?_); rintro e w2 ⟨rfl, hb⟩; have S2 := Lib.hid (S1.out.step hb); have HA2 := Lib.hid (HA1.out.step hb); have G2 := S2.out.cells; clear hb)
    | (go_at_call 17; (with_reducible refine (clone_F l ad n cap _ hm HA2 hn).mono ?_); rintro e w3 ⟨v3, rfl, o3, hb⟩; obtain ⟨ra3, rc3, rfl, _⟩ := own_shape o3; have S3 := Lib.hid (S2.out.step hb); have O3 := Lib.hid (own_base o3 S2.out.b.size); have G3 := S3.out.cells; have S4 := Lib.hid (S3.out.put (.slice ra3 n rc3)); have O4 := Lib.hid (own_set O3.out (own_ne O3.out S3.out.r (by decide)) (a := ⟨w.heap.size, 1, none⟩) (.slice ra3 n rc3)); have L4 := Lib.hid S4.out.b.size; clear hb o3)
    | (go_at_call 18; (with_reducible refine (perform_N (M := w.heap.size) on kind _ O4 hm hn (by have := L4.out; simpa using this) hx on' l' n' hc hm').mono ?_); rintro e w5 ⟨ra, rc, rfl, o5, hg⟩; have S5 := Lib.hid (S4.out.grown O4.out (Nat.le_refl _) hg); have O5 := Lib.hid o5; have G5 := S5.out.cells; clear hg o5)
    | fail)
  refine bodyPost_ret (results_row_tmp1 rfl _ _ (w.heap.size + 1) 24 #[.bool on', .slice ra n' rc] (0, 0) _ rfl (res_stored S5.out.z) Try.underlying24 rfl size_core) rfl ?_
  have n1 := own_ne O5.out S5.out.z (by decide)
  exact ⟨_, _, rfl, Shape.At.own (S := shF) (own_set (own_set O5.out n1 _) n1 _) hm'.out, set2_below _ _ S5.out.b (by omega)⟩
/-- nest.Step, for every core and kind. -/
theorem step_N {ad : Option Addr} {cap n : Nat} {l : List FrT} (on : Bool) (kind : Int) (w : World) (HA : Hid (shF.At w ad cap l)) (hm : Hid (l.length = n)) (hn : n ≤ 9223372036854775807) (on' : Bool) (l' : List FrT) (n' : Nat) (x : Int) (H : Hid (stepNN ⟨on, l⟩ kind = (⟨on', l'⟩, x))) (hm' : Hid (l'.length = n')) :
    Calls Try.prog 7 #[.agg #[.bool on, .slice ad n cap], .int .i64 kind] w fun e w' => ∃ ra rc, e = .returned (.tuple #[.agg #[.bool on', .slice ra n' rc], .int .i64 x]) ∧ shF.At w' ra rc l' ∧ Below w.heap.size w w' := by
  have h := H.out
  unfold stepNN at h
  by_cases hr : RtN ⟨on, l⟩
  · have ho := okN_true.2 hr
    rw [ho] at h
    have h4 : n ≤ 400 := by have := hr.len; simp only [hm.out] at this; exact this
    by_cases he : errN true ⟨on, l⟩ kind = 0
    · rw [if_pos he] at h
      simp only [Prod.mk.injEq] at h
      obtain ⟨h, rfl⟩ := h
      exact step_ok on kind w HA hm h4 (Lib.hid hr) (Lib.hid he) on' l' n' (Lib.hid h) hm'
    · rw [if_neg he] at h
      simp only [Prod.mk.injEq, CoreT.mk.injEq] at h
      obtain ⟨⟨rfl, rfl⟩, hx⟩ := h
      obtain rfl : n' = 0 := hm'.out.symm
      refine (step_err on kind w HA hm h4 (Lib.hid hr) x (Lib.hid hx) (by rw [← hx]; simpa using he)).mono ?_
      rintro e w' ⟨rfl, hb⟩
      exact ⟨none, 0, rfl, Shape.At.nil w', hb⟩
  · have ho := okN_false hr
    rw [ho, errN_no, if_neg (by decide)] at h
    simp only [Prod.mk.injEq, CoreT.mk.injEq] at h
    obtain ⟨⟨rfl, rfl⟩, rfl⟩ := h
    obtain rfl : n' = 0 := hm'.out.symm
    refine (step_form on kind w HA hm hn (Lib.hid hr)).mono ?_
    rintro e w' ⟨rfl, hb⟩
    exact ⟨none, 0, rfl, Shape.At.nil w', hb⟩
end Go.Proofs.Yteeejkcehajokaa
