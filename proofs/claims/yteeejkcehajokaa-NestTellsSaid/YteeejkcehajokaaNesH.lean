/- The walk of corebellref.GStep where a frame is pushed. -/
import Derived.Test.YteeejkcehajokaaNesG
import Derived.Deep.Cut
import Derived.Deep.RegionHeld3
namespace Go.Proofs.Yteeejkcehajokaa
open Go.RowKit

/-- What the last statement reads of the core. -/
structure Sp (w : World) (on : Bool) (v : Value) (wx : World) : Prop where
  b : Below w.heap.size w wx
  r : wx.heap[w.heap.size]? = some (.cells #[.bool on, v] 24 (0, 0))
theorem Sc.sp {w wx : World} {on : Bool} {v : Value} (h : Sc w wx on v) : Sp w on v wx := ⟨h.b, h.r⟩
theorem Sc.drew {w wx : World} {on : Bool} {v : Value} (h : Sc w wx on v) : Sc w wx.drew on v := ⟨h.b.drew, h.r, h.z⟩
theorem Sp.all {w wx : World} {on : Bool} {v : Value} (h : Sp w on v wx) : Sp w on v wx ∧ wx.cell? ⟨w.heap.size, 0, none⟩ = some (.bool on) ∧ wx.cell? ⟨w.heap.size, 1, none⟩ = some v := ⟨h, pair_at h.r⟩
theorem Sp.drew {w wx : World} {on : Bool} {v : Value} (h : Sp w on v wx) : Sp w on v wx.drew := ⟨h.b.drew, h.r⟩
theorem Sp.alloc {w wx : World} {on : Bool} {v : Value} (h : Sp w on v wx) (o : Obj) : Sp w on v (wx.alloc o) := ⟨pstep h.b (below_alloc _ _), heap_step h.r (below_alloc _ _)⟩
theorem Sp.set2 {w wx : World} {on : Bool} {v : Value} (h : Sp w on v wx) (x y : Value) : Sp w on v ((wx.setCell ⟨w.heap.size + 1, 0, none⟩ x).setCell ⟨w.heap.size + 1, 1, none⟩ y) :=
  ⟨set2_below _ _ h.b (by omega), (Below.heap_setCell _ _ _ _ (by simp)).trans ((Below.heap_setCell _ _ _ _ (by simp)).trans h.r)⟩
/-- The same beside the last frame. -/
structure Sq (w : World) (on : Bool) (v : Value) (B : Nat) (x y : Bool) (wx : World) : Prop where
  s : Sp w on v wx
  f : wx.heap[B]? = some (.cells #[.bool x, .bool y] 43 (0, 0))
theorem Sq.drew {w wx : World} {on : Bool} {v : Value} {B : Nat} {x y : Bool} (h : Sq w on v B x y wx) : Sq w on v B x y wx.drew := ⟨h.s.drew, h.f⟩
theorem Sq.all {w wx : World} {on : Bool} {v : Value} {B : Nat} {x y : Bool} (h : Sq w on v B x y wx) : Sq w on v B x y wx ∧ (wx.cell? ⟨w.heap.size, 0, none⟩ = some (.bool on) ∧ wx.cell? ⟨w.heap.size, 1, none⟩ = some v) ∧ wx.cell? ⟨B, 0, none⟩ = some (.bool x) ∧ wx.cell? ⟨B, 1, none⟩ = some (.bool y) := ⟨h, pair_at h.s.r, pair_at h.f⟩
theorem Sq.alloc {w wx : World} {on : Bool} {v : Value} {B : Nat} {x y : Bool} (h : Sq w on v B x y wx) (o : Obj) : Sq w on v B x y (wx.alloc o) := ⟨h.s.alloc o, heap_step h.f (below_alloc _ _)⟩
theorem Sq.set2 {w wx : World} {on : Bool} {v : Value} {B : Nat} {x y : Bool} (hB : Hid (¬ B = w.heap.size + 1)) (h : Sq w on v B x y wx) (a b : Value) : Sq w on v B x y ((wx.setCell ⟨w.heap.size + 1, 0, none⟩ a).setCell ⟨w.heap.size + 1, 1, none⟩ b) :=
  ⟨h.s.set2 a b, (Below.heap_setCell _ _ _ _ (by have := hB.out; simp; omega)).trans ((Below.heap_setCell _ _ _ _ (by have := hB.out; simp; omega)).trans h.f)⟩
/-- A frame that was just made stays while another row grows. -/
theorem fr_grown {w w' : World} {b g : Nat} {x y : Bool} {cap : Nat} (h : w.heap[b]? = some (.cells #[.bool x, .bool y] 43 (0, 0))) (hg : w.grownBy w' (some g)) (hne : ¬ b = g) : shF.At w' (some ⟨b, 0, none⟩) cap [⟨x, y⟩] :=
  Shape.At.lit (S := shF) [⟨x, y⟩] ((hg.block b (heap_lt h) (fun e => hne (by cases e; rfl))).trans h)
theorem heap_under' (W : World) (o o' : Obj) : ((W.alloc o).alloc o').heap[W.heap.size]? = some o := heap_alloc2_old W o o'
set_option maxHeartbeats 2000000 in
set_option maxRecDepth 100000 in
theorem g_push1 {ad : Option Addr} {cap n : Nat} {l : List FrT} (on : Bool) (w : World) (HA : Hid (shF.At w ad cap l)) (hm : Hid (l.length = n)) (hn : n ≤ 400) (ho : Hid (RtN ⟨on, l⟩)) (hk : ¬ 400 ≤ n) :
    Calls Try.prog 8 #[.agg #[.bool on, .slice ad n cap], .int .i64 1] w fun e w' => ∃ ra rc, e = .returned (.tuple #[.agg #[.bool false, .slice ra (n + 1) rc], .int .i64 0]) ∧ w'.ownsRow w.heap.size 43 2 (.slice ra (n + 1) rc) (n + 1) (shF.flat (l ++ [⟨on, false⟩])) ∧ Below w.heap.size w w' := by
  have S0 := Lib.hid (sc_new w on (.slice ad n cap))
  have HA0 := Lib.hid (HA.out.step S0.out.b)
  obtain ⟨i0, hi, hz0, hz1, hz2⟩ := info_parts' info_frame
  go_enter Try.func8, Try.ntmps8
  go_upto_region 12 with (first
    | (go_at_call 12; (with_reducible refine (gright_N on _ HA0 hm (by omega)).mono ?_); rintro e w1 ⟨hr, hb⟩; have he := retB_eq hr (b := true) ⟨fun _ => ho.out, fun _ => rfl⟩; subst he; have S1 := Lib.hid (S0.out.step hb); have HA1 := Lib.hid (HA0.out.step hb); have G1 := S1.out.cells; have Z1 := heap_lt S1.out.z; have Z0 := heap_lt S1.out.r; clear hb hr)
    | fail)
  have HSZ := Lib.hid S1.out.b.size
  have hm1 : Hid (([⟨on, false⟩] : List FrT).length = 1) := Lib.hid rfl
  have HOWN : Hid (∀ X : World, w.heap.size ≤ X.heap.size → (X.alloc (.cells #[] 43)).ownsRow w.heap.size 43 2 (.slice (some ⟨X.heap.size, 0, none⟩) 0 0) 0 []) := Lib.hid fun X hX => own_new X _ _ hX
  have HFR : Hid (∀ X : World, shF.At (X.alloc (.cells #[.bool on, .bool false] 43)) (some ⟨X.heap.size, 0, none⟩) 1 [⟨on, false⟩]) := Lib.hid fun X => Shape.At.lit (S := shF) [⟨on, false⟩] (heap_alloc_new X _)
  have XA : Hid ((w1.alloc (.cells #[] 43)).drew.ownsRow w.heap.size 43 2 (.slice (some ⟨w1.heap.size, 0, none⟩) 0 0) 0 []) := Lib.hid (HOWN.out w1 HSZ.out)
  have XB : Hid (((w1.alloc (.cells #[] 43)).alloc (.cells #[.bool on, .bool false] 43)).drew.ownsRow w.heap.size 43 2 (.slice (some ⟨w1.heap.size, 0, none⟩) 0 0) 0 []) := Lib.hid (own_step (HOWN.out w1 HSZ.out) (below_alloc (w1.alloc (.cells #[] 43)) (.cells #[.bool on, .bool false] 43)).drew)
  have XC : Hid (((w1.alloc (.cells #[.bool on, .bool false] 43)).alloc (.cells #[] 43)).drew.ownsRow w.heap.size 43 2 (.slice (some ⟨w1.heap.size + 1, 0, none⟩) 0 0) 0 []) := by
    have := HOWN.out (w1.alloc (.cells #[.bool on, .bool false] 43)) (by have := HSZ.out; simp; omega)
    simp only [World.size_alloc] at this
    exact Lib.hid this
  have PS := S1.out.sp
  have PSd := S1.out.sp.drew
  go_region_held3 (fun w' => Sp w on (.slice ad n cap) w' ∧ w'.cell? ⟨w.heap.size, 0, none⟩ = some (.bool on) ∧ w'.cell? ⟨w.heap.size, 1, none⟩ = some (.slice ad n cap))
    (first | (refine Sp.all ?_; with_reducible assumption) | (refine Sp.all (Sp.alloc ?_ _); with_reducible assumption) | (refine Sp.all (Sp.drew (Sp.alloc ?_ _)); with_reducible assumption) | (refine Sp.all (Sp.drew (Sp.alloc (Sp.alloc ?_ _) _)); with_reducible assumption) | (refine Sp.all (Sp.set2 ?_ _ _); with_reducible assumption))
    (first
    | (refine step_append_0 shF rfl _ _ 22 rfl w.heap.size 43 i0 _ 2 Try.underlying22 hi hz0 hz1 hz2 rfl (.slice (some ⟨w1.heap.size, 0, none⟩) 0 0) l rfl (XA.out) ad n cap rfl hm (HA1.out.step (below_alloc w1 (.cells #[] 43)).drew) (by unfold maxLen; omega) (by omega) (by have := HSZ.out; simp; omega) ?_; intro ra rc w4 own4 grow4; have SA := Lib.hid (Sc.grown (S1.out.step (below_alloc w1 (.cells #[] 43)).drew) XA.out (Nat.le_refl _) grow4); have OA := Lib.hid own4; clear own4 grow4; have TT := SA.out.sp)
    | (refine step_append_0 shF rfl _ _ 22 rfl w.heap.size 43 i0 _ 2 Try.underlying22 hi hz0 hz1 hz2 rfl (.slice (some ⟨w1.heap.size, 0, none⟩) 0 0) l rfl (XB.out) ad n cap rfl hm (HA1.out.step (below_two w1 (.cells #[] 43) (.cells #[.bool on, .bool false] 43)).drew) (by unfold maxLen; omega) (by omega) (by have := HSZ.out; simp; omega) ?_; intro ra rc w4 own4 grow4; have SB := Lib.hid (Sc.grown (S1.out.step (below_two w1 (.cells #[] 43) (.cells #[.bool on, .bool false] 43)).drew) XB.out (Nat.le_refl _) grow4); have OB := Lib.hid own4; have FB := Lib.hid (fr_grown (w := ((w1.alloc (.cells #[] 43)).alloc (.cells #[.bool on, .bool false] 43)).drew) (cap := 1) (heap_alloc2_new w1 (.cells #[] 43) (.cells #[.bool on, .bool false] 43)) grow4 (by show ¬ w1.heap.size + 1 = w1.heap.size; omega)); clear own4 grow4; have TT := SB.out.sp)
    | (refine step_append_0 shF rfl _ _ 22 rfl w.heap.size 43 i0 _ 2 Try.underlying22 hi hz0 hz1 hz2 rfl (.slice (some ⟨w1.heap.size + 1, 0, none⟩) 0 0) l rfl (XC.out) ad n cap rfl hm (HA1.out.step (below_two w1 (.cells #[.bool on, .bool false] 43) (.cells #[] 43)).drew) (by unfold maxLen; omega) (by omega) (by have := HSZ.out; simp; omega) ?_; intro ra rc w4 own4 grow4; have SC := Lib.hid (Sc.grown (S1.out.step (below_two w1 (.cells #[.bool on, .bool false] 43) (.cells #[] 43)).drew) XC.out (Nat.le_refl _) grow4); have OC := Lib.hid own4; have FC := Lib.hid (fr_grown (w := ((w1.alloc (.cells #[.bool on, .bool false] 43)).alloc (.cells #[] 43)).drew) (cap := 1) (heap_under' w1 (.cells #[.bool on, .bool false] 43) (.cells #[] 43)) grow4 (by show ¬ w1.heap.size = w1.heap.size + 1; omega)); clear own4 grow4; have TT := SC.out.sp)
    | (refine step_append_n shF rfl _ _ 22 rfl w.heap.size 43 i0 _ 2 Try.underlying22 hi hz0 hz1 hz2 rfl (.slice ra n rc) n l [⟨on, false⟩] hm rfl (own_step OA.out (below_alloc w4 (.cells #[.bool on, .bool false] 43))) (some ⟨w4.heap.size, 0, none⟩) 1 1 rfl hm1 (HFR.out w4) (by unfold maxLen; omega) (by omega) (by have := SA.out.b.size; simp; omega) ?_; intro ra5 rc5 w5 own5 grow5 _; have S5 := Lib.hid (Sc.grown (SA.out.step (below_alloc w4 (.cells #[.bool on, .bool false] 43))) (own_step OA.out (below_alloc w4 (.cells #[.bool on, .bool false] 43))) (Nat.le_refl _) grow5); have O5 := Lib.hid own5; clear own5 grow5; have TT := S5.out.sp; have G5 := S5.out.cells)
    | (refine step_append_n shF rfl _ _ 22 rfl w.heap.size 43 i0 _ 2 Try.underlying22 hi hz0 hz1 hz2 rfl (.slice ra n rc) n l [⟨on, false⟩] hm rfl (OB.out) (some ⟨w1.heap.size + 1, 0, none⟩) 1 1 rfl hm1 (FB.out) (by unfold maxLen; omega) (by omega) (by have := SB.out.b.size; simp; omega) ?_; intro ra5 rc5 w5 own5 grow5 _; have S5 := Lib.hid (Sc.grown SB.out (OB.out) (Nat.le_refl _) grow5); have O5 := Lib.hid own5; clear own5 grow5; have TT := S5.out.sp; have G5 := S5.out.cells)
    | (refine step_append_n shF rfl _ _ 22 rfl w.heap.size 43 i0 _ 2 Try.underlying22 hi hz0 hz1 hz2 rfl (.slice ra n rc) n l [⟨on, false⟩] hm rfl (OC.out) (some ⟨w1.heap.size, 0, none⟩) 1 1 rfl hm1 (FC.out) (by unfold maxLen; omega) (by omega) (by have := SC.out.b.size; simp; omega) ?_; intro ra5 rc5 w5 own5 grow5 _; have S5 := Lib.hid (Sc.grown SC.out (OC.out) (Nat.le_refl _) grow5); have O5 := Lib.hid own5; clear own5 grow5; have TT := S5.out.sp; have G5 := S5.out.cells)
    | fail)
  all_goals go_wp2_with fail
  all_goals refine bodyPost_ret (results_row_tmp1 rfl _ _ (w.heap.size + 1) 24 #[.bool false, .slice ra5 (n + 1) rc5] (0, 0) _ rfl (res_stored S5.out.z) Try.underlying24 rfl size_core) rfl ?_
  all_goals have n1 := own_ne O5.out S5.out.z (by decide)
  all_goals exact ⟨_, _, rfl, own_set (own_set O5.out n1 _) n1 _, set2_below _ _ S5.out.b (by omega)⟩
set_option maxHeartbeats 2000000 in
set_option maxRecDepth 100000 in
theorem g_push3 {ad : Option Addr} {cap n : Nat} {l : List FrT} (w : World) (HA : Hid (shF.At w ad cap l)) (hm : Hid (l.length = n)) (hn : n ≤ 400) (ho : Hid (RtN ⟨true, l⟩)) (hk : ¬ 400 ≤ n) :
    Calls Try.prog 8 #[.agg #[.bool true, .slice ad n cap], .int .i64 3] w fun e w' => ∃ ra rc, e = .returned (.tuple #[.agg #[.bool false, .slice ra (n + 1) rc], .int .i64 0]) ∧ w'.ownsRow w.heap.size 43 2 (.slice ra (n + 1) rc) (n + 1) (shF.flat (l ++ [⟨true, true⟩])) ∧ Below w.heap.size w w' := by
  have S0 := Lib.hid (sc_new w true (.slice ad n cap))
  have HA0 := Lib.hid (HA.out.step S0.out.b)
  obtain ⟨i0, hi, hz0, hz1, hz2⟩ := info_parts' info_frame
  go_enter Try.func8, Try.ntmps8
  go_upto_region 12 with (first
    | (go_at_call 12; (with_reducible refine (gright_N true _ HA0 hm (by omega)).mono ?_); rintro e w1 ⟨hr, hb⟩; have he := retB_eq hr (b := true) ⟨fun _ => ho.out, fun _ => rfl⟩; subst he; have S1 := Lib.hid (S0.out.step hb); have HA1 := Lib.hid (HA0.out.step hb); have G1 := S1.out.cells; have Z1 := heap_lt S1.out.z; have Z0 := heap_lt S1.out.r; clear hb hr)
    | fail)
  have HSZ := Lib.hid S1.out.b.size
  have hm1 : Hid (([⟨true, true⟩] : List FrT).length = 1) := Lib.hid rfl
  have HOWN : Hid (∀ X : World, w.heap.size ≤ X.heap.size → (X.alloc (.cells #[] 43)).ownsRow w.heap.size 43 2 (.slice (some ⟨X.heap.size, 0, none⟩) 0 0) 0 []) := Lib.hid fun X hX => own_new X _ _ hX
  have HFR : Hid (∀ X : World, shF.At (X.alloc (.cells #[.bool true, .bool true] 43)) (some ⟨X.heap.size, 0, none⟩) 1 [⟨true, true⟩]) := Lib.hid fun X => Shape.At.lit (S := shF) [⟨true, true⟩] (heap_alloc_new X _)
  have XA : Hid ((w1.alloc (.cells #[] 43)).drew.ownsRow w.heap.size 43 2 (.slice (some ⟨w1.heap.size, 0, none⟩) 0 0) 0 []) := Lib.hid (HOWN.out w1 HSZ.out)
  have XB : Hid (((w1.alloc (.cells #[] 43)).alloc (.cells #[.bool true, .bool true] 43)).drew.ownsRow w.heap.size 43 2 (.slice (some ⟨w1.heap.size, 0, none⟩) 0 0) 0 []) := Lib.hid (own_step (HOWN.out w1 HSZ.out) (below_alloc (w1.alloc (.cells #[] 43)) (.cells #[.bool true, .bool true] 43)).drew)
  have XC : Hid (((w1.alloc (.cells #[.bool true, .bool true] 43)).alloc (.cells #[] 43)).drew.ownsRow w.heap.size 43 2 (.slice (some ⟨w1.heap.size + 1, 0, none⟩) 0 0) 0 []) := by
    have := HOWN.out (w1.alloc (.cells #[.bool true, .bool true] 43)) (by have := HSZ.out; simp; omega)
    simp only [World.size_alloc] at this
    exact Lib.hid this
  have PS := S1.out.sp
  have PSd := S1.out.sp.drew
  go_region_held3 (fun w' => Sp w true (.slice ad n cap) w' ∧ w'.cell? ⟨w.heap.size, 0, none⟩ = some (.bool true) ∧ w'.cell? ⟨w.heap.size, 1, none⟩ = some (.slice ad n cap))
    (first | (refine Sp.all ?_; with_reducible assumption) | (refine Sp.all (Sp.alloc ?_ _); with_reducible assumption) | (refine Sp.all (Sp.drew (Sp.alloc ?_ _)); with_reducible assumption) | (refine Sp.all (Sp.drew (Sp.alloc (Sp.alloc ?_ _) _)); with_reducible assumption) | (refine Sp.all (Sp.set2 ?_ _ _); with_reducible assumption))
    (first
    | (refine step_append_0 shF rfl _ _ 22 rfl w.heap.size 43 i0 _ 2 Try.underlying22 hi hz0 hz1 hz2 rfl (.slice (some ⟨w1.heap.size, 0, none⟩) 0 0) l rfl (XA.out) ad n cap rfl hm (HA1.out.step (below_alloc w1 (.cells #[] 43)).drew) (by unfold maxLen; omega) (by omega) (by have := HSZ.out; simp; omega) ?_; intro ra rc w4 own4 grow4; have SA := Lib.hid (Sc.grown (S1.out.step (below_alloc w1 (.cells #[] 43)).drew) XA.out (Nat.le_refl _) grow4); have OA := Lib.hid own4; clear own4 grow4; have TT := SA.out.sp)
    | (refine step_append_0 shF rfl _ _ 22 rfl w.heap.size 43 i0 _ 2 Try.underlying22 hi hz0 hz1 hz2 rfl (.slice (some ⟨w1.heap.size, 0, none⟩) 0 0) l rfl (XB.out) ad n cap rfl hm (HA1.out.step (below_two w1 (.cells #[] 43) (.cells #[.bool true, .bool true] 43)).drew) (by unfold maxLen; omega) (by omega) (by have := HSZ.out; simp; omega) ?_; intro ra rc w4 own4 grow4; have SB := Lib.hid (Sc.grown (S1.out.step (below_two w1 (.cells #[] 43) (.cells #[.bool true, .bool true] 43)).drew) XB.out (Nat.le_refl _) grow4); have OB := Lib.hid own4; have FB := Lib.hid (fr_grown (w := ((w1.alloc (.cells #[] 43)).alloc (.cells #[.bool true, .bool true] 43)).drew) (cap := 1) (heap_alloc2_new w1 (.cells #[] 43) (.cells #[.bool true, .bool true] 43)) grow4 (by show ¬ w1.heap.size + 1 = w1.heap.size; omega)); clear own4 grow4; have TT := SB.out.sp)
    | (refine step_append_0 shF rfl _ _ 22 rfl w.heap.size 43 i0 _ 2 Try.underlying22 hi hz0 hz1 hz2 rfl (.slice (some ⟨w1.heap.size + 1, 0, none⟩) 0 0) l rfl (XC.out) ad n cap rfl hm (HA1.out.step (below_two w1 (.cells #[.bool true, .bool true] 43) (.cells #[] 43)).drew) (by unfold maxLen; omega) (by omega) (by have := HSZ.out; simp; omega) ?_; intro ra rc w4 own4 grow4; have SC := Lib.hid (Sc.grown (S1.out.step (below_two w1 (.cells #[.bool true, .bool true] 43) (.cells #[] 43)).drew) XC.out (Nat.le_refl _) grow4); have OC := Lib.hid own4; have FC := Lib.hid (fr_grown (w := ((w1.alloc (.cells #[.bool true, .bool true] 43)).alloc (.cells #[] 43)).drew) (cap := 1) (heap_under' w1 (.cells #[.bool true, .bool true] 43) (.cells #[] 43)) grow4 (by show ¬ w1.heap.size = w1.heap.size + 1; omega)); clear own4 grow4; have TT := SC.out.sp)
    | (refine step_append_n shF rfl _ _ 22 rfl w.heap.size 43 i0 _ 2 Try.underlying22 hi hz0 hz1 hz2 rfl (.slice ra n rc) n l [⟨true, true⟩] hm rfl (own_step OA.out (below_alloc w4 (.cells #[.bool true, .bool true] 43))) (some ⟨w4.heap.size, 0, none⟩) 1 1 rfl hm1 (HFR.out w4) (by unfold maxLen; omega) (by omega) (by have := SA.out.b.size; simp; omega) ?_; intro ra5 rc5 w5 own5 grow5 _; have S5 := Lib.hid (Sc.grown (SA.out.step (below_alloc w4 (.cells #[.bool true, .bool true] 43))) (own_step OA.out (below_alloc w4 (.cells #[.bool true, .bool true] 43))) (Nat.le_refl _) grow5); have O5 := Lib.hid own5; clear own5 grow5; have TT := S5.out.sp; have G5 := S5.out.cells)
    | (refine step_append_n shF rfl _ _ 22 rfl w.heap.size 43 i0 _ 2 Try.underlying22 hi hz0 hz1 hz2 rfl (.slice ra n rc) n l [⟨true, true⟩] hm rfl (OB.out) (some ⟨w1.heap.size + 1, 0, none⟩) 1 1 rfl hm1 (FB.out) (by unfold maxLen; omega) (by omega) (by have := SB.out.b.size; simp; omega) ?_; intro ra5 rc5 w5 own5 grow5 _; have S5 := Lib.hid (Sc.grown SB.out (OB.out) (Nat.le_refl _) grow5); have O5 := Lib.hid own5; clear own5 grow5; have TT := S5.out.sp; have G5 := S5.out.cells)
    | (refine step_append_n shF rfl _ _ 22 rfl w.heap.size 43 i0 _ 2 Try.underlying22 hi hz0 hz1 hz2 rfl (.slice ra n rc) n l [⟨true, true⟩] hm rfl (OC.out) (some ⟨w1.heap.size, 0, none⟩) 1 1 rfl hm1 (FC.out) (by unfold maxLen; omega) (by omega) (by have := SC.out.b.size; simp; omega) ?_; intro ra5 rc5 w5 own5 grow5 _; have S5 := Lib.hid (Sc.grown SC.out (OC.out) (Nat.le_refl _) grow5); have O5 := Lib.hid own5; clear own5 grow5; have TT := S5.out.sp; have G5 := S5.out.cells)
    | fail)
  all_goals go_wp2_with fail
  all_goals refine bodyPost_ret (results_row_tmp1 rfl _ _ (w.heap.size + 1) 24 #[.bool false, .slice ra5 (n + 1) rc5] (0, 0) _ rfl (res_stored S5.out.z) Try.underlying24 rfl size_core) rfl ?_
  all_goals have n1 := own_ne O5.out S5.out.z (by decide)
  all_goals exact ⟨_, _, rfl, own_set (own_set O5.out n1 _) n1 _, set2_below _ _ S5.out.b (by omega)⟩
end Go.Proofs.Yteeejkcehajokaa
