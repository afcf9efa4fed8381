/- SoftPart: what ran up to a raise does not hang on it. -/
import Derived.Test.YtnaplbkigebdiaaSofS
import Derived.Test.YtnaplbkigebdiaaSofR
import Derived.Test.YtnaplbkigebdiaaSofO
import Derived.Deep.RegionHeld3
import Derived.Deep.Cut
namespace Go.Proofs.Ytnaplbkigebdiaa
open Go.RowKit

/-- The raise's box, and what was there before. -/
structure Bx (w1 : World) (bx : Nat) (x y : Int) (wx : World) : Prop where
  b : Below w1.heap.size w1 wx
  o : wx.heap[bx]? = some (.cells #[.int .i64 x, .int .i64 y] 35 (0, 0))
  l : bx < w1.heap.size
section
variable {w1 wx wy : World} {b : Nat} {x y : Int}
theorem Bx.step (h : Bx w1 b x y wx) (hb : Below wx.heap.size wx wy) : Bx w1 b x y wy := ⟨pstep h.b hb, heap_step h.o hb, h.l⟩
theorem Bx.all (h : Bx w1 b x y wx) : Bx w1 b x y wx ∧ wx.cell? ⟨b, 0, none⟩ = some (.int .i64 x) ∧ wx.cell? ⟨b, 1, none⟩ = some (.int .i64 y) := ⟨h, pair_at h.o⟩
theorem Bx.drew (h : Bx w1 b x y wx) : Bx w1 b x y wx.drew := ⟨h.b.drew, h.o, h.l⟩
theorem Bx.alloc (h : Bx w1 b x y wx) (o : Obj) : Bx w1 b x y (wx.alloc o) := h.step (below_alloc _ _)
theorem Bx.grown {M n : Nat} {e size : Nat} {v : Value} {xs : List Value} (h : Bx w1 b x y wx) (ho : wx.ownsRow M e size v n xs) (hM : w1.heap.size ≤ M) (hg : wx.grownBy wy v.ownBlock) : Bx w1 b x y wy :=
  ⟨h.b.grown hg h.b.size (fun k hk => Nat.le_trans hM (own_lt ho hk).1), (hg.block _ (heap_lt h.o) (fun e => by have := (own_lt ho e.symm).1; have := h.l; omega)).trans h.o, h.l⟩
end
theorem ra_lit (X : World) (x y : Int) (cap : Nat) : shR.At (X.alloc (.cells #[.int .i64 x, .int .i64 y] 35)) (some ⟨X.heap.size, 0, none⟩) cap [⟨x, y⟩] :=
  Shape.At.lit (S := shR) [⟨x, y⟩] (heap_alloc_new X _)
theorem own_room {w : World} {base e size n c : Nat} {ad : Option Addr} {xs : List Value} (h : w.ownsRow base e size (.slice ad n c) n xs) : n ≤ c := by
  obtain ⟨ad', cap', hv, hle, _⟩ := own_shape h
  simp only [Value.slice.injEq, true_and] at hv
  rw [hv.2]; exact hle
section
variable {a1 a2 : Option Addr} {c1 c2 n m : Nat} {pd : List Int} {rs : List RaT}
theorem run_one (w : World) (HA : Hid (shI.At w a1 c1 pd)) (hm : Hid (pd.length = n)) (hn : n ≤ 9223372036854775807) (HR : Hid (shR.At w a2 c2 rs)) (hm2 : Hid (rs.length = m)) (hn2 : m ≤ 9223372036854775807) (hc2 : m ≤ c2) (HV : Hid (RtJ pd rs)) :
    Calls Try.prog 8 #[.slice a1 n c1, .slice a2 m c2, .int .i64 1] w fun e w' => ∃ ea ec, e = .returned (.tuple #[.slice ea (runJ pd rs).length ec, .int .i64 (firstJ pd rs 1 : Int), .int .i64 0]) ∧ shI.At w' ea ec (natL (runJ pd rs)) ∧ (runJ pd rs).length ≤ ec ∧ Below w.heap.size w w' :=
  run_ok 1 w HA hm hn HR hm2 hn2 hc2 HV (by decide)
set_option maxHeartbeats 4000000 in
set_option maxRecDepth 100000 in
theorem part_bb (x y : Int) (w : World) (HA : Hid (shI.At w a1 c1 pd)) (hm : Hid (pd.length = n)) (hn : n ≤ 9223372036854775807) (HR : Hid (shR.At w a2 c2 rs)) (hm2 : Hid (rs.length = m)) (hn2 : m ≤ 8796093021952) (h : ¬ RtJ pd rs) :
    Calls Try.prog 7 #[.slice a1 n c1, .slice a2 m c2, .agg #[.int .i64 x, .int .i64 y]] w fun e w' => e = .returned (.bool true) ∧ Below w.heap.size w w' := by
  obtain ⟨q, q1, q2, HQ⟩ := run_bad 1 a1 a2 c1 c2 hm hn hm2 (by omega : m ≤ 9223372036854775807) (fun z => h z.1)
  have h2 : ¬ RtJ pd (rs ++ [(⟨x, y⟩ : RaT)]) := fun z => h (rt_pre z)
  obtain ⟨i0, hi, hz0, hz1, hz2⟩ := info_parts' info_raise
  have X0 : Bx (w.alloc (.cells #[.int .i64 x, .int .i64 y] 35)) w.heap.size x y (w.alloc (.cells #[.int .i64 x, .int .i64 y] 35)) := ⟨Below.refl _ _, heap_alloc_new w _, by simp⟩
  have X1 := Lib.hid X0
  have HAF := Lib.hid (HA.out.step (below_alloc w (.cells #[.int .i64 x, .int .i64 y] 35)))
  have HRF := Lib.hid (HR.out.step (below_alloc w (.cells #[.int .i64 x, .int .i64 y] 35)))
  have hm1 : Hid (([⟨x, y⟩] : List RaT).length = 1) := Lib.hid rfl
  have hm9 : m ≤ 8796093022208 := by omega
  have hn9 : m ≤ 9223372036854775807 := by omega
  have hn9' : m + 1 ≤ 9223372036854775807 := by omega
  have HM5 : Hid ((rs ++ [(⟨x, y⟩ : RaT)]).length = m + 1) := Lib.hid (by rw [List.length_append, hm2.out]; rfl)
  clear X0
  have HXX : ∃ u : Int, (u != 0) = true ∧ (u == 0) = false ∧ ∀ (w : World) (ra : Option Addr) (rc : Nat), Hid (shI.At w a1 c1 pd) → Hid (shR.At w ra rc (rs ++ [(⟨x, y⟩ : RaT)])) → Calls Try.prog 8 #[.slice a1 n c1, .slice ra (m + 1) rc, .int .i64 1] w (RunErr w u) := ⟨1, rfl, rfl, fun w ra rc HA HR => run_form 1 w HA hm hn HR HM5 hn9' (Lib.hid h2)⟩
  obtain ⟨u, u1, u2, HX⟩ := HXX
  clear h h2
  go_enter Try.func7, Try.ntmps7
  go_upto_region 4 with (first
    | (go_at_call 13; (with_reducible refine (alive10_N _).mono ?_); rintro e w1 ⟨rfl, hb⟩; have X2 := Lib.hid (X1.out.step hb); have HA1 := Lib.hid (HAF.out.step hb); have HR1 := Lib.hid (HRF.out.step hb); clear hb)
    | (go_at_call 8; (with_reducible refine (HQ _ HA1 HR1).mono ?_); rintro e w2 ⟨rfl, hb⟩; have X3 := Lib.hid (X2.out.step hb); have HA2 := Lib.hid (HA1.out.step hb); have HR2 := Lib.hid (HR1.out.step hb); clear hb)
    | fail)
  have Y0 : Bx w2 w.heap.size x y w2 := ⟨Below.refl _ _, X3.out.o, heap_lt X3.out.o⟩
  have XD := Y0.drew
  have X3a := Y0.alloc (.cells #[.int .i64 x, .int .i64 y] 35)
  have X3b := (Y0.alloc (.cells #[.int .i64 x, .int .i64 y] 35)).drew
  have B02 := Lib.hid (pstep (below_alloc w (.cells #[.int .i64 x, .int .i64 y] 35)) X3.out.b)
  have HD1 := Lib.hid (HR2.out.step (Below.refl _ w2).drew)
  have HD2 := Lib.hid (HR2.out.step (below_alloc w2 (.cells #[.int .i64 x, .int .i64 y] 35)).drew)
  have FB0 := Lib.hid (ra_lit w2 x y 1)
  go_region_held3 (fun w' => Bx w2 w.heap.size x y w' ∧ w'.cell? ⟨w.heap.size, 0, none⟩ = some (.int .i64 x) ∧ w'.cell? ⟨w.heap.size, 1, none⟩ = some (.int .i64 y))
    (first | (refine Bx.all ?_; with_reducible assumption) | (refine Bx.all (Bx.alloc ?_ _); with_reducible assumption) | (refine Bx.all (Bx.drew (Bx.alloc ?_ _)); with_reducible assumption) | (refine Bx.all (Bx.alloc (Bx.drew ?_) _); with_reducible assumption))
    (first
    | (go_at_call 18; (with_reducible refine (clone_R rs a2 m c2 _ hm2 HD1 hm9).mono ?_); rintro e w4 ⟨ra, rc, rfl, own, hb⟩; have TT := Y0.drew.step hb; have SA := Lib.hid TT; have OA := Lib.hid (own_base (base' := w2.heap.size) own (Nat.le_refl _)); have hz4 : w2.heap.size ≤ w4.heap.size := (by have := hb.size; simpa using this); clear hb own)
    | (go_at_call 18; (with_reducible refine (clone_R rs a2 m c2 _ hm2 HD2 hm9).mono ?_); rintro e w4 ⟨ra, rc, rfl, own, hb⟩; have TT := (Y0.alloc (.cells #[.int .i64 x, .int .i64 y] 35)).drew.step hb; have SB := Lib.hid TT; have OB := Lib.hid (own_base (base' := w2.heap.size) own (by simp)); have FB := Lib.hid ((FB0.out.step (Below.refl _ _).drew).step hb); have hz4 : w2.heap.size ≤ w4.heap.size := (by have := hb.size; simp at this; omega); clear hb own)
    | (refine step_append_n shR rfl _ _ 23 rfl w2.heap.size 35 i0 _ 16 Try.underlying23 hi hz0 hz1 hz2 rfl (.slice ra m rc) m rs [⟨x, y⟩] hm2 rfl (own_step OA.out (below_alloc w4 (.cells #[.int .i64 x, .int .i64 y] 35))) (some ⟨w4.heap.size, 0, none⟩) 1 1 rfl hm1 (ra_lit w4 x y 1) (by unfold maxLen; omega) (by omega) (by simp; omega) ?_; intro ra5 rc5 w5 own5 grow5 _; have TT := (SA.out.alloc (.cells #[.int .i64 x, .int .i64 y] 35)).grown (own_step OA.out (below_alloc w4 (.cells #[.int .i64 x, .int .i64 y] 35))) (Nat.le_refl _) grow5; have S5 := Lib.hid TT; have HR5 := Lib.hid (Shape.At.own (S := shR) own5 HM5.out); have hrc5 := own_room own5; have HA5 := Lib.hid (HA2.out.step S5.out.b); clear own5 grow5)
    | (refine step_append_n shR rfl _ _ 23 rfl w2.heap.size 35 i0 _ 16 Try.underlying23 hi hz0 hz1 hz2 rfl (.slice ra m rc) m rs [⟨x, y⟩] hm2 rfl OB.out (some ⟨w2.heap.size, 0, none⟩) 1 1 rfl hm1 FB.out (by unfold maxLen; omega) (by omega) hz4 ?_; intro ra5 rc5 w5 own5 grow5 _; have TT := SB.out.grown OB.out (Nat.le_refl _) grow5; have S5 := Lib.hid TT; have HR5 := Lib.hid (Shape.At.own (S := shR) own5 HM5.out); have hrc5 := own_room own5; have HA5 := Lib.hid (HA2.out.step S5.out.b); clear own5 grow5)
    | (go_at_call 8; (with_reducible refine (HX _ _ _ HA5 HR5).mono ?_); rintro e w6 ⟨rfl, hb⟩; have TT := S5.out.step hb; have B6 := Lib.hid (pstep B02.out TT.b); have C6 := TT.o; have hC6 := heap_lt C6; have D6 := pair_at C6; clear hb)
    | fail)
  all_goals go_wp2_with fail
  all_goals go_ret
  all_goals exact ⟨rfl, B6.out⟩
set_option maxHeartbeats 4000000 in
set_option maxRecDepth 100000 in
theorem part_ob (x y : Int) (w : World) (HA : Hid (shI.At w a1 c1 pd)) (hm : Hid (pd.length = n)) (hn : n ≤ 9223372036854775807) (HR : Hid (shR.At w a2 c2 rs)) (hm2 : Hid (rs.length = m)) (hn2 : m ≤ 8796093021952) (hc2 : m ≤ c2) (HV : Hid (RtJ pd rs)) (h2 : ¬ RtJ pd (rs ++ [(⟨x, y⟩ : RaT)])) :
    Calls Try.prog 7 #[.slice a1 n c1, .slice a2 m c2, .agg #[.int .i64 x, .int .i64 y]] w fun e w' => e = .returned (.bool true) ∧ Below w.heap.size w w' := by
  obtain ⟨i0, hi, hz0, hz1, hz2⟩ := info_parts' info_raise
  have X0 : Bx (w.alloc (.cells #[.int .i64 x, .int .i64 y] 35)) w.heap.size x y (w.alloc (.cells #[.int .i64 x, .int .i64 y] 35)) := ⟨Below.refl _ _, heap_alloc_new w _, by simp⟩
  have X1 := Lib.hid X0
  have HAF := Lib.hid (HA.out.step (below_alloc w (.cells #[.int .i64 x, .int .i64 y] 35)))
  have HRF := Lib.hid (HR.out.step (below_alloc w (.cells #[.int .i64 x, .int .i64 y] 35)))
  have hm1 : Hid (([⟨x, y⟩] : List RaT).length = 1) := Lib.hid rfl
  have hm9 : m ≤ 8796093022208 := by omega
  have hn9 : m ≤ 9223372036854775807 := by omega
  have hn9' : m + 1 ≤ 9223372036854775807 := by omega
  have HM5 : Hid ((rs ++ [(⟨x, y⟩ : RaT)]).length = m + 1) := Lib.hid (by rw [List.length_append, hm2.out]; rfl)
  clear X0
  have HXX : ∃ u : Int, (u != 0) = true ∧ (u == 0) = false ∧ ∀ (w : World) (ra : Option Addr) (rc : Nat), Hid (shI.At w a1 c1 pd) → Hid (shR.At w ra rc (rs ++ [(⟨x, y⟩ : RaT)])) → Calls Try.prog 8 #[.slice a1 n c1, .slice ra (m + 1) rc, .int .i64 1] w (RunErr w u) := ⟨1, rfl, rfl, fun w ra rc HA HR => run_form 1 w HA hm hn HR HM5 hn9' (Lib.hid h2)⟩
  obtain ⟨u, u1, u2, HX⟩ := HXX
  clear h2
  go_enter Try.func7, Try.ntmps7
  go_upto_region 4 with (first
    | (go_at_call 13; (with_reducible refine (alive10_N _).mono ?_); rintro e w1 ⟨rfl, hb⟩; have X2 := Lib.hid (X1.out.step hb); have HA1 := Lib.hid (HAF.out.step hb); have HR1 := Lib.hid (HRF.out.step hb); clear hb)
    | (go_at_call 8; (with_reducible refine (run_one _ HA1 hm hn HR1 hm2 hn9 hc2 HV).mono ?_); rintro e w2 ⟨la, lc, rfl, hE, _, hb⟩; have X3 := Lib.hid (X2.out.step hb); have HA2 := Lib.hid (HA1.out.step hb); have HR2 := Lib.hid (HR1.out.step hb); clear hb hE)
    | fail)
  have Y0 : Bx w2 w.heap.size x y w2 := ⟨Below.refl _ _, X3.out.o, heap_lt X3.out.o⟩
  have XD := Y0.drew
  have X3a := Y0.alloc (.cells #[.int .i64 x, .int .i64 y] 35)
  have X3b := (Y0.alloc (.cells #[.int .i64 x, .int .i64 y] 35)).drew
  have B02 := Lib.hid (pstep (below_alloc w (.cells #[.int .i64 x, .int .i64 y] 35)) X3.out.b)
  have HD1 := Lib.hid (HR2.out.step (Below.refl _ w2).drew)
  have HD2 := Lib.hid (HR2.out.step (below_alloc w2 (.cells #[.int .i64 x, .int .i64 y] 35)).drew)
  have FB0 := Lib.hid (ra_lit w2 x y 1)
  go_region_held3 (fun w' => Bx w2 w.heap.size x y w' ∧ w'.cell? ⟨w.heap.size, 0, none⟩ = some (.int .i64 x) ∧ w'.cell? ⟨w.heap.size, 1, none⟩ = some (.int .i64 y))
    (first | (refine Bx.all ?_; with_reducible assumption) | (refine Bx.all (Bx.alloc ?_ _); with_reducible assumption) | (refine Bx.all (Bx.drew (Bx.alloc ?_ _)); with_reducible assumption) | (refine Bx.all (Bx.alloc (Bx.drew ?_) _); with_reducible assumption))
    (first
    | (go_at_call 18; (with_reducible refine (clone_R rs a2 m c2 _ hm2 HD1 hm9).mono ?_); rintro e w4 ⟨ra, rc, rfl, own, hb⟩; have TT := Y0.drew.step hb; have SA := Lib.hid TT; have OA := Lib.hid (own_base (base' := w2.heap.size) own (Nat.le_refl _)); have hz4 : w2.heap.size ≤ w4.heap.size := (by have := hb.size; simpa using this); clear hb own)
    | (go_at_call 18; (with_reducible refine (clone_R rs a2 m c2 _ hm2 HD2 hm9).mono ?_); rintro e w4 ⟨ra, rc, rfl, own, hb⟩; have TT := (Y0.alloc (.cells #[.int .i64 x, .int .i64 y] 35)).drew.step hb; have SB := Lib.hid TT; have OB := Lib.hid (own_base (base' := w2.heap.size) own (by simp)); have FB := Lib.hid ((FB0.out.step (Below.refl _ _).drew).step hb); have hz4 : w2.heap.size ≤ w4.heap.size := (by have := hb.size; simp at this; omega); clear hb own)
    | (refine step_append_n shR rfl _ _ 23 rfl w2.heap.size 35 i0 _ 16 Try.underlying23 hi hz0 hz1 hz2 rfl (.slice ra m rc) m rs [⟨x, y⟩] hm2 rfl (own_step OA.out (below_alloc w4 (.cells #[.int .i64 x, .int .i64 y] 35))) (some ⟨w4.heap.size, 0, none⟩) 1 1 rfl hm1 (ra_lit w4 x y 1) (by unfold maxLen; omega) (by omega) (by simp; omega) ?_; intro ra5 rc5 w5 own5 grow5 _; have TT := (SA.out.alloc (.cells #[.int .i64 x, .int .i64 y] 35)).grown (own_step OA.out (below_alloc w4 (.cells #[.int .i64 x, .int .i64 y] 35))) (Nat.le_refl _) grow5; have S5 := Lib.hid TT; have HR5 := Lib.hid (Shape.At.own (S := shR) own5 HM5.out); have hrc5 := own_room own5; have HA5 := Lib.hid (HA2.out.step S5.out.b); clear own5 grow5)
    | (refine step_append_n shR rfl _ _ 23 rfl w2.heap.size 35 i0 _ 16 Try.underlying23 hi hz0 hz1 hz2 rfl (.slice ra m rc) m rs [⟨x, y⟩] hm2 rfl OB.out (some ⟨w2.heap.size, 0, none⟩) 1 1 rfl hm1 FB.out (by unfold maxLen; omega) (by omega) hz4 ?_; intro ra5 rc5 w5 own5 grow5 _; have TT := SB.out.grown OB.out (Nat.le_refl _) grow5; have S5 := Lib.hid TT; have HR5 := Lib.hid (Shape.At.own (S := shR) own5 HM5.out); have hrc5 := own_room own5; have HA5 := Lib.hid (HA2.out.step S5.out.b); clear own5 grow5)
    | (go_at_call 8; (with_reducible refine (HX _ _ _ HA5 HR5).mono ?_); rintro e w6 ⟨rfl, hb⟩; have TT := S5.out.step hb; have B6 := Lib.hid (pstep B02.out TT.b); have C6 := TT.o; have hC6 := heap_lt C6; have D6 := pair_at C6; clear hb)
    | fail)
  all_goals go_wp2_with fail
  all_goals go_ret
  all_goals exact ⟨rfl, B6.out⟩
set_option maxHeartbeats 4000000 in
set_option maxRecDepth 100000 in
theorem part_far (x y : Int) (w : World) (HA : Hid (shI.At w a1 c1 pd)) (hm : Hid (pd.length = n)) (hn : n ≤ 9223372036854775807) (HR : Hid (shR.At w a2 c2 rs)) (hm2 : Hid (rs.length = m)) (hn2 : m ≤ 8796093021952) (hc2 : m ≤ c2) (HV : Hid (RtJ pd rs)) (HV2 : Hid (RtJ pd (rs ++ [(⟨x, y⟩ : RaT)]))) (hx : ((runJ pd rs).length : Int) < x) :
    Calls Try.prog 7 #[.slice a1 n c1, .slice a2 m c2, .agg #[.int .i64 x, .int .i64 y]] w fun e w' => e = .returned (.bool true) ∧ Below w.heap.size w w' := by
  obtain ⟨i0, hi, hz0, hz1, hz2⟩ := info_parts' info_raise
  have X0 : Bx (w.alloc (.cells #[.int .i64 x, .int .i64 y] 35)) w.heap.size x y (w.alloc (.cells #[.int .i64 x, .int .i64 y] 35)) := ⟨Below.refl _ _, heap_alloc_new w _, by simp⟩
  have X1 := Lib.hid X0
  have HAF := Lib.hid (HA.out.step (below_alloc w (.cells #[.int .i64 x, .int .i64 y] 35)))
  have HRF := Lib.hid (HR.out.step (below_alloc w (.cells #[.int .i64 x, .int .i64 y] 35)))
  have hm1 : Hid (([⟨x, y⟩] : List RaT).length = 1) := Lib.hid rfl
  have hm9 : m ≤ 8796093022208 := by omega
  have hn9 : m ≤ 9223372036854775807 := by omega
  have hn9' : m + 1 ≤ 9223372036854775807 := by omega
  have HM5 : Hid ((rs ++ [(⟨x, y⟩ : RaT)]).length = m + 1) := Lib.hid (by rw [List.length_append, hm2.out]; rfl)
  clear X0
  have hxd : decide (((runJ pd rs).length : Int) < x) = true := decide_eq_true hx
  go_enter Try.func7, Try.ntmps7
  go_upto_region 4 with (first
    | (go_at_call 13; (with_reducible refine (alive10_N _).mono ?_); rintro e w1 ⟨rfl, hb⟩; have X2 := Lib.hid (X1.out.step hb); have HA1 := Lib.hid (HAF.out.step hb); have HR1 := Lib.hid (HRF.out.step hb); clear hb)
    | (go_at_call 8; (with_reducible refine (run_one _ HA1 hm hn HR1 hm2 hn9 hc2 HV).mono ?_); rintro e w2 ⟨la, lc, rfl, hE, hlc, hb⟩; have X3 := Lib.hid (X2.out.step hb); have HA2 := Lib.hid (HA1.out.step hb); have HR2 := Lib.hid (HR1.out.step hb); have HL2 := Lib.hid hE; clear hb hE)
    | fail)
  have Y0 : Bx w2 w.heap.size x y w2 := ⟨Below.refl _ _, X3.out.o, heap_lt X3.out.o⟩
  have XD := Y0.drew
  have X3a := Y0.alloc (.cells #[.int .i64 x, .int .i64 y] 35)
  have X3b := (Y0.alloc (.cells #[.int .i64 x, .int .i64 y] 35)).drew
  have B02 := Lib.hid (pstep (below_alloc w (.cells #[.int .i64 x, .int .i64 y] 35)) X3.out.b)
  have HD1 := Lib.hid (HR2.out.step (Below.refl _ w2).drew)
  have HD2 := Lib.hid (HR2.out.step (below_alloc w2 (.cells #[.int .i64 x, .int .i64 y] 35)).drew)
  have FB0 := Lib.hid (ra_lit w2 x y 1)
  go_cut [10, 11, 12] from 22 (fun a b c wy => ∃ ma mc, a = .slice ma (runJ pd (rs ++ [(⟨x, y⟩ : RaT)])).length mc ∧ b = .int .i64 (firstJ pd (rs ++ [(⟨x, y⟩ : RaT)]) 1 : Int) ∧ c = .int .i64 0 ∧ Hid (Bx w2 w.heap.size x y wy) ∧ Hid (shI.At wy ma mc (natL (runJ pd (rs ++ [(⟨x, y⟩ : RaT)])))) ∧ Hid ((runJ pd (rs ++ [(⟨x, y⟩ : RaT)])).length ≤ mc))
  case first =>
    go_region_held3 (fun w' => Bx w2 w.heap.size x y w' ∧ w'.cell? ⟨w.heap.size, 0, none⟩ = some (.int .i64 x) ∧ w'.cell? ⟨w.heap.size, 1, none⟩ = some (.int .i64 y))
      (first | (refine Bx.all ?_; with_reducible assumption) | (refine Bx.all (Bx.alloc ?_ _); with_reducible assumption) | (refine Bx.all (Bx.drew (Bx.alloc ?_ _)); with_reducible assumption) | (refine Bx.all (Bx.alloc (Bx.drew ?_) _); with_reducible assumption))
      (first
      | (go_at_call 18; (with_reducible refine (clone_R rs a2 m c2 _ hm2 HD1 hm9).mono ?_); rintro e w4 ⟨ra, rc, rfl, own, hb⟩; have TT := Y0.drew.step hb; have SA := Lib.hid TT; have OA := Lib.hid (own_base (base' := w2.heap.size) own (Nat.le_refl _)); have hz4 : w2.heap.size ≤ w4.heap.size := (by have := hb.size; simpa using this); clear hb own)
      | (go_at_call 18; (with_reducible refine (clone_R rs a2 m c2 _ hm2 HD2 hm9).mono ?_); rintro e w4 ⟨ra, rc, rfl, own, hb⟩; have TT := (Y0.alloc (.cells #[.int .i64 x, .int .i64 y] 35)).drew.step hb; have SB := Lib.hid TT; have OB := Lib.hid (own_base (base' := w2.heap.size) own (by simp)); have FB := Lib.hid ((FB0.out.step (Below.refl _ _).drew).step hb); have hz4 : w2.heap.size ≤ w4.heap.size := (by have := hb.size; simp at this; omega); clear hb own)
      | (refine step_append_n shR rfl _ _ 23 rfl w2.heap.size 35 i0 _ 16 Try.underlying23 hi hz0 hz1 hz2 rfl (.slice ra m rc) m rs [⟨x, y⟩] hm2 rfl (own_step OA.out (below_alloc w4 (.cells #[.int .i64 x, .int .i64 y] 35))) (some ⟨w4.heap.size, 0, none⟩) 1 1 rfl hm1 (ra_lit w4 x y 1) (by unfold maxLen; omega) (by omega) (by simp; omega) ?_; intro ra5 rc5 w5 own5 grow5 _; have TT := (SA.out.alloc (.cells #[.int .i64 x, .int .i64 y] 35)).grown (own_step OA.out (below_alloc w4 (.cells #[.int .i64 x, .int .i64 y] 35))) (Nat.le_refl _) grow5; have S5 := Lib.hid TT; have HR5 := Lib.hid (Shape.At.own (S := shR) own5 HM5.out); have hrc5 := own_room own5; have HA5 := Lib.hid (HA2.out.step S5.out.b); clear own5 grow5)
      | (refine step_append_n shR rfl _ _ 23 rfl w2.heap.size 35 i0 _ 16 Try.underlying23 hi hz0 hz1 hz2 rfl (.slice ra m rc) m rs [⟨x, y⟩] hm2 rfl OB.out (some ⟨w2.heap.size, 0, none⟩) 1 1 rfl hm1 FB.out (by unfold maxLen; omega) (by omega) hz4 ?_; intro ra5 rc5 w5 own5 grow5 _; have TT := SB.out.grown OB.out (Nat.le_refl _) grow5; have S5 := Lib.hid TT; have HR5 := Lib.hid (Shape.At.own (S := shR) own5 HM5.out); have hrc5 := own_room own5; have HA5 := Lib.hid (HA2.out.step S5.out.b); clear own5 grow5)
      | (go_at_call 8; (with_reducible refine (run_one _ HA5 hm hn HR5 HM5 hn9' hrc5 HV2).mono ?_); rintro e w6 ⟨ma, mc, rfl, hE, hmc, hb⟩; have TT := S5.out.step hb; have S6 := Lib.hid TT; have KE := Lib.hid hE; clear hE hb)
      | fail)
    all_goals go_wp2_with fail
    all_goals go_meet
    all_goals exact ⟨ma, mc, rfl, rfl, rfl, S6, KE, Lib.hid hmc⟩
  case rest =>
    obtain ⟨ma, mc, rfl, rfl, rfl, XY, HM, HMC⟩ := hcut
    have HL := Lib.hid (HL2.out.step XY.out.b)
    have B6 := Lib.hid (pstep B02.out XY.out.b)
    obtain ⟨d0, d1⟩ := pair_at XY.out.o
    have hbo := heap_lt XY.out.o
    clear HA2 HR2 XD X3a X3b HD1 HD2 FB0 HL2
    go_wp2_with fail
    go_ret
    exact ⟨rfl, B6.out⟩
set_option maxHeartbeats 4000000 in
set_option maxRecDepth 100000 in
theorem part_near (x y : Int) (w : World) (HA : Hid (shI.At w a1 c1 pd)) (hm : Hid (pd.length = n)) (hn : n ≤ 9223372036854775807) (HR : Hid (shR.At w a2 c2 rs)) (hm2 : Hid (rs.length = m)) (hn2 : m ≤ 8796093021952) (hc2 : m ≤ c2) (HV : Hid (RtJ pd rs)) (HV2 : Hid (RtJ pd (rs ++ [(⟨x, y⟩ : RaT)]))) (W : Nat) (hW : x = W) (hx : W ≤ (runJ pd rs).length) :
    Calls Try.prog 7 #[.slice a1 n c1, .slice a2 m c2, .agg #[.int .i64 x, .int .i64 y]] w fun e w' => e = .returned (.bool true) ∧ Below w.heap.size w w' := by
  obtain ⟨i0, hi, hz0, hz1, hz2⟩ := info_parts' info_raise
  have X0 : Bx (w.alloc (.cells #[.int .i64 x, .int .i64 y] 35)) w.heap.size x y (w.alloc (.cells #[.int .i64 x, .int .i64 y] 35)) := ⟨Below.refl _ _, heap_alloc_new w _, by simp⟩
  have X1 := Lib.hid X0
  have HAF := Lib.hid (HA.out.step (below_alloc w (.cells #[.int .i64 x, .int .i64 y] 35)))
  have HRF := Lib.hid (HR.out.step (below_alloc w (.cells #[.int .i64 x, .int .i64 y] 35)))
  have hm1 : Hid (([⟨x, y⟩] : List RaT).length = 1) := Lib.hid rfl
  have hm9 : m ≤ 8796093022208 := by omega
  have hn9 : m ≤ 9223372036854775807 := by omega
  have hn9' : m + 1 ≤ 9223372036854775807 := by omega
  have HM5 : Hid ((rs ++ [(⟨x, y⟩ : RaT)]).length = m + 1) := Lib.hid (by rw [List.length_append, hm2.out]; rfl)
  clear X0
  obtain ⟨hx2, hx3⟩ := part_soft HV.out HV2.out (W := W) hW hx
  have HX3 := Lib.hid hx3
  have HWW := Lib.hid hW
  clear hx3 hW
  go_enter Try.func7, Try.ntmps7
  go_upto_region 4 with (first
    | (go_at_call 13; (with_reducible refine (alive10_N _).mono ?_); rintro e w1 ⟨rfl, hb⟩; have X2 := Lib.hid (X1.out.step hb); have HA1 := Lib.hid (HAF.out.step hb); have HR1 := Lib.hid (HRF.out.step hb); clear hb)
    | (go_at_call 8; (with_reducible refine (run_one _ HA1 hm hn HR1 hm2 hn9 hc2 HV).mono ?_); rintro e w2 ⟨la, lc, rfl, hE, hlc, hb⟩; have X3 := Lib.hid (X2.out.step hb); have HA2 := Lib.hid (HA1.out.step hb); have HR2 := Lib.hid (HR1.out.step hb); have HL2 := Lib.hid hE; clear hb hE)
    | fail)
  have Y0 : Bx w2 w.heap.size x y w2 := ⟨Below.refl _ _, X3.out.o, heap_lt X3.out.o⟩
  have XD := Y0.drew
  have X3a := Y0.alloc (.cells #[.int .i64 x, .int .i64 y] 35)
  have X3b := (Y0.alloc (.cells #[.int .i64 x, .int .i64 y] 35)).drew
  have B02 := Lib.hid (pstep (below_alloc w (.cells #[.int .i64 x, .int .i64 y] 35)) X3.out.b)
  have HD1 := Lib.hid (HR2.out.step (Below.refl _ w2).drew)
  have HD2 := Lib.hid (HR2.out.step (below_alloc w2 (.cells #[.int .i64 x, .int .i64 y] 35)).drew)
  have FB0 := Lib.hid (ra_lit w2 x y 1)
  go_cut [10, 11, 12] from 22 (fun a b c wy => ∃ ma mc, a = .slice ma (runJ pd (rs ++ [(⟨x, y⟩ : RaT)])).length mc ∧ b = .int .i64 (firstJ pd (rs ++ [(⟨x, y⟩ : RaT)]) 1 : Int) ∧ c = .int .i64 0 ∧ Hid (Bx w2 w.heap.size x y wy) ∧ Hid (shI.At wy ma mc (natL (runJ pd (rs ++ [(⟨x, y⟩ : RaT)])))) ∧ Hid ((runJ pd (rs ++ [(⟨x, y⟩ : RaT)])).length ≤ mc))
  case first =>
    go_region_held3 (fun w' => Bx w2 w.heap.size x y w' ∧ w'.cell? ⟨w.heap.size, 0, none⟩ = some (.int .i64 x) ∧ w'.cell? ⟨w.heap.size, 1, none⟩ = some (.int .i64 y))
      (first | (refine Bx.all ?_; with_reducible assumption) | (refine Bx.all (Bx.alloc ?_ _); with_reducible assumption) | (refine Bx.all (Bx.drew (Bx.alloc ?_ _)); with_reducible assumption) | (refine Bx.all (Bx.alloc (Bx.drew ?_) _); with_reducible assumption))
      (first
      | (go_at_call 18; (with_reducible refine (clone_R rs a2 m c2 _ hm2 HD1 hm9).mono ?_); rintro e w4 ⟨ra, rc, rfl, own, hb⟩; have TT := Y0.drew.step hb; have SA := Lib.hid TT; have OA := Lib.hid (own_base (base' := w2.heap.size) own (Nat.le_refl _)); have hz4 : w2.heap.size ≤ w4.heap.size := (by have := hb.size; simpa using this); clear hb own)
      | (go_at_call 18; (with_reducible refine (clone_R rs a2 m c2 _ hm2 HD2 hm9).mono ?_); rintro e w4 ⟨ra, rc, rfl, own, hb⟩; have TT := (Y0.alloc (.cells #[.int .i64 x, .int .i64 y] 35)).drew.step hb; have SB := Lib.hid TT; have OB := Lib.hid (own_base (base' := w2.heap.size) own (by simp)); have FB := Lib.hid ((FB0.out.step (Below.refl _ _).drew).step hb); have hz4 : w2.heap.size ≤ w4.heap.size := (by have := hb.size; simp at this; omega); clear hb own)
      | (refine step_append_n shR rfl _ _ 23 rfl w2.heap.size 35 i0 _ 16 Try.underlying23 hi hz0 hz1 hz2 rfl (.slice ra m rc) m rs [⟨x, y⟩] hm2 rfl (own_step OA.out (below_alloc w4 (.cells #[.int .i64 x, .int .i64 y] 35))) (some ⟨w4.heap.size, 0, none⟩) 1 1 rfl hm1 (ra_lit w4 x y 1) (by unfold maxLen; omega) (by omega) (by simp; omega) ?_; intro ra5 rc5 w5 own5 grow5 _; have TT := (SA.out.alloc (.cells #[.int .i64 x, .int .i64 y] 35)).grown (own_step OA.out (below_alloc w4 (.cells #[.int .i64 x, .int .i64 y] 35))) (Nat.le_refl _) grow5; have S5 := Lib.hid TT; have HR5 := Lib.hid (Shape.At.own (S := shR) own5 HM5.out); have hrc5 := own_room own5; have HA5 := Lib.hid (HA2.out.step S5.out.b); clear own5 grow5)
      | (refine step_append_n shR rfl _ _ 23 rfl w2.heap.size 35 i0 _ 16 Try.underlying23 hi hz0 hz1 hz2 rfl (.slice ra m rc) m rs [⟨x, y⟩] hm2 rfl OB.out (some ⟨w2.heap.size, 0, none⟩) 1 1 rfl hm1 FB.out (by unfold maxLen; omega) (by omega) hz4 ?_; intro ra5 rc5 w5 own5 grow5 _; have TT := SB.out.grown OB.out (Nat.le_refl _) grow5; have S5 := Lib.hid TT; have HR5 := Lib.hid (Shape.At.own (S := shR) own5 HM5.out); have hrc5 := own_room own5; have HA5 := Lib.hid (HA2.out.step S5.out.b); clear own5 grow5)
      | (go_at_call 8; (with_reducible refine (run_one _ HA5 hm hn HR5 HM5 hn9' hrc5 HV2).mono ?_); rintro e w6 ⟨ma, mc, rfl, hE, hmc, hb⟩; have TT := S5.out.step hb; have S6 := Lib.hid TT; have KE := Lib.hid hE; clear hE hb)
      | fail)
    all_goals go_wp2_with fail
    all_goals go_meet
    all_goals exact ⟨ma, mc, rfl, rfl, rfl, S6, KE, Lib.hid hmc⟩
  case rest =>
    obtain ⟨ma, mc, rfl, rfl, rfl, XY, HM, HMC⟩ := hcut
    have HL := Lib.hid (HL2.out.step XY.out.b)
    have B6 := Lib.hid (pstep B02.out XY.out.b)
    obtain ⟨d0, d1⟩ := pair_at XY.out.o
    have hbo := heap_lt XY.out.o
    clear HA2 HR2 XD X3a X3b HD1 HD2 FB0 HL2
    obtain rfl := HWW.out
    obtain ⟨T, hT⟩ : ∃ T, (runJ pd rs).length = T := ⟨_, rfl⟩
    obtain ⟨T2, hT2⟩ : ∃ T, (runJ pd (rs ++ [(⟨(W : Int), y⟩ : RaT)])).length = T := ⟨_, rfl⟩
    have hT4 : T ≤ 408 := by rw [← hT]; exact run_big HV.out
    have hT24 : T2 ≤ 408 := by rw [← hT2]; exact run_big HV2.out
    simp only [hT] at hx hlc ⊢
    simp only [hT2] at hx2 HMC ⊢
    have hmc := HMC.out
    have g1 : decide (T < W) = false := decide_eq_false (by omega)
    have g2 : decide (W ≤ T2) = true := decide_eq_true hx2
    have g3 : (W : Int) ≤ (lc : Int) := by omega
    have g4 : (W : Int) ≤ (mc : Int) := by omega
    have g5 : (0 : Int) ≤ (W : Int) := by omega
    have g6 : W ≤ lc := by omega
    have g7 : W ≤ mc := by omega
    have LW : Hid ((natL ((runJ pd rs).take W)).length = W) := Lib.hid (by rw [natL_len, List.length_take, hT]; omega)
    have hWb : W ≤ 9223372036854775807 := by omega
    have EQ := Lib.hid (fun q => equalQ (a1 := la) (a2 := ma) (c1 := lc) (c2 := mc) (wc.drewN q) LW (Lib.hid (by rw [natL_take]; exact (HL.out.step (below_drewN (Below.refl _ _) q)).take W)) (Lib.hid (by rw [HX3.out, natL_take]; exact (HM.out.step (below_drewN (Below.refl _ _) q)).take W)) hWb)
    clear hT hT2 HMC
    go_wp2_with fail
    go_quiet ((go_at_call 12; exact Calls.quiet_of (EQ.out _)))
    go_wp2_with fail
    go_ret
    exact ⟨rfl, below_drewN B6.out _⟩
theorem softPart_walk (v u r : Value) (w : World) (h : ArgKs w v) (h2 : ArgRas w u) (hr : ArgRa w r) (hl : lenOf u ≤ 8796093021952) : Calls Try.prog 7 #[v, u, r] w fun e w' => e = .returned (.bool true) ∧ Below w.heap.size w w' := by
  obtain ⟨a1, c1, pd, rfl, hA, hn, _⟩ := h
  obtain ⟨a2, c2, rs, rfl, hR, hn2, hc2⟩ := h2
  obtain ⟨x, y, rfl⟩ := hr
  simp only [lenOf] at hl
  by_cases q1 : RtJ pd rs
  · by_cases q2 : RtJ pd (rs ++ [(⟨x, y⟩ : RaT)])
    · have h0 := last_nonneg q2
      simp only at h0
      by_cases q3 : ((runJ pd rs).length : Int) < x
      · exact part_far x y w (Lib.hid hA) (Lib.hid rfl) hn (Lib.hid hR) (Lib.hid rfl) hl hc2 (Lib.hid q1) (Lib.hid q2) q3
      · exact part_near x y w (Lib.hid hA) (Lib.hid rfl) hn (Lib.hid hR) (Lib.hid rfl) hl hc2 (Lib.hid q1) (Lib.hid q2) x.toNat (by omega) (by omega)
    · exact part_ob x y w (Lib.hid hA) (Lib.hid rfl) hn (Lib.hid hR) (Lib.hid rfl) hl hc2 (Lib.hid q1) q2
  · exact part_bb x y w (Lib.hid hA) (Lib.hid rfl) hn (Lib.hid hR) (Lib.hid rfl) hl q1
end
end Go.Proofs.Ytnaplbkigebdiaa
