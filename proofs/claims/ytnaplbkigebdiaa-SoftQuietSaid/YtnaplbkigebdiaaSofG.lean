/- Package soft: corebellkeep.alive10. -/
import Derived.Test.YtnaplbkigebdiaaSofF
import Derived.Test.YtnaplbkigebdiaaEqN
namespace Go.Proofs.Ytnaplbkigebdiaa
open Go.RowKit

def alP : List Int := [5, 2]
def alR : List RaT := [⟨1, 1⟩, ⟨1, 5⟩, ⟨4, 0⟩]
theorem al_rt : RtJ alP alR := by
  refine ⟨fun x hx => ?_, by decide, fun j r hr => ?_⟩
  · simp [alP] at hx; omega
  · match j, hr with
    | 0, hr => cases hr; simp [RaOk, prevAt]
    | 1, hr => cases hr; simp [RaOk, prevAt, alR]
    | 2, hr => cases hr; simp [RaOk, prevAt, alR]
    | j + 3, hr => simp [alR] at hr
theorem al_end : EmptyJ (rdJ alP alR 3).now := (any_empty _).1 (by decide)
theorem al_run : runJ alP alR = [2, 5, 1, 5, 0] := by
  rw [← run_of al_rt al_end]; decide
theorem al_first : firstJ alP alR 1 = 2 := by decide
theorem al_nat : natL (runJ alP alR) = [2, 5, 1, 5, 0] := by rw [al_run]; rfl
theorem alRun {b b' : Nat} (w : World) (HA : Hid (shI.At w (some ⟨b, 0, none⟩) 2 alP)) (HR : Hid (shR.At w (some ⟨b', 0, none⟩) 3 alR)) :
    Calls Try.prog 8 #[.slice (some ⟨b, 0, none⟩) 2 2, .slice (some ⟨b', 0, none⟩) 3 3, .int .i64 1] w fun e w' => ∃ ea ec, e = .returned (.tuple #[.slice ea 5 ec, .int .i64 2, .int .i64 0]) ∧ shI.At w' ea ec [2, 5, 1, 5, 0] ∧ Below w.heap.size w w' := by
  refine (run_ok 1 w HA (Lib.hid rfl) (by decide) HR (Lib.hid rfl) (by decide) (by decide) (Lib.hid al_rt) (by decide)).mono ?_
  rintro e w' ⟨ea, ec, rfl, h2, _, h3⟩
  rw [al_nat] at h2
  rw [al_first, show (runJ alP alR).length = 5 by rw [al_run]; rfl]
  exact ⟨ea, ec, rfl, h2, h3⟩
set_option maxHeartbeats 1000000 in
set_option maxRecDepth 100000 in
theorem alive10_N (w : World) : Calls Try.prog 13 #[] w fun e w' => e = .returned (.bool true) ∧ Below w.heap.size w w' := by
  have B0 := Lib.hid (below_two w (.cells #[.int .i64 5, .int .i64 2] 3) (.cells #[.int .i64 1, .int .i64 1, .int .i64 1, .int .i64 5, .int .i64 4, .int .i64 0] 35))
  have HO : Hid (shI.At ((w.alloc (.cells #[.int .i64 5, .int .i64 2] 3)).alloc (.cells #[.int .i64 1, .int .i64 1, .int .i64 1, .int .i64 5, .int .i64 4, .int .i64 0] 35)) (some ⟨w.heap.size, 0, none⟩) 2 alP) := Lib.hid (Shape.At.lit (T := 3) alP (heap_alloc2_old w _ _))
  have HR : Hid (shR.At ((w.alloc (.cells #[.int .i64 5, .int .i64 2] 3)).alloc (.cells #[.int .i64 1, .int .i64 1, .int .i64 1, .int .i64 5, .int .i64 4, .int .i64 0] 35)) (some ⟨w.heap.size + 1, 0, none⟩) 3 alR) := Lib.hid (Shape.At.lit (T := 35) alR (heap_alloc2_new w _ _))
  have L5 : Hid (([2, 5, 1, 5, 0] : List Int).length = 5) := Lib.hid rfl
  have N5 : 5 ≤ 9223372036854775807 := by decide
  go_enter Try.func13, Try.ntmps13
  go_wp2_with (first
    | (go_at_call 8; (with_reducible refine (alRun _ HO HR).mono ?_); rintro e w1 ⟨ea, ec, rfl, hE, hb⟩; have B1 := Lib.hid ((pstep B0.out hb).trans ((below_alloc w1 (.cells #[.int .i64 2, .int .i64 5, .int .i64 1, .int .i64 5, .int .i64 0] 3)).mono (pstep B0.out hb).size)); have E1 := Lib.hid (hE.step (below_alloc w1 (.cells #[.int .i64 2, .int .i64 5, .int .i64 1, .int .i64 5, .int .i64 0] 3))); have X1 : Hid (shI.At (w1.alloc (.cells #[.int .i64 2, .int .i64 5, .int .i64 1, .int .i64 5, .int .i64 0] 3)) (some ⟨w1.heap.size, 0, none⟩) 5 [2, 5, 1, 5, 0]) := Lib.hid (Shape.At.lit (T := 3) [2, 5, 1, 5, 0] (heap_alloc_new w1 _)); clear hb hE)
    | (go_at_call 12; (with_reducible refine (equalI _ L5 E1 X1 N5).mono ?_); rintro e w2 ⟨rfl, hb⟩; have B2 := Lib.hid (pstep B1.out hb); clear hb)
    | fail)
  go_ret
  exact ⟨rfl, B2.out⟩
end Go.Proofs.Ytnaplbkigebdiaa
