/- Package uart: corebellkeep.alive16; what a step's answer says. -/
import Derived.Test.YtalcfbdnnlapnaaUarF
namespace Go.Proofs.Ytalcfbdnnlapnaa
open Go.RowKit

def alU : List UaT := [⟨1, 7⟩, ⟨1, 8⟩, ⟨2, 0⟩, ⟨3, 9⟩, ⟨4, 0⟩]
theorem al_run : runB newB alU = ⟨[8], [], 0⟩ ∧ readsB newB alU = [7] ∧ sentsB newB alU = [9] := ⟨rfl, rfl, rfl⟩
theorem alPlay {b : Nat} (w : World) (HA : Hid (shO.At w (some ⟨b, 0, none⟩) 5 alU)) :
    Calls Try.prog 13 #[.slice (some ⟨b, 0, none⟩) 5 5] w (PlayOut w 1 1 1 0 0 true [7] [9] [8] []) :=
  play_W w HA (Lib.hid rfl) (by decide) ⟨[8], [], 0⟩ [7] [9] (Lib.hid al_run.1) (Lib.hid al_run.2.1) (Lib.hid al_run.2.2) 1 1 1 0 (Lib.hid rfl) (Lib.hid rfl) (Lib.hid rfl) (Lib.hid rfl)
set_option maxHeartbeats 1000000 in
set_option maxRecDepth 100000 in
theorem alive16_N (w : World) : Calls Try.prog 15 #[] w fun e w' => e = .returned (.bool true) ∧ Below w.heap.size w w' := by
  have B0 := Lib.hid (below_alloc w (.cells (shO.flat alU).toArray 26))
  have HO : Hid (shO.At (w.alloc (.cells (shO.flat alU).toArray 26)) (some ⟨w.heap.size, 0, none⟩) 5 alU) := Lib.hid (Shape.At.lit alU (heap_alloc_new w _))
  have eT : (shO.flat alU).toArray = #[.int .i64 1, .int .u8 7, .int .i64 1, .int .u8 8, .int .i64 2, .int .u8 0, .int .i64 3, .int .u8 9, .int .i64 4, .int .u8 0] := rfl
  rw [eT] at B0 HO
  have sl : ∀ l, (strB l).toList = l := strB_list
  have hr := Lib.hid (show rgt 1 0 (0 : Int) true = true by decide)
  go_enter Try.func15, Try.ntmps15
  go_wp2_with (first
    | (go_at_call 13; (with_reducible refine (alPlay _ HO).mono ?_); rintro e w1 ⟨ra, rc, sa, sc, ia, ic, oa, oc, rfl, h1, h2, h3, h4, hb⟩; have c1 : ∀ A, (convert 22 9 (.slice ra 1 rc)).run Try.prog (w1.alloc A) = .ok (.string (strB [7])) (w1.alloc A) := (fun A => conv_at (h1.step (below_alloc w1 A)) rfl); have c2 : ∀ A, (convert 22 9 (.slice sa 1 sc)).run Try.prog (w1.alloc A) = .ok (.string (strB [9])) (w1.alloc A) := (fun A => conv_at (h2.step (below_alloc w1 A)) rfl); have c3 : ∀ A, (convert 22 9 (.slice ia 1 ic)).run Try.prog (w1.alloc A) = .ok (.string (strB [8])) (w1.alloc A) := (fun A => conv_at (h3.step (below_alloc w1 A)) rfl); have B1 := Lib.hid (pstep B0.out hb); clear h1 h2 h3 h4 hb)
    | (go_at_call 10; (with_reducible refine (right_W _ _ 1 ic 0 oc 0 true _).mono ?_); rw [hr.out]; rintro e w2 ⟨rfl, hb⟩; have B2 := Lib.hid (pstep (pstep B1.out (below_alloc w1 _)) hb); clear hb)
    | fail)
  go_ret
  exact ⟨rfl, B2.out⟩
/-- An answer with an error is the zero device. -/
theorem resU_no {inn out : List UInt8} {lost : Int} {asks : Bool} {o : UaT} (h : ¬ (resU inn out lost asks o).2.2 = 0) : (resU inn out lost asks o).1 = newB ∧ (resU inn out lost asks o).2.1 = 0 := by
  unfold resU at h ⊢
  split
  · rename_i h1
    rw [if_pos h1] at h
    split
    · rename_i h2
      rw [if_pos h2] at h
      exact absurd rfl h
    · exact ⟨rfl, rfl⟩
  · exact ⟨rfl, rfl⟩
/-- An answer without. -/
theorem resU_ok {inn out : List UInt8} {lost : Int} {asks : Bool} {o : UaT} (h : (resU inn out lost asks o).2.2 = 0) : rgt inn.length out.length lost asks = true ∧ errB ⟨inn, out, lost.toNat⟩ o = 0 ∧ (resU inn out lost asks o).1 = doB ⟨inn, out, lost.toNat⟩ o ∧ (resU inn out lost asks o).2.1 = byteB ⟨inn, out, lost.toNat⟩ o := by
  unfold resU at h ⊢
  by_cases h1 : rgt inn.length out.length lost asks = true
  · rw [if_pos h1] at h ⊢
    by_cases h2 : errB ⟨inn, out, lost.toNat⟩ o = 0
    · rw [if_pos h2] at h ⊢
      exact ⟨h1, h2, rfl, rfl⟩
    · rw [if_neg h2] at h
      exact absurd h h2
  · rw [if_neg h1] at h
    exact absurd h (by decide)
theorem rgt_good {s : StB} (h : GoodB s) : rgt s.inn.length s.out.length (s.lost : Nat) (decide (0 < s.inn.length)) = true := by
  have h1 := h.inn
  have h2 := h.out
  have h3 := h.lost
  unfold mxB at h3
  exact decide_eq_true ⟨h1, h2, by omega, by omega, rfl⟩
end Go.Proofs.Ytalcfbdnnlapnaa
