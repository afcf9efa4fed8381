/- The walks of vector's allVectors and newTable. -/
import Derived.Test.YtmldedkmmhnihaaDoorVecU
import Derived.OwnWalk
namespace Go.Proofs.YtmldedkmmhnihaaDoor
open Go.RowKit

/-- A set in a variable of its own. -/
def BoxV (w : World) (B : Nat) (q : Q4) : Prop := w.heap[B]? = some (.cells #[.int .u64 q.a, .int .u64 q.b, .int .u64 q.c, .int .u64 q.d] 43 (0, 0))
theorem BoxV.cells {w : World} {B : Nat} {q : Q4} (h : BoxV w B q) : w.cell? ⟨B, 0, none⟩ = some (.int .u64 q.a) ∧ w.cell? ⟨B, 1, none⟩ = some (.int .u64 q.b) ∧ w.cell? ⟨B, 2, none⟩ = some (.int .u64 q.c) ∧ w.cell? ⟨B, 3, none⟩ = some (.int .u64 q.d) := by
  unfold BoxV at h
  refine ⟨?_, ?_, ?_, ?_⟩ <;> (rw [cell_of_row w B _ _ _ _ h]; rfl)
theorem BoxV.lt {w : World} {B : Nat} {q : Q4} (h : BoxV w B q) : B < w.heap.size := by
  unfold BoxV at h
  exact (Array.getElem?_eq_some_iff.1 h).1
theorem BoxV.frozen {w : World} {B : Nat} {q : Q4} (h : BoxV w B q) (i : Nat) : w.frozen? ⟨B, i, none⟩ = false := by
  unfold BoxV at h
  exact frozen_of_row w B i _ _ h
theorem BoxV.step {w w' : World} {B : Nat} {q : Q4} (h : BoxV w B q) (hb : Below w.heap.size w w') : BoxV w' B q := by
  have hl := h.lt
  unfold BoxV at h ⊢
  rw [hb.block B hl]
  exact h
theorem BoxV.put {w : World} {B : Nat} {q : Q4} (h : BoxV w B q) (p : Q4) : BoxV ((((w.setCell ⟨B, 0, none⟩ (.int .u64 p.a)).setCell ⟨B, 1, none⟩ (.int .u64 p.b)).setCell ⟨B, 2, none⟩ (.int .u64 p.c)).setCell ⟨B, 3, none⟩ (.int .u64 p.d)) B p := by
  unfold BoxV at h ⊢
  have g1 := heap_setCell_same w B 0 _ _ (.int .u64 p.a) h
  have g2 := heap_setCell_same _ B 1 _ _ (.int .u64 p.b) g1
  have g3 := heap_setCell_same _ B 2 _ _ (.int .u64 p.c) g2
  have g4 := heap_setCell_same _ B 3 _ _ (.int .u64 p.d) g3
  exact g4
theorem BoxV.other {w : World} {B g : Nat} {q : Q4} (h : BoxV w B q) (hg : ¬ B = g) (i : Nat) (v : Value) : BoxV (w.setCell ⟨g, i, none⟩ v) B q := by
  unfold BoxV at h ⊢
  rw [heap_setCell_other _ _ _ _ (show B ≠ (⟨g, i, none⟩ : Addr).block from hg)]
  exact h
/-- What the loop keeps. -/
def AllV (w : World) (k : Nat) (wr : World) : Prop := Below w.heap.size w wr ∧ BoxV wr w.heap.size ⟨0, 0, 0, 0⟩ ∧ ∃ q : Q4, BoxV wr (w.heap.size + 1) q ∧ Ok q.a q.b q.c q.d ∧ ∀ v, v < 256 → q.mem v = (decide (32 ≤ v) && decide (v < k))
set_option maxHeartbeats 1000000 in
set_option maxRecDepth 100000 in
theorem allV_any (w : World) :
    Calls Tryd.prog 12 #[] w fun e w' => ∃ q : Q4, e = .returned (.agg #[.int .u64 q.a, .int .u64 q.b, .int .u64 q.c, .int .u64 q.d]) ∧ Ok q.a q.b q.c q.d ∧ (∀ v, v < 256 → q.mem v = decide (32 ≤ v)) ∧ Below w.heap.size w w' := by
  go_enter Tryd.func12, Tryd.ntmps12
  go_wp2_with fail
  go_loopw [2] (fun i wr => ∃ k : Nat, 32 ≤ k ∧ k ≤ 256 ∧ i = .int .i64 k ∧ AllV w k wr) (fun i _ => 256 - (intOf i).toNat)
  case atStart =>
    refine ⟨32, by omega, by omega, rfl, ((Below.refl _ _).alloc (Nat.le_refl _) _).alloc (by simp) _, ?_, ⟨0, 0, 0, 0⟩, ?_, by unfold Ok; decide, fun v _ => ?_⟩
    · unfold BoxV
      rw [Below.heap_alloc _ _ _ (by simp)]
      exact heap_alloc_new w _
    · unfold BoxV
      have e : w.heap.size + 1 = (w.alloc (.cells #[.int .u64 0, .int .u64 0, .int .u64 0, .int .u64 0] 43)).heap.size := by simp
      rw [e]
      exact heap_alloc_new _ _
    · have : mem 0 0 0 0 v = false := by unfold mem word; simp
      show mem 0 0 0 0 v = _
      rw [this]
      by_cases h : 32 ≤ v
      · simp [h]
      · simp [h]
  case round =>
    obtain ⟨k, hk32, hk, rfl, B0, hR, q, hQ, hok, hm⟩ := hrel
    obtain ⟨c0, c1, c2, c3⟩ := hQ.cells
    have hA := hQ.lt
    have hRl := hR.lt
    by_cases hkl : k < 256
    · have HM := Lib.hid hm
      have HQ := Lib.hid hQ
      have HRR := Lib.hid hR
      clear hm hQ hR
      go_wp2_with (first
        | (go_at_call 17; ((with_reducible refine (with_any q.a q.b q.c q.d k _ hok hkl).mono ?_); rintro e w2 ⟨rfl, hb2⟩; have HQ2 := Lib.hid (HQ.out.step hb2); have HR2 := Lib.hid (HRR.out.step hb2); have B2 := Lib.hid (pstep B0 hb2); have fA := HQ2.out.frozen; have hA2 := HQ2.out.lt; obtain ⟨d0, d1, d2, d3⟩ := HQ2.out.cells; clear hb2 c0 c1 c2 c3))
        | fail)
      go_roundw
      case rel =>
        refine ⟨k + 1, by omega, by omega, by go_num, ?_, ?_, _, HQ2.out.put ⟨up 0 k q.a, up 1 k q.b, up 2 k q.c, up 3 k q.d⟩, Ok.up k hok, fun v hv => ?_⟩
        · repeat (first | (with_reducible exact B2.out) | ((with_reducible refine Below.setCell ?_ ?_ _); rotate_left; focus (simp)))
        · exact (((HR2.out.other (by simp) _ _).other (by simp) _ _).other (by simp) _ _).other (by simp) _ _
        · show mem (up 0 k q.a) (up 1 k q.b) (up 2 k q.c) (up 3 k q.d) v = _
          rw [mem_up _ _ _ _ _ _ hv]
          have := HM.out v hv
          unfold Q4.mem at this
          rw [this]
          by_cases e : v = k
          · subst e
            simp [hk32]
          · by_cases e2 : v < k
            · have : v < k + 1 := by omega
              simp [e, e2, this]
            · have : ¬ v < k + 1 := by omega
              simp [e, e2, this]
      case measure => simp [intOf]; omega
    · obtain rfl : k = 256 := by omega
      have fR := hR.frozen
      obtain ⟨p0, p1, p2, p3⟩ := (hR.put q).cells
      have HP0 := Lib.hid p0
      have HP1 := Lib.hid p1
      have HP2 := Lib.hid p2
      have HP3 := Lib.hid p3
      clear p0 p1 p2 p3
      obtain ⟨e0, e1, e2, e3⟩ := hR.cells
      have HM := Lib.hid hm
      have BB := Lib.hid B0
      clear hm hQ hR hkl hk hk32 B0
      go_wp2_with fail
      refine bodyPost_ret (v := .agg #[.int .u64 q.a, .int .u64 q.b, .int .u64 q.c, .int .u64 q.d]) (by simp [results, Tryd.results12, go_sem, HP0.out, HP1.out, HP2.out, HP3.out]) rfl ⟨q, rfl, hok, fun v hv => ?_, ?_⟩
      · rw [HM.out v hv]
        simp [hv]
      · repeat (first | (with_reducible exact BB.out) | ((with_reducible refine Below.setCell ?_ ?_ _); rotate_left; focus (simp)))
end Go.Proofs.YtmldedkmmhnihaaDoor
