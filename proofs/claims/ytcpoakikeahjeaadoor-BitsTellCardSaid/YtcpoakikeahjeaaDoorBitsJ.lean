/- The walk of corebellkeep.alive1: the document's example holds: it returns true. -/
import Derived.Test.YtcpoakikeahjeaaDoorBitsI
import Derived.Test.YtcpoakikeahjeaaDoorEq
namespace Go.Proofs.YtcpoakikeahjeaaDoor
open Go.RowKit

theorem ok0 : Ok 0 0 0 0 := by unfold Ok; decide
theorem ok8 : Ok 8 0 0 0 := by unfold Ok; decide
theorem okb : Ok 8 0 0 256 := by unfold Ok; decide
theorem top_ex : topOf (mem 8 0 0 256) = 200 := by decide +kernel
theorem next_ex : nextOf (mem 8 0 0 256) 4 = 200 := by decide +kernel
theorem all_ex : allOf (mem 8 0 0 256) = [3, 200] := by decide +kernel
theorem mem_ex3 : mem 8 0 0 256 3 = true := by decide +kernel
theorem mem_ex4 : mem 8 0 0 256 4 = false := by decide +kernel

theorem ex_with3 (w : World) : Calls Tryd.prog 10 #[.agg #[.int .u64 0, .int .u64 0, .int .u64 0, .int .u64 0], .int .i64 3] w fun e w' => e = .returned (.agg #[.int .u64 8, .int .u64 0, .int .u64 0, .int .u64 0]) ∧ Below w.heap.size w w' :=
  with_any 0 0 0 0 3 w ok0 (by decide)
theorem ex_with200 (w : World) : Calls Tryd.prog 10 #[.agg #[.int .u64 8, .int .u64 0, .int .u64 0, .int .u64 0], .int .i64 200] w fun e w' => e = .returned (.agg #[.int .u64 8, .int .u64 0, .int .u64 0, .int .u64 256]) ∧ Below w.heap.size w w' :=
  with_any 8 0 0 0 200 w ok8 (by decide)
theorem ex_top (w : World) : Calls Tryd.prog 13 #[.agg #[.int .u64 8, .int .u64 0, .int .u64 0, .int .u64 256]] w fun e w' => e = .returned (.int .i64 200) ∧ Below w.heap.size w w' := by
  have h := top_any 8 0 0 256 w okb
  rw [top_ex] at h
  exact h
theorem ex_next (w : World) (hT : Tab w) : Calls Tryd.prog 15 #[.agg #[.int .u64 8, .int .u64 0, .int .u64 0, .int .u64 256], .int .i64 4] w fun e w' => e = .returned (.int .i64 200) ∧ Below w.heap.size w w' := by
  have h := next_int 8 0 0 256 4 w okb hT (by decide)
  rw [next_ex] at h
  exact h
theorem ex_all (w : World) (hT : Tab w) : Calls Tryd.prog 18 #[.agg #[.int .u64 8, .int .u64 0, .int .u64 0, .int .u64 256]] w fun e w' =>
    ∃ g cap, e = .returned (.slice (some ⟨g, 0, none⟩) 2 cap) ∧ g < w'.heap.size ∧ w'.cell? ⟨g, 0, none⟩ = some (.int .i64 3) ∧ w'.cell? ⟨g, 1, none⟩ = some (.int .i64 200) ∧ Below w.heap.size w w' := by
  have h := all_any 8 0 0 256 w okb hT
  rw [all_ex] at h
  refine h.mono ?_
  rintro e w' ⟨v, rfl, hown, hb⟩
  obtain ⟨h1, h2⟩ := hown
  rcases h2 with ⟨_, h2⟩ | ⟨g, cap, cur, rfl, hg, hh, hn, hm, hs, ht⟩
  · simp at h2
  · have hown : w'.ownsRow (w.heap.size + 1) 3 1 (.slice (some ⟨g, 0, none⟩) 2 cap) 2 (ints [3, 200]) := ⟨h1, Or.inr ⟨g, cap, cur, rfl, hg, hh, hn, hm, hs, ht⟩⟩
    exact ⟨g, cap, rfl, (Array.getElem?_eq_some_iff.1 hh).1, hown.cellAt 0 (by decide), hown.cellAt 1 (by decide), hb⟩
theorem ex_has3 (w : World) : Calls Tryd.prog 8 #[.agg #[.int .u64 8, .int .u64 0, .int .u64 0, .int .u64 256], .int .i64 3] w fun e w' => e = .returned (.bool true) ∧ Below w.heap.size w w' := by
  have h := has_any 8 0 0 256 3 w okb (by decide)
  rw [mem_ex3] at h
  exact h
theorem ex_has4 (w : World) : Calls Tryd.prog 8 #[.agg #[.int .u64 8, .int .u64 0, .int .u64 0, .int .u64 256], .int .i64 4] w fun e w' => e = .returned (.bool false) ∧ Below w.heap.size w w' := by
  have h := has_any 8 0 0 256 4 w okb (by decide)
  rw [mem_ex4] at h
  exact h

theorem ex_equal (b1 c b2 d : Nat) (w : World) (h0 : w.cell? ⟨b1, 0, none⟩ = some (.int .i64 3)) (h1 : w.cell? ⟨b1, 1, none⟩ = some (.int .i64 200)) (g0 : w.cell? ⟨b2, 0, none⟩ = some (.int .i64 3)) (g1 : w.cell? ⟨b2, 1, none⟩ = some (.int .i64 200)) :
    Calls Tryd.prog 17 #[.slice (some ⟨b1, 0, none⟩) 2 c, .slice (some ⟨b2, 0, none⟩) 2 d] w fun e w' => e = .returned (.bool true) ∧ Below w.heap.size w w' := by
  have hc : ∀ (b : Nat), w.cell? ⟨b, 0, none⟩ = some (.int .i64 3) → w.cell? ⟨b, 1, none⟩ = some (.int .i64 200) → ∀ j, j < [(3 : Int), 200].length → w.cell? ⟨b, 0 + j, none⟩ = some (.int .i64 ([(3 : Int), 200].getD j 0)) := fun b e0 e1 j hj => by
    match j, hj with
    | 0, _ => exact e0
    | 1, _ => exact e1
  refine (equal_any b1 0 2 c b2 0 2 d [3, 200] [3, 200] w (by decide) (by decide) (by decide) (by decide) (hc b1 h0 h1) (hc b2 g0 g1)).mono ?_
  rintro e w' ⟨rfl, q, rfl⟩
  exact ⟨rfl, below_drewN (Below.refl _ _) _⟩

theorem ex_cells {w : World} {B : Nat} (h : Box w B 8 0 0 256) : w.cell? ⟨B, 0, none⟩ = some (.int .u64 8) ∧ w.cell? ⟨B, 1, none⟩ = some (.int .u64 0) ∧ w.cell? ⟨B, 2, none⟩ = some (.int .u64 0) ∧ w.cell? ⟨B, 3, none⟩ = some (.int .u64 256) := h.cells

set_option maxHeartbeats 1000000 in
set_option maxRecDepth 100000 in
theorem alive_any (w : World) (hT : Tab w) :
    Calls Tryd.prog 20 #[] w fun e w' => e = .returned (.bool true) ∧ Below w.heap.size w w' := by
  have HT := Lib.hid hT
  clear hT
  have heq : ∀ w : World, (Op.equalIn 10000 24 (.agg #[.int .u64 8, .int .u64 0, .int .u64 0, .int .u64 256]) (.agg #[.int .u64 8, .int .u64 0, .int .u64 0, .int .u64 256])).run Tryd.prog w = .ok true w := fun w => by rw [eq_bits]; rfl
  go_enter Tryd.func20, Tryd.ntmps20
  go_wp2_with fail
  refine (ex_with3 _).mono ?_
  rintro e w1 ⟨rfl, hb1⟩
  go_wp2_with fail
  refine (ex_with200 _).mono ?_
  rintro e w2 ⟨rfl, hb2⟩
  have hb : Below w.heap.size w w2 := hb1.trans (hb2.mono hb1.size)
  clear hb1 hb2
  go_wp2_with fail
  refine (ex_top _).mono ?_
  rintro e w3 ⟨rfl, hb3⟩
  have hx3 : Box w3 w2.heap.size 8 0 0 256 := Box.below (heap_alloc_new w2 _) hb3 (by simp)
  have hc3 : Below w.heap.size w w3 := (hb.alloc hb.size _).trans (hb3.mono (by simp; have := hb.size; omega))
  clear hb3
  obtain ⟨c0, c1, c2, c3⟩ := ex_cells hx3
  go_wp2_with fail
  refine (ex_next _ (HT.out.below hc3)).mono ?_
  rintro e w4 ⟨rfl, hb4⟩
  have hx4 : Box w4 w2.heap.size 8 0 0 256 := hx3.below hb4 hx3.lt
  have hc4 : Below w.heap.size w w4 := hc3.trans (hb4.mono hc3.size)
  clear hb4 hx3 hc3 c0 c1 c2 c3
  obtain ⟨c0, c1, c2, c3⟩ := ex_cells hx4
  go_wp2_with fail
  refine (ex_all _ (HT.out.below hc4)).mono ?_
  rintro e w5 ⟨g, cap, rfl, hg, g0, g1, hb5⟩
  have hx5 : Box w5 w2.heap.size 8 0 0 256 := hx4.below hb5 hx4.lt
  have hc5 : Below w.heap.size w w5 := hc4.trans (hb5.mono hc4.size)
  clear hb5 hx4 hc4 c0 c1 c2 c3
  obtain ⟨c0, c1, c2, c3⟩ := ex_cells hx5
  go_wp2_with fail
  refine (ex_equal g cap w5.heap.size 2 _ ((World.cell?_alloc_past _ _ _ hg).trans g0) ((World.cell?_alloc_past _ _ _ hg).trans g1) (by rw [World.cell?_alloc_at _ _ _ _ rfl]; rfl) (by rw [World.cell?_alloc_at _ _ _ _ rfl]; rfl)).mono ?_
  rintro e w6 ⟨rfl, hb6⟩
  have hx6 : Box w6 w2.heap.size 8 0 0 256 := (hx5.below ((Below.refl _ _).alloc (Nat.le_refl _) _) hx5.lt).below hb6 (by simp; have := hx5.lt; omega)
  have hc6 : Below w.heap.size w w6 := (hc5.alloc hc5.size _).trans (hb6.mono (by simp; have := hc5.size; omega))
  clear hb6 hx5 hc5 c0 c1 c2 c3 g0 g1 hg
  obtain ⟨c0, c1, c2, c3⟩ := ex_cells hx6
  go_wp2_with fail
  refine (ex_has3 _).mono ?_
  rintro e w7 ⟨rfl, hb7⟩
  have hx7 : Box w7 w2.heap.size 8 0 0 256 := hx6.below hb7 hx6.lt
  have hc7 : Below w.heap.size w w7 := hc6.trans (hb7.mono hc6.size)
  clear hb7 hx6 hc6 c0 c1 c2 c3
  obtain ⟨c0, c1, c2, c3⟩ := ex_cells hx7
  go_wp2_with fail
  refine (ex_has4 _).mono ?_
  rintro e w8 ⟨rfl, hb8⟩
  have hc8 : Below w.heap.size w w8 := hc7.trans (hb8.mono hc7.size)
  clear hb8 hx7 hc7 c0 c1 c2 c3
  go_wp2_with fail
  go_ret
  exact ⟨rfl, hc8⟩
end Go.Proofs.YtcpoakikeahjeaaDoor
