/- vector.Play at every argument in one form; corebellkeep.alive4; slices.Clone of operations. -/
import Derived.Test.YtajecpfkaieieaaDoorVecEq
import Derived.Lib.SliceRun
namespace Go.Proofs.YtajecpfkaieieaaDoor
open Go.RowKit

theorem below_alloc (w : World) (o : Obj) : Below w.heap.size w (w.alloc o) := (Below.refl _ _).alloc (Nat.le_refl _) o
theorem tab_step {w w' : World} (h : Tab w) (hb : Below w.heap.size w w') : Tab w' := h.below hb
theorem play_N {ad : Option Addr} {cap : Nat} {ops : List VopT} (w : World) (hT : Hid (Tab w)) (C N : Int) (cores n m : Nat) (hC : Hid ((cores : Int) = C)) (hN : Hid ((n : Int) = N)) (h1 : 1 ≤ cores) (h8 : cores ≤ 8) (hn : n ≤ 2000) (HA : Hid (shO.At w ad cap ops)) (hm : Hid (ops.length = m)) (hm2 : m ≤ 5864062014805) (l : List SlotT) (es : List Int) (hr : Hid (runV cores n ops = (l, es))) :
    Calls Tryd.prog 5 #[.int .i64 C, .int .i64 N, .slice ad m cap] w fun e w' => ∃ ea ec sa sc, e = .returned (.tuple #[.slice ea m ec, .slice sa n sc, .int .i64 0]) ∧ shE.At w' ea ec es ∧ shS.At w' sa sc l ∧ Below w.heap.size w w' := by
  rw [← hC.out, ← hN.out]
  exact play_ok w hT cores n h1 h8 hn HA hm hm2 l es hr
def alO : List VopT := [⟨1, 0, 3⟩, ⟨1, 1, 3⟩, ⟨1, 2, 3⟩, ⟨3, 1, 3⟩]
def alS : List SlotT := [⟨0, 32⟩, ⟨0, 34⟩, ⟨0, 33⟩]
def alE : List Int := [0, 0, 0, 0]
theorem al_runs : runV 2 3 alO = (alS, alE) := by kernel_rfl
set_option maxHeartbeats 1000000 in
set_option maxRecDepth 100000 in
theorem alive4_R (w : World) (hT : Hid (Tab w)) : Calls Tryd.prog 9 #[] w fun e w' => e = .returned (.bool true) ∧ Below w.heap.size w w' := by
  have HP : Hid (runV 2 3 alO = (alS, alE)) := Lib.hid al_runs
  have HE : Hid (∀ w : World, shE.At (w.alloc (.cells #[.int .i64 0, .int .i64 0, .int .i64 0, .int .i64 0] 25)) (some ⟨w.heap.size, 0, none⟩) 4 alE) := Lib.hid fun w => Shape.At.lit alE (heap_alloc_new _ _)
  have HS : Hid (∀ w : World, shS.At (w.alloc (.cells #[.int .i64 0, .int .i64 32, .int .i64 0, .int .i64 34, .int .i64 0, .int .i64 33] 31)) (some ⟨w.heap.size, 0, none⟩) 3 alS) := Lib.hid fun w => Shape.At.lit alS (heap_alloc_new _ _)
  have HO : Hid (shO.At (w.alloc (.cells #[.int .i64 1, .int .i64 0, .int .i64 3, .int .i64 1, .int .i64 1, .int .i64 3, .int .i64 1, .int .i64 2, .int .i64 3, .int .i64 3, .int .i64 1, .int .i64 3] 38)) (some ⟨w.heap.size, 0, none⟩) 4 alO) := Lib.hid (Shape.At.lit alO (heap_alloc_new _ _))
  have HT := Lib.hid (tab_step hT.out (below_alloc w (.cells #[.int .i64 1, .int .i64 0, .int .i64 3, .int .i64 1, .int .i64 1, .int .i64 3, .int .i64 1, .int .i64 2, .int .i64 3, .int .i64 3, .int .i64 1, .int .i64 3] 38)))
  have B0 := below_alloc w (.cells #[.int .i64 1, .int .i64 0, .int .i64 3, .int .i64 1, .int .i64 1, .int .i64 3, .int .i64 1, .int .i64 2, .int .i64 3, .int .i64 3, .int .i64 1, .int .i64 3] 38)
  go_enter Tryd.func9, Tryd.ntmps9
  go_wp2_with (first
    | (go_at_call 5; (with_reducible refine (play_N _ HT 2 3 2 3 4 (Lib.hid rfl) (Lib.hid rfl) (by decide) (by decide) (by decide) HO (Lib.hid rfl) (by decide) alS alE HP).mono ?_); rintro e w1 ⟨ea, ec, sa, sc, rfl, EA, SA, hb⟩; have B1 := pstep B0 hb; have HEA := Lib.hid EA; have HSA := Lib.hid SA; clear hb EA SA)
    | (go_at_call 7; (with_reducible refine (equalE (n := 4) _ (Lib.hid rfl) (HEA.out.step (below_alloc _ _)) (HE.out _) (by decide)).mono ?_); rintro e w2 ⟨rfl, hb⟩; have B2 := pstep (below_alloc _ _) hb; have B3 := pstep B1 B2; have HSA2 := Lib.hid (HSA.out.step B2); clear hb B2)
    | (go_at_call 8; (with_reducible refine (equalS (n := 3) _ (Lib.hid rfl) (HSA2.out.step (below_alloc _ _)) (HS.out _) (by decide)).mono ?_); rintro e w3 ⟨rfl, hb⟩; have B4 := pstep (below_alloc _ _) hb; have B5 := pstep B3 B4; clear hb B4)
    | fail)
  go_ret
  exact ⟨rfl, B5⟩
theorem info_op : (Tryd.prog.info? 38).map (fun i => (i.zero, i.size, i.bytes)) = some (some (.agg #[.int .i64 0, .int .i64 0, .int .i64 0]), 3, 24) := by kernel_rfl
end Go.Proofs.YtajecpfkaieieaaDoor
