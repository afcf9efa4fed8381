/- Package lift: corebellkeep.alive19. -/
import Derived.Test.YteabdbgllafafaaLftE
import Derived.Test.YteabdbgllafafaaLftG
import Derived.Test.YteabdbgllafafaaEqN
namespace Go.Proofs.Yteabdbgllafafaa
open Go.RowKit

theorem srt_is {l m : List Int} (hp : l.Perm m) (hs : m.Pairwise fun a b => a ≤ b) : srtL l = m := sorted_uniq ((srt_perm l).trans hp) (srt_sorted l) hs
def alN : List Int := [10, 60, 55, 40]
def alM : List SpS := [(5, 7), (1, 3), (7, 9)]
theorem al_up : upR 50 alN = [55, 60] := srt_is (by decide) (by decide)
theorem al_dn : dnR 50 alN = [10, 40] := srt_is (by decide) (by decide)
theorem al_ok : okH 50 ∧ okL alN := by decide
theorem al_sweep : sweepV 50 alN = [55, 60, 10, 40] := by
  unfold sweepV
  rw [if_pos al_ok]
  unfold sweepL
  rw [al_up, al_dn]
  rfl
theorem al_short : shortV 50 alN = [55, 60, 40, 10] := by
  unfold shortV
  rw [if_pos al_ok]
  have h : downF 50 alN = false := by
    unfold downF
    rw [al_up, al_dn]
    decide
  unfold shortL
  rw [h, if_neg (by decide), al_up, al_dn]
  rfl
theorem al_way : wayV 50 [55, 60, 40, 10] = 60 := by decide
theorem al_okm : okM alM := by decide
theorem al_mrg : mrgV alM = [(1, 3), (5, 9)] := by
  unfold mrgV
  rw [if_pos al_okm]
  have h : mergeS alM = [(1, 3), (5, 9)] := by decide
  exact (can_ref al_okm.2 (by rw [h]) (by decide)).symm
theorem al_e1 : errH 50 alN = 0 := if_pos al_ok
theorem al_e2 : errH 50 [55, 60, 40, 10] = 0 := by decide
theorem al_e3 : errM alM = 0 := if_pos al_okm
theorem int_list (w : World) (l : List Int) (cap : Nat) : shI.At (w.alloc (.cells (shI.flat l).toArray 3)) (some ⟨w.heap.size, 0, none⟩) cap l := Shape.At.lit (S := shI) l (heap_alloc_new w _)
theorem span_list (w : World) (l : List SpS) (cap : Nat) : shS.At (w.alloc (.cells (shS.flat l).toArray 41)) (some ⟨w.heap.size, 0, none⟩) cap l := Shape.At.lit (S := shS) l (heap_alloc_new w _)
set_option maxHeartbeats 2000000 in
set_option maxRecDepth 100000 in
theorem alive19_N (w : World) : Calls Try.prog 21 #[] w fun e w' => e = .returned (.bool true) ∧ Below w.heap.size w w' := by
  have B0 := Lib.hid (below_alloc w (.cells #[.int .i64 10, .int .i64 60, .int .i64 55, .int .i64 40] 3))
  have L0 : Hid (shI.At (w.alloc (.cells #[.int .i64 10, .int .i64 60, .int .i64 55, .int .i64 40] 3)) (some ⟨w.heap.size, 0, none⟩) 4 alN) := Lib.hid (int_list w alN 4)
  have N4 : Hid (alN.length = 4) := Lib.hid rfl
  have N3 : Hid (alM.length = 3) := Lib.hid rfl
  have E1 := Lib.hid al_e1
  have E2 := Lib.hid al_e2
  have E3 := Lib.hid al_e3
  have EW := Lib.hid al_way
  have n3 : 3 ≤ 9223372036854775807 := by decide
  have n4 : 4 ≤ 9223372036854775807 := by decide
  have n2 : 2 ≤ 9223372036854775807 := by decide
  have M4 : Hid (([55, 60, 40, 10] : List Int).length = 4) := Lib.hid rfl
  have M5 : Hid (([55, 60, 10, 40] : List Int).length = 4) := Lib.hid rfl
  have M2 : Hid (([(1, 3), (5, 9)] : List SpS).length = 2) := Lib.hid rfl
  have K1 : Hid ((sweepV 50 alN).length = 4) := Lib.hid (by rw [al_sweep]; rfl)
  have K2 : Hid ((shortV 50 alN).length = 4) := Lib.hid (by rw [al_short]; rfl)
  have K3 : Hid ((mrgV alM).length = 2) := Lib.hid (by rw [al_mrg]; rfl)
  go_enter Try.func21, Try.ntmps21
  go_wp2_with (first
    | (go_at_call 10; (with_reducible refine (sweep_W 50 _ L0 N4 0 E1 4 K1).mono ?_); rintro e w1 ⟨a1, c1, rfl, r1, b1⟩; have B1 := Lib.hid (pstep (pstep B0.out b1) (below_alloc w1 (.cells #[.int .i64 10, .int .i64 60, .int .i64 55, .int .i64 40] 3))); have R1 := Lib.hid (r1.step (below_alloc w1 (.cells #[.int .i64 10, .int .i64 60, .int .i64 55, .int .i64 40] 3))); have L1 : Hid (shI.At (w1.alloc (.cells #[.int .i64 10, .int .i64 60, .int .i64 55, .int .i64 40] 3)) (some ⟨w1.heap.size, 0, none⟩) 4 alN) := Lib.hid (int_list w1 alN 4); clear r1 b1)
    | (go_at_call 11; (with_reducible refine (short_W 50 _ L1 N4 0 E1 4 K2).mono ?_); rintro e w2 ⟨a2, c2, rfl, r2, b2⟩; have B2 := Lib.hid (pstep (pstep B1.out b2) (below_alloc w2 (.cells #[.int .i64 55, .int .i64 60, .int .i64 40, .int .i64 10] 3))); have S1 := Lib.hid ((R1.out.step b2).step (below_alloc w2 (.cells #[.int .i64 55, .int .i64 60, .int .i64 40, .int .i64 10] 3))); have R2 := Lib.hid (r2.step (below_alloc w2 (.cells #[.int .i64 55, .int .i64 60, .int .i64 40, .int .i64 10] 3))); have L2 : Hid (shI.At (w2.alloc (.cells #[.int .i64 55, .int .i64 60, .int .i64 40, .int .i64 10] 3)) (some ⟨w2.heap.size, 0, none⟩) 4 [55, 60, 40, 10]) := Lib.hid (int_list w2 [55, 60, 40, 10] 4); clear r2 b2)
    | (go_at_call 9; (with_reducible refine (way_W 50 _ L2 M4 60 EW 0 E2).mono ?_); rintro e w3 ⟨rfl, rfl⟩; have B3 := Lib.hid (pstep B2.out (below_alloc (w2.alloc (.cells #[.int .i64 55, .int .i64 60, .int .i64 40, .int .i64 10] 3)) (.cells #[.int .i64 5, .int .i64 7, .int .i64 1, .int .i64 3, .int .i64 7, .int .i64 9] 41))); have T1 := Lib.hid (S1.out.step (below_alloc (w2.alloc (.cells #[.int .i64 55, .int .i64 60, .int .i64 40, .int .i64 10] 3)) (.cells #[.int .i64 5, .int .i64 7, .int .i64 1, .int .i64 3, .int .i64 7, .int .i64 9] 41))); have T2 := Lib.hid (R2.out.step (below_alloc (w2.alloc (.cells #[.int .i64 55, .int .i64 60, .int .i64 40, .int .i64 10] 3)) (.cells #[.int .i64 5, .int .i64 7, .int .i64 1, .int .i64 3, .int .i64 7, .int .i64 9] 41))); have L3 : Hid (shS.At ((w2.alloc (.cells #[.int .i64 55, .int .i64 60, .int .i64 40, .int .i64 10] 3)).alloc (.cells #[.int .i64 5, .int .i64 7, .int .i64 1, .int .i64 3, .int .i64 7, .int .i64 9] 41)) (some ⟨w2.heap.size + 1, 0, none⟩) 3 alM) := Lib.hid (by have h := span_list (w2.alloc (.cells #[.int .i64 55, .int .i64 60, .int .i64 40, .int .i64 10] 3)) alM 3; have e : (w2.alloc (.cells #[.int .i64 55, .int .i64 60, .int .i64 40, .int .i64 10] 3)).heap.size = w2.heap.size + 1 := (by simp); rw [e] at h; exact h))
    | (go_at_call 18; (with_reducible refine (merge_W _ L3 N3 n3 0 E3 2 K3).mono ?_); rintro e w4 ⟨a4, c4, rfl, r4, b4⟩; have B4 := Lib.hid (pstep (pstep B3.out b4) (below_alloc w4 (.cells #[.int .i64 55, .int .i64 60, .int .i64 10, .int .i64 40] 3))); have U1 : Hid (shI.At (w4.alloc (.cells #[.int .i64 55, .int .i64 60, .int .i64 10, .int .i64 40] 3)) a1 c1 [55, 60, 10, 40]) := Lib.hid (by rw [← al_sweep]; exact (T1.out.step b4).step (below_alloc w4 (.cells #[.int .i64 55, .int .i64 60, .int .i64 10, .int .i64 40] 3))); have U2 := Lib.hid ((T2.out.step b4).step (below_alloc w4 (.cells #[.int .i64 55, .int .i64 60, .int .i64 10, .int .i64 40] 3))); have R4 := Lib.hid (r4.step (below_alloc w4 (.cells #[.int .i64 55, .int .i64 60, .int .i64 10, .int .i64 40] 3))); have L4 : Hid (shI.At (w4.alloc (.cells #[.int .i64 55, .int .i64 60, .int .i64 10, .int .i64 40] 3)) (some ⟨w4.heap.size, 0, none⟩) 4 [55, 60, 10, 40]) := Lib.hid (int_list w4 [55, 60, 10, 40] 4); clear r4 b4)
    | (go_at_call 15; (with_reducible refine (equalI _ M5 U1 L4 n4).mono ?_); rintro e w5 ⟨rfl, b5⟩; have B5 := Lib.hid (pstep (pstep B4.out b5) (below_alloc w5 (.cells #[.int .i64 55, .int .i64 60, .int .i64 40, .int .i64 10] 3))); have V2 : Hid (shI.At (w5.alloc (.cells #[.int .i64 55, .int .i64 60, .int .i64 40, .int .i64 10] 3)) a2 c2 [55, 60, 40, 10]) := Lib.hid (by rw [← al_short]; exact (U2.out.step b5).step (below_alloc w5 (.cells #[.int .i64 55, .int .i64 60, .int .i64 40, .int .i64 10] 3))); have R5 := Lib.hid ((R4.out.step b5).step (below_alloc w5 (.cells #[.int .i64 55, .int .i64 60, .int .i64 40, .int .i64 10] 3))); have L5 : Hid (shI.At (w5.alloc (.cells #[.int .i64 55, .int .i64 60, .int .i64 40, .int .i64 10] 3)) (some ⟨w5.heap.size, 0, none⟩) 4 [55, 60, 40, 10]) := Lib.hid (int_list w5 [55, 60, 40, 10] 4); clear b5)
    | (go_at_call 15; (with_reducible refine (equalI _ M4 V2 L5 n4).mono ?_); rintro e w6 ⟨rfl, b6⟩; have B6 := Lib.hid (pstep (pstep B5.out b6) (below_alloc w6 (.cells #[.int .i64 1, .int .i64 3, .int .i64 5, .int .i64 9] 41))); have R6 : Hid (shS.At (w6.alloc (.cells #[.int .i64 1, .int .i64 3, .int .i64 5, .int .i64 9] 41)) a4 c4 [(1, 3), (5, 9)]) := Lib.hid (by rw [← al_mrg]; exact (R5.out.step b6).step (below_alloc w6 (.cells #[.int .i64 1, .int .i64 3, .int .i64 5, .int .i64 9] 41))); have L6 : Hid (shS.At (w6.alloc (.cells #[.int .i64 1, .int .i64 3, .int .i64 5, .int .i64 9] 41)) (some ⟨w6.heap.size, 0, none⟩) 2 [(1, 3), (5, 9)]) := Lib.hid (span_list w6 [(1, 3), (5, 9)] 2); clear b6)
    | (go_at_call 20; (with_reducible refine (equalS _ M2 R6 L6 n2).mono ?_); rintro e w7 ⟨rfl, b7⟩; have B7 := Lib.hid (pstep B6.out b7); clear b7)
    | fail)
  go_ret
  exact ⟨rfl, B7.out⟩
end Go.Proofs.Yteabdbgllafafaa
