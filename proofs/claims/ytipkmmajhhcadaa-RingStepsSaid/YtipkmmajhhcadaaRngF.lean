/- Package ring: corebellkeep.alive18; what a step's answer says. -/
import Derived.Test.YtipkmmajhhcadaaRngE
import Derived.Test.YtipkmmajhhcadaaEqN
import Derived.Test.YtipkmmajhhcadaaEqE
namespace Go.Proofs.Ytipkmmajhhcadaa
open Go.RowKit

theorem tells_rgt {n : Nat} {r : RiR} {s : StG} (h : r.Tells n s) (hn : n ≤ 64) : rgtR n r.cs (r.give : Int) (r.take : Int) (r.work : Int) = true :=
  (rgt_iff h.len).2 ⟨hn, by omega, by omega, by omega, s.wk, s.gv, h⟩
def alR : List RoT := [⟨1, 5⟩, ⟨1, 6⟩, ⟨2, 0⟩, ⟨3, 0⟩]
theorem al_run : runG 2 newG alR = ⟨[], [], [-6], 1⟩ := by rfl
theorem al_err : errsG 2 newG alR = [0, 7, 0, 0] := by decide
theorem alPlay {b : Nat} (w : World) (HA : Hid (shRo.At w (some ⟨b, 0, none⟩) 4 alR)) :
    Calls Try.prog 15 #[.int .i64 2, .slice (some ⟨b, 0, none⟩) 4 4] w (PlayOut w 2 4 1 [0, 7, 0, 0] [-6] ⟨[], [], [-6], 1⟩) :=
  play_ok 2 w (by decide) (by decide) HA (Lib.hid rfl) (by decide) ⟨[], [], [-6], 1⟩ (Lib.hid al_run) _ (Lib.hid al_err) 1 (Lib.hid rfl)
theorem err_lit (w : World) (l : List Int) (cap : Nat) : shI.At (w.alloc (.cells (shI.flat l).toArray 27)) (some ⟨w.heap.size, 0, none⟩) cap l := Shape.At.lit (S := shI) l (heap_alloc_new w _)
set_option maxHeartbeats 1000000 in
set_option maxRecDepth 100000 in
theorem alive18_N (w : World) : Calls Try.prog 18 #[] w fun e w' => e = .returned (.bool true) ∧ Below w.heap.size w w' := by
  have B0 := Lib.hid (below_alloc w (.cells (shRo.flat alR).toArray 26))
  have HO : Hid (shRo.At (w.alloc (.cells (shRo.flat alR).toArray 26)) (some ⟨w.heap.size, 0, none⟩) 4 alR) := Lib.hid (Shape.At.lit alR (heap_alloc_new w _))
  have eT : (shRo.flat alR).toArray = #[.int .i64 1, .int .i64 5, .int .i64 1, .int .i64 6, .int .i64 2, .int .i64 0, .int .i64 3, .int .i64 0] := rfl
  rw [eT] at B0 HO
  go_enter Try.func18, Try.ntmps18
  go_upto_region 2 with (first
    | (go_at_call 15; (with_reducible refine (alPlay _ HO).mono ?_); rintro e w1 ⟨E, ta, tc, ra, rc, cs, g, t, k, rfl, ht, hi, h1, h2, h3, hb⟩; have HT := Lib.hid ht; have HI := Lib.hid hi; have E1 := Lib.hid (err_at h1 4); have T1 := Lib.hid (que_at h2); have C1 := Lib.hid (que_at h3); have B1 := Lib.hid (pstep B0.out hb); clear ht hi h1 h2 h3 hb)
    | fail)
  have ht1 : ((t : Int) == 1) = true := by
    have h : t = 1 := HI.out.1
    subst h
    rfl
  have HR : Hid (rgtR 2 cs (g : Int) (t : Int) (k : Int) = true) := Lib.hid (tells_rgt HT.out (by decide))
  have HL : Hid (cs.length = 2) := Lib.hid HT.out.len
  have B2 := Lib.hid (pstep B1.out (below_alloc w1 (.cells #[.slice ra 2 rc, .int .i64 (g : Nat), .int .i64 (t : Nat), .int .i64 (k : Nat)] 24)))
  have R2 : Hid ((w1.alloc (.cells #[.slice ra 2 rc, .int .i64 (g : Nat), .int .i64 (t : Nat), .int .i64 (k : Nat)] 24)).heap[w1.heap.size]? = some (.cells #[.slice ra 2 rc, .int .i64 (g : Nat), .int .i64 (t : Nat), .int .i64 (k : Nat)] tR (0, 0))) := Lib.hid (heap_alloc_new w1 _)
  have E2 := Lib.hid (E1.out.step (below_alloc w1 (.cells #[.slice ra 2 rc, .int .i64 (g : Nat), .int .i64 (t : Nat), .int .i64 (k : Nat)] 24)))
  have T2 := Lib.hid (T1.out.step (below_alloc w1 (.cells #[.slice ra 2 rc, .int .i64 (g : Nat), .int .i64 (t : Nat), .int .i64 (k : Nat)] 24)))
  have C2 := Lib.hid (C1.out.step (below_alloc w1 (.cells #[.slice ra 2 rc, .int .i64 (g : Nat), .int .i64 (t : Nat), .int .i64 (k : Nat)] 24)))
  clear E1 T1 C1 B1 HT HI B0 HO
  generalize w1.alloc (.cells #[.slice ra 2 rc, .int .i64 (g : Nat), .int .i64 (t : Nat), .int .i64 (k : Nat)] 24) = w2 at B2 R2 E2 T2 C2 ⊢
  generalize w1.heap.size = U at R2 ⊢
  have G2 := four_at R2.out
  have l2 := heap_lt R2.out
  have B3 := Lib.hid (pstep B2.out (below_alloc w2 (.cells #[.int .i64 0, .int .i64 7, .int .i64 0, .int .i64 0] 27)))
  have X3 : Hid (shI.At (w2.alloc (.cells #[.int .i64 0, .int .i64 7, .int .i64 0, .int .i64 0] 27)) (some ⟨w2.heap.size, 0, none⟩) 4 [0, 7, 0, 0]) := Lib.hid (Shape.At.lit (S := shI) [0, 7, 0, 0] (heap_alloc_new w2 _))
  have bl := below_alloc w2 (.cells #[.int .i64 0, .int .i64 7, .int .i64 0, .int .i64 0] 27)
  have E3 := Lib.hid (E2.out.step bl)
  have T3 := Lib.hid (T2.out.step bl)
  have C3 := Lib.hid (C2.out.step bl)
  have R3 := Lib.hid (heap_step R2.out bl)
  clear bl
  go_wp2_with (first
    | (go_at_call 16; (with_reducible refine (equalE (n := 4) _ (Lib.hid rfl) E3 X3 (by decide)).mono ?_); rintro e w4 ⟨rfl, hb⟩; have B4 := Lib.hid (pstep (pstep B3.out hb) (below_alloc w4 (.cells #[.int .i64 (-6)] 3))); have bl4 := hb.trans (Below.mono (below_alloc w4 (.cells #[.int .i64 (-6)] 3)) hb.size); have X4 := Lib.hid (int_lit w4 (-6) 1); have T4 := Lib.hid (T3.out.step bl4); have C4 := Lib.hid (C3.out.step bl4); have R4 := Lib.hid (heap_step R3.out bl4); clear hb bl4)
    | (go_at_call 17; (with_reducible refine (equalI (n := 1) _ (Lib.hid rfl) T4 X4 (by decide)).mono ?_); rintro e w5 ⟨rfl, hb⟩; have B5 := Lib.hid (pstep B4.out hb); have C5 := Lib.hid (C4.out.step hb); have R5 := Lib.hid (heap_step R4.out hb); have G5 := four_at R5.out; have l5 := heap_lt R5.out; clear hb)
    | (go_at_call 13; (with_reducible refine (right_W _ C5 HL (g : Int) (t : Int) (k : Int) true HR).mono ?_); rintro e w6 ⟨rfl, hb⟩; have B6 := Lib.hid (pstep B5.out hb); have R6 := Lib.hid (heap_step R5.out hb); have G6 := four_at R6.out; have l6 := heap_lt R6.out; clear hb)
    | fail)
  go_ret
  exact ⟨rfl, B6.out⟩
end Go.Proofs.Ytipkmmajhhcadaa
