/- corebellkeep.alive8. -/
import Derived.Test.YtcnnimhdnmmaoaaRnkG
import Derived.Test.YtcnnimhdnmmaoaaRnkI
namespace Go.Proofs.Ytcnnimhdnmmaoaa
open Go.RowKit

def alO : List RopT := [⟨1, 0, 0⟩, ⟨1, 1, 1⟩, ⟨1, 0, 1⟩, ⟨1, 1, 0⟩]
theorem al_run1 : ∃ s : RkT, runK 2 2 false alO = ([0, 0, 7, 7], s) ∧ s.hold 0 = 0 ∧ s.hold 1 = 1 ∧ s.wait 0 = 1 ∧ s.wait 1 = 0 :=
  ⟨(runK 2 2 false alO).2, Prod.ext (by decide) rfl, by decide, by decide, by decide, by decide⟩
theorem al_run2 : ∃ s : RkT, runK 2 2 true alO = ([0, 0, 7, 8], s) :=
  ⟨(runK 2 2 true alO).2, Prod.ext (by decide) rfl⟩
theorem al_circle {s : RkT} (h0 : s.hold 0 = 0) (h1 : s.hold 1 = 1) (w0 : s.wait 0 = 1) (w1 : s.wait 1 = 0) {pl : List Nat} (h : CirIs 2 2 s pl) : pl = [0, 1] := by
  have s0 : sucK 2 2 s 0 = some 1 := suc_of (l := 1) (by rw [w0]; rfl) (by decide) (by rw [h1]; rfl) (by decide)
  have s1 : sucK 2 2 s 1 = some 0 := suc_of (l := 0) (by rw [w1]; rfl) (by decide) (by rw [h0]; rfl) (by decide)
  have i1 : itK 2 2 s 0 1 = some 1 := by show (some 0).bind _ = _; exact s0
  have i2 : itK 2 2 s 0 2 = some 0 := by show (itK 2 2 s 0 1).bind _ = _; rw [i1]; exact s1
  have hw : wayN 2 2 s 0 2 = [0, 1] := by rw [way_succ, way_one, itN_of i1]; rfl
  rw [← hw]
  exact cir_uniq h (cir_way (by decide) (by decide) i2 (fun i g1 g2 e => by
    obtain rfl : i = 1 := by omega
    rw [i1] at e
    cases e) (fun t ht => by omega))
/-- What alive8 has at hand. -/
structure Al8 (w wx : World) (E1 E2 H T : Nat) (s : RkT) : Prop where
  b : Below w.heap.size w wx
  e1 : shI.At wx (some ⟨E1, 0, none⟩) 4 [0, 0, 7, 7]
  e2 : shI.At wx (some ⟨E2, 0, none⟩) 4 [0, 0, 7, 8]
  h : IntAt wx (some ⟨H, 0, none⟩) 2 2 s.hold
  t : IntAt wx (some ⟨T, 0, none⟩) 2 2 s.wait
theorem Al8.step {w wx wy : World} {E1 E2 H T : Nat} {s : RkT} (h : Al8 w wx E1 E2 H T s) (hb : Below wx.heap.size wx wy) : Al8 w wy E1 E2 H T s :=
  ⟨pstep h.b hb, h.e1.step hb, h.e2.step hb, h.h.step hb, h.t.step hb⟩
theorem alPlay {b : Nat} (rk : Bool) (w : World) (HA : Hid (shO.At w (some ⟨b, 0, none⟩) 4 alO)) (es : List Int) (s : RkT) (hr : Hid (runK 2 2 rk alO = (es, s))) :
    Calls Try.prog 9 #[.int .i64 2, .int .i64 2, .bool rk, .slice (some ⟨b, 0, none⟩) 4 4] w fun e w' => ∃ E H T, e = .returned (.tuple #[.slice (some ⟨E, 0, none⟩) 4 4, .slice (some ⟨H, 0, none⟩) 2 2, .slice (some ⟨T, 0, none⟩) 2 2, .int .i64 0]) ∧ shI.At w' (some ⟨E, 0, none⟩) 4 es ∧ IntAt w' (some ⟨H, 0, none⟩) 2 2 s.hold ∧ IntAt w' (some ⟨T, 0, none⟩) 2 2 s.wait ∧ Below w.heap.size w w' :=
  play_ok 2 2 rk w HA (Lib.hid rfl) (by decide) (by decide) (by decide) (by decide) (by decide) es s hr
theorem lit4 (w : World) (a b c d : Int) (T cap : Nat) : shI.At (w.alloc (.cells #[.int .i64 a, .int .i64 b, .int .i64 c, .int .i64 d] T)) (some ⟨w.heap.size, 0, none⟩) cap [a, b, c, d] :=
  Shape.At.lit [a, b, c, d] (heap_alloc_new w _)
theorem lit2 (w : World) (a b : Int) (T cap : Nat) : shI.At (w.alloc (.cells #[.int .i64 a, .int .i64 b] T)) (some ⟨w.heap.size, 0, none⟩) cap [a, b] :=
  Shape.At.lit [a, b] (heap_alloc_new w _)
set_option maxHeartbeats 2000000 in
set_option maxRecDepth 100000 in
theorem alive8_N (w : World) : Calls Try.prog 15 #[] w fun e w' => e = .returned (.bool true) ∧ Below w.heap.size w w' := by
  obtain ⟨s, r1, k0, k1, k2, k3⟩ := al_run1
  obtain ⟨s2, r2⟩ := al_run2
  have R1 := Lib.hid r1
  have R2 := Lib.hid r2
  have KC : Hid (∀ pl, CirIs 2 2 s pl → pl = [0, 1]) := Lib.hid fun pl h => al_circle k0 k1 k2 k3 h
  have B0 := Lib.hid (below_alloc w (.cells #[.int .i64 1, .int .i64 0, .int .i64 0, .int .i64 1, .int .i64 1, .int .i64 1, .int .i64 1, .int .i64 0, .int .i64 1, .int .i64 1, .int .i64 1, .int .i64 0] 35))
  have HO : Hid (shO.At (w.alloc (.cells #[.int .i64 1, .int .i64 0, .int .i64 0, .int .i64 1, .int .i64 1, .int .i64 1, .int .i64 1, .int .i64 0, .int .i64 1, .int .i64 1, .int .i64 1, .int .i64 0] 35)) (some ⟨w.heap.size, 0, none⟩) 4 alO) := Lib.hid (Shape.At.lit alO (heap_alloc_new w _))
  have L1 : Hid (([0, 0, 7, 7] : List Int).length = 4) := Lib.hid rfl
  have L2 : Hid (([0, 0, 7, 8] : List Int).length = 4) := Lib.hid rfl
  have L3 : Hid ((nums [0, 1]).length = 2) := Lib.hid rfl
  have N4 : 4 ≤ 9223372036854775807 := by decide
  have N2 : 2 ≤ 9223372036854775807 := by decide
  have N3 : 2 ≤ 17592186044415 := by decide
  clear r1 r2 k0 k1 k2 k3
  go_enter Try.func15, Try.ntmps15
  go_wp2_with (first
    | (go_at_call 9; (with_reducible refine (alPlay false _ HO _ s R1).mono ?_); rintro e w1 ⟨E1, H1, T1, rfl, hE, hH, hT, hb⟩; have B1 := Lib.hid (pstep B0.out hb); have HO2 := Lib.hid (HO.out.step hb); have HE1 := Lib.hid hE; have HH1 := Lib.hid hH; have HT1 := Lib.hid hT; clear hE hH hT hb)
    | (go_at_call 9; (with_reducible refine (alPlay true _ HO2 _ s2 R2).mono ?_); rintro e w2 ⟨E2, H2, T2, rfl, hE, hH, hT, hb⟩; have A2 := Lib.hid (Al8.step (Al8.mk (pstep B1.out hb) (HE1.out.step hb) hE (HH1.out.step hb) (HT1.out.step hb)) (below_alloc w2 (.cells #[.int .i64 0, .int .i64 0, .int .i64 7, .int .i64 7] 25))); have A2E := Lib.hid A2.out.e1; have A2L := Lib.hid (lit4 w2 0 0 7 7 25 4); clear hE hH hT hb)
    | (go_at_call 11; (with_reducible refine (equalE _ L1 A2E A2L N4).mono ?_); rintro e w3 ⟨rfl, hb⟩; have A3 := Lib.hid ((A2.out.step hb).step (below_alloc w3 (.cells #[.int .i64 0, .int .i64 0, .int .i64 7, .int .i64 8] 25))); have A3E := Lib.hid A3.out.e2; have A3L := Lib.hid (lit4 w3 0 0 7 8 25 4); clear hb)
    | (go_at_call 11; (with_reducible refine (equalE _ L2 A3E A3L N4).mono ?_); rintro e w4 ⟨rfl, hb⟩; have A4 := Lib.hid (A3.out.step hb); have A4H := Lib.hid A4.out.h; have A4T := Lib.hid A4.out.t; clear hb)
    | (go_at_call 13; (with_reducible refine (circle_N _ A4H A4T N3).mono ?_); rintro e w5 ⟨ra, rc, pl, hc, hl, _, rfl, hat, hb⟩; obtain rfl := KC.out _ hc; have B5 := Lib.hid (pstep (pstep A4.out.b hb) (below_alloc w5 (.cells #[.int .i64 0, .int .i64 1] 3))); have A5 := Lib.hid (hat.step (below_alloc w5 (.cells #[.int .i64 0, .int .i64 1] 3))); have A5L : Hid (shI.At (w5.alloc (.cells #[.int .i64 0, .int .i64 1] 3)) (some ⟨w5.heap.size, 0, none⟩) 2 (nums [0, 1])) := Lib.hid (lit2 w5 0 1 3 2); clear hc hl hat hb)
    | (go_at_call 12; (with_reducible refine (equalI _ L3 A5 A5L N2).mono ?_); rintro e w6 ⟨rfl, hb⟩; have B6 := Lib.hid (pstep B5.out hb); clear hb)
    | fail)
  go_ret
  exact ⟨rfl, B6.out⟩
end Go.Proofs.Ytcnnimhdnmmaoaa
