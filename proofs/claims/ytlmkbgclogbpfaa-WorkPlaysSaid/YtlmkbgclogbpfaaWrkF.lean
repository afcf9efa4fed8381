/- Package work: slices.Equal on error codes, where they are alike; corebellkeep.alive12. -/
import Derived.Test.YtlmkbgclogbpfaaWrkE
import Derived.Test.YtlmkbgclogbpfaaEqN
namespace Go.Proofs.Ytlmkbgclogbpfaa
open Go.RowKit

set_option maxHeartbeats 1000000 in
set_option maxRecDepth 100000 in
theorem equalE {a1 a2 : Option Addr} {c1 c2 n : Nat} {l : List Int} (w : World) (hl : Hid (l.length = n)) (H1 : Hid (shI.At w a1 c1 l)) (H2 : Hid (shI.At w a2 c2 l)) (hn : n ≤ 9223372036854775807) :
    Calls Try.prog 10 #[.slice a1 n c1, .slice a2 n c2] w fun e w' => e = .returned (.bool true) ∧ Below w.heap.size w w' := by
  go_enter Try.func10, Try.ntmps10
  go_wp2_with fail
  go_loopw [13] (fun i wr => ∃ k : Nat, k ≤ n ∧ i = .int .i64 k ∧ ∃ q, wr = w.drewN q) (fun i _ => n - (intOf i).toNat)
  case atStart => exact ⟨0, Nat.zero_le _, rfl, 0, rfl⟩
  case round =>
    obtain ⟨k, hk, rfl, q, rfl⟩ := hrel
    by_cases hlt : k < n
    · obtain ⟨x, hx⟩ : ∃ x, l[k]? = some x := ⟨l[k]'(by rw [hl.out]; exact hlt), List.getElem?_eq_getElem _⟩
      obtain ⟨b, off, rfl, _, c0⟩ := at_int H1.out hx
      obtain ⟨b2, off2, rfl, _, c1⟩ := at_int H2.out hx
      clear hx
      go_wp2_with fail
      go_quiet (fail)
      go_wp2_with fail
      go_roundw
      case rel => exact ⟨k + 1, by omega, by go_num, _, rfl⟩
      case measure => simp [intOf]; omega
    · obtain rfl : k = n := by omega
      clear hlt hk
      go_wp2_with fail
      go_ret
      exact ⟨rfl, below_drewN (Below.refl _ _) _⟩
def alW : List WoT := [⟨1, 4⟩, ⟨1, 4⟩, ⟨2, 0⟩, ⟨1, 4⟩, ⟨1, 6⟩, ⟨3, 0⟩, ⟨2, 0⟩]
theorem al_errs : errsO newO alW = [0, 6, 0, 0, 0, 0, 0] := by decide
theorem al_run : (runO newO alW).done = [4] ∧ (runO newO alW).now = 4 ∧ (runO newO alW).wait = [6] := by decide
theorem alPlay {b : Nat} (w : World) (HA : Hid (shO.At w (some ⟨b, 0, none⟩) 7 alW)) :
    Calls Try.prog 8 #[.slice (some ⟨b, 0, none⟩) 7 7] w fun e w' => ∃ E da dc wa wc, e = .returned (.tuple #[.slice (some ⟨E, 0, none⟩) 7 7, .slice da 1 dc, .slice wa 1 wc, .int .i64 4, .int .i64 0]) ∧ shI.At w' (some ⟨E, 0, none⟩) 7 [0, 6, 0, 0, 0, 0, 0] ∧ shI.At w' da dc [4] ∧ shI.At w' wa wc [6] ∧ Below w.heap.size w w' := by
  refine (play_ok w HA (Lib.hid rfl) (by decide)).mono ?_
  rintro e w' ⟨E, da, dc, wa, wc, rfl, h1, h2, h3, _, _, h6⟩
  obtain ⟨e1, e2, e3⟩ := al_run
  rw [al_errs] at h1
  rw [e1] at h2
  rw [e3] at h3
  rw [e1, e2, e3]
  exact ⟨E, da, dc, wa, wc, rfl, h1, h2, h3, h6⟩
set_option maxHeartbeats 1000000 in
set_option maxRecDepth 100000 in
theorem alive12_N (w : World) : Calls Try.prog 12 #[] w fun e w' => e = .returned (.bool true) ∧ Below w.heap.size w w' := by
  have B0 := Lib.hid (below_alloc w (.cells (shO.flat alW).toArray 33))
  have HO : Hid (shO.At (w.alloc (.cells (shO.flat alW).toArray 33)) (some ⟨w.heap.size, 0, none⟩) 7 alW) := Lib.hid (Shape.At.lit alW (heap_alloc_new w _))
  have N7 : 7 ≤ 9223372036854775807 := by decide
  have N1 : 1 ≤ 9223372036854775807 := by decide
  have L7 : Hid (([0, 6, 0, 0, 0, 0, 0] : List Int).length = 7) := Lib.hid rfl
  have L4 : Hid (([4] : List Int).length = 1) := Lib.hid rfl
  have L6 : Hid (([6] : List Int).length = 1) := Lib.hid rfl
  have eT : (shO.flat alW).toArray = #[.int .i64 1, .int .i64 4, .int .i64 1, .int .i64 4, .int .i64 2, .int .i64 0, .int .i64 1, .int .i64 4, .int .i64 1, .int .i64 6, .int .i64 3, .int .i64 0, .int .i64 2, .int .i64 0] := rfl
  rw [eT] at B0 HO
  have HE : Hid (∀ w : World, shI.At (w.alloc (.cells #[.int .i64 0, .int .i64 6, .int .i64 0, .int .i64 0, .int .i64 0, .int .i64 0, .int .i64 0] 25)) (some ⟨w.heap.size, 0, none⟩) 7 [0, 6, 0, 0, 0, 0, 0]) := Lib.hid fun w => Shape.At.lit (S := shI) [0, 6, 0, 0, 0, 0, 0] (heap_alloc_new w _)
  go_enter Try.func12, Try.ntmps12
  go_wp2_with (first
    | (go_at_call 8; (with_reducible refine (alPlay _ HO).mono ?_); rintro e w1 ⟨E, da, dc, wa, wc, rfl, hE, hD, hW, hb⟩; have bx := below_alloc w1 (.cells #[.int .i64 0, .int .i64 6, .int .i64 0, .int .i64 0, .int .i64 0, .int .i64 0, .int .i64 0] 25); have B1 := Lib.hid (pstep (pstep B0.out hb) bx); have E1 := Lib.hid (hE.step bx); have D1 := Lib.hid (hD.step bx); have W1 := Lib.hid (hW.step bx); have X1 := Lib.hid (HE.out w1); clear hb hE hD hW bx)
    | (go_at_call 10; (with_reducible refine (equalE _ L7 E1 X1 N7).mono ?_); rintro e w2 ⟨rfl, hb⟩; have bx := below_alloc w2 (.cells #[.int .i64 4] 3); have B2 := Lib.hid (pstep (pstep B1.out hb) bx); have D2 := Lib.hid ((D1.out.step hb).step bx); have W2 := Lib.hid ((W1.out.step hb).step bx); have X2 := Lib.hid (int_lit w2 4 1); clear hb bx)
    | (go_at_call 11; (with_reducible refine (equalI _ L4 D2 X2 N1).mono ?_); rintro e w3 ⟨rfl, hb⟩; have bx := below_alloc w3 (.cells #[.int .i64 6] 3); have B3 := Lib.hid (pstep (pstep B2.out hb) bx); have W3 := Lib.hid ((W2.out.step hb).step bx); have X3 := Lib.hid (int_lit w3 6 1); clear hb bx)
    | (go_at_call 11; (with_reducible refine (equalI _ L6 W3 X3 N1).mono ?_); rintro e w4 ⟨rfl, hb⟩; have B4 := Lib.hid (pstep B3.out hb); clear hb)
    | fail)
  go_ret
  exact ⟨rfl, B4.out⟩
end Go.Proofs.Ytlmkbgclogbpfaa
