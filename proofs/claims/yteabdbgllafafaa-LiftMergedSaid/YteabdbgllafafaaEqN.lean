/- slices.Equal of two rows of numbers that are alike. Generic. -/
import Derived.Test.YteabdbgllafafaaNum
import Derived.BigQuiet
import Derived.Deep.QuietTactic
namespace Go.Proofs.Yteabdbgllafafaa
open Go.RowKit

set_option maxHeartbeats 1000000 in
set_option maxRecDepth 100000 in
theorem equalQ {a1 a2 : Option Addr} {c1 c2 n : Nat} {l : List Int} (w : World) (hl : Hid (l.length = n)) (H1 : Hid (shI.At w a1 c1 l)) (H2 : Hid (shI.At w a2 c2 l)) (hn : n ≤ 9223372036854775807) :
    Calls Try.prog 15 #[.slice a1 n c1, .slice a2 n c2] w fun e w' => e = .returned (.bool true) ∧ ∃ q, w' = w.drewN q := by
  go_enter Try.func15, Try.ntmps15
  go_wp2_with fail
  go_loopw [13] (fun i wr => ∃ k : Nat, k ≤ n ∧ i = .int .i64 k ∧ ∃ q, wr = w.drewN q) (fun i _ => n - (intOf i).toNat)
  case atStart => exact ⟨0, Nat.zero_le _, rfl, 0, rfl⟩
  case round =>
    obtain ⟨k, hk, rfl, q, rfl⟩ := hrel
    by_cases hlt : k < n
    · obtain ⟨x, hx⟩ : ∃ x, l[k]? = some x := ⟨l[k]'(by rw [hl.out]; exact hlt), List.getElem?_eq_getElem _⟩
      obtain ⟨b, off, rfl, _, c0⟩ := at_int H1.out hx
      obtain ⟨b2, off2, rfl, _, c1⟩ := at_int H2.out hx
      clear hx
      go_wp2_with fail
      go_quiet (fail)
      go_wp2_with fail
      go_roundw
      case rel => exact ⟨k + 1, by omega, by go_num, _, rfl⟩
      case measure => simp [intOf]; omega
    · obtain rfl : k = n := by omega
      clear hlt hk
      go_wp2_with fail
      go_ret
      exact ⟨rfl, q, rfl⟩
theorem equalI {a1 a2 : Option Addr} {c1 c2 n : Nat} {l : List Int} (w : World) (hl : Hid (l.length = n)) (H1 : Hid (shI.At w a1 c1 l)) (H2 : Hid (shI.At w a2 c2 l)) (hn : n ≤ 9223372036854775807) :
    Calls Try.prog 15 #[.slice a1 n c1, .slice a2 n c2] w fun e w' => e = .returned (.bool true) ∧ Below w.heap.size w w' :=
  (equalQ w hl H1 H2 hn).mono fun e w' h => ⟨h.1, by obtain ⟨q, rfl⟩ := h.2; exact below_drewN (Below.refl _ _) _⟩
end Go.Proofs.Yteabdbgllafafaa
