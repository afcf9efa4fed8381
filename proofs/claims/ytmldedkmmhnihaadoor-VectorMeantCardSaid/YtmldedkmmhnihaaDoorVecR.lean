/- The walks of vector.bit and leastUsed; masks. -/
import Derived.Test.YtmldedkmmhnihaaDoorVecQ
namespace Go.Proofs.YtmldedkmmhnihaaDoor
open Go.RowKit

theorem bitV (c : Nat) (b : Int) (w : World) (hc : c < 8) (hb : Hid (((2 ^ c : Nat) : Int) = b)) :
    Calls Tryd.prog 15 #[.int .i64 c] w fun e w' => e = .returned (.int .i64 b) ∧ w = w' := by
  have e : IntKind.i64.wrap (2 ^ c) = b := by
    rw [← hb.out]
    have h8 : c = 0 ∨ c = 1 ∨ c = 2 ∨ c = 3 ∨ c = 4 ∨ c = 5 ∨ c = 6 ∨ c = 7 := by omega
    rcases h8 with rfl | rfl | rfl | rfl | rfl | rfl | rfl | rfl <;> rfl
  clear hb
  go_enter Tryd.func15, Tryd.ntmps15
  go_wp2
  go_ret
  exact ⟨by rw [← e]; rfl, rfl⟩
theorem nat_bit' (x c : Nat) : x &&& 2 ^ c = x / 2 ^ c % 2 * 2 ^ c := by
  have h1 : (x &&& 2 ^ c) = if x.testBit c then 2 ^ c else 0 := by
    apply Nat.eq_of_testBit_eq
    intro i
    rw [Nat.testBit_and, Nat.testBit_two_pow]
    by_cases e : c = i
    · subst e
      cases h : x.testBit c <;> simp
    · cases h : x.testBit c <;> simp [e]
  rw [h1, Nat.testBit_eq_decide_div_mod_eq]
  have h2 : x / 2 ^ c % 2 = 0 ∨ x / 2 ^ c % 2 = 1 := by omega
  rcases h2 with h2 | h2 <;> simp [h2]
theorem allow_bit (m : Int) (c : Nat) (hc : c < 8) : allow m c = (m % 18446744073709551616).toNat.testBit c := by
  unfold allow
  rw [Nat.testBit_eq_decide_div_mod_eq]
  apply decide_eq_decide.2
  have h8 : c = 0 ∨ c = 1 ∨ c = 2 ∨ c = 3 ∨ c = 4 ∨ c = 5 ∨ c = 6 ∨ c = 7 := by omega
  rcases h8 with rfl | rfl | rfl | rfl | rfl | rfl | rfl | rfl <;> simp only [Nat.reducePow, Int.reducePow] <;> omega
/-- 'mask&bit(core) == 0'. -/
theorem and_allow (m : Int) (c : Nat) (hc : c < 8) (b : Int) (hb : ((2 ^ c : Nat) : Int) = b) : (Go.bits BinOp.and IntKind.i64 m b == 0) = !allow m c := by
  rw [allow_bit m c hc, ← hb]
  have e : Go.bits BinOp.and IntKind.i64 m ((2 ^ c : Nat) : Int) = IntKind.i64.wrap ((BitVec.ofInt 64 m &&& BitVec.ofInt 64 ((2 ^ c : Nat) : Int)).toNat : Nat) := rfl
  have h2 : (BitVec.ofInt 64 ((2 ^ c : Nat) : Int)).toNat = 2 ^ c := ofInt_u64 _ (by
    have := Nat.pow_lt_pow_right (a := 2) (by decide) (show c < 64 by omega)
    omega)
  have h1 : (BitVec.ofInt 64 m).toNat = (m % 18446744073709551616).toNat := by rw [BitVec.toNat_ofInt]; rfl
  rw [e, BitVec.toNat_and, h1, h2, nat_bit', Nat.testBit_eq_decide_div_mod_eq, IntKind.wrap_i64]
  have hr : (m % 18446744073709551616).toNat / 2 ^ c % 2 = 0 ∨ (m % 18446744073709551616).toNat / 2 ^ c % 2 = 1 := by omega
  generalize (m % 18446744073709551616).toNat / 2 ^ c % 2 = r at hr
  have h8 : c = 0 ∨ c = 1 ∨ c = 2 ∨ c = 3 ∨ c = 4 ∨ c = 5 ∨ c = 6 ∨ c = 7 := by omega
  rcases hr with rfl | rfl <;> rcases h8 with rfl | rfl | rfl | rfl | rfl | rfl | rfl | rfl <;> rfl
theorem unwrap_nat (Y : Nat) (hx : Y < 18446744073709551616) : ((((Y : Int) + 9223372036854775808) % 18446744073709551616 - 9223372036854775808) % 18446744073709551616).toNat = Y := by omega
theorem pow_small (k : Nat) (hk : k < 8) : 2 ^ k < 18446744073709551616 := by
  have h8 : k = 0 ∨ k = 1 ∨ k = 2 ∨ k = 3 ∨ k = 4 ∨ k = 5 ∨ k = 6 ∨ k = 7 := by omega
  rcases h8 with rfl | rfl | rfl | rfl | rfl | rfl | rfl | rfl <;> decide
theorem less_bit (X k c : Nat) (hk : k < 8) (hc : c < 8) : (X &&& (2 ^ 64 - (2 ^ k + 1))).testBit c = (X.testBit c && !decide (c = k)) := by
  have hlt' : 2 ^ k < 2 ^ 64 := pow_small k hk
  rw [Nat.testBit_and, Nat.testBit_two_pow_sub_succ hlt', Nat.testBit_two_pow]
  have : c < 64 := by omega
  have e4 : decide (k = c) = decide (c = k) := decide_eq_decide.2 eq_comm
  simp [this, e4]
/-- 'mask &^ bit(core)' allows what mask allows, but for the core. -/
theorem andNot_allow (m : Int) (k : Nat) (hk : k < 8) (b : Int) (hb : ((2 ^ k : Nat) : Int) = b) (c : Nat) (hc : c < 8) : allow (Go.bits BinOp.andNot IntKind.i64 m b) c = (allow m c && !decide (c = k)) := by
  rw [allow_bit _ c hc, allow_bit m c hc, ← hb]
  have e : Go.bits BinOp.andNot IntKind.i64 m ((2 ^ k : Nat) : Int) = IntKind.i64.wrap ((BitVec.ofInt 64 m &&& ~~~BitVec.ofInt 64 ((2 ^ k : Nat) : Int)).toNat : Nat) := rfl
  have h2 : (BitVec.ofInt 64 ((2 ^ k : Nat) : Int)).toNat = 2 ^ k := ofInt_u64 _ (pow_small k hk)
  have h1 : (BitVec.ofInt 64 m).toNat = (m % 18446744073709551616).toNat := by rw [BitVec.toNat_ofInt]; rfl
  rw [e, BitVec.toNat_and, BitVec.toNat_not, h1, h2, IntKind.wrap_i64, Nat.sub_sub, Nat.add_comm 1]
  have hX : (m % 18446744073709551616).toNat < 18446744073709551616 := by omega
  generalize (m % 18446744073709551616).toNat = X at hX ⊢
  have key := less_bit X k c hk hc
  have hx : X &&& (2 ^ 64 - (2 ^ k + 1)) < 18446744073709551616 := Nat.lt_of_le_of_lt Nat.and_le_left hX
  generalize X &&& (2 ^ 64 - (2 ^ k + 1)) = Y at key hx ⊢
  rw [unwrap_nat Y hx, key]
def pickI : Option Nat → Int
  | none => -1
  | some c => c
end Go.Proofs.YtmldedkmmhnihaaDoor
