/- The contracts of bits.With, Without, and of Next from a number below 64, in the words of the plain sets. -/
import Derived.Test.YtmldedkmmhnihaaDoorBitsB
import Derived.Test.YtmldedkmmhnihaaDoorBitsC
import Derived.Test.YtmldedkmmhnihaaDoorBitsF
import Derived.Test.YtmldedkmmhnihaaDoorPlainB
namespace Go.Proofs.YtmldedkmmhnihaaDoor
open Go.RowKit

theorem ag_eq {x0 x1 x2 x3 y0 y1 y2 y3 : Int} (h0 : x0 = y0) (h1 : x1 = y1) (h2 : x2 = y2) (h3 : x3 = y3) :
    Ending.returned (.agg #[.int .u64 x0, .int .u64 x1, .int .u64 x2, .int .u64 x3]) = .returned (.agg #[.int .u64 y0, .int .u64 y1, .int .u64 y2, .int .u64 y3]) := by
  rw [h0, h1, h2, h3]

theorem and_nat {a b : Nat} (ha : a < 2 ^ 64) (hb : b < 2 ^ 64) : Go.bits .and .u64 (a : Int) (b : Int) = ((a &&& b : Nat) : Int) := u64_and_nat a b ha hb
theorem or_nat {a b : Nat} (ha : a < 2 ^ 64) (hb : b < 2 ^ 64) : Go.bits .or .u64 (a : Int) (b : Int) = ((a ||| b : Nat) : Int) := u64_or_nat a b ha hb
theorem andNot_nat {a b : Nat} (ha : a < 2 ^ 64) (hb : b < 2 ^ 64) : Go.bits .andNot .u64 (a : Int) (b : Int) = ((a &&& (2 ^ 64 - (b + 1)) : Nat) : Int) := by
  rw [u64_andNot_nat a b ha hb]
  congr 2
  omega


theorem part4 (n : Nat) (h : n < 256) : n / 64 = 0 ∨ n / 64 = 1 ∨ n / 64 = 2 ∨ n / 64 = 3 := by omega
theorem part_int {n k : Nat} (h : n / 64 = k) : (n : Int) / 64 = k := by omega

theorem with_any (a b c d n : Nat) (w : World) (h : Ok a b c d) (hn : n < 256) :
    Calls Tryd.prog 17 #[.agg #[.int .u64 a, .int .u64 b, .int .u64 c, .int .u64 d], .int .i64 n] w fun e w' => e = .returned (.agg #[.int .u64 (up 0 n a : Nat), .int .u64 (up 1 n b : Nat), .int .u64 (up 2 n c : Nat), .int .u64 (up 3 n d : Nat)]) ∧ Below w.heap.size w w' := by
  rcases part4 n hn with hk | hk | hk | hk
  · refine (with_0 a b c d n w hn (part_int hk)).mono ?_
    rintro e w' ⟨rfl, hb⟩
    exact ⟨ag_eq (by rw [or_nat h.1 (two_lt n)]; unfold up; rw [if_pos hk]) (by unfold up; rw [if_neg (by omega)]) (by unfold up; rw [if_neg (by omega)]) (by unfold up; rw [if_neg (by omega)]), hb⟩
  · refine (with_1 a b c d n w hn (part_int hk)).mono ?_
    rintro e w' ⟨rfl, hb⟩
    exact ⟨ag_eq (by unfold up; rw [if_neg (by omega)]) (by rw [or_nat h.2.1 (two_lt n)]; unfold up; rw [if_pos hk]) (by unfold up; rw [if_neg (by omega)]) (by unfold up; rw [if_neg (by omega)]), hb⟩
  · refine (with_2 a b c d n w hn (part_int hk)).mono ?_
    rintro e w' ⟨rfl, hb⟩
    exact ⟨ag_eq (by unfold up; rw [if_neg (by omega)]) (by unfold up; rw [if_neg (by omega)]) (by rw [or_nat h.2.2.1 (two_lt n)]; unfold up; rw [if_pos hk]) (by unfold up; rw [if_neg (by omega)]), hb⟩
  · refine (with_3 a b c d n w hn (part_int hk)).mono ?_
    rintro e w' ⟨rfl, hb⟩
    exact ⟨ag_eq (by unfold up; rw [if_neg (by omega)]) (by unfold up; rw [if_neg (by omega)]) (by unfold up; rw [if_neg (by omega)]) (by rw [or_nat h.2.2.2 (two_lt n)]; unfold up; rw [if_pos hk]), hb⟩

theorem without_any (a b c d n : Nat) (w : World) (h : Ok a b c d) (hn : n < 256) :
    Calls Tryd.prog 21 #[.agg #[.int .u64 a, .int .u64 b, .int .u64 c, .int .u64 d], .int .i64 n] w fun e w' => e = .returned (.agg #[.int .u64 (dn 0 n a : Nat), .int .u64 (dn 1 n b : Nat), .int .u64 (dn 2 n c : Nat), .int .u64 (dn 3 n d : Nat)]) ∧ Below w.heap.size w w' := by
  rcases part4 n hn with hk | hk | hk | hk
  · refine (without_0 a b c d n w hn (part_int hk)).mono ?_
    rintro e w' ⟨rfl, hb⟩
    exact ⟨ag_eq (by rw [andNot_nat h.1 (two_lt n)]; unfold dn; rw [if_pos hk]) (by unfold dn; rw [if_neg (by omega)]) (by unfold dn; rw [if_neg (by omega)]) (by unfold dn; rw [if_neg (by omega)]), hb⟩
  · refine (without_1 a b c d n w hn (part_int hk)).mono ?_
    rintro e w' ⟨rfl, hb⟩
    exact ⟨ag_eq (by unfold dn; rw [if_neg (by omega)]) (by rw [andNot_nat h.2.1 (two_lt n)]; unfold dn; rw [if_pos hk]) (by unfold dn; rw [if_neg (by omega)]) (by unfold dn; rw [if_neg (by omega)]), hb⟩
  · refine (without_2 a b c d n w hn (part_int hk)).mono ?_
    rintro e w' ⟨rfl, hb⟩
    exact ⟨ag_eq (by unfold dn; rw [if_neg (by omega)]) (by unfold dn; rw [if_neg (by omega)]) (by rw [andNot_nat h.2.2.1 (two_lt n)]; unfold dn; rw [if_pos hk]) (by unfold dn; rw [if_neg (by omega)]), hb⟩
  · refine (without_3 a b c d n w hn (part_int hk)).mono ?_
    rintro e w' ⟨rfl, hb⟩
    exact ⟨ag_eq (by unfold dn; rw [if_neg (by omega)]) (by unfold dn; rw [if_neg (by omega)]) (by unfold dn; rw [if_neg (by omega)]) (by rw [andNot_nat h.2.2.2 (two_lt n)]; unfold dn; rw [if_pos hk]), hb⟩

theorem has_test {x n : Nat} (hx : x < 2 ^ 64) : ((Go.bits .and .u64 (x : Int) ((2 ^ (n % 64) : Nat) : Int)) != 0) = x.testBit (n % 64) := by
  rw [and_nat hx (two_lt n), nat_bit, Nat.testBit_eq_decide_div_mod_eq]
  have h1 : 0 < 2 ^ (n % 64) := Nat.two_pow_pos _
  have h2 : x / 2 ^ (n % 64) % 2 = 0 ∨ x / 2 ^ (n % 64) % 2 = 1 := by omega
  rcases h2 with h2 | h2
  · simp [h2]
  · have h3 : ((2 ^ (n % 64) : Nat) : Int) ≠ 0 := Int.natCast_ne_zero.2 (by omega)
    rw [h2, Nat.one_mul]
    exact bne_iff_ne.2 h3

theorem ne_false {x : Nat} (h : x = 0) : ((x : Int) != 0) = false := by simp [h]
theorem ne_true {x : Nat} (h : x ≠ 0) : ((x : Int) != 0) = true := by simp; omega


theorem mask_int (x f : Nat) (hx : x < 2 ^ 64) : Go.bits BinOp.andNot IntKind.u64 (x : Int) (IntKind.u64.wrap (2 ^ (f % 64) - 1)) = ((x &&& (2 ^ 64 - ((2 ^ (f % 64) - 1) + 1)) : Nat) : Int) := by
  have h1 : 2 ^ (f % 64) < 2 ^ 64 := two_lt f
  have h2 : 0 < 2 ^ (f % 64) := Nat.two_pow_pos _
  have e : IntKind.u64.wrap (2 ^ (f % 64) - 1) = ((2 ^ (f % 64) - 1 : Nat) : Int) := by
    rw [IntKind.wrap_u64]
    have e2 : (2 : Int) ^ (f % 64) - 1 = ((2 ^ (f % 64) - 1 : Nat) : Int) := by
      rw [Int.natCast_sub (by omega)]
      simp
    rw [e2]
    exact Int.emod_eq_of_lt (Int.natCast_nonneg _) (by have := Int.ofNat_lt.2 (show 2 ^ (f % 64) - 1 < 2 ^ 64 by omega); simpa using this)
  rw [e]
  exact andNot_nat hx (by omega)

theorem next_low (a b c d f : Nat) (w : World) (h : Ok a b c d) (hT : Tab w) (hf0 : f < 64) :
    Calls Tryd.prog 20 #[.agg #[.int .u64 a, .int .u64 b, .int .u64 c, .int .u64 d], .int .i64 f] w fun e w' => e = .returned (.int .i64 (nextOf (mem a b c d) f)) ∧ Below w.heap.size w w' := by
  have hf : f < 256 := by omega
  have hk : f / 64 = 0 := by omega
  obtain ⟨m, hmd⟩ : ∃ m : Nat, m = a &&& (2 ^ 64 - ((2 ^ (f % 64) - 1) + 1)) := ⟨_, rfl⟩
  have hmi : Go.bits BinOp.andNot IntKind.u64 (a : Int) (IntKind.u64.wrap (2 ^ (f % 64) - 1)) = (m : Int) := by rw [hmd]; exact mask_int a f h.1
  have hml : m < 2 ^ 64 := by rw [hmd]; exact and_lt _ h.1
  have hmt : ∀ i, i < 64 → m.testBit i = ((word a b c d 0).testBit i && decide (f % 64 ≤ i)) := fun i hi => by rw [hmd, test_mask _ _ _ (Nat.mod_lt _ (by decide)) hi]; simp [word]
  clear hmd
  by_cases z0 : m = 0
  case neg =>
    obtain ⟨q1, q2, q3⟩ := ctz_spec m z0 hml
    rw [next_gen (a := a) (b := b) (c := c) (d := d) (k := 0) (m := m) (j := 0) (t := Lib.ctz 64 m) hk hmt (by decide) (by decide) (fun i h1 h2 => by omega) q1 (by simpa [scanned, word] using q2) (by simpa [scanned, word] using q3)]
    exact next_0_0 a b c d m f w hf (part_int hk) hmi (Lib.ctz 64 m) hT hml rfl q1 (ne_true z0) 
  by_cases z1 : b = 0
  case neg =>
    obtain ⟨q1, q2, q3⟩ := ctz_spec b z1 h.2.1
    rw [next_gen (a := a) (b := b) (c := c) (d := d) (k := 0) (m := m) (j := 1) (t := Lib.ctz 64 b) hk hmt (by decide) (by decide) (fun i h1 h2 => by (have h3 : i = 0 := by omega); rcases h3 with rfl <;> simp [scanned, *]) q1 (by simpa [scanned, word] using q2) (by simpa [scanned, word] using q3)]
    exact next_0_1 a b c d m f w hf (part_int hk) hmi (Lib.ctz 64 b) hT h.2.1 rfl q1 (ne_true z1) (ne_false z0)
  by_cases z2 : c = 0
  case neg =>
    obtain ⟨q1, q2, q3⟩ := ctz_spec c z2 h.2.2.1
    rw [next_gen (a := a) (b := b) (c := c) (d := d) (k := 0) (m := m) (j := 2) (t := Lib.ctz 64 c) hk hmt (by decide) (by decide) (fun i h1 h2 => by (have h3 : i = 0 ∨ i = 1 := by omega); rcases h3 with rfl | rfl <;> simp [scanned, word, *]) q1 (by simpa [scanned, word] using q2) (by simpa [scanned, word] using q3)]
    exact next_0_2 a b c d m f w hf (part_int hk) hmi (Lib.ctz 64 c) hT h.2.2.1 rfl q1 (ne_true z2) (ne_false z0) (ne_false z1)
  by_cases z3 : d = 0
  case neg =>
    obtain ⟨q1, q2, q3⟩ := ctz_spec d z3 h.2.2.2
    rw [next_gen (a := a) (b := b) (c := c) (d := d) (k := 0) (m := m) (j := 3) (t := Lib.ctz 64 d) hk hmt (by decide) (by decide) (fun i h1 h2 => by (have h3 : i = 0 ∨ i = 1 ∨ i = 2 := by omega); rcases h3 with rfl | rfl | rfl <;> simp [scanned, word, *]) q1 (by simpa [scanned, word] using q2) (by simpa [scanned, word] using q3)]
    exact next_0_3 a b c d m f w hf (part_int hk) hmi (Lib.ctz 64 d) hT h.2.2.2 rfl q1 (ne_true z3) (ne_false z0) (ne_false z1) (ne_false z2)
  rw [next_gen_none (k := 0) (m := m) hk hmt (fun i h1 h2 => by
    have h3 : i = 0 ∨ i = 1 ∨ i = 2 ∨ i = 3 := by omega
    rcases h3 with rfl | rfl | rfl | rfl <;> simp [scanned, word, *])]
  exact next_0_none a b c d m f w hf (part_int hk) hmi (ne_false z0) (ne_false z1) (ne_false z2) (ne_false z3)
end Go.Proofs.YtmldedkmmhnihaaDoor
