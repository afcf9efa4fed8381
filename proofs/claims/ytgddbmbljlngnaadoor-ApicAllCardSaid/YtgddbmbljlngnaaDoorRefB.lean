/- The walk of corebellref.ABits: a row of 256 bools as four words. -/
import Derived.Test.YtgddbmbljlngnaaDoorRefA
namespace Go.Proofs.YtgddbmbljlngnaaDoor
open Go.RowKit

/-- The number whose bits are p lo, p (lo + 1), .. : c of them. -/
def acc (p : Nat → Bool) : Nat → Nat → Nat
  | _, 0 => 0
  | lo, c + 1 => (if p lo = true then 1 else 0) + 2 * acc p (lo + 1) c
theorem acc_lt (p : Nat → Bool) : ∀ c lo, acc p lo c < 2 ^ c
  | 0, lo => by simp [acc]
  | c + 1, lo => by
    have := acc_lt p c (lo + 1)
    rw [acc, Nat.pow_succ]
    split <;> omega
theorem acc_test (p : Nat → Bool) : ∀ c lo j, j < c → (acc p lo c).testBit j = p (lo + j)
  | 0, lo, j, h => by omega
  | c + 1, lo, 0, h => by
    rw [acc, Nat.testBit_zero]
    cases p lo <;> simp <;> omega
  | c + 1, lo, j + 1, h => by
    rw [Nat.testBit_succ, acc]
    have e : ((if p lo = true then 1 else 0) + 2 * acc p (lo + 1) c) / 2 = acc p (lo + 1) c := by split <;> omega
    rw [e, acc_test p c (lo + 1) j (by omega)]
    congr 1
    omega
/-- Word k, when the row has been read down to n. -/
def wk (p : Nat → Bool) (k n : Nat) : Nat := acc p (max n (64 * k)) (64 * (k + 1) - max n (64 * k))
theorem wk_step (p : Nat → Bool) (k m : Nat) (h : m / 64 = k) : wk p k m = (if p m = true then 1 else 0) + 2 * wk p k (m + 1) := by
  unfold wk
  have e1 : max m (64 * k) = m := by omega
  have e2 : max (m + 1) (64 * k) = m + 1 := by omega
  rw [e1, e2]
  have e3 : 64 * (k + 1) - m = (64 * (k + 1) - (m + 1)) + 1 := by omega
  rw [e3, acc]
theorem wk_other (p : Nat → Bool) (k m : Nat) (h : m / 64 ≠ k) : wk p k m = wk p k (m + 1) := by
  unfold wk
  by_cases hlt : m / 64 < k
  · have e1 : max m (64 * k) = 64 * k := by omega
    have e2 : max (m + 1) (64 * k) = 64 * k := by omega
    rw [e1, e2]
  · have e1 : 64 * (k + 1) - max m (64 * k) = 0 := by omega
    have e2 : 64 * (k + 1) - max (m + 1) (64 * k) = 0 := by omega
    rw [e1, e2]
    simp [acc]
theorem wk_half (p : Nat → Bool) (k m : Nat) (h : m / 64 = k) : wk p k (m + 1) < 2 ^ 63 := by
  unfold wk
  refine Nat.lt_of_lt_of_le (acc_lt p _ _) (Nat.pow_le_pow_right (by decide) ?_)
  omega
theorem wk_top (p : Nat → Bool) (k : Nat) (h : k < 4) : wk p k 256 = 0 := by
  unfold wk
  have : 64 * (k + 1) - max 256 (64 * k) = 0 := by omega
  rw [this, acc]
/-- The four words of a row. -/
def wof (p : Nat → Bool) (k : Nat) : Nat := wk p k 0
theorem wof_lt (p : Nat → Bool) (k : Nat) : wof p k < 2 ^ 64 := by
  unfold wof wk
  have : 64 * (k + 1) - max 0 (64 * k) = 64 := by omega
  rw [this]
  exact acc_lt p 64 _
theorem wof_ok (p : Nat → Bool) : Ok (wof p 0) (wof p 1) (wof p 2) (wof p 3) := ⟨wof_lt p 0, wof_lt p 1, wof_lt p 2, wof_lt p 3⟩
theorem wof_test (p : Nat → Bool) (k j : Nat) (hj : j < 64) : (wof p k).testBit j = p (64 * k + j) := by
  unfold wof wk
  have e : 64 * (k + 1) - max 0 (64 * k) = 64 := by omega
  have e2 : max 0 (64 * k) = 64 * k := by omega
  rw [e, e2]
  exact acc_test p 64 _ j hj
theorem mem_wof (p : Nat → Bool) (m : Nat) (hm : m < 256) : mem (wof p 0) (wof p 1) (wof p 2) (wof p 3) m = p m := by
  have hj : m % 64 < 64 := Nat.mod_lt _ (by decide)
  have hk : m / 64 = 0 ∨ m / 64 = 1 ∨ m / 64 = 2 ∨ m / 64 = 3 := by omega
  unfold mem word
  rcases hk with h | h | h | h <;> simp only [h] <;> simp only [reduceIte, Nat.reduceEqDiff, Nat.one_ne_zero] <;> rw [wof_test _ _ _ hj] <;> congr 1 <;> omega

/-- The cells of the four words when the row has been read down to n. -/
def Told (p : Nat → Bool) (D : Array Value) (n : Nat) : Prop := D.size = 4 ∧ ∀ k, k < 4 → D[k]? = some (.int .u64 ((wk p k n : Nat) : Int))
theorem told_step {p : Nat → Bool} {D : Array Value} {m q : Nat} {z : Int} (h : Told p D (m + 1)) (hq : m / 64 = q) (hq4 : q < 4) (hz : ((wk p q m : Nat) : Int) = z) : Told p (D.setIfInBounds q (.int .u64 z)) m := by
  refine ⟨by simp [h.1], fun k hk => ?_⟩
  rw [Array.getElem?_setIfInBounds]
  by_cases e : q = k
  · subst e
    simp [h.1, hq4, hz]
  · rw [if_neg e, wk_other p k m (by omega)]
    exact h.2 k hk

set_option maxHeartbeats 8000000 in
set_option maxRecDepth 100000 in
theorem bits_core (p : Nat → Bool) (R : Array Value) (hR : Hid (R = boolsOf p 256)) (w : World) :
    Calls Tryd.prog 39 #[.agg R] w fun e w' => e = .returned (.agg #[.int .u64 (wof p 0 : Nat), .int .u64 (wof p 1 : Nat), .int .u64 (wof p 2 : Nat), .int .u64 (wof p 3 : Nat)]) ∧ Below w.heap.size w w' := by
  go_enter Tryd.func39, Tryd.ntmps39
  go_wp2_with fail
  go_loopw [4] (fun i wr => ∃ (n : Nat) (D : Array Value), n ≤ 256 ∧ i = .int .i64 ((n : Int) - 1) ∧ Told p D n ∧ wr = ((w.alloc (.cells R 56)).alloc (.cells #[.int .u64 0, .int .u64 0, .int .u64 0, .int .u64 0] 24)).alloc (.cells D 24)) (fun i _ => (intOf i + 1).toNat)
  case atStart =>
    refine ⟨256, #[.int .u64 0, .int .u64 0, .int .u64 0, .int .u64 0], by omega, rfl, ⟨rfl, fun k hk => ?_⟩, rfl⟩
    rw [wk_top p k hk]
    have hk4 : k = 0 ∨ k = 1 ∨ k = 2 ∨ k = 3 := by omega
    rcases hk4 with rfl | rfl | rfl | rfl <;> rfl
  case round =>
    obtain ⟨n, D, hn, rfl, HD, rfl⟩ := hrel
    by_cases h0 : n = 0
    · subst h0
      clear hn
      have d0 : D[0]? = some (.int .u64 ((wof p 0 : Nat) : Int)) := HD.2 0 (by decide)
      have d1 : D[1]? = some (.int .u64 ((wof p 1 : Nat) : Int)) := HD.2 1 (by decide)
      have d2 : D[2]? = some (.int .u64 ((wof p 2 : Nat) : Int)) := HD.2 2 (by decide)
      have d3 : D[3]? = some (.int .u64 ((wof p 3 : Nat) : Int)) := HD.2 3 (by decide)
      clear HD
      have e0 : ((0 : Nat) : Int) - 1 = -1 := by decide
      rw [e0]
      clear e0
      go_wp2_with fail
      refine bodyPost_ret (v := .agg #[.int .u64 (wof p 0 : Nat), .int .u64 (wof p 1 : Nat), .int .u64 (wof p 2 : Nat), .int .u64 (wof p 3 : Nat)]) (by simp [results, Tryd.results39, go_sem]) rfl ⟨rfl, ?_⟩
      repeat (first | exact Below.refl _ _ | apply Below.drew | (refine Below.alloc ?_ (by simp; try omega) _) | (refine Below.setCell ?_ (by simp; try omega) _))
    · obtain ⟨m, rfl⟩ : ∃ m, n = m + 1 := ⟨n - 1, by omega⟩
      have em : ((m + 1 : Nat) : Int) - 1 = (m : Int) := by omega
      rw [em]
      clear em h0
      obtain ⟨q, hq⟩ : ∃ q : Nat, m / 64 = q := ⟨_, rfl⟩
      have hq4 : q < 4 := by omega
      have hqi : (m : Int) / 64 = (q : Int) := by omega
      obtain ⟨x, hx⟩ : ∃ x : Nat, wk p q (m + 1) = x := ⟨_, rfl⟩
      have hx63 : x < 2 ^ 63 := by rw [← hx]; exact wk_half p q m hq
      have hcell : D[q]? = some (.int .u64 (x : Int)) := by rw [← hx]; exact HD.2 q hq4
      have hst := wk_step p q m hq
      rw [hx] at hst
      have hmul : IntKind.u64.wrap ((x : Int) * 2) = (x : Int) * 2 := by rw [IntKind.wrap_u64]; exact Int.emod_eq_of_lt (by omega) (by omega)
      have hadd : IntKind.u64.wrap ((x : Int) * 2 + 1) = (x : Int) * 2 + 1 := by rw [IntKind.wrap_u64]; exact Int.emod_eq_of_lt (by omega) (by omega)
      have hself : ∀ v : Value, (D.setIfInBounds q v)[q]? = some v := fun v => by rw [Array.getElem?_setIfInBounds]; simp [HD.1, hq4]
      have htwo : ∀ v v' : Value, (D.setIfInBounds q v).setIfInBounds q v' = D.setIfInBounds q v' := fun v v' => by simp
      have HST := Lib.hid hst
      have HDD := Lib.hid HD
      have HQ := Lib.hid hq
      have HX63 := Lib.hid hx63
      clear hst HD hx hq hx63
      cases ht : p m
      · have hrow : R[m]? = some (.bool false) := by rw [hR.out, boolsOf_at p 256 m (by omega), ht]
        have HT := Lib.hid ht
        clear ht
        go_wp2_with fail
        go_roundw
        case rel => exact ⟨m, _, by omega, rfl, told_step HDD.out HQ.out hq4 (by rw [HST.out, HT.out]; simp; omega), rfl⟩
        case measure => simp [intOf]
      · have hrow : R[m]? = some (.bool true) := by rw [hR.out, boolsOf_at p 256 m (by omega), ht]
        have HT := Lib.hid ht
        clear ht
        go_wp2_with fail
        go_roundw
        case rel => exact ⟨m, _, by omega, rfl, told_step HDD.out HQ.out hq4 (by rw [HST.out, HT.out]; simp; omega), rfl⟩
        case measure => simp [intOf]

/-- corebellref.ABits, for every row of bools. -/
theorem bits_any (p : Nat → Bool) (w : World) :
    Calls Tryd.prog 39 #[.agg (boolsOf p 256)] w fun e w' => e = .returned (.agg #[.int .u64 (wof p 0 : Nat), .int .u64 (wof p 1 : Nat), .int .u64 (wof p 2 : Nat), .int .u64 (wof p 3 : Nat)]) ∧ Below w.heap.size w w' :=
  bits_core p _ rfl w
end Go.Proofs.YtgddbmbljlngnaaDoor
