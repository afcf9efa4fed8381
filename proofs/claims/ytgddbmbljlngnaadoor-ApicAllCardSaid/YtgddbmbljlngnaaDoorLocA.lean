/- Walks: apic.class, isClass, refuse, allAllowed, classesDiffer, each for every input. -/
import Derived.Test.YtgddbmbljlngnaaDoorLocP
import Derived.Test.YtgddbmbljlngnaaDoorTell
namespace Go.Proofs.YtgddbmbljlngnaaDoor
open Go.RowKit

theorem class_any (n : Nat) (w : World) (hn : n < 256) :
    Calls Tryd.prog 31 #[.int .i64 n] w fun e w' => e = .returned (.int .i64 ((n / 16 : Nat) : Int)) ∧ w = w' := by
  go_enter Tryd.func31, Tryd.ntmps31
  go_wp2
  go_ret
  exact ⟨by congr 2, rfl⟩
theorem class_R (m : Int) (r : Int) (w : World) (h0 : Hid (0 ≤ m)) (h1 : Hid (m < 256)) (hr : Hid (m / 16 = r)) :
    Calls Tryd.prog 31 #[.int .i64 m] w fun e w' => e = .returned (.int .i64 r) ∧ w = w' := by
  have h0' := h0.out
  have h1' := h1.out
  obtain ⟨n, rfl⟩ : ∃ n : Nat, m = n := ⟨m.toNat, by omega⟩
  rw [← hr.out]
  exact class_any n w (by omega)

theorem isClass_yes (c : Int) (w : World) (h0 : 0 ≤ c) (h1 : c < 16) :
    Calls Tryd.prog 27 #[.int .i64 c] w fun e w' => e = .returned (.bool true) ∧ w = w' := by
  go_enter Tryd.func27, Tryd.ntmps27
  go_wp2
  go_ret
  exact ⟨rfl, rfl⟩
theorem isClass_low (c : Int) (w : World) (hd : decide (0 ≤ c) = false) :
    Calls Tryd.prog 27 #[.int .i64 c] w fun e w' => e = .returned (.bool false) ∧ w = w' := by
  go_enter Tryd.func27, Tryd.ntmps27
  go_wp2
  go_ret
  exact ⟨rfl, rfl⟩
theorem isClass_high (c : Int) (w : World) (h0 : 0 ≤ c) (hd : decide (c < 16) = false) :
    Calls Tryd.prog 27 #[.int .i64 c] w fun e w' => e = .returned (.bool false) ∧ w = w' := by
  go_enter Tryd.func27, Tryd.ntmps27
  go_wp2
  go_ret
  exact ⟨rfl, rfl⟩
theorem isClass_R (c : Int) (t : Bool) (w : World) (ht : Hid (clsB c = t)) :
    Calls Tryd.prog 27 #[.int .i64 c] w fun e w' => e = .returned (.bool t) ∧ w = w' := by
  rw [← ht.out]
  by_cases h0 : 0 ≤ c
  · by_cases h1 : c < 16
    · rw [show clsB c = true from (clsB_iff c).2 ⟨h0, h1⟩]
      exact isClass_yes c w h0 h1
    · rw [show clsB c = false by rw [← Bool.not_eq_true, clsB_iff]; omega]
      exact isClass_high c w h0 (by simp; omega)
  · rw [show clsB c = false by rw [← Bool.not_eq_true, clsB_iff]; omega]
    exact isClass_low c w (by simp; omega)

theorem refuse_any (x : Int) (w : World) :
    Calls Tryd.prog 20 #[.int .i64 x] w fun e w' => e = .returned (.tuple #[.agg #[.int .u64 0, .int .u64 0, .int .u64 0, .int .u64 0, .int .u64 0, .int .u64 0, .int .u64 0, .int .u64 0, .int .i64 0], .int .i64 0, .int .i64 x]) ∧ Below w.heap.size w w' := by
  go_enter Tryd.func20, Tryd.ntmps20
  go_wp2
  refine bodyPost_ret (v := .tuple #[.agg #[.int .u64 0, .int .u64 0, .int .u64 0, .int .u64 0, .int .u64 0, .int .u64 0, .int .u64 0, .int .u64 0, .int .i64 0], .int .i64 0, .int .i64 x]) (by simp [results, Tryd.results20, go_sem]) rfl ⟨rfl, ?_⟩
  exact (Below.refl _ _).alloc (Nat.le_refl _) _

set_option maxRecDepth 100000 in
theorem allowed_none (a b c d : Nat) (r : Int) (w : World) (h : Hid (Ok a b c d)) (HT : Hid (Tab w)) (Hr : Hid (nextOf (mem a b c d) 0 = r)) (h0 : r < 0) :
    Calls Tryd.prog 28 #[.agg #[.int .u64 a, .int .u64 b, .int .u64 c, .int .u64 d]] w fun e w' => e = .returned (.bool true) ∧ Below w.heap.size w w' := by
  go_enter Tryd.func28, Tryd.ntmps28
  go_wp2_with (go_at_call 32; refine (next_every a b c d 0 r _ h (HT.out.below ((Below.refl _ _).alloc (Nat.le_refl _) _)) Hr).mono ?_; rintro e w' ⟨rfl, hb⟩)
  go_ret
  exact ⟨rfl, ((Below.refl _ _).alloc (Nat.le_refl _) _).trans (hb.mono (by simp))⟩
set_option maxRecDepth 100000 in
theorem allowed_yes (a b c d : Nat) (r : Int) (w : World) (h : Hid (Ok a b c d)) (HT : Hid (Tab w)) (Hr : Hid (nextOf (mem a b c d) 0 = r)) (hd : decide (r < 0) = false) (h1 : 32 ≤ r) :
    Calls Tryd.prog 28 #[.agg #[.int .u64 a, .int .u64 b, .int .u64 c, .int .u64 d]] w fun e w' => e = .returned (.bool true) ∧ Below w.heap.size w w' := by
  go_enter Tryd.func28, Tryd.ntmps28
  go_wp2_with (go_at_call 32; refine (next_every a b c d 0 r _ h (HT.out.below ((Below.refl _ _).alloc (Nat.le_refl _) _)) Hr).mono ?_; rintro e w' ⟨rfl, hb⟩)
  go_ret
  exact ⟨rfl, ((Below.refl _ _).alloc (Nat.le_refl _) _).trans (hb.mono (by simp))⟩
set_option maxRecDepth 100000 in
theorem allowed_no (a b c d : Nat) (r : Int) (w : World) (h : Hid (Ok a b c d)) (HT : Hid (Tab w)) (Hr : Hid (nextOf (mem a b c d) 0 = r)) (hd : decide (r < 0) = false) (hd1 : decide (32 ≤ r) = false) :
    Calls Tryd.prog 28 #[.agg #[.int .u64 a, .int .u64 b, .int .u64 c, .int .u64 d]] w fun e w' => e = .returned (.bool false) ∧ Below w.heap.size w w' := by
  go_enter Tryd.func28, Tryd.ntmps28
  go_wp2_with (go_at_call 32; refine (next_every a b c d 0 r _ h (HT.out.below ((Below.refl _ _).alloc (Nat.le_refl _) _)) Hr).mono ?_; rintro e w' ⟨rfl, hb⟩)
  go_ret
  exact ⟨rfl, ((Below.refl _ _).alloc (Nat.le_refl _) _).trans (hb.mono (by simp))⟩
theorem allowed_R (a b c d : Nat) (t : Bool) (w : World) (h : Hid (Ok a b c d)) (hT : Tab w) (ht : Hid (lowB (mem a b c d) = t)) :
    Calls Tryd.prog 28 #[.agg #[.int .u64 a, .int .u64 b, .int .u64 c, .int .u64 d]] w fun e w' => e = .returned (.bool t) ∧ Below w.heap.size w w' := by
  rw [← ht.out, low_next]
  by_cases h0 : nextOf (mem a b c d) 0 < 0
  · rw [decide_eq_true h0]
    exact allowed_none a b c d _ w h hT rfl h0
  · rw [decide_eq_false h0]
    by_cases h1 : 32 ≤ nextOf (mem a b c d) 0
    · rw [decide_eq_true h1]
      exact allowed_yes a b c d _ w h hT rfl (decide_eq_false h0) h1
    · rw [decide_eq_false h1]
      exact allowed_no a b c d _ w h hT rfl (decide_eq_false h0) (decide_eq_false h1)

set_option maxHeartbeats 2000000 in
set_option maxRecDepth 100000 in
theorem differ_core (a b c d : Nat) (l : List Nat) (w : World) (h : Hid (Ok a b c d)) (HT : Hid (Tab w)) (Hl : Hid (allOf (mem a b c d) = l)) (h256 : l.length ≤ 256) :
    Calls Tryd.prog 29 #[.agg #[.int .u64 a, .int .u64 b, .int .u64 c, .int .u64 d]] w fun e w' => e = .returned (.bool (diffB (mem a b c d))) ∧ Below w.heap.size w w' := by
  go_enter Tryd.func29, Tryd.ntmps29
  go_wp2_with (go_at_call 17; refine (all_list a b c d l _ h (HT.out.below ((Below.refl _ _).alloc (Nat.le_refl _) _)) Hl).mono ?_; rintro e w1 ⟨v, rfl, ⟨ad, cap, rfl, HL⟩, hb⟩)
  have HB : Hid (Below w.heap.size w w1) := ((Below.refl _ _).alloc (Nat.le_refl _) _).trans (hb.mono (by simp))
  have HLI := Lib.hid HL
  clear hb HL
  go_loop [3, 9] (fun t i => ∃ k : Nat, k ≤ l.length ∧ i = .int .i64 k ∧ t = .int .i64 (lastCls l k) ∧ Hid (∀ j, j < k → ((l.getD j 0 / 16 : Nat) : Int) ≠ lastCls l j)) (fun _ i => l.length - (intOf i).toNat)
  case atStart => exact ⟨0, Nat.zero_le _, rfl, rfl, fun j hj => by omega⟩
  case round =>
    obtain ⟨k, hk, rfl, rfl, HD⟩ := hrel
    by_cases hlt : k < l.length
    · obtain ⟨g, rfl, hlies⟩ := HLI.out (by omega)
      obtain ⟨x, hx⟩ : ∃ x : Nat, l.getD k 0 = x := ⟨_, rfl⟩
      have hcell : w1.cell? ⟨g, k, none⟩ = some (.int .i64 (x : Int)) := by rw [← hx]; exact hlies k hlt
      have hx256 : x < 256 := by rw [← hx, ← Hl.out]; exact (at_is _ k (by rw [Hl.out]; exact hlt)).2
      obtain ⟨y, hy⟩ : ∃ y : Int, lastCls l k = y := ⟨_, rfl⟩
      rw [hy]
      have HX := Lib.hid hx
      have HY := Lib.hid hy
      clear hx hy hlies
      by_cases he : ((x / 16 : Nat) : Int) = y
      · have HE := Lib.hid he
        subst he
        go_wp2_with (go_at_call 31; refine (class_any x _ hx256).mono ?_; rintro e w' ⟨rfl, rfl⟩)
        go_ret
        refine ⟨?_, HB.out⟩
        have h1 : (((allOf (mem a b c d)).getD k 0 / 16 : Nat) : Int) = lastCls (allOf (mem a b c d)) k := by rw [Hl.out, HX.out, HY.out]
        rw [diff_hit (mem a b c d) k (by rw [Hl.out]; exact hlt) h1]
        rfl
      · have hd : (((x / 16 : Nat) : Int) == y) = false := by simpa using he
        go_wp2_with (go_at_call 31; refine (class_any x _ hx256).mono ?_; rintro e w' ⟨rfl, rfl⟩)
        go_round
        case rel =>
          refine ⟨k + 1, by omega, by go_num, by rw [lastCls_succ, HX.out]; exact congrArg _ (by omega), fun j hj => ?_⟩
          by_cases hjk : j = k
          · rw [hjk, HX.out, HY.out]
            exact he
          · exact HD.out j (by omega)
        case measure => simp [intOf]; omega
    · have hkl : k = l.length := by omega
      subst hkl
      clear hlt
      go_wp2_with fail
      go_ret
      refine ⟨?_, HB.out⟩
      rw [diff_end (mem a b c d) (by rw [Hl.out]; exact HD.out)]
      rfl
theorem differ_R (a b c d : Nat) (t : Bool) (w : World) (h : Hid (Ok a b c d)) (hT : Tab w) (ht : Hid (diffB (mem a b c d) = t)) :
    Calls Tryd.prog 29 #[.agg #[.int .u64 a, .int .u64 b, .int .u64 c, .int .u64 d]] w fun e w' => e = .returned (.bool t) ∧ Below w.heap.size w w' := by
  rw [← ht.out]
  exact differ_core a b c d _ w h hT rfl (filter_len _ 256)
end Go.Proofs.YtgddbmbljlngnaaDoor
