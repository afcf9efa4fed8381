/- The walks of vector's check. -/
import Derived.Test.YtmldedkmmhnihaaDoorVecW
namespace Go.Proofs.YtmldedkmmhnihaaDoor
open Go.RowKit
set_option maxHeartbeats 1000000 in
set_option maxRecDepth 100000 in
theorem check_kind {W : Base} {w : World} {T B cores : Nat} {l : List SlotT} (r : VS W T B cores l w) (K L M : Int) (h1 : ¬ K = 1) (h2 : ¬ K = 2) (h3 : ¬ K = 3) :
    Calls Tryd.prog 13 #[.pointer (some ⟨T, 0, none⟩), .agg #[.int .i64 K, .int .i64 L, .int .i64 M]] w fun e w' => e = .returned (.int .i64 5) ∧ Below w.heap.size w w' := by
  have R0 := r.alloc (.cells #[.int .i64 K, .int .i64 L, .int .i64 M] 24)
  have eT := r.head.2
  have hTl := r.lt.1
  go_enter Tryd.func13, Tryd.ntmps13
  go_wp2_with fail
  go_ret
  exact ⟨rfl, (Below.refl _ _).alloc (Nat.le_refl _) _⟩
set_option maxHeartbeats 1000000 in
set_option maxRecDepth 100000 in
theorem check_lo1 {W : Base} {w : World} {T B cores : Nat} {l : List SlotT} (r : VS W T B cores l w) (L M : Int) (hL : L < 0) :
    Calls Tryd.prog 13 #[.pointer (some ⟨T, 0, none⟩), .agg #[.int .i64 1, .int .i64 L, .int .i64 M]] w fun e w' => e = .returned (.int .i64 2) ∧ Below w.heap.size w w' := by
  have hd : decide (L < 0) = true := decide_eq_true hL
  have R0 := r.alloc (.cells #[.int .i64 1, .int .i64 L, .int .i64 M] 24)
  have eT := r.head.2
  have hTl := r.lt.1
  go_enter Tryd.func13, Tryd.ntmps13
  go_wp2_with fail
  go_quiet (fail)
  go_wp2_with fail
  go_ret
  exact ⟨rfl, below_drewN ((Below.refl _ _).alloc (Nat.le_refl _) _) _⟩
set_option maxHeartbeats 1000000 in
set_option maxRecDepth 100000 in
theorem check_hi1 {W : Base} {w : World} {T B cores : Nat} {l : List SlotT} (r : VS W T B cores l w) (L M : Int) (hL : 0 ≤ L) (hk : l.length ≤ L) :
    Calls Tryd.prog 13 #[.pointer (some ⟨T, 0, none⟩), .agg #[.int .i64 1, .int .i64 L, .int .i64 M]] w fun e w' => e = .returned (.int .i64 2) ∧ Below w.heap.size w w' := by
  have hd : decide (L < 0) = false := decide_eq_false (by omega)
  have hd2 : decide ((l.length : Int) ≤ L) = true := decide_eq_true (by omega)
  have R0 := r.alloc (.cells #[.int .i64 1, .int .i64 L, .int .i64 M] 24)
  have eT := r.head.2
  have hTl := r.lt.1
  go_enter Tryd.func13, Tryd.ntmps13
  go_wp2_with fail
  go_quiet (fail)
  go_wp2_with fail
  go_ret
  exact ⟨rfl, below_drewN ((Below.refl _ _).alloc (Nat.le_refl _) _) _⟩
set_option maxHeartbeats 1000000 in
set_option maxRecDepth 100000 in
theorem check_has1 {W : Base} {w : World} {T B cores : Nat} {l : List SlotT} (r : VS W T B cores l w) (k : Nat) (M : Int) (hk : k < l.length) (HB : Hid (decide (0 < (l.getD k zs).vec) = true)) :
    Calls Tryd.prog 13 #[.pointer (some ⟨T, 0, none⟩), .agg #[.int .i64 1, .int .i64 (k : Int), .int .i64 M]] w fun e w' => e = .returned (.int .i64 6) ∧ Below w.heap.size w w' := by
  have hd : decide ((k : Int) < 0) = false := decide_eq_false (by omega)
  have hd2 : decide ((l.length : Int) ≤ (k : Int)) = false := decide_eq_false (by omega)
  have R0 := r.alloc (.cells #[.int .i64 1, .int .i64 (k : Int), .int .i64 M] 24)
  have eT := r.head.2
  have hTl := r.lt.1
  go_enter Tryd.func13, Tryd.ntmps13
  go_wp2_with fail
  go_quiet (fail)
  go_wp2_with (first
    | (go_at_call 18; (with_reducible refine (has_VS (R0.drewN _) k hk _ HB.out).mono ?_); rintro e w2 ⟨rfl, rfl⟩)
    | fail)
  go_ret
  exact ⟨rfl, below_drewN ((Below.refl _ _).alloc (Nat.le_refl _) _) _⟩
set_option maxHeartbeats 1000000 in
set_option maxRecDepth 100000 in
theorem check_no1 {W : Base} {w : World} {T B cores : Nat} {l : List SlotT} (r : VS W T B cores l w) (k : Nat) (M : Int) (hk : k < l.length) (HB : Hid (decide (0 < (l.getD k zs).vec) = false)) :
    Calls Tryd.prog 13 #[.pointer (some ⟨T, 0, none⟩), .agg #[.int .i64 1, .int .i64 (k : Int), .int .i64 M]] w fun e w' => e = .returned (.int .i64 0) ∧ Below w.heap.size w w' := by
  have hd : decide ((k : Int) < 0) = false := decide_eq_false (by omega)
  have hd2 : decide ((l.length : Int) ≤ (k : Int)) = false := decide_eq_false (by omega)
  have R0 := r.alloc (.cells #[.int .i64 1, .int .i64 (k : Int), .int .i64 M] 24)
  have eT := r.head.2
  have hTl := r.lt.1
  go_enter Tryd.func13, Tryd.ntmps13
  go_wp2_with fail
  go_quiet (fail)
  go_wp2_with (first
    | (go_at_call 18; (with_reducible refine (has_VS (R0.drewN _) k hk _ HB.out).mono ?_); rintro e w2 ⟨rfl, rfl⟩)
    | fail)
  go_ret
  exact ⟨rfl, below_drewN ((Below.refl _ _).alloc (Nat.le_refl _) _) _⟩
set_option maxHeartbeats 1000000 in
set_option maxRecDepth 100000 in
theorem check_lo2 {W : Base} {w : World} {T B cores : Nat} {l : List SlotT} (r : VS W T B cores l w) (L M : Int) (hL : L < 0) :
    Calls Tryd.prog 13 #[.pointer (some ⟨T, 0, none⟩), .agg #[.int .i64 2, .int .i64 L, .int .i64 M]] w fun e w' => e = .returned (.int .i64 2) ∧ Below w.heap.size w w' := by
  have hd : decide (L < 0) = true := decide_eq_true hL
  have R0 := r.alloc (.cells #[.int .i64 2, .int .i64 L, .int .i64 M] 24)
  have eT := r.head.2
  have hTl := r.lt.1
  go_enter Tryd.func13, Tryd.ntmps13
  go_wp2_with fail
  go_quiet (fail)
  go_wp2_with fail
  go_ret
  exact ⟨rfl, below_drewN ((Below.refl _ _).alloc (Nat.le_refl _) _) _⟩
set_option maxHeartbeats 1000000 in
set_option maxRecDepth 100000 in
theorem check_hi2 {W : Base} {w : World} {T B cores : Nat} {l : List SlotT} (r : VS W T B cores l w) (L M : Int) (hL : 0 ≤ L) (hk : l.length ≤ L) :
    Calls Tryd.prog 13 #[.pointer (some ⟨T, 0, none⟩), .agg #[.int .i64 2, .int .i64 L, .int .i64 M]] w fun e w' => e = .returned (.int .i64 2) ∧ Below w.heap.size w w' := by
  have hd : decide (L < 0) = false := decide_eq_false (by omega)
  have hd2 : decide ((l.length : Int) ≤ L) = true := decide_eq_true (by omega)
  have R0 := r.alloc (.cells #[.int .i64 2, .int .i64 L, .int .i64 M] 24)
  have eT := r.head.2
  have hTl := r.lt.1
  go_enter Tryd.func13, Tryd.ntmps13
  go_wp2_with fail
  go_quiet (fail)
  go_wp2_with fail
  go_ret
  exact ⟨rfl, below_drewN ((Below.refl _ _).alloc (Nat.le_refl _) _) _⟩
set_option maxHeartbeats 1000000 in
set_option maxRecDepth 100000 in
theorem check_has2 {W : Base} {w : World} {T B cores : Nat} {l : List SlotT} (r : VS W T B cores l w) (k : Nat) (M : Int) (hk : k < l.length) (HB : Hid (decide (0 < (l.getD k zs).vec) = true)) :
    Calls Tryd.prog 13 #[.pointer (some ⟨T, 0, none⟩), .agg #[.int .i64 2, .int .i64 (k : Int), .int .i64 M]] w fun e w' => e = .returned (.int .i64 0) ∧ Below w.heap.size w w' := by
  have hd : decide ((k : Int) < 0) = false := decide_eq_false (by omega)
  have hd2 : decide ((l.length : Int) ≤ (k : Int)) = false := decide_eq_false (by omega)
  have R0 := r.alloc (.cells #[.int .i64 2, .int .i64 (k : Int), .int .i64 M] 24)
  have eT := r.head.2
  have hTl := r.lt.1
  go_enter Tryd.func13, Tryd.ntmps13
  go_wp2_with fail
  go_quiet (fail)
  go_wp2_with (first
    | (go_at_call 18; (with_reducible refine (has_VS (R0.drewN _) k hk _ HB.out).mono ?_); rintro e w2 ⟨rfl, rfl⟩)
    | fail)
  go_ret
  exact ⟨rfl, below_drewN ((Below.refl _ _).alloc (Nat.le_refl _) _) _⟩
set_option maxHeartbeats 1000000 in
set_option maxRecDepth 100000 in
theorem check_no2 {W : Base} {w : World} {T B cores : Nat} {l : List SlotT} (r : VS W T B cores l w) (k : Nat) (M : Int) (hk : k < l.length) (HB : Hid (decide (0 < (l.getD k zs).vec) = false)) :
    Calls Tryd.prog 13 #[.pointer (some ⟨T, 0, none⟩), .agg #[.int .i64 2, .int .i64 (k : Int), .int .i64 M]] w fun e w' => e = .returned (.int .i64 3) ∧ Below w.heap.size w w' := by
  have hd : decide ((k : Int) < 0) = false := decide_eq_false (by omega)
  have hd2 : decide ((l.length : Int) ≤ (k : Int)) = false := decide_eq_false (by omega)
  have R0 := r.alloc (.cells #[.int .i64 2, .int .i64 (k : Int), .int .i64 M] 24)
  have eT := r.head.2
  have hTl := r.lt.1
  go_enter Tryd.func13, Tryd.ntmps13
  go_wp2_with fail
  go_quiet (fail)
  go_wp2_with (first
    | (go_at_call 18; (with_reducible refine (has_VS (R0.drewN _) k hk _ HB.out).mono ?_); rintro e w2 ⟨rfl, rfl⟩)
    | fail)
  go_ret
  exact ⟨rfl, below_drewN ((Below.refl _ _).alloc (Nat.le_refl _) _) _⟩
set_option maxHeartbeats 1000000 in
set_option maxRecDepth 100000 in
theorem check_lo3 {W : Base} {w : World} {T B cores : Nat} {l : List SlotT} (r : VS W T B cores l w) (L M : Int) (hL : L < 0) :
    Calls Tryd.prog 13 #[.pointer (some ⟨T, 0, none⟩), .agg #[.int .i64 3, .int .i64 L, .int .i64 M]] w fun e w' => e = .returned (.int .i64 2) ∧ Below w.heap.size w w' := by
  have hd : decide (L < 0) = true := decide_eq_true hL
  have R0 := r.alloc (.cells #[.int .i64 3, .int .i64 L, .int .i64 M] 24)
  have eT := r.head.2
  have hTl := r.lt.1
  go_enter Tryd.func13, Tryd.ntmps13
  go_wp2_with fail
  go_quiet (fail)
  go_wp2_with fail
  go_ret
  exact ⟨rfl, below_drewN ((Below.refl _ _).alloc (Nat.le_refl _) _) _⟩
set_option maxHeartbeats 1000000 in
set_option maxRecDepth 100000 in
theorem check_hi3 {W : Base} {w : World} {T B cores : Nat} {l : List SlotT} (r : VS W T B cores l w) (L M : Int) (hL : 0 ≤ L) (hk : l.length ≤ L) :
    Calls Tryd.prog 13 #[.pointer (some ⟨T, 0, none⟩), .agg #[.int .i64 3, .int .i64 L, .int .i64 M]] w fun e w' => e = .returned (.int .i64 2) ∧ Below w.heap.size w w' := by
  have hd : decide (L < 0) = false := decide_eq_false (by omega)
  have hd2 : decide ((l.length : Int) ≤ L) = true := decide_eq_true (by omega)
  have R0 := r.alloc (.cells #[.int .i64 3, .int .i64 L, .int .i64 M] 24)
  have eT := r.head.2
  have hTl := r.lt.1
  go_enter Tryd.func13, Tryd.ntmps13
  go_wp2_with fail
  go_quiet (fail)
  go_wp2_with fail
  go_ret
  exact ⟨rfl, below_drewN ((Below.refl _ _).alloc (Nat.le_refl _) _) _⟩
set_option maxHeartbeats 1000000 in
set_option maxRecDepth 100000 in
theorem check_has3 {W : Base} {w : World} {T B cores : Nat} {l : List SlotT} (r : VS W T B cores l w) (k : Nat) (M : Int) (hk : k < l.length) (HB : Hid (decide (0 < (l.getD k zs).vec) = true)) :
    Calls Tryd.prog 13 #[.pointer (some ⟨T, 0, none⟩), .agg #[.int .i64 3, .int .i64 (k : Int), .int .i64 M]] w fun e w' => e = .returned (.int .i64 0) ∧ Below w.heap.size w w' := by
  have hd : decide ((k : Int) < 0) = false := decide_eq_false (by omega)
  have hd2 : decide ((l.length : Int) ≤ (k : Int)) = false := decide_eq_false (by omega)
  have R0 := r.alloc (.cells #[.int .i64 3, .int .i64 (k : Int), .int .i64 M] 24)
  have eT := r.head.2
  have hTl := r.lt.1
  go_enter Tryd.func13, Tryd.ntmps13
  go_wp2_with fail
  go_quiet (fail)
  go_wp2_with (first
    | (go_at_call 18; (with_reducible refine (has_VS (R0.drewN _) k hk _ HB.out).mono ?_); rintro e w2 ⟨rfl, rfl⟩)
    | fail)
  go_ret
  exact ⟨rfl, below_drewN ((Below.refl _ _).alloc (Nat.le_refl _) _) _⟩
set_option maxHeartbeats 1000000 in
set_option maxRecDepth 100000 in
theorem check_no3 {W : Base} {w : World} {T B cores : Nat} {l : List SlotT} (r : VS W T B cores l w) (k : Nat) (M : Int) (hk : k < l.length) (HB : Hid (decide (0 < (l.getD k zs).vec) = false)) :
    Calls Tryd.prog 13 #[.pointer (some ⟨T, 0, none⟩), .agg #[.int .i64 3, .int .i64 (k : Int), .int .i64 M]] w fun e w' => e = .returned (.int .i64 3) ∧ Below w.heap.size w w' := by
  have hd : decide ((k : Int) < 0) = false := decide_eq_false (by omega)
  have hd2 : decide ((l.length : Int) ≤ (k : Int)) = false := decide_eq_false (by omega)
  have R0 := r.alloc (.cells #[.int .i64 3, .int .i64 (k : Int), .int .i64 M] 24)
  have eT := r.head.2
  have hTl := r.lt.1
  go_enter Tryd.func13, Tryd.ntmps13
  go_wp2_with fail
  go_quiet (fail)
  go_wp2_with (first
    | (go_at_call 18; (with_reducible refine (has_VS (R0.drewN _) k hk _ HB.out).mono ?_); rintro e w2 ⟨rfl, rfl⟩)
    | fail)
  go_ret
  exact ⟨rfl, below_drewN ((Below.refl _ _).alloc (Nat.le_refl _) _) _⟩
/-- vector's check. -/
theorem check_VS {W : Base} {w : World} {T B cores : Nat} {l : List SlotT} (r : VS W T B cores l w) (K L M c : Int) (hc : Hid (errV l ⟨K, L, M⟩ = c)) :
    Calls Tryd.prog 13 #[.pointer (some ⟨T, 0, none⟩), .agg #[.int .i64 K, .int .i64 L, .int .i64 M]] w fun e w' => e = .returned (.int .i64 c) ∧ Below w.heap.size w w' := by
  rw [← hc.out]
  clear hc c
  by_cases hK : 1 ≤ K ∧ K ≤ 3
  · by_cases hlo : L < 0
    · rw [show errV l ⟨K, L, M⟩ = 2 by unfold errV; rw [if_neg (by simp only; omega), if_pos (by simp only; omega)]]
      have h3 : K = 1 ∨ K = 2 ∨ K = 3 := by omega
      rcases h3 with rfl | rfl | rfl
      · exact check_lo1 r L M hlo
      · exact check_lo2 r L M hlo
      · exact check_lo3 r L M hlo
    · by_cases hhi : l.length ≤ L
      · rw [show errV l ⟨K, L, M⟩ = 2 by unfold errV; rw [if_neg (by simp only; omega), if_pos (by simp only; omega)]]
        have h3 : K = 1 ∨ K = 2 ∨ K = 3 := by omega
        rcases h3 with rfl | rfl | rfl
        · exact check_hi1 r L M (by omega) hhi
        · exact check_hi2 r L M (by omega) hhi
        · exact check_hi3 r L M (by omega) hhi
      · obtain ⟨k, rfl⟩ : ∃ k : Nat, L = k := ⟨L.toNat, by omega⟩
        have hk : k < l.length := by omega
        have e : ∀ K : Int, 1 ≤ K ∧ K ≤ 3 → errV l ⟨K, k, M⟩ = if K = 1 ∧ 0 < (l.getD k zs).vec then 6 else if ¬ K = 1 ∧ ¬ 0 < (l.getD k zs).vec then 3 else 0 := by
          intro K hK
          unfold errV
          simp only [Int.toNat_natCast]
          rw [if_neg (by omega), if_neg (by omega)]
        have h3 : K = 1 ∨ K = 2 ∨ K = 3 := by omega
        by_cases hb : 0 < (l.getD k zs).vec
        · have HB := Lib.hid (decide_eq_true hb)
          rcases h3 with rfl | rfl | rfl
          · rw [e 1 (by decide), if_pos ⟨rfl, hb⟩]; exact check_has1 r k M hk HB
          · rw [e 2 (by decide), if_neg (by omega), if_neg (by omega)]; exact check_has2 r k M hk HB
          · rw [e 3 (by decide), if_neg (by omega), if_neg (by omega)]; exact check_has3 r k M hk HB
        · have HB := Lib.hid (decide_eq_false hb)
          rcases h3 with rfl | rfl | rfl
          · rw [e 1 (by decide), if_neg (by omega), if_neg (by omega)]; exact check_no1 r k M hk HB
          · rw [e 2 (by decide), if_neg (by omega), if_pos (by omega)]; exact check_no2 r k M hk HB
          · rw [e 3 (by decide), if_neg (by omega), if_pos (by omega)]; exact check_no3 r k M hk HB
  · rw [show errV l ⟨K, L, M⟩ = 5 by unfold errV; rw [if_pos (by simp only; omega)]]
    exact check_kind r K L M (by omega) (by omega) (by omega)
end Go.Proofs.YtmldedkmmhnihaaDoor
