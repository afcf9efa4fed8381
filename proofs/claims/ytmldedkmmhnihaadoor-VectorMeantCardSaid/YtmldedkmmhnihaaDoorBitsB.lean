/- Walks: bits.With, part by part. -/
import Derived.Test.YtmldedkmmhnihaaDoorBitsA
namespace Go.Proofs.YtmldedkmmhnihaaDoor
open Go.RowKit

theorem with_0 (a b c d n : Nat) (w : World) (hn : n < 256) (hq : (n : Int) / 64 = 0) :
    Calls Tryd.prog 17 #[.agg #[.int .u64 a, .int .u64 b, .int .u64 c, .int .u64 d], .int .i64 n] w fun e w' => e = .returned (.agg #[.int .u64 (Go.bits .or .u64 a (2 ^ (n % 64) : Nat)), .int .u64 b, .int .u64 c, .int .u64 d]) ∧ Below w.heap.size w w' := by
  go_enter Tryd.func17, Tryd.ntmps17
  go_wp2_with (go_at_call 22; refine (inRange_yes _ _ (by omega) (by omega)).mono ?_; rintro e w' ⟨rfl, rfl⟩)
  go_region_with (go_at_call 23; refine (bit_any _ _ hn).mono ?_; rintro e w' ⟨rfl, rfl⟩)
  all_goals go_wp2
  all_goals (refine bodyPost_ret (v := .agg #[.int .u64 (Go.bits .or .u64 a (2 ^ (n % 64) : Nat)), .int .u64 b, .int .u64 c, .int .u64 d]) (by simp [results, Tryd.results17, go_sem]) rfl ⟨rfl, ?_⟩)
  all_goals repeat (first | exact Below.refl _ _ | apply Below.drew | (refine Below.alloc ?_ (by simp; try omega) _) | (refine Below.setCell ?_ (by simp; try omega) _))

theorem with_1 (a b c d n : Nat) (w : World) (hn : n < 256) (hq : (n : Int) / 64 = 1) :
    Calls Tryd.prog 17 #[.agg #[.int .u64 a, .int .u64 b, .int .u64 c, .int .u64 d], .int .i64 n] w fun e w' => e = .returned (.agg #[.int .u64 a, .int .u64 (Go.bits .or .u64 b (2 ^ (n % 64) : Nat)), .int .u64 c, .int .u64 d]) ∧ Below w.heap.size w w' := by
  go_enter Tryd.func17, Tryd.ntmps17
  go_wp2_with (go_at_call 22; refine (inRange_yes _ _ (by omega) (by omega)).mono ?_; rintro e w' ⟨rfl, rfl⟩)
  go_region_with (go_at_call 23; refine (bit_any _ _ hn).mono ?_; rintro e w' ⟨rfl, rfl⟩)
  all_goals go_wp2
  all_goals (refine bodyPost_ret (v := .agg #[.int .u64 a, .int .u64 (Go.bits .or .u64 b (2 ^ (n % 64) : Nat)), .int .u64 c, .int .u64 d]) (by simp [results, Tryd.results17, go_sem]) rfl ⟨rfl, ?_⟩)
  all_goals repeat (first | exact Below.refl _ _ | apply Below.drew | (refine Below.alloc ?_ (by simp; try omega) _) | (refine Below.setCell ?_ (by simp; try omega) _))

theorem with_2 (a b c d n : Nat) (w : World) (hn : n < 256) (hq : (n : Int) / 64 = 2) :
    Calls Tryd.prog 17 #[.agg #[.int .u64 a, .int .u64 b, .int .u64 c, .int .u64 d], .int .i64 n] w fun e w' => e = .returned (.agg #[.int .u64 a, .int .u64 b, .int .u64 (Go.bits .or .u64 c (2 ^ (n % 64) : Nat)), .int .u64 d]) ∧ Below w.heap.size w w' := by
  go_enter Tryd.func17, Tryd.ntmps17
  go_wp2_with (go_at_call 22; refine (inRange_yes _ _ (by omega) (by omega)).mono ?_; rintro e w' ⟨rfl, rfl⟩)
  go_region_with (go_at_call 23; refine (bit_any _ _ hn).mono ?_; rintro e w' ⟨rfl, rfl⟩)
  all_goals go_wp2
  all_goals (refine bodyPost_ret (v := .agg #[.int .u64 a, .int .u64 b, .int .u64 (Go.bits .or .u64 c (2 ^ (n % 64) : Nat)), .int .u64 d]) (by simp [results, Tryd.results17, go_sem]) rfl ⟨rfl, ?_⟩)
  all_goals repeat (first | exact Below.refl _ _ | apply Below.drew | (refine Below.alloc ?_ (by simp; try omega) _) | (refine Below.setCell ?_ (by simp; try omega) _))

theorem with_3 (a b c d n : Nat) (w : World) (hn : n < 256) (hq : (n : Int) / 64 = 3) :
    Calls Tryd.prog 17 #[.agg #[.int .u64 a, .int .u64 b, .int .u64 c, .int .u64 d], .int .i64 n] w fun e w' => e = .returned (.agg #[.int .u64 a, .int .u64 b, .int .u64 c, .int .u64 (Go.bits .or .u64 d (2 ^ (n % 64) : Nat))]) ∧ Below w.heap.size w w' := by
  go_enter Tryd.func17, Tryd.ntmps17
  go_wp2_with (go_at_call 22; refine (inRange_yes _ _ (by omega) (by omega)).mono ?_; rintro e w' ⟨rfl, rfl⟩)
  go_region_with (go_at_call 23; refine (bit_any _ _ hn).mono ?_; rintro e w' ⟨rfl, rfl⟩)
  all_goals go_wp2
  all_goals (refine bodyPost_ret (v := .agg #[.int .u64 a, .int .u64 b, .int .u64 c, .int .u64 (Go.bits .or .u64 d (2 ^ (n % 64) : Nat))]) (by simp [results, Tryd.results17, go_sem]) rfl ⟨rfl, ?_⟩)
  all_goals repeat (first | exact Below.refl _ _ | apply Below.drew | (refine Below.alloc ?_ (by simp; try omega) _) | (refine Below.setCell ?_ (by simp; try omega) _))

theorem with_out (a b c d : Nat) (n : Int) (w : World) (hn : n < 0 ∨ 256 ≤ n) :
    Calls Tryd.prog 17 #[.agg #[.int .u64 a, .int .u64 b, .int .u64 c, .int .u64 d], .int .i64 n] w fun e w' => e = .returned (.agg #[.int .u64 a, .int .u64 b, .int .u64 c, .int .u64 d]) ∧ Below w.heap.size w w' := by
  go_enter Tryd.func17, Tryd.ntmps17
  go_wp2_with (go_at_call 22; refine (inRange_no _ _ hn).mono ?_; rintro e w' ⟨rfl, rfl⟩)
  refine bodyPost_ret (v := .agg #[.int .u64 a, .int .u64 b, .int .u64 c, .int .u64 d]) (by simp [results, Tryd.results17, go_sem]) rfl ⟨rfl, ?_⟩
  repeat (first | exact Below.refl _ _ | apply Below.drew | (refine Below.alloc ?_ (by simp; try omega) _) | (refine Below.setCell ?_ (by simp; try omega) _))
end Go.Proofs.YtmldedkmmhnihaaDoor
