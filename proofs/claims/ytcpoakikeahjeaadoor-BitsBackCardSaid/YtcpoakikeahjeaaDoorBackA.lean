/- Walks of corebellkeep.BitsBack: a number out of range. -/
import Derived.Test.YtcpoakikeahjeaaDoorBackParts
import Derived.Deep.DeepCutAuto
namespace Go.Proofs.YtcpoakikeahjeaaDoor
open Go.RowKit

theorem with_O (a0 a1 a2 a3 : Nat) (n : Int) (w : World) (h : Hid (n < 0 ∨ 256 ≤ n)) :
    Calls Tryd.prog 10 #[.agg #[.int .u64 (a0 : Nat), .int .u64 (a1 : Nat), .int .u64 (a2 : Nat), .int .u64 (a3 : Nat)], .int .i64 n] w fun e w' => e = .returned (.agg #[.int .u64 (a0 : Nat), .int .u64 (a1 : Nat), .int .u64 (a2 : Nat), .int .u64 (a3 : Nat)]) ∧ Below w.heap.size w w' := with_out a0 a1 a2 a3 n w h.out
theorem without_O (a0 a1 a2 a3 : Nat) (n : Int) (w : World) (h : Hid (n < 0 ∨ 256 ≤ n)) :
    Calls Tryd.prog 12 #[.agg #[.int .u64 (a0 : Nat), .int .u64 (a1 : Nat), .int .u64 (a2 : Nat), .int .u64 (a3 : Nat)], .int .i64 n] w fun e w' => e = .returned (.agg #[.int .u64 (a0 : Nat), .int .u64 (a1 : Nat), .int .u64 (a2 : Nat), .int .u64 (a3 : Nat)]) ∧ Below w.heap.size w w' := without_out a0 a1 a2 a3 n w h.out

set_option maxHeartbeats 16000000 in
set_option maxRecDepth 100000 in
theorem back_low (a0 a1 a2 a3 : Nat) (n m : Int) (w : World) (HT : Hid (Tab w)) (h0 : n < 0) :
    Calls Tryd.prog 4 #[.agg #[.int .u64 (a0 : Nat), .int .u64 (a1 : Nat), .int .u64 (a2 : Nat), .int .u64 (a3 : Nat)], .int .i64 n, .int .i64 m] w fun e w' => e = .returned (.bool true) ∧ Below w.heap.size w w' := by
  have HO : Hid (n < 0 ∨ 256 ≤ n) := Or.inl h0
  have heq : ∀ (x0 x1 x2 x3 y0 y1 y2 y3 : Int) (w : World), (Op.equalIn 10000 24 (.agg #[.int .u64 x0, .int .u64 x1, .int .u64 x2, .int .u64 x3]) (.agg #[.int .u64 y0, .int .u64 y1, .int .u64 y2, .int .u64 y3])).run Tryd.prog w = .ok (x0 == y0 && (x1 == y1 && (x2 == y2 && x3 == y3))) w := eq_bits
  go_enter Tryd.func4, Tryd.ntmps4
  go_wp2_with fail
  refine (alive_any _ (HT.out.below ((Below.refl _ _).alloc (Nat.le_refl _) _))).mono ?_
  rintro e w0 ⟨rfl, hb⟩
  have T0 := one_start w w0 a0 a1 a2 a3 _ rfl hb
  have HL0 := T0.1.lt
  clear hb
  go_upto_region 3 with fail
  go_cut [7, 8] (fun s7 s8 wx => ∃ g h : Nat, s7 = .pointer (some ⟨g, 0, none⟩) ∧ s8 = .pointer (some ⟨h, 0, none⟩) ∧ Trio w a0 a1 a2 a3 a0 a1 a2 a3 a0 a1 a2 a3 g h wx)
  case first =>
    go_region_held3 (fun w' => One w a0 a1 a2 a3 w' ∧ w'.cell? ⟨w.heap.size, 0, none⟩ = some (.int .u64 a0) ∧ w'.cell? ⟨w.heap.size, 1, none⟩ = some (.int .u64 a1) ∧ w'.cell? ⟨w.heap.size, 2, none⟩ = some (.int .u64 a2) ∧ w'.cell? ⟨w.heap.size, 3, none⟩ = some (.int .u64 a3))
      ((refine One.all ?_; repeat (first | (with_reducible assumption) | (with_reducible refine One.drew ?_) | (with_reducible refine One.alloc ?_ _) | (with_reducible refine One.setCell ?_ ?_ _) | (simp; omega) | omega)))
      (first
        | (go_at_call 10; ((with_reducible refine (with_O a0 a1 a2 a3 n _ HO).mono ?_); rintro e w1 ⟨rfl, hb⟩; (first | (have TT := One.step (by with_reducible assumption) hb) | (have TT := One.stepS (by with_reducible assumption) hb)); (try (have B1 := bat hb (w0.heap.size) (by first | omega | (simp; done) | (simp; omega)))); (try (have B2 := bat hb (w0.heap.size + 1) (by first | omega | (simp; done) | (simp; omega)))); have HL := TT.1.lt; clear hb))
        | (go_at_call 12; ((with_reducible refine (without_O a0 a1 a2 a3 n _ HO).mono ?_); rintro e w2 ⟨rfl, hb⟩; (first | (have TT := One.step (by with_reducible assumption) hb) | (have TT := One.stepS (by with_reducible assumption) hb)); (try (have B3 := bat hb (w0.heap.size) (by first | omega | (simp; done) | (simp; omega)))); (try (have B4 := bat hb (w0.heap.size + 1) (by first | omega | (simp; done) | (simp; omega)))); (try (have B5 := bat hb (w1.heap.size) (by first | omega | (simp; done) | (simp; omega)))); (try (have B6 := bat hb (w1.heap.size + 1) (by first | omega | (simp; done) | (simp; omega)))); have HL := TT.1.lt; clear hb)))
    all_goals go_wp2_with fail
    all_goals go_meet
    all_goals
      refine ⟨_, _, rfl, rfl, ?_, ⟨?_, ?_, ?_, ?_⟩, ⟨?_, ?_, ?_, ?_⟩⟩
      · repeat (first | (with_reducible assumption) | (with_reducible refine One.drew ?_) | (with_reducible refine One.alloc ?_ _) | (with_reducible refine One.setCell ?_ ?_ _) | (simp; omega) | omega)
    all_goals go_simp
  case rest =>
    obtain ⟨g, h, rfl, rfl, T1⟩ := hcut
    have hlt : decide (n < 0) = true := by simp; omega
    have C1 := (Trio.all T1).2
    go_wp2_with fail
    go_ret
    exact ⟨rfl, T1.1.2⟩

set_option maxHeartbeats 16000000 in
set_option maxRecDepth 100000 in
theorem back_high (a0 a1 a2 a3 : Nat) (n m : Int) (w : World) (HT : Hid (Tab w)) (h0 : 256 ≤ n) :
    Calls Tryd.prog 4 #[.agg #[.int .u64 (a0 : Nat), .int .u64 (a1 : Nat), .int .u64 (a2 : Nat), .int .u64 (a3 : Nat)], .int .i64 n, .int .i64 m] w fun e w' => e = .returned (.bool true) ∧ Below w.heap.size w w' := by
  have HO : Hid (n < 0 ∨ 256 ≤ n) := Or.inr h0
  have heq : ∀ (x0 x1 x2 x3 y0 y1 y2 y3 : Int) (w : World), (Op.equalIn 10000 24 (.agg #[.int .u64 x0, .int .u64 x1, .int .u64 x2, .int .u64 x3]) (.agg #[.int .u64 y0, .int .u64 y1, .int .u64 y2, .int .u64 y3])).run Tryd.prog w = .ok (x0 == y0 && (x1 == y1 && (x2 == y2 && x3 == y3))) w := eq_bits
  go_enter Tryd.func4, Tryd.ntmps4
  go_wp2_with fail
  refine (alive_any _ (HT.out.below ((Below.refl _ _).alloc (Nat.le_refl _) _))).mono ?_
  rintro e w0 ⟨rfl, hb⟩
  have T0 := one_start w w0 a0 a1 a2 a3 _ rfl hb
  have HL0 := T0.1.lt
  clear hb
  go_upto_region 3 with fail
  go_cut [7, 8] (fun s7 s8 wx => ∃ g h : Nat, s7 = .pointer (some ⟨g, 0, none⟩) ∧ s8 = .pointer (some ⟨h, 0, none⟩) ∧ Trio w a0 a1 a2 a3 a0 a1 a2 a3 a0 a1 a2 a3 g h wx)
  case first =>
    go_region_held3 (fun w' => One w a0 a1 a2 a3 w' ∧ w'.cell? ⟨w.heap.size, 0, none⟩ = some (.int .u64 a0) ∧ w'.cell? ⟨w.heap.size, 1, none⟩ = some (.int .u64 a1) ∧ w'.cell? ⟨w.heap.size, 2, none⟩ = some (.int .u64 a2) ∧ w'.cell? ⟨w.heap.size, 3, none⟩ = some (.int .u64 a3))
      ((refine One.all ?_; repeat (first | (with_reducible assumption) | (with_reducible refine One.drew ?_) | (with_reducible refine One.alloc ?_ _) | (with_reducible refine One.setCell ?_ ?_ _) | (simp; omega) | omega)))
      (first
        | (go_at_call 10; ((with_reducible refine (with_O a0 a1 a2 a3 n _ HO).mono ?_); rintro e w1 ⟨rfl, hb⟩; (first | (have TT := One.step (by with_reducible assumption) hb) | (have TT := One.stepS (by with_reducible assumption) hb)); (try (have B1 := bat hb (w0.heap.size) (by first | omega | (simp; done) | (simp; omega)))); (try (have B2 := bat hb (w0.heap.size + 1) (by first | omega | (simp; done) | (simp; omega)))); have HL := TT.1.lt; clear hb))
        | (go_at_call 12; ((with_reducible refine (without_O a0 a1 a2 a3 n _ HO).mono ?_); rintro e w2 ⟨rfl, hb⟩; (first | (have TT := One.step (by with_reducible assumption) hb) | (have TT := One.stepS (by with_reducible assumption) hb)); (try (have B3 := bat hb (w0.heap.size) (by first | omega | (simp; done) | (simp; omega)))); (try (have B4 := bat hb (w0.heap.size + 1) (by first | omega | (simp; done) | (simp; omega)))); (try (have B5 := bat hb (w1.heap.size) (by first | omega | (simp; done) | (simp; omega)))); (try (have B6 := bat hb (w1.heap.size + 1) (by first | omega | (simp; done) | (simp; omega)))); have HL := TT.1.lt; clear hb)))
    all_goals go_wp2_with fail
    all_goals go_meet
    all_goals
      refine ⟨_, _, rfl, rfl, ?_, ⟨?_, ?_, ?_, ?_⟩, ⟨?_, ?_, ?_, ?_⟩⟩
      · repeat (first | (with_reducible assumption) | (with_reducible refine One.drew ?_) | (with_reducible refine One.alloc ?_ _) | (with_reducible refine One.setCell ?_ ?_ _) | (simp; omega) | omega)
    all_goals go_simp
  case rest =>
    obtain ⟨g, h, rfl, rfl, T1⟩ := hcut
    have hlt : decide (n < 0) = false := by simp; omega
    have hge : decide (256 ≤ n) = true := by simp; omega
    have C1 := (Trio.all T1).2
    go_wp2_with fail
    go_ret
    exact ⟨rfl, T1.1.2⟩
end Go.Proofs.YtcpoakikeahjeaaDoor
