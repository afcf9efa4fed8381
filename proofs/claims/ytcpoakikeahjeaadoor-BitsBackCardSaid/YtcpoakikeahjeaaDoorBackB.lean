/- Walks of corebellkeep.BitsBack: the two numbers are one. -/
import Derived.Test.YtcpoakikeahjeaaDoorBackParts
import Derived.Deep.DeepCutAuto
namespace Go.Proofs.YtcpoakikeahjeaaDoor
open Go.RowKit

set_option maxHeartbeats 16000000 in
set_option maxRecDepth 100000 in
theorem back_111 (a0 a1 a2 a3 p0 p1 p2 p3 r0 r1 r2 r3 : Nat) (n m : Int) (w : World) (HT : Hid (Tab w)) (Oa : Hid (Ok a0 a1 a2 a3)) (Op' : Hid (Ok p0 p1 p2 p3)) (Or : Hid (Ok r0 r1 r2 r3)) (h0 : 0 ≤ n) (h1 : n < 256) (hnm : (n == m) = true)
    (Hp : Hid (up 0 n.toNat a0 = p0 ∧ up 1 n.toNat a1 = p1 ∧ up 2 n.toNat a2 = p2 ∧ up 3 n.toNat a3 = p3)) (Hr : Hid (dn 0 n.toNat a0 = r0 ∧ dn 1 n.toNat a1 = r1 ∧ dn 2 n.toNat a2 = r2 ∧ dn 3 n.toNat a3 = r3))
    (Hk : Hid (dn 0 n.toNat p0 = r0 ∧ dn 1 n.toNat p1 = r1 ∧ dn 2 n.toNat p2 = r2 ∧ dn 3 n.toNat p3 = r3)) (Hpm : Hid (hasB p0 p1 p2 p3 m = true)) (Ham : Hid (hasB a0 a1 a2 a3 m = true)) (Hrm : Hid (hasB r0 r1 r2 r3 m = false)) (Hpn : Hid (hasB p0 p1 p2 p3 n = true)) (Hrn : Hid (hasB r0 r1 r2 r3 n = false)) (Han : Hid (hasB a0 a1 a2 a3 n = true)) :
    Calls Tryd.prog 4 #[.agg #[.int .u64 (a0 : Nat), .int .u64 (a1 : Nat), .int .u64 (a2 : Nat), .int .u64 (a3 : Nat)], .int .i64 n, .int .i64 m] w fun e w' => e = .returned (.bool true) ∧ Below w.heap.size w w' := by
  have heq : ∀ (x0 x1 x2 x3 y0 y1 y2 y3 : Int) (w : World), (Op.equalIn 10000 24 (.agg #[.int .u64 x0, .int .u64 x1, .int .u64 x2, .int .u64 x3]) (.agg #[.int .u64 y0, .int .u64 y1, .int .u64 y2, .int .u64 y3])).run Tryd.prog w = .ok (x0 == y0 && (x1 == y1 && (x2 == y2 && x3 == y3))) w := eq_bits
  go_enter Tryd.func4, Tryd.ntmps4
  go_wp2_with fail
  refine (alive_any _ (HT.out.below ((Below.refl _ _).alloc (Nat.le_refl _) _))).mono ?_
  rintro e w0 ⟨rfl, hb⟩
  have T0 := one_start w w0 a0 a1 a2 a3 _ rfl hb
  have HL0 := T0.1.lt
  clear hb
  go_upto_region 3 with fail
  go_cut [7, 8] (fun s7 s8 wx => ∃ g h : Nat, s7 = .pointer (some ⟨g, 0, none⟩) ∧ s8 = .pointer (some ⟨h, 0, none⟩) ∧ Trio w a0 a1 a2 a3 p0 p1 p2 p3 r0 r1 r2 r3 g h wx)
  case first =>
    go_region_held3 (fun w' => One w a0 a1 a2 a3 w' ∧ w'.cell? ⟨w.heap.size, 0, none⟩ = some (.int .u64 a0) ∧ w'.cell? ⟨w.heap.size, 1, none⟩ = some (.int .u64 a1) ∧ w'.cell? ⟨w.heap.size, 2, none⟩ = some (.int .u64 a2) ∧ w'.cell? ⟨w.heap.size, 3, none⟩ = some (.int .u64 a3))
      ((refine One.all ?_; repeat (first | (with_reducible assumption) | (with_reducible refine One.drew ?_) | (with_reducible refine One.alloc ?_ _) | (with_reducible refine One.setCell ?_ ?_ _) | (simp; omega) | omega)))
      (first
        | (go_at_call 10; ((with_reducible refine (with_R a0 a1 a2 a3 p0 p1 p2 p3 n _ Oa h0 h1 Hp).mono ?_); rintro e w1 ⟨rfl, hb⟩; (first | (have TT := One.step (by with_reducible assumption) hb) | (have TT := One.stepS (by with_reducible assumption) hb)); (try (have B1 := bat hb (w0.heap.size) (by first | omega | (simp; done) | (simp; omega)))); (try (have B2 := bat hb (w0.heap.size + 1) (by first | omega | (simp; done) | (simp; omega)))); have HL := TT.1.lt; clear hb))
        | (go_at_call 12; ((with_reducible refine (without_R a0 a1 a2 a3 r0 r1 r2 r3 n _ Oa h0 h1 Hr).mono ?_); rintro e w2 ⟨rfl, hb⟩; (first | (have TT := One.step (by with_reducible assumption) hb) | (have TT := One.stepS (by with_reducible assumption) hb)); (try (have B3 := bat hb (w0.heap.size) (by first | omega | (simp; done) | (simp; omega)))); (try (have B4 := bat hb (w0.heap.size + 1) (by first | omega | (simp; done) | (simp; omega)))); (try (have B5 := bat hb (w1.heap.size) (by first | omega | (simp; done) | (simp; omega)))); (try (have B6 := bat hb (w1.heap.size + 1) (by first | omega | (simp; done) | (simp; omega)))); have HL := TT.1.lt; clear hb)))
    all_goals go_wp2_with fail
    all_goals go_meet
    all_goals
      refine ⟨_, _, rfl, rfl, ?_, ⟨?_, ?_, ?_, ?_⟩, ⟨?_, ?_, ?_, ?_⟩⟩
      · repeat (first | (with_reducible assumption) | (with_reducible refine One.drew ?_) | (with_reducible refine One.alloc ?_ _) | (with_reducible refine One.setCell ?_ ?_ _) | (simp; omega) | omega)
    all_goals go_simp
  case rest =>
    obtain ⟨g, h, rfl, rfl, T1⟩ := hcut
    have hge : decide (256 ≤ n) = false := by simp; omega
    have hlt : decide (n < 0) = false := by simp; omega
    go_upto_region 6 with fail
    have T1d := T1.drew
    go_region_held3 (fun w' => Trio w a0 a1 a2 a3 p0 p1 p2 p3 r0 r1 r2 r3 g h w' ∧ w'.cell? ⟨w.heap.size, 0, none⟩ = some (.int .u64 a0) ∧ w'.cell? ⟨w.heap.size, 1, none⟩ = some (.int .u64 a1) ∧ w'.cell? ⟨w.heap.size, 2, none⟩ = some (.int .u64 a2) ∧ w'.cell? ⟨w.heap.size, 3, none⟩ = some (.int .u64 a3) ∧ w'.cell? ⟨g, 0, none⟩ = some (.int .u64 p0) ∧ w'.cell? ⟨g, 1, none⟩ = some (.int .u64 p1) ∧ w'.cell? ⟨g, 2, none⟩ = some (.int .u64 p2) ∧ w'.cell? ⟨g, 3, none⟩ = some (.int .u64 p3) ∧ w'.cell? ⟨h, 0, none⟩ = some (.int .u64 r0) ∧ w'.cell? ⟨h, 1, none⟩ = some (.int .u64 r1) ∧ w'.cell? ⟨h, 2, none⟩ = some (.int .u64 r2) ∧ w'.cell? ⟨h, 3, none⟩ = some (.int .u64 r3))
      ((refine Trio.all ?_; (with_reducible assumption)))
      (first
      | (go_at_call 8; ((with_reducible refine (has_R p0 p1 p2 p3 m true _ Op' Hpm).mono ?_); rintro e w5 ⟨rfl, hb⟩; have TT := Trio.step (by with_reducible assumption) hb; clear hb))
      | (go_at_call 8; ((with_reducible refine (has_R a0 a1 a2 a3 m true _ Oa Ham).mono ?_); rintro e w5 ⟨rfl, hb⟩; have TT := Trio.step (by with_reducible assumption) hb; clear hb))
      | (go_at_call 8; ((with_reducible refine (has_R r0 r1 r2 r3 m false _ Or Hrm).mono ?_); rintro e w5 ⟨rfl, hb⟩; have TT := Trio.step (by with_reducible assumption) hb; clear hb))
      | (go_at_call 8; ((with_reducible refine (has_R p0 p1 p2 p3 n true _ Op' Hpn).mono ?_); rintro e w5 ⟨rfl, hb⟩; have TT := Trio.step (by with_reducible assumption) hb; clear hb))
      | (go_at_call 8; ((with_reducible refine (has_R r0 r1 r2 r3 n false _ Or Hrn).mono ?_); rintro e w5 ⟨rfl, hb⟩; have TT := Trio.step (by with_reducible assumption) hb; clear hb))
      | (go_at_call 8; ((with_reducible refine (has_R a0 a1 a2 a3 n true _ Oa Han).mono ?_); rintro e w5 ⟨rfl, hb⟩; have TT := Trio.step (by with_reducible assumption) hb; clear hb)))
    go_wp2_with fail
    refine (without_R p0 p1 p2 p3 r0 r1 r2 r3 n _ Op' h0 h1 Hk).mono ?_
    rintro e w6 ⟨rfl, hb⟩
    have T6 := Trio.step (by with_reducible assumption) hb
    clear hb
    go_upto_region 8 with fail
    have T7 : Quad w a0 a1 a2 a3 p0 p1 p2 p3 r0 r1 r2 r3 g h w6.heap.size (w6.alloc (.cells #[.int .u64 (r0 : Nat), .int .u64 (r1 : Nat), .int .u64 (r2 : Nat), .int .u64 (r3 : Nat)] 24)) := ⟨T6.alloc _, four_new _ _ _ _ _ _⟩
    clear T6
    generalize w6.heap.size = k at T7 ⊢
    generalize w6.alloc (.cells #[.int .u64 (r0 : Nat), .int .u64 (r1 : Nat), .int .u64 (r2 : Nat), .int .u64 (r3 : Nat)] 24) = w7 at T7 ⊢
    have C7 := (Quad.all T7).2
    go_wp2_with fail
    refine (has_R p0 p1 p2 p3 n true _ Op' Hpn).mono ?_
    rintro e w8 ⟨rfl, hb⟩
    have T8 := Quad.step T7 hb
    clear hb T7 C7
    have C8 := (Quad.all T8).2
    go_wp2_with fail
    refine (has_R r0 r1 r2 r3 n false _ Or Hrn).mono ?_
    rintro e w9 ⟨rfl, hb⟩
    have T9 := Quad.step T8 hb
    clear hb T8 C8
    have C9 := (Quad.all T9).2
    go_wp2_with fail
    refine (has_R a0 a1 a2 a3 n true _ Oa Han).mono ?_
    rintro e w10 ⟨rfl, hb⟩
    have T10 := Quad.step T9 hb
    clear hb T9 C9
    have C10 := (Quad.all T10).2
    go_wp2_with fail
    go_ret
    exact ⟨rfl, T10.1.1.2⟩

set_option linter.unusedSimpArgs false in
set_option maxHeartbeats 16000000 in
set_option maxRecDepth 100000 in
theorem back_100 (a0 a1 a2 a3 p0 p1 p2 p3 : Nat) (n m : Int) (w : World) (HT : Hid (Tab w)) (Oa : Hid (Ok a0 a1 a2 a3)) (Op' : Hid (Ok p0 p1 p2 p3)) (h0 : 0 ≤ n) (h1 : n < 256) (hnm : (n == m) = true)
    (Hp : Hid (up 0 n.toNat a0 = p0 ∧ up 1 n.toNat a1 = p1 ∧ up 2 n.toNat a2 = p2 ∧ up 3 n.toNat a3 = p3)) (Hr : Hid (dn 0 n.toNat a0 = a0 ∧ dn 1 n.toNat a1 = a1 ∧ dn 2 n.toNat a2 = a2 ∧ dn 3 n.toNat a3 = a3))
    (Hk : Hid (dn 0 n.toNat p0 = a0 ∧ dn 1 n.toNat p1 = a1 ∧ dn 2 n.toNat p2 = a2 ∧ dn 3 n.toNat p3 = a3)) (Hpm : Hid (hasB p0 p1 p2 p3 m = true)) (Ham : Hid (hasB a0 a1 a2 a3 m = false)) (Hpn : Hid (hasB p0 p1 p2 p3 n = true)) (Han : Hid (hasB a0 a1 a2 a3 n = false)) :
    Calls Tryd.prog 4 #[.agg #[.int .u64 (a0 : Nat), .int .u64 (a1 : Nat), .int .u64 (a2 : Nat), .int .u64 (a3 : Nat)], .int .i64 n, .int .i64 m] w fun e w' => e = .returned (.bool true) ∧ Below w.heap.size w w' := by
  have heq : ∀ (x0 x1 x2 x3 y0 y1 y2 y3 : Int) (w : World), (Op.equalIn 10000 24 (.agg #[.int .u64 x0, .int .u64 x1, .int .u64 x2, .int .u64 x3]) (.agg #[.int .u64 y0, .int .u64 y1, .int .u64 y2, .int .u64 y3])).run Tryd.prog w = .ok (x0 == y0 && (x1 == y1 && (x2 == y2 && x3 == y3))) w := eq_bits
  go_enter Tryd.func4, Tryd.ntmps4
  go_wp2_with fail
  refine (alive_any _ (HT.out.below ((Below.refl _ _).alloc (Nat.le_refl _) _))).mono ?_
  rintro e w0 ⟨rfl, hb⟩
  have T0 := one_start w w0 a0 a1 a2 a3 _ rfl hb
  have HL0 := T0.1.lt
  clear hb
  go_upto_region 3 with fail
  go_cut [7, 8] (fun s7 s8 wx => ∃ g h : Nat, s7 = .pointer (some ⟨g, 0, none⟩) ∧ s8 = .pointer (some ⟨h, 0, none⟩) ∧ Trio w a0 a1 a2 a3 p0 p1 p2 p3 a0 a1 a2 a3 g h wx)
  case first =>
    go_region_held3 (fun w' => One w a0 a1 a2 a3 w' ∧ w'.cell? ⟨w.heap.size, 0, none⟩ = some (.int .u64 a0) ∧ w'.cell? ⟨w.heap.size, 1, none⟩ = some (.int .u64 a1) ∧ w'.cell? ⟨w.heap.size, 2, none⟩ = some (.int .u64 a2) ∧ w'.cell? ⟨w.heap.size, 3, none⟩ = some (.int .u64 a3))
      ((refine One.all ?_; repeat (first | (with_reducible assumption) | (with_reducible refine One.drew ?_) | (with_reducible refine One.alloc ?_ _) | (with_reducible refine One.setCell ?_ ?_ _) | (simp; omega) | omega)))
      (first
        | (go_at_call 10; ((with_reducible refine (with_R a0 a1 a2 a3 p0 p1 p2 p3 n _ Oa h0 h1 Hp).mono ?_); rintro e w1 ⟨rfl, hb⟩; (first | (have TT := One.step (by with_reducible assumption) hb) | (have TT := One.stepS (by with_reducible assumption) hb)); (try (have B1 := bat hb (w0.heap.size) (by first | omega | (simp; done) | (simp; omega)))); (try (have B2 := bat hb (w0.heap.size + 1) (by first | omega | (simp; done) | (simp; omega)))); have HL := TT.1.lt; clear hb))
        | (go_at_call 12; ((with_reducible refine (without_R a0 a1 a2 a3 a0 a1 a2 a3 n _ Oa h0 h1 Hr).mono ?_); rintro e w2 ⟨rfl, hb⟩; (first | (have TT := One.step (by with_reducible assumption) hb) | (have TT := One.stepS (by with_reducible assumption) hb)); (try (have B3 := bat hb (w0.heap.size) (by first | omega | (simp; done) | (simp; omega)))); (try (have B4 := bat hb (w0.heap.size + 1) (by first | omega | (simp; done) | (simp; omega)))); (try (have B5 := bat hb (w1.heap.size) (by first | omega | (simp; done) | (simp; omega)))); (try (have B6 := bat hb (w1.heap.size + 1) (by first | omega | (simp; done) | (simp; omega)))); have HL := TT.1.lt; clear hb)))
    all_goals go_wp2_with fail
    all_goals go_meet
    all_goals
      refine ⟨_, _, rfl, rfl, ?_, ⟨?_, ?_, ?_, ?_⟩, ⟨?_, ?_, ?_, ?_⟩⟩
      · repeat (first | (with_reducible assumption) | (with_reducible refine One.drew ?_) | (with_reducible refine One.alloc ?_ _) | (with_reducible refine One.setCell ?_ ?_ _) | (simp; omega) | omega)
    all_goals go_simp
  case rest =>
    obtain ⟨g, h, rfl, rfl, T1⟩ := hcut
    have hge : decide (256 ≤ n) = false := by simp; omega
    have hlt : decide (n < 0) = false := by simp; omega
    go_upto_region 6 with fail
    have T1d := T1.drew
    refine wp_region_noPanic ?_
    refine wp_region_held_drew (S := fun w' => Trio w a0 a1 a2 a3 p0 p1 p2 p3 a0 a1 a2 a3 g h w' ∧ w'.cell? ⟨w.heap.size, 0, none⟩ = some (.int .u64 a0) ∧ w'.cell? ⟨w.heap.size, 1, none⟩ = some (.int .u64 a1) ∧ w'.cell? ⟨w.heap.size, 2, none⟩ = some (.int .u64 a2) ∧ w'.cell? ⟨w.heap.size, 3, none⟩ = some (.int .u64 a3) ∧ w'.cell? ⟨g, 0, none⟩ = some (.int .u64 p0) ∧ w'.cell? ⟨g, 1, none⟩ = some (.int .u64 p1) ∧ w'.cell? ⟨g, 2, none⟩ = some (.int .u64 p2) ∧ w'.cell? ⟨g, 3, none⟩ = some (.int .u64 p3) ∧ w'.cell? ⟨h, 0, none⟩ = some (.int .u64 a0) ∧ w'.cell? ⟨h, 1, none⟩ = some (.int .u64 a1) ∧ w'.cell? ⟨h, 2, none⟩ = some (.int .u64 a2) ∧ w'.cell? ⟨h, 3, none⟩ = some (.int .u64 a3)) (by kernel_rfl) (Trio.all T1d) (fun hHeld => ?_)
    refine wpAnyH_take (i := 0) (v := ?_) rfl (by kernel_rfl) (by kernel_rfl) (by kernel_rfl) (fun _ _ _ h => h) (Or.inl ⟨by rfl, ?_⟩) (by assumption) ?_
    rotate_left
    · (intro w hSw; (try dsimp only at hSw); go_simp; try with_reducible rfl)
    simp only [List.getElem_toArray, List.getElem_cons_zero, List.getElem_cons_succ, Act.put, List.setIfInBounds_toArray, List.set_cons_zero, List.set_cons_succ]
    refine wpAnyH_take (i := 1) (v := ?_) rfl (by kernel_rfl) (by kernel_rfl) (by kernel_rfl) (fun _ _ _ h => h) (Or.inl ⟨by rfl, ?_⟩) (by assumption) ?_
    rotate_left
    · (intro w hSw; (try dsimp only at hSw); go_simp; try with_reducible rfl)
    simp only [List.getElem_toArray, List.getElem_cons_zero, List.getElem_cons_succ, Act.put, List.setIfInBounds_toArray, List.set_cons_zero, List.set_cons_succ]
    refine wpAnyH_take (i := 3) (v := ?_) rfl (by kernel_rfl) (by kernel_rfl) (by kernel_rfl) (fun _ _ _ h => h) (Or.inl ⟨by rfl, ?_⟩) (by assumption) ?_
    rotate_left
    · (intro w hSw; (try dsimp only at hSw); go_simp; try with_reducible rfl)
    simp only [List.getElem_toArray, List.getElem_cons_zero, List.getElem_cons_succ, Act.put, List.setIfInBounds_toArray, List.set_cons_zero, List.set_cons_succ]
    refine wpAnyH_take (i := 4) (v := ?_) rfl (by kernel_rfl) (by kernel_rfl) (by kernel_rfl) (fun _ _ _ h => h) (Or.inl ⟨by rfl, ?_⟩) (by assumption) ?_
    rotate_left
    · (intro w hSw; (try dsimp only at hSw); go_simp; try with_reducible rfl)
    simp only [List.getElem_toArray, List.getElem_cons_zero, List.getElem_cons_succ, Act.put, List.setIfInBounds_toArray, List.set_cons_zero, List.set_cons_succ]
    refine wpAnyH_ready (rs := [2]) (by kernel_rfl) (by simp) ?_
    refine AllReadyH.cons rfl (fun K hK => ?_) AllReadyH.nil
    go_simp
    first
    | (go_at_call 8; ((with_reducible refine (has_R p0 p1 p2 p3 m true _ Op' Hpm).mono ?_); rintro e w5 ⟨rfl, hb⟩; have TT := Trio.step (by with_reducible assumption) hb; clear hb))
      | (go_at_call 8; ((with_reducible refine (has_R a0 a1 a2 a3 m false _ Oa Ham).mono ?_); rintro e w5 ⟨rfl, hb⟩; have TT := Trio.step (by with_reducible assumption) hb; clear hb))
      | (go_at_call 8; ((with_reducible refine (has_R p0 p1 p2 p3 n true _ Op' Hpn).mono ?_); rintro e w5 ⟨rfl, hb⟩; have TT := Trio.step (by with_reducible assumption) hb; clear hb))
      | (go_at_call 8; ((with_reducible refine (has_R a0 a1 a2 a3 n false _ Oa Han).mono ?_); rintro e w5 ⟨rfl, hb⟩; have TT := Trio.step (by with_reducible assumption) hb; clear hb))
    go_wp2_with fail
    refine hK.out _ _ (Trio.all (by with_reducible assumption)) (fun hHeld => ?_)
    refine wpAnyH_ready (rs := [5]) (by kernel_rfl) (by simp) ?_
    refine AllReadyH.cons rfl (fun K hK => ?_) AllReadyH.nil
    go_simp
    first
    | (go_at_call 8; ((with_reducible refine (has_R p0 p1 p2 p3 m true _ Op' Hpm).mono ?_); rintro e w5 ⟨rfl, hb⟩; have TT := Trio.step (by with_reducible assumption) hb; clear hb))
      | (go_at_call 8; ((with_reducible refine (has_R a0 a1 a2 a3 m false _ Oa Ham).mono ?_); rintro e w5 ⟨rfl, hb⟩; have TT := Trio.step (by with_reducible assumption) hb; clear hb))
      | (go_at_call 8; ((with_reducible refine (has_R p0 p1 p2 p3 n true _ Op' Hpn).mono ?_); rintro e w5 ⟨rfl, hb⟩; have TT := Trio.step (by with_reducible assumption) hb; clear hb))
      | (go_at_call 8; ((with_reducible refine (has_R a0 a1 a2 a3 n false _ Oa Han).mono ?_); rintro e w5 ⟨rfl, hb⟩; have TT := Trio.step (by with_reducible assumption) hb; clear hb))
    go_wp2_with fail
    refine hK.out _ _ (Trio.all (by with_reducible assumption)) (fun hHeld => ?_)
    refine wpAnyH_take (i := 6) (v := ?_) rfl (by kernel_rfl) (by kernel_rfl) (by kernel_rfl) (fun _ _ _ h => h) (Or.inl ⟨by rfl, ?_⟩) (by assumption) ?_
    rotate_left
    · (intro w hSw; (try dsimp only at hSw); go_simp; try with_reducible rfl)
    simp only [List.getElem_toArray, List.getElem_cons_zero, List.getElem_cons_succ, Act.put, List.setIfInBounds_toArray, List.set_cons_zero, List.set_cons_succ]
    refine wpAnyH_take (i := 7) (v := ?_) rfl (by kernel_rfl) (by kernel_rfl) (by kernel_rfl) (fun _ _ _ h => h) (Or.inl ⟨by rfl, ?_⟩) (by assumption) ?_
    rotate_left
    · (intro w hSw; (try dsimp only at hSw); go_simp; try with_reducible rfl)
    simp only [List.getElem_toArray, List.getElem_cons_zero, List.getElem_cons_succ, Act.put, List.setIfInBounds_toArray, List.set_cons_zero, List.set_cons_succ]
    refine wpAnyH_take (i := 8) (v := undef) rfl (by kernel_rfl) (by kernel_rfl) (by kernel_rfl) (fun _ _ _ h => h) (Or.inr ⟨by rfl, rfl⟩) (by assumption) ?_
    simp only [List.getElem_toArray, List.getElem_cons_zero, List.getElem_cons_succ, Act.put, List.setIfInBounds_toArray, List.set_cons_zero, List.set_cons_succ]
    refine wpAnyH_take (i := 9) (v := undef) rfl (by kernel_rfl) (by kernel_rfl) (by kernel_rfl) (fun _ _ _ h => h) (Or.inr ⟨by rfl, rfl⟩) (by assumption) ?_
    simp only [List.getElem_toArray, List.getElem_cons_zero, List.getElem_cons_succ, Act.put, List.setIfInBounds_toArray, List.set_cons_zero, List.set_cons_succ]
    refine wpAnyH_take (i := 10) (v := undef) rfl (by kernel_rfl) (by kernel_rfl) (by kernel_rfl) (fun _ _ _ h => h) (Or.inr ⟨by rfl, rfl⟩) (by assumption) ?_
    simp only [List.getElem_toArray, List.getElem_cons_zero, List.getElem_cons_succ, Act.put, List.setIfInBounds_toArray, List.set_cons_zero, List.set_cons_succ]
    refine wpAnyH_take (i := 11) (v := undef) rfl (by kernel_rfl) (by kernel_rfl) (by kernel_rfl) (fun _ _ _ h => h) (Or.inr ⟨by rfl, rfl⟩) (by assumption) ?_
    simp only [List.getElem_toArray, List.getElem_cons_zero, List.getElem_cons_succ, Act.put, List.setIfInBounds_toArray, List.set_cons_zero, List.set_cons_succ]
    refine wpAnyH_take (i := 12) (v := undef) rfl (by kernel_rfl) (by kernel_rfl) (by kernel_rfl) (fun _ _ _ h => h) (Or.inr ⟨by rfl, rfl⟩) (by assumption) ?_
    simp only [List.getElem_toArray, List.getElem_cons_zero, List.getElem_cons_succ, Act.put, List.setIfInBounds_toArray, List.set_cons_zero, List.set_cons_succ]
    refine wpAnyH_take (i := 13) (v := undef) rfl (by kernel_rfl) (by kernel_rfl) (by kernel_rfl) (fun _ _ _ h => h) (Or.inr ⟨by rfl, rfl⟩) (by assumption) ?_
    simp only [List.getElem_toArray, List.getElem_cons_zero, List.getElem_cons_succ, Act.put, List.setIfInBounds_toArray, List.set_cons_zero, List.set_cons_succ]
    refine wpAnyH_take (i := 14) (v := undef) rfl (by kernel_rfl) (by kernel_rfl) (by kernel_rfl) (fun _ _ _ h => h) (Or.inr ⟨by rfl, rfl⟩) (by assumption) ?_
    simp only [List.getElem_toArray, List.getElem_cons_zero, List.getElem_cons_succ, Act.put, List.setIfInBounds_toArray, List.set_cons_zero, List.set_cons_succ]
    refine wpAnyH_take (i := 15) (v := ?_) rfl (by kernel_rfl) (by kernel_rfl) (by kernel_rfl) (fun _ _ _ h => h) (Or.inl ⟨by rfl, ?_⟩) (by assumption) ?_
    rotate_left
    · (intro w hSw; (try dsimp only at hSw); go_simp; try with_reducible rfl)
    simp only [List.getElem_toArray, List.getElem_cons_zero, List.getElem_cons_succ, Act.put, List.setIfInBounds_toArray, List.set_cons_zero, List.set_cons_succ]
    refine wpAnyH_take (i := 16) (v := ?_) rfl (by kernel_rfl) (by kernel_rfl) (by kernel_rfl) (fun _ _ _ h => h) (Or.inl ⟨by rfl, ?_⟩) (by assumption) ?_
    rotate_left
    · (intro w hSw; (try dsimp only at hSw); go_simp; try with_reducible rfl)
    simp only [List.getElem_toArray, List.getElem_cons_zero, List.getElem_cons_succ, Act.put, List.setIfInBounds_toArray, List.set_cons_zero, List.set_cons_succ]
    refine wpAnyH_done (by kernel_rfl) ?_ _
    refine NoPanic.normal ?_
    go_wp2_with fail
    refine (without_R p0 p1 p2 p3 a0 a1 a2 a3 n _ Op' h0 h1 Hk).mono ?_
    rintro e w6 ⟨rfl, hb⟩
    have T6 := Trio.step (by with_reducible assumption) hb
    clear hb
    go_upto_region 8 with fail
    have T7 : Quad w a0 a1 a2 a3 p0 p1 p2 p3 a0 a1 a2 a3 g h w6.heap.size (w6.alloc (.cells #[.int .u64 (a0 : Nat), .int .u64 (a1 : Nat), .int .u64 (a2 : Nat), .int .u64 (a3 : Nat)] 24)) := ⟨T6.alloc _, four_new _ _ _ _ _ _⟩
    clear T6
    generalize w6.heap.size = k at T7 ⊢
    generalize w6.alloc (.cells #[.int .u64 (a0 : Nat), .int .u64 (a1 : Nat), .int .u64 (a2 : Nat), .int .u64 (a3 : Nat)] 24) = w7 at T7 ⊢
    have C7 := (Quad.all T7).2
    go_wp2_with fail
    refine (has_R p0 p1 p2 p3 n true _ Op' Hpn).mono ?_
    rintro e w8 ⟨rfl, hb⟩
    have T8 := Quad.step T7 hb
    clear hb T7 C7
    have C8 := (Quad.all T8).2
    go_wp2_with fail
    refine (has_R a0 a1 a2 a3 n false _ Oa Han).mono ?_
    rintro e w9 ⟨rfl, hb⟩
    have T9 := Quad.step T8 hb
    clear hb T8 C8
    have C9 := (Quad.all T9).2
    go_wp2_with fail
    refine (has_R a0 a1 a2 a3 n false _ Oa Han).mono ?_
    rintro e w10 ⟨rfl, hb⟩
    have T10 := Quad.step T9 hb
    clear hb T9 C9
    have C10 := (Quad.all T10).2
    go_wp2_with fail
    go_ret
    exact ⟨rfl, T10.1.1.2⟩
end Go.Proofs.YtcpoakikeahjeaaDoor
