/- The walk of vector's leastUsed. -/
import Derived.Test.YtmldedkmmhnihaaDoorVecR
namespace Go.Proofs.YtmldedkmmhnihaaDoor
open Go.RowKit

theorem pickI_none {n : Nat → Nat} {ok : Nat → Bool} {k : Nat} (h : pick n ok k = none) : pickI (pick n ok k) = -1 := by rw [h]; rfl
theorem pickI_some {n : Nat → Nat} {ok : Nat → Bool} {k d : Nat} (h : pick n ok k = some d) : pickI (pick n ok k) = d := by rw [h]; rfl
theorem pick_skip {n : Nat → Nat} {ok : Nat → Bool} {k : Nat} (h : ¬ (ok k = true ∧ n k < 224)) : pick n ok (k + 1) = pick n ok k := by
  rw [pick]
  cases pick n ok k with
  | none => simp only; rw [if_neg h]
  | some b => simp only; rw [if_neg (fun g => h ⟨g.1, g.2.1⟩)]
theorem pick_first {n : Nat → Nat} {ok : Nat → Bool} {k : Nat} (h : ok k = true ∧ n k < 224) (e : pick n ok k = none) : pick n ok (k + 1) = some k := by
  rw [pick, e]
  simp only
  rw [if_pos h]
theorem pick_less {n : Nat → Nat} {ok : Nat → Bool} {k d : Nat} (h : ok k = true ∧ n k < 224) (e : pick n ok k = some d) (hl : n k < n d) : pick n ok (k + 1) = some k := by
  rw [pick, e]
  simp only
  rw [if_pos ⟨h.1, h.2, hl⟩]
theorem pick_more {n : Nat → Nat} {ok : Nat → Bool} {k d : Nat} (e : pick n ok k = some d) (hl : ¬ n k < n d) : pick n ok (k + 1) = some d := by
  rw [pick, e]
  simp only
  rw [if_neg (fun g => hl g.2.2)]
set_option maxHeartbeats 1000000 in
set_option maxRecDepth 100000 in
/-- vector's leastUsed. -/
theorem least_raw (T cores : Nat) (tk : Nat → Nat) (m r : Int) (w : World) (h8 : cores ≤ 8) (hT : T < w.heap.size) (hc : w.cell? ⟨T, 0, none⟩ = some (.int .i64 (cores : Int))) (ht : Hid (∀ c, c < 8 → w.cell? ⟨T, 34 + c, none⟩ = some (.int .i64 (tk c : Int)))) (hr : Hid (pickI (pick tk (allow m) cores) = r)) :
    Calls Tryd.prog 19 #[.pointer (some ⟨T, 0, none⟩), .int .i64 m] w fun e w' => e = .returned (.int .i64 r) ∧ Below w.heap.size w w' := by
  go_enter Tryd.func19, Tryd.ntmps19
  go_wp2_with fail
  go_loopw [5, 11] (fun b i wr => ∃ (k : Nat) (p : Int), k ≤ cores ∧ i = .int .i64 k ∧ b = .int .i64 p ∧ Hid (pickI (pick tk (allow m) k) = p) ∧ Below w.heap.size w wr) (fun _ i _ => cores - (intOf i).toNat)
  case atStart => exact ⟨0, -1, Nat.zero_le _, rfl, rfl, Lib.hid rfl, Below.refl _ _⟩
  case round =>
    obtain ⟨k, p, hk, rfl, rfl, HP, B0⟩ := hrel
    by_cases hkl : k < cores
    · obtain ⟨b, hb⟩ : ∃ b : Int, ((2 ^ k : Nat) : Int) = b := ⟨_, rfl⟩
      have hk8 : k < 8 := by omega
      have ek : wr.cell? ⟨T, 34 + k, none⟩ = some (.int .i64 (tk k : Int)) := (B0.cell hT).trans (ht.out k hk8)
      have HB := Lib.hid hb
      have hz := and_allow m k hk8 b hb
      clear hb
      by_cases ha : allow m k = true
      · rw [ha] at hz
        replace hz : (Go.bits BinOp.and IntKind.i64 m b == 0) = false := hz
        by_cases ht2 : tk k < 224
        · have HR := Lib.hid (decide_eq_true (show ((tk k : Nat) : Int) < 224 by omega))
          obtain ⟨q, hq⟩ : ∃ q, pick tk (allow m) k = q := ⟨_, rfl⟩
          cases q with
          | none =>
            have HN := Lib.hid (pick_first ⟨ha, ht2⟩ hq)
            obtain rfl : p = -1 := by rw [← HP.out, pickI_none hq]
            clear ha ht2 hq HP
            go_wp2_with (first
              | (go_at_call 15; (with_reducible refine (bitV k b _ hk8 HB).mono ?_); rintro e w2 ⟨rfl, rfl⟩)
              | (go_at_call 24; (with_reducible refine (hasRoom_raw T k _ _ true hk8 ek HR.out).mono ?_); rintro e w2 ⟨rfl, rfl⟩)
              | fail)
            go_quiet (fail)
            go_wp2_with fail
            go_roundw
            case rel => exact ⟨k + 1, k, by omega, by go_num, rfl, Lib.hid (by rw [HN.out]; rfl), below_drewN B0 _⟩
            case measure => simp [intOf]; omega
          | some d =>
            obtain rfl : p = (d : Int) := by rw [← HP.out, pickI_some hq]
            have hd8 : d < 8 := by have := (pick_some hq).1; omega
            have ed : wr.cell? ⟨T, 34 + d, none⟩ = some (.int .i64 (tk d : Int)) := (B0.cell hT).trans (ht.out d hd8)
            have hd0 : decide ((d : Int) < 0) = false := decide_eq_false (by omega)
            by_cases hl : tk k < tk d
            · have hdl : decide ((tk k : Int) < (tk d : Int)) = true := decide_eq_true (by omega)
              have HN := Lib.hid (pick_less ⟨ha, ht2⟩ hq hl)
              clear ha ht2 hq HP
              go_wp2_with (first
                | (go_at_call 15; (with_reducible refine (bitV k b _ hk8 HB).mono ?_); rintro e w2 ⟨rfl, rfl⟩)
                | (go_at_call 24; (with_reducible refine (hasRoom_raw T k _ _ true hk8 ek HR.out).mono ?_); rintro e w2 ⟨rfl, rfl⟩)
                | fail)
              go_quiet (fail)
              go_wp2_with fail
              go_roundw
              case rel => exact ⟨k + 1, k, by omega, by go_num, rfl, Lib.hid (by rw [HN.out]; rfl), below_drewN B0 _⟩
              case measure => simp [intOf]; omega
            · have hdl : decide ((tk k : Int) < (tk d : Int)) = false := decide_eq_false (by omega)
              have HN := Lib.hid (pick_more (ok := allow m) hq hl)
              clear ha ht2 hq HP
              go_wp2_with (first
                | (go_at_call 15; (with_reducible refine (bitV k b _ hk8 HB).mono ?_); rintro e w2 ⟨rfl, rfl⟩)
                | (go_at_call 24; (with_reducible refine (hasRoom_raw T k _ _ true hk8 ek HR.out).mono ?_); rintro e w2 ⟨rfl, rfl⟩)
                | fail)
              go_quiet (fail)
              go_wp2_with fail
              go_roundw
              case rel => exact ⟨k + 1, d, by omega, by go_num, rfl, Lib.hid (by rw [HN.out]; rfl), below_drewN B0 _⟩
              case measure => simp [intOf]; omega
        · have HR := Lib.hid (decide_eq_false (show ¬ ((tk k : Nat) : Int) < 224 by omega))
          have HN := Lib.hid (pick_skip (n := tk) (ok := allow m) (k := k) (fun g => ht2 g.2))
          clear ha ht2
          go_wp2_with (first
            | (go_at_call 15; (with_reducible refine (bitV k b _ hk8 HB).mono ?_); rintro e w2 ⟨rfl, rfl⟩)
            | (go_at_call 24; (with_reducible refine (hasRoom_raw T k _ _ false hk8 ek HR.out).mono ?_); rintro e w2 ⟨rfl, rfl⟩)
            | fail)
          go_roundw
          case rel => exact ⟨k + 1, p, by omega, by go_num, rfl, Lib.hid (by rw [HN.out, HP.out]), B0⟩
          case measure => simp [intOf]; omega
      · have HN := Lib.hid (pick_skip (n := tk) (ok := allow m) (k := k) (fun g => ha g.1))
        rw [Bool.eq_false_iff.2 ha] at hz
        replace hz : (Go.bits BinOp.and IntKind.i64 m b == 0) = true := hz
        clear ha
        go_wp2_with (first
          | (go_at_call 15; (with_reducible refine (bitV k b _ hk8 HB).mono ?_); rintro e w2 ⟨rfl, rfl⟩)
          | fail)
        go_roundw
        case rel => exact ⟨k + 1, p, by omega, by go_num, rfl, Lib.hid (by rw [HN.out, HP.out]), B0⟩
        case measure => simp [intOf]; omega
    · have hke : k = cores := by omega
      subst hke
      clear hkl hk
      go_wp2_with fail
      go_ret
      exact ⟨by rw [← HP.out, hr.out]; rfl, B0⟩
end Go.Proofs.YtmldedkmmhnihaaDoor
