/- The walk of LineRight. -/
import Derived.Test.YtkmjbompbkbfaaaLinF
import Derived.Test.YtkmjbompbkbfaaaLinQ
import Derived.Test.YtkmjbompbkbfaaaPinO
namespace Go.Proofs.Ytkmjbompbkbfaaa
open Go.RowKit

set_option maxHeartbeats 4000000 in
set_option maxRecDepth 100000 in
theorem lineRight_bad (ad : Option Addr) (cap : Nat) (l : List PinT) (K : Int) (P : Int) (w : World) (HA : Hid (PinsAt w ad cap l)) (hlen : l.length ≤ 9223372036854775807) (hr : pinsOk l = false) :
    Calls Try.prog 5 #[.slice ad l.length cap, .agg #[.int .i64 K, .int .i64 P]] w fun e w' => e = .returned (.bool true) ∧ Below w.heap.size w w' := by
  go_enter Try.func5, Try.ntmps5
  go_wp2_with (first
    | (go_at_call 17; (with_reducible refine (alive3_R _).mono ?_); rintro e w1 ⟨rfl, hb⟩; have B1 := pstep (below_alloc w _) hb; have G1 := bat' hb w.heap.size (new_lt _ _); have LG1 := G1.2.2; clear hb)
    | (go_at_call 10; (with_reducible refine (step_bad _ _ _ (Lib.hid (HA.out.step B1)) hlen hr).mono ?_); rintro e w2 ⟨rfl, hb⟩; have B2 := pstep B1 hb; clear hb)
    | fail)
  go_ret
  exact ⟨rfl, B2⟩
set_option maxHeartbeats 4000000 in
set_option maxRecDepth 100000 in
theorem lineRight_err (ad : Option Addr) (cap : Nat) (l : List PinT) (K : Int) (P : Int) (w : World) (HA : Hid (PinsAt w ad cap l)) (hlen : l.length ≤ 9223372036854775807) (hr : pinsOk l = true) (c : Int) (HC : Hid (chk l.length K P = c)) (hc0 : ¬ c = 0) :
    Calls Try.prog 5 #[.slice ad l.length cap, .agg #[.int .i64 K, .int .i64 P]] w fun e w' => e = .returned (.bool true) ∧ Below w.heap.size w w' := by
  go_enter Try.func5, Try.ntmps5
  go_wp2_with (first
    | (go_at_call 17; (with_reducible refine (alive3_R _).mono ?_); rintro e w1 ⟨rfl, hb⟩; have B1 := pstep (below_alloc w _) hb; have G1 := bat' hb w.heap.size (new_lt _ _); have LG1 := G1.2.2; clear hb)
    | (go_at_call 10; (with_reducible refine (step_err _ _ c _ (Lib.hid (HA.out.step B1)) hlen hr HC.out hc0).mono ?_); rintro e w2 ⟨rfl, hb⟩; have B2 := pstep B1 hb; clear hb)
    | fail)
  go_ret
  exact ⟨rfl, B2⟩
set_option maxHeartbeats 4000000 in
set_option maxRecDepth 100000 in
theorem lineRight_ok (ad : Option Addr) (cap : Nat) (l : List PinT) (K : Int) (q : Nat) (w : World) (HA : Hid (PinsAt w ad cap l)) (hr : pinsOk l = true) (h1 : 1 ≤ K) (h5 : K ≤ 5) (hq : q < l.length) :
    Calls Try.prog 5 #[.slice ad l.length cap, .agg #[.int .i64 K, .int .i64 (q : Int)]] w fun e w' => e = .returned (.bool true) ∧ Below w.heap.size w w' := by
  have h24 := pins_24 hr
  have hlen : l.length ≤ 9223372036854775807 := by omega
  obtain ⟨b, off, rfl, hb, HL0⟩ := HA.out.2 (by omega)
  have HL := Lib.hid HL0
  obtain ⟨p, hp⟩ : ∃ p, l.getD q pin0 = p := ⟨_, rfl⟩
  obtain ⟨⟨p2, t⟩, hpt⟩ : ∃ r, pinStep p K = r := ⟨_, rfl⟩
  obtain ⟨ss, hss⟩ : ∃ ss : List SentT, (if t = true then [⟨q, p2.core, p2.vec⟩] else []) = ss := ⟨_, rfl⟩
  have HP := Lib.hid hp
  have HPT := Lib.hid hpt
  have HSS := Lib.hid hss
  have hs1 : ss.length ≤ 1 := by rw [← hss]; cases t <;> simp
  obtain ⟨m, hm⟩ : ∃ m, l.set q p2 = m := ⟨_, rfl⟩
  have hml : m.length = l.length := by rw [← hm]; simp
  have hmok : pinsOk m = true := by
    rw [← hm]
    refine pins_set hr q p2 ?_
    have := pinStep_ok p K (by rw [← hp]; exact pins_each hr q hq)
    rw [hpt] at this
    exact this
  have hoth : ∀ j, ¬ j = q → m.getD j pin0 = l.getD j pin0 := fun j hj => by rw [← hm]; exact set_other p2 hj
  have hs2 : decide ((ss.length : Int) ≤ 1) = true := by simp; omega
  have hs3 : decide (ss.length ≤ 1) = true := by simpa using hs1
  have HML := Lib.hid hml
  have HMM := Lib.hid hm
  have HOT := Lib.hid hoth
  have heq : ∀ (c v : Int) (l m u k s : Bool) (w : World), (Op.equalIn 10000 35 (.agg #[.int .i64 c, .int .i64 v, .bool l, .bool m, .bool u, .bool k, .bool s]) (.agg #[.int .i64 c, .int .i64 v, .bool l, .bool m, .bool u, .bool k, .bool s])).run Try.prog w = .ok true w := eq_pin
  clear hp hpt hss hml hm HL0 hoth
  go_enter Try.func5, Try.ntmps5
  go_wp2_with (first
    | (go_at_call 17; (with_reducible refine (alive3_R _).mono ?_); rintro e w1 ⟨rfl, hb⟩; have B1 := pstep (below_alloc w _) hb; have G1 := bat' hb w.heap.size (new_lt _ _); have LG1 := G1.2.2; clear hb)
    | (go_at_call 10; (with_reducible refine (step_ok _ _ p p2 t _ (Lib.hid (HA.out.step B1)) hr h1 h5 hq HP HPT ss HSS).mono ?_); rintro e W3 ⟨h, cap1, vs, rfl, R⟩; rw [HMM.out] at R; have B3 := pstep B1 R.1; have G3 := bat' R.1 w.heap.size LG1; have LG3 := G3.2.2; have RP := Lib.hid R.2.1; have RL := R.2.1.lt; obtain ⟨sa, cs, rfl, SA⟩ := sents_of_row R.2.2.2.1; clear R SA)
    | fail)
  have hbo : W3.cell? ⟨w.heap.size, 1, none⟩ = some (.int .i64 (q : Int)) := by rw [G3.1, G1.1]; exact (pair_new _ _ _ _).2
  have BX := Lib.hid hbo
  have HL3 := Lib.hid (HL.out.step B3 hb)
  have hb3 := Nat.lt_of_lt_of_le hb B3.size
  clear hbo G1 G3
  go_loopw [28] (fun i wr => ∃ j : Nat, j ≤ l.length ∧ i = .int .i64 j ∧ Below W3.heap.size W3 wr) (fun i _ => l.length - (intOf i).toNat)
  case atStart => exact ⟨0, Nat.zero_le _, rfl, Below.refl _ _⟩
  case round =>
    obtain ⟨j, hj, rfl, BB⟩ := hrel
    by_cases hlt : j < l.length
    · have bx : wr.cell? ⟨w.heap.size, 1, none⟩ = some (.int .i64 (q : Int)) := (BB.cell LG3).trans BX.out
      by_cases hjq : j = q
      · subst hjq
        go_upto_region 9 with fail
        go_quiet (fail)
        go_wp2_with fail
        go_roundw
        case rel => exact ⟨j + 1, by omega, by go_num, by repeat (first | (with_reducible assumption) | (with_reducible refine Below.drew ?_) | (with_reducible exact below_drewN BB _))⟩
        case measure => simp [intOf]; omega
      · have hn1 : ((j : Int) != (q : Int)) = true := by simp; omega
        have hn2 : (j != q) = true := by simpa using hjq
        obtain ⟨p', hp'⟩ : ∃ p', l.getD j pin0 = p' := ⟨_, rfl⟩
        obtain ⟨a0, a1, a2, a3, a4, a5, a6⟩ := (HL3.out.step BB hb3).at j hlt p' hp'
        obtain ⟨b0, b1, b2, b3, b4, b5, b6⟩ := (RP.out.lies.step BB RL).at j (by rw [HML.out]; exact hlt) p' (by rw [HOT.out j hjq]; exact hp')
        simp only [Nat.zero_add] at b0 b1 b2 b3 b4 b5 b6
        clear hp'
        go_upto_region 9 with fail
        go_region
        all_goals go_wp2_with fail
        all_goals go_roundw
        all_goals first
          | exact ⟨j + 1, by omega, by go_num, by repeat (first | (with_reducible assumption) | (with_reducible refine Below.drew ?_))⟩
          | (simp [intOf]; omega)
    · have hjl : j = l.length := by omega
      subst hjl
      clear hlt
      go_wp2_with (first
        | (go_at_call 12; (with_reducible refine (right_N _ ((RP.out.at cap1).step BB) HML hlen true hmok).mono ?_); rintro e w5 ⟨rfl, hb5⟩; have B5 := pstep B3 (pstep BB hb5); clear hb5)
        | fail)
      go_ret
      exact ⟨rfl, B5⟩
theorem lineRight_walk (v : Value) (K P : Int) (w : World) (h : ArgPins w v) :
    Calls Try.prog 5 #[v, .agg #[.int .i64 K, .int .i64 P]] w fun e w' => e = .returned (.bool true) ∧ Below w.heap.size w w' := by
  obtain ⟨ad, cap, l, rfl, hlen, HA⟩ := h
  have HA' := Lib.hid HA
  by_cases hr : pinsOk l = true
  · obtain ⟨c, hc⟩ : ∃ c, chk l.length K P = c := ⟨_, rfl⟩
    by_cases h2 : c = 0
    · subst h2
      obtain ⟨h1, h5, h0, hP⟩ := chk_ok.1 hc
      obtain ⟨q, rfl⟩ : ∃ q : Nat, P = q := ⟨P.toNat, by omega⟩
      exact lineRight_ok ad cap l K q w HA' hr h1 h5 (by omega)
    · exact lineRight_err ad cap l K P w HA' hlen hr c (Lib.hid hc) h2
  · exact lineRight_bad ad cap l K P w HA' hlen (by simpa using hr)
end Go.Proofs.Ytkmjbompbkbfaaa
