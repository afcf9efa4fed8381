/- The walk of LineSteps. -/
import Derived.Test.YtkmjbompbkbfaaaPinO
import Derived.Test.YtkmjbompbkbfaaaPinF
namespace Go.Proofs.Ytkmjbompbkbfaaa
open Go.RowKit

set_option maxHeartbeats 4000000 in
set_option maxRecDepth 100000 in
theorem lineSteps_bad (ad : Option Addr) (cap : Nat) (l : List PinT) (K P : Int) (w : World) (HA : Hid (PinsAt w ad cap l)) (hlen : l.length ≤ 9223372036854775807) (hr : pinsOk l = false) :
    Calls Try.prog 3 #[.slice ad l.length cap, .agg #[.int .i64 K, .int .i64 P]] w fun e w' => e = .returned (.bool true) ∧ Below w.heap.size w w' := by
  go_enter Try.func3, Try.ntmps3
  go_wp2_with (first
    | (go_at_call 10; (with_reducible refine (step_bad _ _ _ (Lib.hid (HA.out.step (by first | with_reducible assumption | exact below_alloc w _))) hlen hr).mono ?_); rintro e wn ⟨rfl, hb⟩; have B := pstep (W := w) (by first | with_reducible assumption | exact below_alloc w _) hb; have S := B.size; have G := bat' hb w.heap.size (by first | omega | (simp; done) | (simp; omega)); have LG := G.2.2; clear hb)
    | (go_at_call 11; (with_reducible refine (cright_U _ (HA.out.step (by first | with_reducible assumption | exact below_alloc w _)) hlen false hr).mono ?_); rintro e wn ⟨rfl, hb⟩; have B := pstep (W := w) (by first | with_reducible assumption | exact below_alloc w _) hb; have S := B.size; have G := bat' hb w.heap.size (by first | omega | (simp; done) | (simp; omega)); have LG := G.2.2; clear hb)
    | (go_at_call 12; (with_reducible refine (right_U _ (HA.out.step (by first | with_reducible assumption | exact below_alloc w _)) hlen false hr).mono ?_); rintro e wn ⟨rfl, hb⟩; have B := pstep (W := w) (by first | with_reducible assumption | exact below_alloc w _) hb; have S := B.size; have G := bat' hb w.heap.size (by first | omega | (simp; done) | (simp; omega)); have LG := G.2.2; clear hb)
    | fail)
  go_ret
  exact ⟨rfl, (by first | with_reducible assumption | exact below_alloc w _)⟩
set_option maxHeartbeats 4000000 in
set_option maxRecDepth 100000 in
theorem lineSteps_kind (ad : Option Addr) (cap : Nat) (l : List PinT) (K P : Int) (w : World) (HA : Hid (PinsAt w ad cap l)) (hlen : l.length ≤ 9223372036854775807) (hr : pinsOk l = true) (h : ¬ (1 ≤ K ∧ K ≤ 5)) :
    Calls Try.prog 3 #[.slice ad l.length cap, .agg #[.int .i64 K, .int .i64 P]] w fun e w' => e = .returned (.bool true) ∧ Below w.heap.size w w' := by
  have hc : chk l.length K P = 5 := by unfold chk; rw [if_neg h]
  have HC := Lib.hid hc
  clear hc
  by_cases h1 : K < 1
  · have d1 : decide (K < 1) = true := by simpa using h1
    clear h
    go_enter Try.func3, Try.ntmps3
    go_wp2_with (first
      | (go_at_call 10; (with_reducible refine (step_err _ _ 5 _ (Lib.hid (HA.out.step (by first | with_reducible assumption | exact below_alloc w _))) hlen hr HC.out (by decide)).mono ?_); rintro e wn ⟨rfl, hb⟩; have B := pstep (W := w) (by first | with_reducible assumption | exact below_alloc w _) hb; have S := B.size; have G := bat' hb w.heap.size (by first | omega | (simp; done) | (simp; omega)); have LG := G.2.2; clear hb)
      | (go_at_call 11; (with_reducible refine (cright_U _ (HA.out.step (by first | with_reducible assumption | exact below_alloc w _)) hlen true hr).mono ?_); rintro e wn ⟨rfl, hb⟩; have B := pstep (W := w) (by first | with_reducible assumption | exact below_alloc w _) hb; have S := B.size; have G := bat' hb w.heap.size (by first | omega | (simp; done) | (simp; omega)); have LG := G.2.2; clear hb)
      | (go_at_call 12; (with_reducible refine (right_U _ (HA.out.step (by first | with_reducible assumption | exact below_alloc w _)) hlen true hr).mono ?_); rintro e wn ⟨rfl, hb⟩; have B := pstep (W := w) (by first | with_reducible assumption | exact below_alloc w _) hb; have S := B.size; have G := bat' hb w.heap.size (by first | omega | (simp; done) | (simp; omega)); have LG := G.2.2; clear hb)
      | fail)
    go_ret
    exact ⟨rfl, (by first | with_reducible assumption | exact below_alloc w _)⟩
  · have d1 : decide (K < 1) = false := by simpa using h1
    have d2 : decide (5 < K) = true := by simp; omega
    clear h
    go_enter Try.func3, Try.ntmps3
    go_wp2_with (first
      | (go_at_call 10; (with_reducible refine (step_err _ _ 5 _ (Lib.hid (HA.out.step (by first | with_reducible assumption | exact below_alloc w _))) hlen hr HC.out (by decide)).mono ?_); rintro e wn ⟨rfl, hb⟩; have B := pstep (W := w) (by first | with_reducible assumption | exact below_alloc w _) hb; have S := B.size; have G := bat' hb w.heap.size (by first | omega | (simp; done) | (simp; omega)); have LG := G.2.2; clear hb)
      | (go_at_call 11; (with_reducible refine (cright_U _ (HA.out.step (by first | with_reducible assumption | exact below_alloc w _)) hlen true hr).mono ?_); rintro e wn ⟨rfl, hb⟩; have B := pstep (W := w) (by first | with_reducible assumption | exact below_alloc w _) hb; have S := B.size; have G := bat' hb w.heap.size (by first | omega | (simp; done) | (simp; omega)); have LG := G.2.2; clear hb)
      | (go_at_call 12; (with_reducible refine (right_U _ (HA.out.step (by first | with_reducible assumption | exact below_alloc w _)) hlen true hr).mono ?_); rintro e wn ⟨rfl, hb⟩; have B := pstep (W := w) (by first | with_reducible assumption | exact below_alloc w _) hb; have S := B.size; have G := bat' hb w.heap.size (by first | omega | (simp; done) | (simp; omega)); have LG := G.2.2; clear hb)
      | fail)
    go_ret
    exact ⟨rfl, (by first | with_reducible assumption | exact below_alloc w _)⟩
set_option maxHeartbeats 4000000 in
set_option maxRecDepth 100000 in
theorem lineSteps_none (ad : Option Addr) (cap : Nat) (l : List PinT) (K P : Int) (w : World) (HA : Hid (PinsAt w ad cap l)) (hlen : l.length ≤ 9223372036854775807) (hr : pinsOk l = true) (h1 : 1 ≤ K) (h5 : K ≤ 5) (h : ¬ (0 ≤ P ∧ P < l.length)) :
    Calls Try.prog 3 #[.slice ad l.length cap, .agg #[.int .i64 K, .int .i64 P]] w fun e w' => e = .returned (.bool true) ∧ Below w.heap.size w w' := by
  have hc : chk l.length K P = 3 := by unfold chk; rw [if_pos ⟨h1, h5⟩, if_neg h]
  have HC := Lib.hid hc
  clear hc
  have d1 : decide (K < 1) = false := by simp; omega
  have d2 : decide (5 < K) = false := by simp; omega
  by_cases h3 : P < 0
  · have d3 : decide (P < 0) = true := by simpa using h3
    clear h
    go_enter Try.func3, Try.ntmps3
    go_wp2_with (first
      | (go_at_call 10; (with_reducible refine (step_err _ _ 3 _ (Lib.hid (HA.out.step (by first | with_reducible assumption | exact below_alloc w _))) hlen hr HC.out (by decide)).mono ?_); rintro e wn ⟨rfl, hb⟩; have B := pstep (W := w) (by first | with_reducible assumption | exact below_alloc w _) hb; have S := B.size; have G := bat' hb w.heap.size (by first | omega | (simp; done) | (simp; omega)); have LG := G.2.2; clear hb)
      | (go_at_call 11; (with_reducible refine (cright_U _ (HA.out.step (by first | with_reducible assumption | exact below_alloc w _)) hlen true hr).mono ?_); rintro e wn ⟨rfl, hb⟩; have B := pstep (W := w) (by first | with_reducible assumption | exact below_alloc w _) hb; have S := B.size; have G := bat' hb w.heap.size (by first | omega | (simp; done) | (simp; omega)); have LG := G.2.2; clear hb)
      | (go_at_call 12; (with_reducible refine (right_U _ (HA.out.step (by first | with_reducible assumption | exact below_alloc w _)) hlen true hr).mono ?_); rintro e wn ⟨rfl, hb⟩; have B := pstep (W := w) (by first | with_reducible assumption | exact below_alloc w _) hb; have S := B.size; have G := bat' hb w.heap.size (by first | omega | (simp; done) | (simp; omega)); have LG := G.2.2; clear hb)
      | fail)
    go_ret
    exact ⟨rfl, (by first | with_reducible assumption | exact below_alloc w _)⟩
  · have d3 : decide (P < 0) = false := by simpa using h3
    have d4 : decide ((l.length : Int) ≤ P) = true := by simp; omega
    clear h
    go_enter Try.func3, Try.ntmps3
    go_wp2_with (first
      | (go_at_call 10; (with_reducible refine (step_err _ _ 3 _ (Lib.hid (HA.out.step (by first | with_reducible assumption | exact below_alloc w _))) hlen hr HC.out (by decide)).mono ?_); rintro e wn ⟨rfl, hb⟩; have B := pstep (W := w) (by first | with_reducible assumption | exact below_alloc w _) hb; have S := B.size; have G := bat' hb w.heap.size (by first | omega | (simp; done) | (simp; omega)); have LG := G.2.2; clear hb)
      | (go_at_call 11; (with_reducible refine (cright_U _ (HA.out.step (by first | with_reducible assumption | exact below_alloc w _)) hlen true hr).mono ?_); rintro e wn ⟨rfl, hb⟩; have B := pstep (W := w) (by first | with_reducible assumption | exact below_alloc w _) hb; have S := B.size; have G := bat' hb w.heap.size (by first | omega | (simp; done) | (simp; omega)); have LG := G.2.2; clear hb)
      | (go_at_call 12; (with_reducible refine (right_U _ (HA.out.step (by first | with_reducible assumption | exact below_alloc w _)) hlen true hr).mono ?_); rintro e wn ⟨rfl, hb⟩; have B := pstep (W := w) (by first | with_reducible assumption | exact below_alloc w _) hb; have S := B.size; have G := bat' hb w.heap.size (by first | omega | (simp; done) | (simp; omega)); have LG := G.2.2; clear hb)
      | fail)
    go_ret
    exact ⟨rfl, (by first | with_reducible assumption | exact below_alloc w _)⟩
theorem new_lt (w : World) (o : Obj) : w.heap.size < (w.alloc o).heap.size := by simp
theorem below_more {W w : World} (h : Below W.heap.size W w) (o : Obj) : Below W.heap.size W (w.alloc o) := h.alloc h.size o
theorem pair_new (w : World) (x y : Value) (T : TypeId) : (w.alloc (.cells #[x, y] T)).cell? ⟨w.heap.size, 0, none⟩ = some x ∧ (w.alloc (.cells #[x, y] T)).cell? ⟨w.heap.size, 1, none⟩ = some y :=
  ⟨by rw [cell_of_row _ _ _ _ _ _ (heap_alloc_new _ _)]; rfl, by rw [cell_of_row _ _ _ _ _ _ (heap_alloc_new _ _)]; rfl⟩
theorem cplay_one {ad : Option Addr} {cap : Nat} {l : List PinT} (K P : Int) (m : List PinT) (ss : List SentT) (w : World) (ob ocap : Nat) (HA : PinsAt w ad cap l) (h24 : l.length ≤ 24) (h0 : 0 < l.length) (HST : Hid (playTo l (fun _ => K) (fun _ => P) 1 = (m, ss)))
    (hob : ob < w.heap.size) (hk : w.cell? ⟨ob, 0, none⟩ = some (.int .i64 K)) (hp : w.cell? ⟨ob, 1, none⟩ = some (.int .i64 P)) :
    Calls Try.prog 13 #[.slice ad l.length cap, .slice (some ⟨ob, 0, none⟩) 1 ocap] w fun e w' => ∃ h cap' sa cs, e = .returned (.tuple #[.slice (some ⟨h, 0, none⟩) l.length cap', .slice sa ss.length cs]) ∧ PinsAt w' (some ⟨h, 0, none⟩) cap' m ∧ SentsAt w' sa cs ss ∧ Below w.heap.size w w' := by
  obtain ⟨b, off, rfl, hb, HL⟩ := HA.2 h0
  refine (cplay_core b off cap ob 0 1 ocap l (fun _ => K) (fun _ => P) w hb hob h24 h0 (by decide) (Lib.hid HL) (Lib.hid fun k hk1 => ?_)).mono ?_
  · obtain rfl : k = 0 := by omega
    exact ⟨hk, hp⟩
  · rintro e w' ⟨h, cap', vs, rfl, R⟩
    rw [HST.out] at R
    obtain ⟨sa, cs, rfl, SA⟩ := sents_of_row R.2.2.2.1
    exact ⟨h, cap', sa, cs, rfl, R.2.1.at cap', SA, R.1⟩
theorem equalP_N {a1 a2 : Option Addr} {c1 c2 n : Nat} {l : List PinT} (w : World) (hn : Hid (l.length = n)) (h1 : PinsAt w a1 c1 l) (h2 : PinsAt w a2 c2 l) (hl : n ≤ 9223372036854775807) :
    Calls Try.prog 14 #[.slice a1 n c1, .slice a2 n c2] w fun e w' => e = .returned (.bool true) ∧ Below w.heap.size w w' := by
  have h := hn.out
  subst h
  exact equalP_U w h1 h2 hl
set_option maxHeartbeats 4000000 in
set_option maxRecDepth 100000 in
theorem lineSteps_ok (ad : Option Addr) (cap : Nat) (l : List PinT) (K : Int) (q : Nat) (w : World) (HA : Hid (PinsAt w ad cap l)) (hr : pinsOk l = true) (h1 : 1 ≤ K) (h5 : K ≤ 5) (hq : q < l.length) :
    Calls Try.prog 3 #[.slice ad l.length cap, .agg #[.int .i64 K, .int .i64 (q : Int)]] w fun e w' => e = .returned (.bool true) ∧ Below w.heap.size w w' := by
  have h24 := pins_24 hr
  have h0 : 0 < l.length := by omega
  have hlen : l.length ≤ 9223372036854775807 := by omega
  have d1 : decide (K < 1) = false := by simp; omega
  have d2 : decide (5 < K) = false := by simp; omega
  have d3 : decide ((q : Int) < 0) = false := by simp
  have d4 : decide ((l.length : Int) ≤ (q : Int)) = false := by simp; omega
  have d5 : decide (l.length ≤ q) = false := by simp; omega
  obtain ⟨p, hp⟩ : ∃ p, l.getD q pin0 = p := ⟨_, rfl⟩
  obtain ⟨⟨p2, t⟩, hpt⟩ : ∃ r, pinStep p K = r := ⟨_, rfl⟩
  obtain ⟨ss, hss⟩ : ∃ ss : List SentT, (if t = true then [⟨q, p2.core, p2.vec⟩] else []) = ss := ⟨_, rfl⟩
  have HP := Lib.hid hp
  have HPT := Lib.hid hpt
  have HSS := Lib.hid hss
  have hs1 : ss.length ≤ 9223372036854775807 := by rw [← hss]; cases t <;> simp
  obtain ⟨m, hm⟩ : ∃ m, l.set q p2 = m := ⟨_, rfl⟩
  have hml : m.length = l.length := by rw [← hm]; simp
  have HML := Lib.hid hml
  have HMM := Lib.hid hm
  have hst : playTo l (fun _ => K) (fun _ => (q : Int)) 1 = (m, ss) := by
    show playStep (l, []) K q = _
    unfold playStep
    rw [if_pos ⟨h1, h5, by omega, by simpa using hq⟩, Int.toNat_natCast, hp, hpt, ← hss, ← hm]
    rfl
  have HST := Lib.hid hst
  clear hp hpt hss hml hst hm
  go_enter Try.func3, Try.ntmps3
  go_wp2_with (first
    | (go_at_call 10; (with_reducible refine (step_ok _ _ p p2 t _ (Lib.hid (HA.out.step (by first | with_reducible assumption | exact below_alloc w _))) hr h1 h5 hq HP HPT ss HSS).mono ?_); rintro e W3 ⟨h, cap1, vs, rfl, R⟩; have hb := R.1; rw [HMM.out] at R; have RA := (R.2.1.at cap1); obtain ⟨sa, cs, rfl, SA⟩ := sents_of_row R.2.2.2.1; have C := Below.refl W3.heap.size W3; clear R; have B := pstep (W := w) (by first | with_reducible assumption | exact below_alloc w _) hb; have S := B.size; have G := bat' hb w.heap.size (by first | omega | (simp; done) | (simp; omega)); have LG := G.2.2; clear hb)
    | (go_at_call 11; (with_reducible refine (cright_U _ (HA.out.step (by first | with_reducible assumption | exact below_more (by with_reducible assumption) _)) hlen true hr).mono ?_); rintro e wn ⟨rfl, hb⟩; have B := pstep (W := w) (by first | with_reducible assumption | exact below_more (by with_reducible assumption) _) hb; have C := pstep (W := W3) (by first | with_reducible assumption | exact below_more (by with_reducible assumption) _) hb; have S := B.size; have G := bat' hb w.heap.size (by first | omega | (simp; done) | (simp; omega)); have LG := G.2.2; clear hb)
    | (go_at_call 12; (with_reducible refine (right_U _ (HA.out.step (by first | with_reducible assumption | exact below_more (by with_reducible assumption) _)) hlen true hr).mono ?_); rintro e wn ⟨rfl, hb⟩; have B := pstep (W := w) (by first | with_reducible assumption | exact below_more (by with_reducible assumption) _) hb; have C := pstep (W := W3) (by first | with_reducible assumption | exact below_more (by with_reducible assumption) _) hb; have S := B.size; have G := bat' hb w.heap.size (by first | omega | (simp; done) | (simp; omega)); have LG := G.2.2; clear hb)
    | (go_at_call 13; (with_reducible refine (cplay_one K q m ss _ _ _ (HA.out.step (by first | with_reducible assumption | exact below_more (by with_reducible assumption) _)) h24 h0 HST (new_lt _ _) (pair_new _ _ _ _).1 (pair_new _ _ _ _).2).mono ?_); rintro e W4 ⟨h2, cap2, sa2, cs2, rfl, RA2, SA2, hb⟩; have D := Below.refl W4.heap.size W4; have B := pstep (W := w) (by first | with_reducible assumption | exact below_more (by with_reducible assumption) _) hb; have C := pstep (W := W3) (by first | with_reducible assumption | exact below_more (by with_reducible assumption) _) hb; have S := B.size; have G := bat' hb w.heap.size (by first | omega | (simp; done) | (simp; omega)); have LG := G.2.2; clear hb)
    | (go_at_call 14; (with_reducible refine (equalP_N _ HML (RA.step (by first | with_reducible assumption | exact below_more (by with_reducible assumption) _)) (RA2.step (by first | with_reducible assumption | exact below_more (by with_reducible assumption) _)) hlen).mono ?_); rintro e wn ⟨rfl, hb⟩; have B := pstep (W := w) (by first | with_reducible assumption | exact below_more (by with_reducible assumption) _) hb; have C := pstep (W := W3) (by first | with_reducible assumption | exact below_more (by with_reducible assumption) _) hb; have S := B.size; have G := bat' hb w.heap.size (by first | omega | (simp; done) | (simp; omega)); have LG := G.2.2; have D := pstep (W := W4) (by with_reducible assumption) hb; clear hb)
    | (go_at_call 15; (with_reducible refine (equalS_U _ (SA.step (by first | with_reducible assumption | exact below_more (by with_reducible assumption) _)) (SA2.step (by first | with_reducible assumption | exact below_more (by with_reducible assumption) _)) hs1).mono ?_); rintro e wn ⟨rfl, hb⟩; have B := pstep (W := w) (by first | with_reducible assumption | exact below_more (by with_reducible assumption) _) hb; have C := pstep (W := W3) (by first | with_reducible assumption | exact below_more (by with_reducible assumption) _) hb; have S := B.size; have G := bat' hb w.heap.size (by first | omega | (simp; done) | (simp; omega)); have LG := G.2.2; clear hb)
    | fail)
  go_ret
  exact ⟨rfl, (by first | with_reducible assumption | exact below_alloc w _)⟩
theorem lineSteps_walk (v : Value) (K P : Int) (w : World) (h : ArgPins w v) :
    Calls Try.prog 3 #[v, .agg #[.int .i64 K, .int .i64 P]] w fun e w' => e = .returned (.bool true) ∧ Below w.heap.size w w' := by
  obtain ⟨ad, cap, l, rfl, hlen, HA⟩ := h
  have HA' := Lib.hid HA
  by_cases hr : pinsOk l = true
  · by_cases h1 : 1 ≤ K ∧ K ≤ 5
    · by_cases h2 : 0 ≤ P ∧ P < l.length
      · obtain ⟨q, rfl⟩ : ∃ q : Nat, P = q := ⟨P.toNat, by omega⟩
        exact lineSteps_ok ad cap l K q w HA' hr h1.1 h1.2 (by omega)
      · exact lineSteps_none ad cap l K P w HA' hlen hr h1.1 h1.2 h2
    · exact lineSteps_kind ad cap l K P w HA' hlen hr h1
  · exact lineSteps_bad ad cap l K P w HA' hlen (by simpa using hr)
end Go.Proofs.Ytkmjbompbkbfaaa
