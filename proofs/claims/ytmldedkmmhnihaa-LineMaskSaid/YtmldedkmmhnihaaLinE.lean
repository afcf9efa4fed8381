/- line.Play: it answers what the plain playTo says. -/
import Derived.Test.YtmldedkmmhnihaaLinD
namespace Go.Proofs.Ytmldedkmmhnihaa
open Go.RowKit

theorem new_lt (w : World) (o : Obj) : w.heap.size < (w.alloc o).heap.size := by simp
theorem below_more {W w : World} (h : Below W.heap.size W w) (o : Obj) : Below W.heap.size W (w.alloc o) := h.alloc h.size o
theorem clone_zero (ad : Option Addr) (cap : Nat) (w : World) (h : ad = none → cap = 0) :
    Calls Try.prog 23 #[.slice ad 0 cap] w fun e w' => ∃ ca cc, e = .returned (.slice ca 0 cc) ∧ (ca = none → cc = 0) ∧ Below w.heap.size w w' := by
  cases ad with
  | none =>
    obtain rfl := h rfl
    exact (clone_nil w).mono fun e w' ⟨he, hb⟩ => ⟨none, 0, he, fun _ => rfl, hb⟩
  | some a => exact (clone_empty a cap w).mono fun e w' ⟨he, hb⟩ => ⟨_, 0, he, fun _ => rfl, hb⟩
theorem perform_N (W : World) (h cap q n : Nat) (out : List PinT) (ss : List SentT) (vs : Value) (x : Int) (p p2 : PinT) (t : Bool) (w : World) (R0 : Runs W h out ss vs w) (hx1 : 1 ≤ x) (hx5 : x ≤ 5) (hq : q < n) (hls : ss.length ≤ 8796093022208) (hn : Hid (out.length = n))
    (HP : Hid (out.getD q pin0 = p)) (HPT : Hid (pinStep p x = (p2, t))) :
    Calls Try.prog 25 #[.slice (some ⟨h, 0, none⟩) n cap, .agg #[.int .i64 x, .int .i64 (q : Int)], vs] w fun e w' => ∃ vs', e = .returned vs' ∧ Runs W h (out.set q p2) (if t = true then ss ++ [⟨q, p2.core, p2.vec⟩] else ss) vs' w' := by
  have e := hn.out
  subst e
  exact perform_R W h cap q out ss vs x p p2 t w R0 hx1 hx5 hq hls HP HPT
theorem playStep_off {st : List PinT × List SentT} {K P : Int} (h : ¬ chk st.1.length K P = 0) : playStep st K P = st := by
  unfold playStep
  rw [if_neg]
  intro g
  exact h (chk_ok.2 ⟨g.1, g.2.1, g.2.2.1, g.2.2.2⟩)
theorem playTo_empty (K P : Nat → Int) : ∀ k, playTo [] K P k = ([], [])
  | 0 => rfl
  | k + 1 => by
    unfold playTo
    rw [playTo_empty K P k, playStep_off]
    intro h
    have := chk_ok.1 h
    simp at this
    omega
set_option maxHeartbeats 4000000 in
set_option maxRecDepth 100000 in
theorem play_bad {ad : Option Addr} {cap : Nat} {l : List PinT} (ops : Value) (w : World) (HA : Hid (PinsAt w ad cap l)) (hlen : l.length ≤ 9223372036854775807) (hr : pinsOk l = false) :
    Calls Try.prog 7 #[.slice ad l.length cap, ops] w fun e w' => e = .returned (.tuple #[.slice none 0 0, .slice none 0 0, .int .i64 1]) ∧ Below w.heap.size w w' := by
  go_enter Try.func7, Try.ntmps7
  go_wp2_with (first
    | (go_at_call 13; (with_reducible refine (right_U _ HA.out hlen false hr).mono ?_); rintro e w1 ⟨rfl, hb1⟩; have B1 := pstep (Below.refl _ _) hb1; have S1 := B1.size; clear hb1)
    | fail)
  refine bodyPost_ret (results_tmp3 rfl _ _ _) rfl ?_
  exact ⟨rfl, B1⟩
set_option maxHeartbeats 4000000 in
set_option maxRecDepth 100000 in
theorem play_noops (b off cap ocap : Nat) (l : List PinT) (K P : Nat → Int) (w : World) (hb : b < w.heap.size) (oad : Option Addr) (hr : pinsOk l = true) (h0 : 0 < l.length) (HL : Hid (LiesP w b off l)) :
    Calls Try.prog 7 #[.slice (some ⟨b, off, none⟩) l.length cap, .slice oad 0 ocap] w fun e w' => ∃ h cap' vs, e = .returned (.tuple #[.slice (some ⟨h, 0, none⟩) l.length cap', vs, .int .i64 0]) ∧ Runs w h (playTo l K P 0).1 (playTo l K P 0).2 vs w' := by
  have h24 := pins_24 hr
  have hlen : l.length ≤ 9223372036854775807 := by omega
  have HA : Hid (PinsAt w (some ⟨b, off, none⟩) cap l) := Lib.hid ⟨fun e => (nomatch e), fun _ => ⟨b, off, rfl, hb, HL.out⟩⟩
  go_enter Try.func7, Try.ntmps7
  go_wp2_with (first
    | (go_at_call 13; (with_reducible refine (right_U _ HA.out hlen true hr).mono ?_); rintro e w1 ⟨rfl, hb1⟩; have B1 := pstep (Below.refl _ _) hb1; have S1 := B1.size; clear hb1)
    | (go_at_call 23; (with_reducible refine (clone_some b off cap l _ (Nat.lt_of_lt_of_le hb S1) h24 h0 (Lib.hid (HL.out.step B1 hb))).mono ?_); rintro e w3 ⟨h, cap1, rfl, R3⟩; have R3 := R3.from B1)
    | fail)
  refine wp_loop_rounds 1 ?_
  rw [rounds_succ]
  go_wp2_with fail
  refine bodyPost_ret (results_tmp3 rfl _ _ _) rfl ?_
  exact ⟨h, cap1, _, rfl, R3⟩
set_option maxHeartbeats 4000000 in
set_option maxRecDepth 100000 in
theorem play_core (b off cap ob ooff olen ocap : Nat) (l : List PinT) (K P : Nat → Int) (w : World) (hb : b < w.heap.size) (hob : ob < w.heap.size) (hol : olen ≤ 8796093022208) (hr : pinsOk l = true) (h0 : 0 < l.length) (HL : Hid (LiesP w b off l))
    (HO : Hid (LiesO w ob ooff K P olen)) :
    Calls Try.prog 7 #[.slice (some ⟨b, off, none⟩) l.length cap, .slice (some ⟨ob, ooff, none⟩) olen ocap] w fun e w' => ∃ h cap' vs, e = .returned (.tuple #[.slice (some ⟨h, 0, none⟩) l.length cap', vs, .int .i64 0]) ∧ Runs w h (playTo l K P olen).1 (playTo l K P olen).2 vs w' := by
  have h24 := pins_24 hr
  have hlen : l.length ≤ 9223372036854775807 := by omega
  have HA : Hid (PinsAt w (some ⟨b, off, none⟩) cap l) := Lib.hid ⟨fun e => (nomatch e), fun _ => ⟨b, off, rfl, hb, HL.out⟩⟩
  go_enter Try.func7, Try.ntmps7
  go_wp2_with (first
    | (go_at_call 13; (with_reducible refine (right_U _ HA.out hlen true hr).mono ?_); rintro e w1 ⟨rfl, hb1⟩; have B1 := pstep (Below.refl _ _) hb1; have S1 := B1.size; clear hb1)
    | (go_at_call 23; (with_reducible refine (clone_some b off cap l _ (Nat.lt_of_lt_of_le hb S1) h24 h0 (Lib.hid (HL.out.step B1 hb))).mono ?_); rintro e w3 ⟨h, cap1, rfl, R3⟩; have R3 := R3.from B1)
    | fail)
  go_loopw [8, 18] (fun vs i wr => ∃ k : Nat, k ≤ olen ∧ i = .int .i64 k ∧ Runs w h (playTo l K P k).1 (playTo l K P k).2 vs wr) (fun _ i _ => olen - (intOf i).toNat)
  case atStart => exact ⟨0, Nat.zero_le _, rfl, R3⟩
  case round =>
    clear R3 B1
    obtain ⟨k, hk, rfl, R0⟩ := hrel
    obtain ⟨hln, hls⟩ := playTo_len l K P k
    obtain ⟨st, hst⟩ : ∃ st, playTo l K P k = st := ⟨_, rfl⟩
    rw [hst] at R0 hln hls
    by_cases hkl : k < olen
    · obtain ⟨x, hx⟩ : ∃ x : Int, K k = x := ⟨_, rfl⟩
      obtain ⟨y, hy⟩ : ∃ y : Int, P k = y := ⟨_, rfl⟩
      have e0 : wr.cell? ⟨ob, ooff + k * 2, none⟩ = some (.int .i64 x) := by rw [← hx]; exact (R0.1.cell hob).trans (HO.out k hkl).1
      have e1 : wr.cell? ⟨ob, ooff + k * 2 + 1, none⟩ = some (.int .i64 y) := by rw [← hy]; exact (R0.1.cell hob).trans (HO.out k hkl).2
      have HN : Hid (playTo l K P (k + 1) = playStep st x y) := by
        show playStep (playTo l K P k) (K k) (P k) = _
        rw [hst, hx, hy]
      have hL := R0.1.size
      have hls1 : st.2.length ≤ 8796093022208 := by omega
      have HLN := Lib.hid hln
      clear hx hy hst
      obtain ⟨c, hc⟩ : ∃ c, chk l.length x y = c := ⟨_, rfl⟩
      by_cases hg : c = 0
      · subst hg
        obtain ⟨hx1, hx5, hy0', hyl⟩ := chk_ok.1 hc
        obtain ⟨q, rfl⟩ : ∃ q : Nat, y = q := ⟨y.toNat, by omega⟩
        have hq : q < l.length := by omega
        obtain ⟨p, hp⟩ : ∃ p, st.1.getD q pin0 = p := ⟨_, rfl⟩
        obtain ⟨⟨p2, t⟩, hpt⟩ : ∃ r, pinStep p x = r := ⟨_, rfl⟩
        have hn' : playTo l K P (k + 1) = (st.1.set q p2, if t = true then st.2 ++ [⟨q, p2.core, p2.vec⟩] else st.2) := by
          rw [HN.out]
          unfold playStep
          rw [if_pos (by rw [hln]; exact ⟨hx1, hx5, hy0', hyl⟩), Int.toNat_natCast, hp, hpt]
        have HN' := Lib.hid hn'
        have HPT := Lib.hid hpt
        have HP := Lib.hid hp
        have HC := Lib.hid hc
        have R1 := Runs.alloc R0 (.cells #[.int .i64 x, .int .i64 (q : Int)] 41)
        clear HN hn' hpt hp hc hln R0
        go_wp2_with (first
          | (go_at_call 24; (with_reducible refine (check_R _ _ _ x _ _).mono ?_); rintro e w2 ⟨rfl, hb2⟩; rw [HC.out]; have G2 := bat' hb2 wr.heap.size (new_lt _ _); have R2 := R1.step hb2; clear hb2)
          | (go_at_call 25; (with_reducible refine (perform_N w h cap1 q l.length st.1 st.2 _ x p p2 t _ R2 hx1 hx5 hq hls1 HLN HP HPT).mono ?_); rintro e w4 ⟨vs4, rfl, R4⟩)
          | fail)
        go_roundw
        case rel => exact ⟨k + 1, by omega, by go_num, by rw [HN'.out]; exact R4⟩
        case measure => simp [intOf]; omega
      · have hn' : playTo l K P (k + 1) = st := by
          rw [HN.out]
          exact playStep_off (by rw [hln, hc]; exact hg)
        have HN' := Lib.hid hn'
        have HC := Lib.hid hc
        have R1 := Runs.alloc R0 (.cells #[.int .i64 x, .int .i64 y] 41)
        clear HN hn' hc hln R0
        go_wp2_with (first
          | (go_at_call 24; (with_reducible refine (check_R _ _ _ x _ _).mono ?_); rintro e w2 ⟨rfl, hb2⟩; rw [HC.out]; have G2 := bat' hb2 wr.heap.size (new_lt _ _); have R2 := R1.step hb2; clear hb2)
          | fail)
        go_roundw
        case rel => exact ⟨k + 1, by omega, by go_num, by rw [HN'.out]; exact R2⟩
        case measure => simp [intOf]; omega
    · have hke : k = olen := by omega
      subst hke
      clear hkl hk
      go_wp2_with fail
      refine bodyPost_ret (results_tmp3 rfl _ _ _) rfl ?_
      exact ⟨h, cap1, _, rfl, by rw [hst]; exact R0⟩
set_option maxHeartbeats 4000000 in
set_option maxRecDepth 100000 in
theorem play_empty0 (ad : Option Addr) (cap ocap : Nat) (w : World) (oad : Option Addr) (HZ : Hid (ad = none → cap = 0)) :
    Calls Try.prog 7 #[.slice ad 0 cap, .slice oad 0 ocap] w fun e w' => ∃ ca cc, e = .returned (.tuple #[.slice ca 0 cc, .slice none 0 0, .int .i64 0]) ∧ (ca = none → cc = 0) ∧ Below w.heap.size w w' := by
  go_enter Try.func7, Try.ntmps7
  go_wp2_with (first
    | (go_at_call 13; (with_reducible refine (right_none _ _ _).mono ?_); rintro e w1 ⟨rfl, hb1⟩; have B1 := pstep (Below.refl _ _) hb1; have S1 := B1.size; clear hb1)
    | (go_at_call 23; (with_reducible refine (clone_zero _ _ _ HZ.out).mono ?_); rintro e w3 ⟨ca, cc, rfl, hcc0, hb3⟩; have B3 := pstep B1 hb3; have hcc := Lib.hid hcc0; clear hb3 hcc0)
    | fail)
  refine wp_loop_rounds 1 ?_
  rw [rounds_succ]
  go_wp2_with fail
  refine bodyPost_ret (results_tmp3 rfl _ _ _) rfl ?_
  exact ⟨ca, cc, rfl, hcc.out, B3⟩
set_option maxHeartbeats 4000000 in
set_option maxRecDepth 100000 in
theorem play_empty (ad : Option Addr) (cap ob ooff olen ocap : Nat) (w : World) (hob : ob < w.heap.size) (hol : olen ≤ 9223372036854775807) (K P : Nat → Int) (HZ : Hid (ad = none → cap = 0))
    (HO : Hid (LiesO w ob ooff K P olen)) :
    Calls Try.prog 7 #[.slice ad 0 cap, .slice (some ⟨ob, ooff, none⟩) olen ocap] w fun e w' => ∃ ca cc, e = .returned (.tuple #[.slice ca 0 cc, .slice none 0 0, .int .i64 0]) ∧ (ca = none → cc = 0) ∧ Below w.heap.size w w' := by
  go_enter Try.func7, Try.ntmps7
  go_wp2_with (first
    | (go_at_call 13; (with_reducible refine (right_none _ _ _).mono ?_); rintro e w1 ⟨rfl, hb1⟩; have B1 := pstep (Below.refl _ _) hb1; have S1 := B1.size; clear hb1)
    | (go_at_call 23; (with_reducible refine (clone_zero _ _ _ HZ.out).mono ?_); rintro e w3 ⟨ca, cc, rfl, hcc0, hb3⟩; have B3 := pstep B1 hb3; have hcc := Lib.hid hcc0; clear hb3 hcc0)
    | fail)
  go_loopw [8, 18] (fun vs i wr => ∃ k : Nat, k ≤ olen ∧ i = .int .i64 k ∧ vs = .slice none 0 0 ∧ Below w.heap.size w wr) (fun _ i _ => olen - (intOf i).toNat)
  case atStart => exact ⟨0, Nat.zero_le _, rfl, rfl, B3⟩
  case round =>
    clear B3 B1
    obtain ⟨k, hk, rfl, rfl, B0⟩ := hrel
    by_cases hkl : k < olen
    · obtain ⟨x, hx⟩ : ∃ x : Int, K k = x := ⟨_, rfl⟩
      obtain ⟨y, hy⟩ : ∃ y : Int, P k = y := ⟨_, rfl⟩
      have e0 : wr.cell? ⟨ob, ooff + k * 2, none⟩ = some (.int .i64 x) := by rw [← hx]; exact (B0.cell hob).trans (HO.out k hkl).1
      have e1 : wr.cell? ⟨ob, ooff + k * 2 + 1, none⟩ = some (.int .i64 y) := by rw [← hy]; exact (B0.cell hob).trans (HO.out k hkl).2
      have hL := B0.size
      clear hx hy
      obtain ⟨c, hc⟩ : ∃ c, chk 0 x y = c := ⟨_, rfl⟩
      have hg : ¬ c = 0 := by
        intro e
        rw [e] at hc
        have := chk_ok.1 hc
        omega
      have HC := Lib.hid hc
      clear hc
      go_wp2_with (first
        | (go_at_call 24; (with_reducible refine (check_R _ _ _ x _ _).mono ?_); rintro e w2 ⟨rfl, hb2⟩; rw [HC.out]; have G2 := bat' hb2 wr.heap.size (new_lt _ _); have B2 := pstep (below_more B0 _) hb2; clear hb2)
        | fail)
      go_roundw
      case rel => exact ⟨k + 1, by omega, by go_num, rfl, B2⟩
      case measure => simp [intOf]; omega
    · have hke : k = olen := by omega
      subst hke
      clear hkl hk
      go_wp2_with fail
      refine bodyPost_ret (results_tmp3 rfl _ _ _) rfl ?_
      exact ⟨ca, cc, rfl, hcc.out, B0⟩
/-- line.Play at right lines, in one form. -/
theorem play_U {ad oad : Option Addr} {cap ocap n : Nat} {l : List PinT} {K P : Nat → Int} (w : World) (HA : Hid (PinsAt w ad cap l)) (HO : Hid (OpsAt w oad ocap K P n)) (hr : pinsOk l = true) (hn : n ≤ 8796093022208) (out : List PinT) (ss : List SentT) (HP : Hid (playTo l K P n = (out, ss))) (m : Nat) (hm : Hid (l.length = m)) :
    Calls Try.prog 7 #[.slice ad m cap, .slice oad n ocap] w fun e w' => ∃ ra rc sa sc, e = .returned (.tuple #[.slice ra m rc, .slice sa ss.length sc, .int .i64 0]) ∧ PinsAt w' ra rc out ∧ SentsAt w' sa sc ss ∧ out.length = m ∧ ss.length ≤ n ∧ Below w.heap.size w w' := by
  have em := hm.out
  subst em
  have hlen := playTo_len l K P n
  rw [HP.out] at hlen
  by_cases h0 : 0 < l.length
  · obtain ⟨b, off, rfl, hb, HL⟩ := HA.out.2 h0
    have close : ∀ (e : Ending) (w' : World), (∃ h cap' vs, e = .returned (.tuple #[.slice (some ⟨h, 0, none⟩) l.length cap', vs, .int .i64 0]) ∧ Runs w h (playTo l K P n).1 (playTo l K P n).2 vs w') → ∃ ra rc sa sc, e = .returned (.tuple #[.slice ra l.length rc, .slice sa ss.length sc, .int .i64 0]) ∧ PinsAt w' ra rc out ∧ SentsAt w' sa sc ss ∧ out.length = l.length ∧ ss.length ≤ n ∧ Below w.heap.size w w' := by
      rintro e w' ⟨h, cap', vs, rfl, R⟩
      rw [HP.out] at R
      obtain ⟨sa, cs, rfl, SA⟩ := sents_of_row R.2.2.2.1
      exact ⟨_, cap', sa, cs, rfl, R.2.1.at cap', SA, hlen.1, hlen.2, R.1⟩
    by_cases hn0 : 0 < n
    · obtain ⟨ob, ooff, rfl, hob, HL2⟩ := HO.out.2 hn0
      exact (play_core b off cap ob ooff n ocap l K P w hb hob hn hr h0 (Lib.hid HL) (Lib.hid HL2)).mono close
    · obtain rfl : n = 0 := by omega
      exact (play_noops b off cap ocap l K P w hb oad hr h0 (Lib.hid HL)).mono close
  · have e0 : l = [] := List.eq_nil_of_length_eq_zero (by omega)
    subst e0
    rw [playTo_empty] at HP
    have hp := HP.out
    simp only [Prod.mk.injEq] at hp
    obtain ⟨rfl, rfl⟩ := hp
    have close : ∀ (e : Ending) (w' : World), (∃ ca cc, e = .returned (.tuple #[.slice ca 0 cc, .slice none 0 0, .int .i64 0]) ∧ (ca = none → cc = 0) ∧ Below w.heap.size w w') → ∃ ra rc sa sc, e = .returned (.tuple #[.slice ra ([] : List PinT).length rc, .slice sa ([] : List SentT).length sc, .int .i64 0]) ∧ PinsAt w' ra rc [] ∧ SentsAt w' sa sc [] ∧ ([] : List PinT).length = ([] : List PinT).length ∧ ([] : List SentT).length ≤ n ∧ Below w.heap.size w w' := by
      rintro e w' ⟨ca, cc, rfl, hcc, B⟩
      exact ⟨ca, cc, none, 0, rfl, ⟨fun e => ⟨hcc e, rfl⟩, fun h => by simp at h⟩, ⟨fun _ => ⟨rfl, rfl⟩, fun h => by simp at h⟩, rfl, Nat.zero_le _, B⟩
    have HZ : Hid (ad = none → cap = 0) := Lib.hid fun e => (HA.out.1 e).1
    by_cases hn0 : 0 < n
    · obtain ⟨ob, ooff, rfl, hob, HL2⟩ := HO.out.2 hn0
      exact (play_empty ad cap ob ooff n ocap w hob (by omega) K P HZ (Lib.hid HL2)).mono close
    · obtain rfl : n = 0 := by omega
      exact (play_empty0 ad cap ocap w oad HZ).mono close
end Go.Proofs.Ytmldedkmmhnihaa
