/- corebellref.CPlay in one form, whether there are lines and operations or none. -/
import Derived.Test.YtmldedkmmhnihaaLinF
import Derived.Test.YtmldedkmmhnihaaPinF
import Derived.Laws.AppendOwnNone
namespace Go.Proofs.Ytmldedkmmhnihaa
open Go.RowKit

set_option maxHeartbeats 4000000 in
set_option maxRecDepth 100000 in
theorem cplay_en (ob ooff olen ocap : Nat) (K P : Nat → Int) (w : World) (hob : ob < w.heap.size) (hol : olen ≤ 9223372036854775807) (HO : Hid (LiesO w ob ooff K P olen)) :
    Calls Try.prog 9 #[.slice none 0 0, .slice (some ⟨ob, ooff, none⟩) olen ocap] w fun e w' => e = .returned (.tuple #[.slice (some ⟨w.heap.size, 0, none⟩) 0 0, .slice none 0 0]) ∧ Below w.heap.size w w' := by
  obtain ⟨i0, hi, hz0, hz1, hz2⟩ := info_parts info_pin
  go_enter Try.func9, Try.ntmps9
  go_wp2_with (first
    | (at_builtin; refine wpList_append_own_none rfl _ _ 22 rfl w.heap.size 33 i0 7 Try.underlying22 hi (.slice (some ⟨w.heap.size, 0, none⟩) 0 0) 0 [] rfl ⟨rfl, Or.inr ⟨w.heap.size, 0, #[], rfl, Nat.le_refl _, heap_alloc_new w _, Nat.le_refl _, Nat.zero_le _, rfl, rfl⟩⟩ rfl ?_)
    | fail)
  have B1 : Below w.heap.size w (w.alloc (.cells #[] 33)) := (Below.refl _ _).alloc (Nat.le_refl _) _
  go_wp2_with fail
  go_loopw [7, 17] (fun vs i wr => ∃ k : Nat, k ≤ olen ∧ i = .int .i64 k ∧ vs = .slice none 0 0 ∧ Below w.heap.size w wr) (fun _ i _ => olen - (intOf i).toNat)
  case atStart => exact ⟨0, Nat.zero_le _, rfl, rfl, B1⟩
  case round =>
    clear B1
    obtain ⟨k, hk, rfl, rfl, B1⟩ := hrel
    by_cases hkl : k < olen
    · obtain ⟨x, hx⟩ : ∃ x : Int, K k = x := ⟨_, rfl⟩
      obtain ⟨y, hy⟩ : ∃ y : Int, P k = y := ⟨_, rfl⟩
      have e0 : wr.cell? ⟨ob, ooff + k * 2, none⟩ = some (.int .i64 x) := by rw [← hx]; exact (B1.cell hob).trans (HO.out k hkl).1
      have e1 : wr.cell? ⟨ob, ooff + k * 2 + 1, none⟩ = some (.int .i64 y) := by rw [← hy]; exact (B1.cell hob).trans (HO.out k hkl).2
      have hL := B1.size
      clear hx hy
      have done : Below w.heap.size w (wr.alloc (.cells #[.int .i64 x, .int .i64 y] 41)) := B1.alloc hL _
      by_cases h1 : x < 1
      · have d1 : decide (x < 1) = true := by simpa using h1
        go_wp2_with fail
        go_roundw
        case rel => exact ⟨k + 1, by omega, by go_num, rfl, done⟩
        case measure => simp [intOf]; omega
      · have d1 : decide (x < 1) = false := by simpa using h1
        by_cases h2 : 5 < x
        · have d2 : decide (5 < x) = true := by simpa using h2
          go_wp2_with fail
          go_roundw
          case rel => exact ⟨k + 1, by omega, by go_num, rfl, done⟩
          case measure => simp [intOf]; omega
        · have d2 : decide (5 < x) = false := by simpa using h2
          by_cases h3 : y < 0
          · have d3 : decide (y < 0) = true := by simpa using h3
            go_wp2_with fail
            go_roundw
            case rel => exact ⟨k + 1, by omega, by go_num, rfl, done⟩
            case measure => simp [intOf]; omega
          · have d3 : decide (y < 0) = false := by simpa using h3
            have d4 : decide (0 ≤ y) = true := by simp; omega
            go_wp2_with fail
            go_roundw
            case rel => exact ⟨k + 1, by omega, by go_num, rfl, done⟩
            case measure => simp [intOf]; omega
    · have hke : k = olen := by omega
      subst hke
      clear hkl hk
      go_wp2_with fail
      refine bodyPost_ret (results_tmp2 rfl _ _ _) rfl ⟨rfl, B1⟩
set_option maxHeartbeats 4000000 in
set_option maxRecDepth 100000 in
theorem cplay_en0 (oad : Option Addr) (ocap : Nat) (w : World) :
    Calls Try.prog 9 #[.slice none 0 0, .slice oad 0 ocap] w fun e w' => e = .returned (.tuple #[.slice (some ⟨w.heap.size, 0, none⟩) 0 0, .slice none 0 0]) ∧ Below w.heap.size w w' := by
  obtain ⟨i0, hi, hz0, hz1, hz2⟩ := info_parts info_pin
  go_enter Try.func9, Try.ntmps9
  go_wp2_with (first
    | (at_builtin; refine wpList_append_own_none rfl _ _ 22 rfl w.heap.size 33 i0 7 Try.underlying22 hi (.slice (some ⟨w.heap.size, 0, none⟩) 0 0) 0 [] rfl ⟨rfl, Or.inr ⟨w.heap.size, 0, #[], rfl, Nat.le_refl _, heap_alloc_new w _, Nat.le_refl _, Nat.zero_le _, rfl, rfl⟩⟩ rfl ?_)
    | fail)
  have B1 : Below w.heap.size w (w.alloc (.cells #[] 33)) := (Below.refl _ _).alloc (Nat.le_refl _) _
  go_wp2_with fail
  refine wp_loop_rounds 1 ?_
  rw [rounds_succ]
  go_wp2_with fail
  refine bodyPost_ret (results_tmp2 rfl _ _ _) rfl ⟨rfl, B1⟩
set_option maxHeartbeats 4000000 in
set_option maxRecDepth 100000 in
theorem cplay_es (a : Addr) (cap : Nat) (ob ooff olen ocap : Nat) (K P : Nat → Int) (w : World) (hob : ob < w.heap.size) (hol : olen ≤ 9223372036854775807) (HO : Hid (LiesO w ob ooff K P olen)) :
    Calls Try.prog 9 #[.slice (some a) 0 cap, .slice (some ⟨ob, ooff, none⟩) olen ocap] w fun e w' => e = .returned (.tuple #[.slice (some ⟨w.heap.size, 0, none⟩) 0 0, .slice none 0 0]) ∧ Below w.heap.size w w' := by
  obtain ⟨i0, hi, hz0, hz1, hz2⟩ := info_parts info_pin
  go_enter Try.func9, Try.ntmps9
  go_wp2_with (first
    | (at_builtin; refine wpList_append_fits _ rfl _ _ 22 rfl w.heap.size 33 i0 7 Try.underlying22 hi hz1 w.heap.size 0 0 [] rfl ?c0 a 0 cap [] rfl rfl ?c1 ?c2 (Nat.le_refl _) ?_)
    | fail)
  case c0 => exact ⟨rfl, Or.inr ⟨w.heap.size, 0, #[], rfl, Nat.le_refl _, heap_alloc_new w _, Nat.le_refl _, Nat.zero_le _, rfl, rfl⟩⟩
  case c1 => intro j u hj; simp at hj
  case c2 => intro u hu; simp at hu
  intro w1 _ hgrow
  have B1 : Below w.heap.size w w1 := ((Below.refl _ _).alloc (Nat.le_refl _) _).grown hgrow (by simp) (fun k hk => by simp at hk; omega)
  clear hgrow
  go_wp2_with fail
  go_loopw [7, 17] (fun vs i wr => ∃ k : Nat, k ≤ olen ∧ i = .int .i64 k ∧ vs = .slice none 0 0 ∧ Below w.heap.size w wr) (fun _ i _ => olen - (intOf i).toNat)
  case atStart => exact ⟨0, Nat.zero_le _, rfl, rfl, B1⟩
  case round =>
    clear B1
    obtain ⟨k, hk, rfl, rfl, B1⟩ := hrel
    by_cases hkl : k < olen
    · obtain ⟨x, hx⟩ : ∃ x : Int, K k = x := ⟨_, rfl⟩
      obtain ⟨y, hy⟩ : ∃ y : Int, P k = y := ⟨_, rfl⟩
      have e0 : wr.cell? ⟨ob, ooff + k * 2, none⟩ = some (.int .i64 x) := by rw [← hx]; exact (B1.cell hob).trans (HO.out k hkl).1
      have e1 : wr.cell? ⟨ob, ooff + k * 2 + 1, none⟩ = some (.int .i64 y) := by rw [← hy]; exact (B1.cell hob).trans (HO.out k hkl).2
      have hL := B1.size
      clear hx hy
      have done : Below w.heap.size w (wr.alloc (.cells #[.int .i64 x, .int .i64 y] 41)) := B1.alloc hL _
      by_cases h1 : x < 1
      · have d1 : decide (x < 1) = true := by simpa using h1
        go_wp2_with fail
        go_roundw
        case rel => exact ⟨k + 1, by omega, by go_num, rfl, done⟩
        case measure => simp [intOf]; omega
      · have d1 : decide (x < 1) = false := by simpa using h1
        by_cases h2 : 5 < x
        · have d2 : decide (5 < x) = true := by simpa using h2
          go_wp2_with fail
          go_roundw
          case rel => exact ⟨k + 1, by omega, by go_num, rfl, done⟩
          case measure => simp [intOf]; omega
        · have d2 : decide (5 < x) = false := by simpa using h2
          by_cases h3 : y < 0
          · have d3 : decide (y < 0) = true := by simpa using h3
            go_wp2_with fail
            go_roundw
            case rel => exact ⟨k + 1, by omega, by go_num, rfl, done⟩
            case measure => simp [intOf]; omega
          · have d3 : decide (y < 0) = false := by simpa using h3
            have d4 : decide (0 ≤ y) = true := by simp; omega
            go_wp2_with fail
            go_roundw
            case rel => exact ⟨k + 1, by omega, by go_num, rfl, done⟩
            case measure => simp [intOf]; omega
    · have hke : k = olen := by omega
      subst hke
      clear hkl hk
      go_wp2_with fail
      refine bodyPost_ret (results_tmp2 rfl _ _ _) rfl ⟨rfl, B1⟩
set_option maxHeartbeats 4000000 in
set_option maxRecDepth 100000 in
theorem cplay_es0 (a : Addr) (cap : Nat) (oad : Option Addr) (ocap : Nat) (w : World) :
    Calls Try.prog 9 #[.slice (some a) 0 cap, .slice oad 0 ocap] w fun e w' => e = .returned (.tuple #[.slice (some ⟨w.heap.size, 0, none⟩) 0 0, .slice none 0 0]) ∧ Below w.heap.size w w' := by
  obtain ⟨i0, hi, hz0, hz1, hz2⟩ := info_parts info_pin
  go_enter Try.func9, Try.ntmps9
  go_wp2_with (first
    | (at_builtin; refine wpList_append_fits _ rfl _ _ 22 rfl w.heap.size 33 i0 7 Try.underlying22 hi hz1 w.heap.size 0 0 [] rfl ?c0 a 0 cap [] rfl rfl ?c1 ?c2 (Nat.le_refl _) ?_)
    | fail)
  case c0 => exact ⟨rfl, Or.inr ⟨w.heap.size, 0, #[], rfl, Nat.le_refl _, heap_alloc_new w _, Nat.le_refl _, Nat.zero_le _, rfl, rfl⟩⟩
  case c1 => intro j u hj; simp at hj
  case c2 => intro u hu; simp at hu
  intro w1 _ hgrow
  have B1 : Below w.heap.size w w1 := ((Below.refl _ _).alloc (Nat.le_refl _) _).grown hgrow (by simp) (fun k hk => by simp at hk; omega)
  clear hgrow
  go_wp2_with fail
  refine wp_loop_rounds 1 ?_
  rw [rounds_succ]
  go_wp2_with fail
  refine bodyPost_ret (results_tmp2 rfl _ _ _) rfl ⟨rfl, B1⟩
theorem cplay_U {ad oad : Option Addr} {cap ocap n : Nat} {l : List PinT} {K P : Nat → Int} (w : World) (HA : Hid (PinsAt w ad cap l)) (HO : Hid (OpsAt w oad ocap K P n)) (hr : pinsOk l = true) (hn : n ≤ 8796093022208) (out : List PinT) (ss : List SentT) (HP : Hid (playTo l K P n = (out, ss))) :
    Calls Try.prog 9 #[.slice ad l.length cap, .slice oad n ocap] w fun e w' => ∃ ra rc sa sc, e = .returned (.tuple #[.slice ra l.length rc, .slice sa ss.length sc]) ∧ PinsAt w' ra rc out ∧ SentsAt w' sa sc ss ∧ Below w.heap.size w w' := by
  have h24 := pins_24 hr
  by_cases h0 : 0 < l.length
  · obtain ⟨b, off, rfl, hb, HL⟩ := HA.out.2 h0
    have close : ∀ (st : List PinT × List SentT), st = (out, ss) → ∀ (e : Ending) (w' : World), (∃ h cap' vs, e = .returned (.tuple #[.slice (some ⟨h, 0, none⟩) l.length cap', vs]) ∧ Runs w h st.1 st.2 vs w') → ∃ ra rc sa sc, e = .returned (.tuple #[.slice ra l.length rc, .slice sa ss.length sc]) ∧ PinsAt w' ra rc out ∧ SentsAt w' sa sc ss ∧ Below w.heap.size w w' := by
      rintro st rfl e w' ⟨h, cap', vs, rfl, R⟩
      obtain ⟨sa, cs, rfl, SA⟩ := sents_of_row R.2.2.2.1
      exact ⟨_, cap', sa, cs, rfl, R.2.1.at cap', SA, R.1⟩
    by_cases hn0 : 0 < n
    · obtain ⟨ob, ooff, rfl, hob, HL2⟩ := HO.out.2 hn0
      exact (cplay_core b off cap ob ooff n ocap l K P w hb hob h24 h0 hn (Lib.hid HL) (Lib.hid HL2)).mono (close _ HP.out)
    · obtain rfl : n = 0 := by omega
      exact (cplay_noops b off cap ocap oad l w hb h24 h0 (Lib.hid HL)).mono (close (l, []) HP.out)
  · have e0 : l = [] := List.eq_nil_of_length_eq_zero (by omega)
    subst e0
    rw [playTo_empty] at HP
    have hp := HP.out
    simp only [Prod.mk.injEq] at hp
    obtain ⟨rfl, rfl⟩ := hp
    have close : ∀ (e : Ending) (w' : World), (e = .returned (.tuple #[.slice (some ⟨w.heap.size, 0, none⟩) 0 0, .slice none 0 0]) ∧ Below w.heap.size w w') → ∃ ra rc sa sc, e = .returned (.tuple #[.slice ra ([] : List PinT).length rc, .slice sa ([] : List SentT).length sc]) ∧ PinsAt w' ra rc [] ∧ SentsAt w' sa sc [] ∧ Below w.heap.size w w' := by
      rintro e w' ⟨rfl, B⟩
      exact ⟨_, 0, none, 0, rfl, ⟨fun e => (nomatch e), fun h => by simp at h⟩, ⟨fun _ => ⟨rfl, rfl⟩, fun h => by simp at h⟩, B⟩
    cases ad with
    | none =>
      obtain rfl := (HA.out.1 rfl).1
      by_cases hn0 : 0 < n
      · obtain ⟨ob, ooff, rfl, hob, HL2⟩ := HO.out.2 hn0
        exact (cplay_en ob ooff n ocap K P w hob (by omega) (Lib.hid HL2)).mono close
      · obtain rfl : n = 0 := by omega
        exact (cplay_en0 oad ocap w).mono close
    | some a =>
      by_cases hn0 : 0 < n
      · obtain ⟨ob, ooff, rfl, hob, HL2⟩ := HO.out.2 hn0
        exact (cplay_es a cap ob ooff n ocap K P w hob (by omega) (Lib.hid HL2)).mono close
      · obtain rfl : n = 0 := by omega
        exact (cplay_es0 a cap oad ocap w).mono close
end Go.Proofs.Ytmldedkmmhnihaa
