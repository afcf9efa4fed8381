/- The walk of corebellref.CPlay at no operations, and at no lines. -/
import Derived.Test.YtmldedkmmhnihaaPinD
import Derived.Laws.AppendOwnNone
namespace Go.Proofs.Ytmldedkmmhnihaa
open Go.RowKit

set_option maxHeartbeats 4000000 in
set_option maxRecDepth 100000 in
theorem cplay_noops (b off cap ocap : Nat) (oad : Option Addr) (l : List PinT) (w : World) (hb : b < w.heap.size) (h24 : l.length ≤ 24) (hl0 : 0 < l.length) (HL : Hid (LiesP w b off l)) :
    Calls Try.prog 9 #[.slice (some ⟨b, off, none⟩) l.length cap, .slice oad 0 ocap] w fun e w' => ∃ h cap' vs, e = .returned (.tuple #[.slice (some ⟨h, 0, none⟩) l.length cap', vs]) ∧ Runs w h l [] vs w' := by
  obtain ⟨i0, hi, hz0, hz1, hz2⟩ := info_parts info_pin
  go_enter Try.func9, Try.ntmps9
  go_wp2_with (first
    | (at_builtin; refine wpList_append_lies _ rfl _ _ 22 rfl w.heap.size 33 i0 _ 7 24 Try.underlying22 hi hz0 hz1 hz2 rfl (by decide) (.slice (some ⟨w.heap.size, 0, none⟩) 0 0) 0 [] rfl ?c0 ⟨b, off, none⟩ l.length cap (flatP l) rfl (flatP_len l) ?c1 ?c2 hl0 ?c3 ?c4 ?c5 (w.heap.size + 1) ?c6 ?_)
    | fail)
  case c0 => exact ⟨rfl, Or.inr ⟨w.heap.size, 0, #[], rfl, Nat.le_refl _, heap_alloc_new w _, Nat.le_refl _, Nat.zero_le _, rfl, rfl⟩⟩
  case c1 =>
    intro j u hj
    have hjl : j < (flatP l).length := (List.getElem?_eq_some_iff.1 hj).1
    rw [flatP_len] at hjl
    have hat := flatP_at l (j / 7) (j % 7) (by omega) (by omega)
    have hcell := HL.out (j / 7) (by omega) (j % 7) (by omega)
    rw [show j / 7 * 7 + j % 7 = j by omega] at hat
    rw [hj] at hat
    rw [Go.WideShapes.add_plain, World.cell?_alloc_past _ _ _ (show (⟨b, off + j, none⟩ : Addr).block < w.heap.size from hb)]
    rw [show off + j = off + j / 7 * 7 + j % 7 by omega, hcell]
    exact hat.symm
  case c2 =>
    intro u hu
    simp only [flatP, List.mem_flatMap] at hu
    obtain ⟨p, _, hp⟩ := hu
    simp at hp
    rcases hp with rfl | rfl | rfl | rfl | rfl | rfl | rfl <;> rfl
  case c3 => unfold maxLen; omega
  case c4 => omega
  case c5 => simp
  case c6 => simp
  intro h cap1 w1 hown hgrow hor hlt
  have hh : w.heap.size ≤ h := by first | omega | (rcases hor with hor | hor <;> first | omega | (simp [Value.ownBlock] at hor; omega))
  have R0 : Runs w h l [] (.slice none 0 0) w1 := by
    refine ⟨((Below.refl _ _).alloc (Nat.le_refl _) _).grown hgrow (by simp) (fun k hk => by simp [Value.ownBlock] at hk; omega), ?_, hh, World.ownsRow_nil _ _ _ _, by simp [Value.ownBlock]⟩
    obtain ⟨_, h2⟩ := hown
    rcases h2 with ⟨h2, _⟩ | ⟨g, cp, cur, e, _, hc, _, _, hsz, ht⟩
    · cases h2
    · simp only [Value.slice.injEq, Option.some.injEq, Addr.mk.injEq, and_true, true_and] at e
      obtain ⟨rfl, rfl⟩ := e
      refine ⟨cur, hc, fun j hj i hi => ?_⟩
      rw [← flatP_at l j i hj hi, ← ht, List.getElem?_take_of_lt (by omega), Array.getElem?_toList]
  clear hown hgrow hor hlt
  go_wp2_with fail
  refine wp_loop_rounds 1 ?_
  rw [rounds_succ]
  go_wp2_with fail
  refine bodyPost_ret (results_tmp2 rfl _ _ _) rfl ⟨h, cap1, _, rfl, R0⟩
set_option maxHeartbeats 4000000 in
set_option maxRecDepth 100000 in
theorem cplay_nil0 ( ob ooff olen ocap : Nat) (K P : Nat → Int) (w : World) (hob : ob < w.heap.size) (hol : olen ≤ 9223372036854775807)
    (HO : Hid (∀ k, k < olen → w.cell? ⟨ob, ooff + k * 2, none⟩ = some (.int .i64 (K k)) ∧ w.cell? ⟨ob, ooff + k * 2 + 1, none⟩ = some (.int .i64 (P k)))) :
    Calls Try.prog 9 #[.slice none 0 0, .slice (some ⟨ob, ooff, none⟩) olen ocap] w fun e w' => ∃ v, e = .returned (.tuple #[v, .slice none 0 0]) ∧ (∃ ad cap', v = .slice ad 0 cap') ∧ Below w.heap.size w w' := by
  obtain ⟨i0, hi, hz0, hz1, hz2⟩ := info_parts info_pin
  go_enter Try.func9, Try.ntmps9
  go_wp2_with (first
    | (at_builtin; refine wpList_append_own_none rfl _ _ 22 rfl w.heap.size 33 i0 7 Try.underlying22 hi (.slice (some ⟨w.heap.size, 0, none⟩) 0 0) 0 [] rfl ⟨rfl, Or.inr ⟨w.heap.size, 0, #[], rfl, Nat.le_refl _, heap_alloc_new w _, Nat.le_refl _, Nat.zero_le _, rfl, rfl⟩⟩ rfl ?_)
    | fail)
  have B1 : Below w.heap.size w (w.alloc (.cells #[] 33)) := (Below.refl _ _).alloc (Nat.le_refl _) _
  go_wp2_with fail
  go_loopw [7, 17] (fun vs i wr => ∃ k : Nat, k ≤ olen ∧ i = .int .i64 k ∧ vs = .slice none 0 0 ∧ Below w.heap.size w wr) (fun _ i _ => olen - (intOf i).toNat)
  case atStart => exact ⟨0, Nat.zero_le _, rfl, rfl, B1⟩
  case round =>
    clear B1
    obtain ⟨k, hk, rfl, rfl, B1⟩ := hrel
    by_cases hkl : k < olen
    · obtain ⟨x, hx⟩ : ∃ x : Int, K k = x := ⟨_, rfl⟩
      obtain ⟨y, hy⟩ : ∃ y : Int, P k = y := ⟨_, rfl⟩
      have e0 : wr.cell? ⟨ob, ooff + k * 2, none⟩ = some (.int .i64 x) := by rw [← hx]; exact (B1.cell hob).trans (HO.out k hkl).1
      have e1 : wr.cell? ⟨ob, ooff + k * 2 + 1, none⟩ = some (.int .i64 y) := by rw [← hy]; exact (B1.cell hob).trans (HO.out k hkl).2
      have hL := B1.size
      clear hx hy
      have done : Below w.heap.size w (wr.alloc (.cells #[.int .i64 x, .int .i64 y] 41)) := B1.alloc hL _
      by_cases h1 : x < 1
      · have d1 : decide (x < 1) = true := by simpa using h1
        go_wp2_with fail
        go_roundw
        case rel => exact ⟨k + 1, by omega, by go_num, rfl, done⟩
        case measure => simp [intOf]; omega
      · have d1 : decide (x < 1) = false := by simpa using h1
        by_cases h2 : 5 < x
        · have d2 : decide (5 < x) = true := by simpa using h2
          go_wp2_with fail
          go_roundw
          case rel => exact ⟨k + 1, by omega, by go_num, rfl, done⟩
          case measure => simp [intOf]; omega
        · have d2 : decide (5 < x) = false := by simpa using h2
          by_cases h3 : y < 0
          · have d3 : decide (y < 0) = true := by simpa using h3
            go_wp2_with fail
            go_roundw
            case rel => exact ⟨k + 1, by omega, by go_num, rfl, done⟩
            case measure => simp [intOf]; omega
          · have d3 : decide (y < 0) = false := by simpa using h3
            have d4 : decide (0 ≤ y) = true := by simp; omega
            go_wp2_with fail
            go_roundw
            case rel => exact ⟨k + 1, by omega, by go_num, rfl, done⟩
            case measure => simp [intOf]; omega
    · have hke : k = olen := by omega
      subst hke
      clear hkl hk
      go_wp2_with fail
      refine bodyPost_ret (results_tmp2 rfl _ _ _) rfl ⟨_, rfl, ⟨_, _, rfl⟩, B1⟩
end Go.Proofs.Ytmldedkmmhnihaa
