/- Package wheel: slices.BinarySearch and slices.Delete at a row of the call's own; the walk of check. -/
import Derived.Test.YtnnphmpodcmmoaaWhlL
import Derived.Sort.OwnSortedInts
import Derived.BigQuiet
import Derived.Deep.QuietTactic
import Derived.Deep.RegionHeld3
namespace Go.Proofs.Ytnnphmpodcmmoaa
open Go.RowKit Go.Maps

theorem srt_le {l : List Int} (h : l.Pairwise (· < ·)) : l.Pairwise (· ≤ ·) := h.imp fun h => Int.le_of_lt h
theorem own_cell {w : World} {base e n : Nat} {l : List Int} {g c : Nat} (h : w.ownsRow base e 1 (.slice (some ⟨g, 0, none⟩) n c) n (shI.flat l)) (hl : l.length = n) : ∀ j, j < l.length → w.cell? ⟨g, 0 + j, none⟩ = some (.int .i64 (l.getD j 0)) := fun j hj => by
  have hx : l[j]? = some (l.getD j 0) := by rw [List.getD_eq_getElem?_getD, List.getElem?_eq_getElem hj]; rfl
  obtain ⟨b, off, e', _, hc⟩ := at_int (Shape.At.own (S := shI) h hl) hx
  cases e'
  exact hc
/-- BinarySearch in a sorted row of the call's own, nil too. -/
theorem search_own {base e n c : Nat} {ad : Option Addr} {l : List Int} (x : Int) (w : World) (HO : Hid (w.ownsRow base e 1 (.slice ad n c) n (shI.flat l))) (hl : Hid (l.length = n)) (hn : n < 4611686018427387904) (hs : Hid (l.Pairwise (· < ·))) (k : Nat) (hk : Hid (l.countP (· < x) = k)) :
    Calls Try.prog 31 #[.slice ad n c, .int .i64 x] w fun e w' => (∃ q, e = .returned (.tuple #[.int .i64 (k : Int), .bool q])) ∧ Below w.heap.size w w' ∧ w'.heap = w.heap := by
  by_cases h0 : n = 0
  · have hl0 : l = [] := List.eq_nil_of_length_eq_zero (by rw [hl.out, h0])
    have hk0 : k = 0 := by rw [← hk.out, hl0]; rfl
    subst h0 hk0
    refine (search_none ad c x w).mono ?_
    rintro e w' ⟨rfl, rfl⟩
    exact ⟨⟨false, rfl⟩, Below.refl _ _, rfl⟩
  · obtain ⟨ad', cap', hv, _, _, hz, hg⟩ := own_shape HO.out
    simp only [Value.slice.injEq, true_and] at hv
    obtain ⟨rfl, rfl⟩ := hv
    cases ad with
    | none => exact absurd (hz rfl).1 h0
    | some a =>
      obtain ⟨g, rfl, _, _⟩ := hg a rfl
      have e : l.take n = l := by rw [← hl.out, List.take_length]
      have h := search_any g 0 n c l x w (by rw [hl.out]; exact Nat.le_refl _) hn (own_cell HO.out hl.out) (by rw [e]; exact srt_le hs.out)
      refine h.mono ?_
      rintro e' w' ⟨rfl, q, rfl⟩
      rw [e, hk.out]
      exact ⟨⟨_, rfl⟩, below_drewN (Below.refl _ _) _, rfl⟩
theorem below_drewN' (w : World) (q : Nat) : Below w.heap.size w (w.drewN q) := below_drewN (Below.refl _ _) _
theorem flat_int (l : List Int) : shI.flat l = l.map (Value.int .i64) := by
  induction l with
  | nil => rfl
  | cons a r ih => rw [show shI.flat (a :: r) = shI.enc a ++ shI.flat r from rfl, ih]; rfl
/-- Delete of one in a row of the call's own. -/
theorem delete_own {base e n c : Nat} {ad : Option Addr} {l : List Int} (k : Nat) (w : World) (HO : Hid (w.ownsRow base e 1 (.slice ad n c) n (shI.flat l))) (hl : Hid (l.length = n)) (hk : k < n) :
    Calls Try.prog 33 #[.slice ad n c, .int .i64 (k : Int), .int .i64 ((k : Int) + 1)] w fun e' w' => e' = .returned (.slice ad (n - 1) c) ∧ w'.ownsRow base e 1 (.slice ad (n - 1) c) (n - 1) (shI.flat (l.take k ++ l.drop (k + 1))) ∧ w.grownBy w' (Value.slice ad n c).ownBlock := by
  obtain ⟨h1, h2⟩ := HO.out
  rcases h2 with ⟨h2, h3⟩ | ⟨g, cap, cur, hv, hg, hh, hn, hc, hs, ht⟩
  · omega
  · simp only [Value.slice.injEq, true_and] at hv
    obtain ⟨rfl, rfl⟩ := hv
    have hl' := hl.out
    subst hl'
    have hH : Sort.Holds (Value.int .i64) w g 0 l.toArray := holds_of_blockI hh (by rw [← flat_int]; simpa using ht)
    refine (delete_any g 0 c k (k + 1) l w hH hn (by unfold maxLen at hc; exact hc) (by omega) (by omega)).mono ?_
    rintro e' w' ⟨rfl, q, rfl⟩
    have e1 : k + 1 - k = 1 := by omega
    rw [e1]
    have hlen : (l.take k ++ l.drop (k + 1) ++ List.replicate 1 0).length = l.length := by
      simp
      omega
    have o := ownsRow_sortedI (n := q) (os := #[]) (ts := l.take k ++ l.drop (k + 1) ++ List.replicate 1 0) hlen hg hh hn hc hs
    have gg := grownBy_sortedI (w := w) (g := g) (n := q) (os := #[]) (l.take k ++ l.drop (k + 1) ++ List.replicate 1 0).toArray
    rw [Sort.grow_empty] at o gg
    rw [← flat_int] at o
    have hl2 : (l.take k ++ l.drop (k + 1)).length = l.length - 1 := by
      simp
      omega
    have t := own_take (S := shI) o hlen (k := l.length - 1) (by omega)
    rw [List.take_left' hl2] at t
    exact ⟨rfl, t, gg⟩
/-- What a look-up gives. -/
def lookC (D : Dt) (i : Int) : Int := match D.atKey (.int .i64 i) (.lit (.int .i64 0)) with
  | .lit (.int .i64 c) => c
  | _ => 0
theorem look_ok {w : World} {m L : Nat} {set : List FiT} {D : Dt} (O : w.ownsMap Try.prog 3 (plainElem Try.prog 3) m L D) (T : TellsL D set) {i : Int} (hwf : WfI i) :
    (Instr.lookup 34 (.map (some m)) (.int .i64 i) true).run Try.prog w = .ok (.tuple #[.int .i64 (lookC D i), .bool (setQ set i)]) w := by
  obtain ⟨v, ps, hrun, hv⟩ := O.look_ok lawI Try.underlying34 (zeroI w) (plainElem_int Try.underlying3 (by decide)) (keyOf_int_mk Try.underlying3 hwf)
  obtain ⟨c, rfl, hc, _⟩ := plainElem_int_inv Try.underlying3 hv
  have hc' := congrArg Prod.fst hc
  simp only at hc'
  rw [hrun, T.has i]
  unfold lookC
  rw [hc']
theorem look_one {w : World} {m L : Nat} {set : List FiT} {D : Dt} (O : w.ownsMap Try.prog 3 (plainElem Try.prog 3) m L D) (T : TellsL D set) {i : Int} (hwf : WfI i) {t : Nat} (ht : (t, i) ∈ set) :
    (Instr.lookup 34 (.map (some m)) (.int .i64 i) false).run Try.prog w = .ok (.int .i64 (t : Int)) w := by
  obtain ⟨c, hrun, hat, _⟩ := O.lookup_int lawI Try.underlying34 Try.underlying3 (zeroI w) (keyOf_int_mk Try.underlying3 hwf)
  rw [hrun, T.got ht hat]
set_option maxHeartbeats 1000000 in
set_option maxRecDepth 100000 in
theorem check_W {w0 w : World} {B m L now : Nat} {set : List FiT} {sl : Nat → List Int} {fd : List FiT} {R : Array Value} (HW : Hid (WhR w0 w B m L now set sl fd R)) (k i n : Int) (hwf : WfI i) (x : Int) (hx : Hid (errT ⟨now, set, fd⟩ ⟨k, i, n⟩ = x)) :
    Calls Try.prog 17 #[.pointer (some ⟨B, 0, none⟩), .agg #[.int .i64 k, .int .i64 i, .int .i64 n]] w fun e w' => e = .returned (.int .i64 x) ∧ Below w.heap.size w w' := by
  have B0 := below_alloc w (.cells #[.int .i64 k, .int .i64 i, .int .i64 n] 36)
  have W1 := HW.out.step B0
  obtain ⟨c0, cm, hBl, fz⟩ := W1.read
  have T1 := trio_at (heap_alloc_new w (.cells #[.int .i64 k, .int .i64 i, .int .i64 n] 36))
  obtain ⟨D, O1, HT⟩ := W1.mp
  obtain ⟨b, hq⟩ : ∃ b, setQ set i = b := ⟨_, rfl⟩
  have hl : ∀ q : Nat, (Instr.lookup 34 (.map (some m)) (.int .i64 i) true).run Try.prog ((w.alloc (.cells #[.int .i64 k, .int .i64 i, .int .i64 n] 36)).drewN q) = .ok (.tuple #[.int .i64 (lookC D i), .bool b]) ((w.alloc (.cells #[.int .i64 k, .int .i64 i, .int .i64 n] 36)).drewN q) := fun q => by
    rw [← hq]
    exact look_ok (w := (w.alloc (.cells #[.int .i64 k, .int .i64 i, .int .i64 n] 36)).drewN q) (own_sameM O1 rfl) HT hwf
  have HQ := Lib.hid hq
  have B1 : Hid (∀ q, Below w.heap.size w ((w.alloc (.cells #[.int .i64 k, .int .i64 i, .int .i64 n] 36)).drewN q)) := Lib.hid fun q => below_drewN B0 q
  generalize lookC D i = c at hl
  clear HT O1 W1 B0 hq D hwf
  by_cases k1 : k = 1
  · subst k1
    by_cases hr : 1 ≤ n ∧ n ≤ 511
    · cases b with
      | true =>
        obtain rfl : x = 6 := by rw [← hx.out]; simp [errT, hr, HQ.out]
        go_enter Try.func17, Try.ntmps17
        go_wp2_with fail
        go_quiet (fail)
        go_wp2_with (first
          | (go_at_call 24; (with_reducible refine (within_C _ _ _ _ true (Lib.hid (decide_eq_true hr))).mono ?_); rintro e w1 ⟨rfl, rfl⟩)
          | fail)
        go_ret
        exact ⟨rfl, B1.out _⟩
      | false =>
        obtain rfl : x = 0 := by rw [← hx.out]; simp [errT, hr, HQ.out]
        go_enter Try.func17, Try.ntmps17
        go_wp2_with fail
        go_quiet (fail)
        go_wp2_with (first
          | (go_at_call 24; (with_reducible refine (within_C _ _ _ _ true (Lib.hid (decide_eq_true hr))).mono ?_); rintro e w1 ⟨rfl, rfl⟩)
          | fail)
        go_ret
        exact ⟨rfl, B1.out _⟩
    · obtain rfl : x = 2 := by rw [← hx.out]; simp [errT, hr]
      go_enter Try.func17, Try.ntmps17
      go_wp2_with fail
      go_quiet (fail)
      go_wp2_with (first
        | (go_at_call 24; (with_reducible refine (within_C _ _ _ _ false (Lib.hid (decide_eq_false hr))).mono ?_); rintro e w1 ⟨rfl, rfl⟩)
        | fail)
      go_ret
      exact ⟨rfl, B1.out _⟩
  by_cases k2 : k = 2
  · subst k2
    cases b with
    | true =>
      obtain rfl : x = 0 := by rw [← hx.out]; simp [errT, HQ.out]
      go_enter Try.func17, Try.ntmps17
      go_wp2_with fail
      go_quiet (fail)
      go_wp2_with (first
        | fail)
      go_ret
      exact ⟨rfl, B1.out _⟩
    | false =>
      obtain rfl : x = 3 := by rw [← hx.out]; simp [errT, HQ.out]
      go_enter Try.func17, Try.ntmps17
      go_wp2_with fail
      go_quiet (fail)
      go_wp2_with (first
        | fail)
      go_ret
      exact ⟨rfl, B1.out _⟩
  by_cases k3 : k = 3
  · subst k3
    by_cases hr : 0 ≤ n ∧ n ≤ 2000
    · obtain rfl : x = 0 := by rw [← hx.out]; simp [errT, hr]
      go_enter Try.func17, Try.ntmps17
      go_wp2_with fail
      go_quiet (fail)
      go_wp2_with (first
        | (go_at_call 24; (with_reducible refine (within_C _ _ _ _ true (Lib.hid (decide_eq_true hr))).mono ?_); rintro e w1 ⟨rfl, rfl⟩)
        | fail)
      go_ret
      exact ⟨rfl, B1.out _⟩
    · obtain rfl : x = 2 := by rw [← hx.out]; simp [errT, hr]
      go_enter Try.func17, Try.ntmps17
      go_wp2_with fail
      go_quiet (fail)
      go_wp2_with (first
        | (go_at_call 24; (with_reducible refine (within_C _ _ _ _ false (Lib.hid (decide_eq_false hr))).mono ?_); rintro e w1 ⟨rfl, rfl⟩)
        | fail)
      go_ret
      exact ⟨rfl, B1.out _⟩
  obtain rfl : x = 5 := by rw [← hx.out]; simp [errT, k1, k2, k3]
  have q1 : (k == 1) = false := by simpa using k1
  have q2 : (k == 2) = false := by simpa using k2
  have q3 : (k == 3) = false := by simpa using k3
  go_enter Try.func17, Try.ntmps17
  go_wp2_with fail
  go_quiet (fail)
  go_wp2_with (first
    | fail)
  go_ret
  exact ⟨rfl, B1.out _⟩
end Go.Proofs.Ytnnphmpodcmmoaa
