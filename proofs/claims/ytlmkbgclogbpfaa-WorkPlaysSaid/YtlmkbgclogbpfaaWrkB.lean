/- Package work: the walk of flush. -/
import Derived.Test.YtlmkbgclogbpfaaWrkA
import Derived.Deep.LoopGhost
namespace Go.Proofs.Ytlmkbgclogbpfaa
open Go.RowKit

theorem mem_fn {l : List Int} {n : Nat} (hl : l.length = n) (v : Int) : v ∈ l ↔ ∃ i, i < n ∧ fnL l i = v := by
  subst hl
  rw [List.mem_iff_getElem?]
  constructor
  · rintro ⟨i, hi⟩
    have hlt := (List.getElem?_eq_some_iff.1 hi).1
    rw [fnL_get hlt] at hi
    exact ⟨i, hlt, Option.some.inj hi⟩
  · rintro ⟨i, hlt, rfl⟩
    exact ⟨i, fnL_get hlt⟩
theorem contains_Q {ad : Option Addr} {cap n : Nat} {l : List Int} (v : Int) (w : World) (HA : Hid (shI.At w ad cap l)) (hl : Hid (l.length = n)) (hn : n ≤ 9223372036854775807) (q : Bool) (hq : Hid (q = decide (v ∈ l))) :
    Calls Try.prog 15 #[.slice ad n cap, .int .i64 v] w fun e w' => e = .returned (.bool q) ∧ w = w' :=
  contains_N v w (Lib.hid (IntAt.of HA.out hl.out)) hn q (Lib.hid (by rw [hq.out, decide_eq_true_eq]; exact mem_fn hl.out v))
theorem all_go {s : StO} (hg : GoodO s) {i : Int} (hi : ¬ i = -1) (h : busyO s i) : allO (goO s) = allO s := by
  unfold goO
  by_cases hn : s.now = -1
  · rw [if_pos hn]
    have hw : i ∈ s.wait := h.elim id (fun q => absurd (q.symm.trans hn) hi)
    exact all_begin hg hn (fun e => by rw [e] at hw; cases hw)
  · rw [if_neg hn]
    exact all_end hn
theorem done_le (s : StO) : s.done.length ≤ (allO s).length := by unfold allO; rw [List.length_append]; omega
theorem wait_le (s : StO) : s.wait.length ≤ (allO s).length := by unfold allO fullO; rw [List.length_append, List.length_append]; omega
set_option maxHeartbeats 1000000 in
set_option maxRecDepth 100000 in
theorem flush_W {w0 w : World} {B : Nat} {s : StO} (H : Hid (WqS w0 w B s)) (hg : Hid (GoodO s)) (i : Int) (hi : 0 ≤ i) (hd : Hid ((allO s).length ≤ 400)) :
    Calls Try.prog 26 #[.pointer (some ⟨B, 0, none⟩), .int .i64 i] w (StepQ w0 w B (flushO s i)) := by
  have hi1 : ¬ i = -1 := by omega
  have HI := Lib.hid hi1
  go_enter Try.func26, Try.ntmps26
  go_wp2_with fail
  go_loopg [] (leftO s) (fun q wr => ∃ t : StO, Hid (leftO t ≤ q) ∧ Hid (WqS w0 wr B t) ∧ Hid (GoodO t) ∧ Hid (flushO t i = flushO s i) ∧ Hid ((allO t).length ≤ 400) ∧ Hid (KeepO w wr))
  case atStart => exact ⟨s, Lib.hid (Nat.le_refl _), H, hg, Lib.hid rfl, hd, Lib.hid (KeepO.refl w)⟩
  case round =>
    clear H hg hd
    obtain ⟨t, HQ, HS, HG, HF, HA, HK⟩ := hrel
    obtain ⟨wv, dv, h⟩ := HS.out
    obtain ⟨ad, cap, rfl, hnc, hcm, hz, ha⟩ := que_shape h.wq
    obtain ⟨c0, c1, c2, hB⟩ := h.read
    have HT := Lib.hid (que_at h.wq)
    have hn63 : t.wait.length ≤ 9223372036854775807 := by have := HA.out; have := wait_le t; omega
    have hdl : t.done.length ≤ 400 := by have := HA.out; have := done_le t; omega
    clear h hz ha
    have next : ∀ wr', busyO t i → WqS w0 wr' B (goO t) → KeepO wr wr' → ∃ u : StO, Hid (leftO u ≤ leftO (goO t)) ∧ Hid (WqS w0 wr' B u) ∧ Hid (GoodO u) ∧ Hid (flushO u i = flushO s i) ∧ Hid ((allO u).length ≤ 400) ∧ Hid (KeepO w wr') := fun wr' hb h1 hk =>
      ⟨goO t, Lib.hid (Nat.le_refl _), Lib.hid h1, Lib.hid (good_go HG.out), Lib.hid ((flush_go HG.out HI.out hb).trans HF.out), Lib.hid (by rw [all_go HG.out HI.out hb]; exact HA.out), Lib.hid (HK.out.trans hk)⟩
    have less : busyO t i → leftO (goO t) < leftO t := fun hb => left_go HI.out hb
    have NX := Lib.hid next
    have LS := Lib.hid less
    clear next less
    obtain ⟨c, hc⟩ : ∃ c, t.now = c := ⟨_, rfl⟩
    rw [hc] at c1
    obtain ⟨n, hn⟩ : ∃ n, t.wait.length = n := ⟨_, rfl⟩
    rw [hn] at c0 hn63 hnc
    have HL : Hid (t.wait.length = n) := Lib.hid hn
    have HC := Lib.hid hc
    clear hc hn
    by_cases hn1 : c = -1
    · subst hn1
      have e1 : ((-1 : Int) == i) = false := by simpa using fun e => hi1 e.symm
      have e2 : decide ((-1 : Int) = i) = false := decide_eq_false fun e => hi1 e.symm
      by_cases hw : i ∈ t.wait
      · have HB : Hid (busyO t i) := Lib.hid (Or.inl hw)
        have HW : Hid (¬ t.wait = []) := Lib.hid (fun e => by rw [e] at hw; cases hw)
        have HD := Lib.hid (decide_eq_true hw).symm
        clear hw
        go_wp2_with (first
          | (go_at_call 15; (with_reducible refine (contains_Q _ _ HT HL hn63 true HD).mono ?_); rintro e w1 ⟨rfl, rfl⟩)
          | (go_at_call 23; (with_reducible refine (begin_W HS HW).mono ?_); rintro e w1 ⟨rfl, h1, k1⟩; have H1 := Lib.hid h1; have K1 := Lib.hid k1; clear h1 k1)
          | fail)
        go_roundg (leftO (goO t))
        case measure => exact Nat.lt_of_lt_of_le (LS.out HB.out) HQ.out
        case rel => exact NX.out _ HB.out (by unfold goO; rw [if_pos HC.out]; exact H1.out) K1.out
      · have HB : Hid (¬ busyO t i) := Lib.hid (fun q => q.elim hw (fun e => hi1 (e.symm.trans HC.out)))
        have HD := Lib.hid (decide_eq_false hw).symm
        clear hw
        go_wp2_with (first
          | (go_at_call 15; (with_reducible refine (contains_Q _ _ HT HL hn63 false HD).mono ?_); rintro e w1 ⟨rfl, rfl⟩)
          | fail)
        go_end0
        exact ⟨rfl, by rw [← HF.out, flush_idle HI.out HB.out]; exact HS.out, HK.out⟩
    · by_cases hci : c = i
      · subst hci
        have HB : Hid (busyO t c) := Lib.hid (Or.inr HC.out)
        go_wp2_with (first
          | (go_at_call 24; (with_reducible refine (end_W HS hdl).mono ?_); rintro e w1 ⟨rfl, h1, k1⟩; have H1 := Lib.hid h1; have K1 := Lib.hid k1; clear h1 k1)
          | fail)
        go_roundg (leftO (goO t))
        case measure => exact Nat.lt_of_lt_of_le (LS.out HB.out) HQ.out
        case rel => exact NX.out _ HB.out (by unfold goO; rw [if_neg (by rw [HC.out]; exact HI.out)]; exact H1.out) K1.out
      · by_cases hw : i ∈ t.wait
        · have HB : Hid (busyO t i) := Lib.hid (Or.inl hw)
          have HD := Lib.hid (decide_eq_true hw).symm
          have HN1 := Lib.hid hn1
          clear hw
          go_wp2_with (first
            | (go_at_call 15; (with_reducible refine (contains_Q _ _ HT HL hn63 true HD).mono ?_); rintro e w1 ⟨rfl, rfl⟩)
            | (go_at_call 24; (with_reducible refine (end_W HS hdl).mono ?_); rintro e w1 ⟨rfl, h1, k1⟩; have H1 := Lib.hid h1; have K1 := Lib.hid k1; clear h1 k1)
            | fail)
          go_roundg (leftO (goO t))
          case measure => exact Nat.lt_of_lt_of_le (LS.out HB.out) HQ.out
          case rel => exact NX.out _ HB.out (by unfold goO; rw [if_neg (by rw [HC.out]; exact HN1.out)]; exact H1.out) K1.out
        · have HB : Hid (¬ busyO t i) := Lib.hid (fun q => q.elim hw (fun e => hci (HC.out.symm.trans e)))
          have HD := Lib.hid (decide_eq_false hw).symm
          clear hw
          go_wp2_with (first
            | (go_at_call 15; (with_reducible refine (contains_Q _ _ HT HL hn63 false HD).mono ?_); rintro e w1 ⟨rfl, rfl⟩)
            | fail)
          go_end0
          exact ⟨rfl, by rw [← HF.out, flush_idle HI.out HB.out]; exact HS.out, HK.out⟩
end Go.Proofs.Ytlmkbgclogbpfaa
