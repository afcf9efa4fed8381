/- TtyWord: the walk, something written. -/
import Derived.Test.YtomgifdnnfbpnaaDoorTWord0
namespace Go.Proofs.YtomgifdnnfbpnaaDoor
open Go.RowKit

set_option maxHeartbeats 8000000 in
set_option maxRecDepth 100000 in
theorem word_some {ka ma : Option Addr} {kc mc n m : Nat} {keys word : List UInt8} (w : World) (HK : Hid (shB.At w ka kc keys)) (hn : Hid (keys.length = n)) (hn63 : n ≤ 140737488351232) (HM : Hid (shB.At w ma mc word)) (hm : Hid (word.length = m)) (hm63 : m ≤ 140737488351232) (blanks : Int) (s0 : StQ) (hs0 : Hid (typeQ newQ keys = s0)) (N0 M0 : Nat) (hN0 : Hid (s0.lines.length = N0)) (hM0 : Hid (s0.edit.length = M0)) (hM64 : M0 ≤ 64) (hN04 : N0 ≤ 400) (h0 : 0 < M0) (hword : Hid (∀ j : Nat, blanks = (j : Int) → ¬ m = 0 → word.any pW = false → j ≤ 9 → ¬ M0 + m + j > 64 → s0.edit[M0 - 1]? = some 32 → typeQ newQ [keys, word, List.replicate j 32, [23]].flatten = s0)) :
    Calls Tryd.prog 7 #[.slice ka n kc, .slice ma m mc, .int .i64 blanks] w fun e w' => e = .returned (.bool true) ∧ Below w.heap.size w w' := by
  go_enter Tryd.func7, Tryd.ntmps7
  go_upto_region 5 with (first
    | (go_at_call 18; (with_reducible refine (alive17_N _).mono ?_); rintro e w1 ⟨rfl, hb⟩; have B1 := Lib.hid hb; have HK1 := Lib.hid (HK.out.step hb); clear hb)
    | (go_at_call 16; (with_reducible refine (type_W _ HK1 hn (by omega) s0 hs0 N0 M0 hN0 hM0).mono ?_); rintro e w2 ⟨ta, tc, tb, td, rfl, q1, q2, hb⟩; have E2 := Lib.hid (er_new (N := N0) (M := M0) B1.out q1 q2 hb); have G2 := pair_at E2.out.h; have l2 := heap_lt E2.out.h; clear q1 q2 hb)
    | fail)
  clear G2 l2 HK1 B1
  have E3 : Hid (Er w (w2.alloc (.cells #[.slice ta N0 tc, .slice tb M0 td] 25)) w2.heap.size N0 M0 ta tb tc td s0) := E2
  clear E2
  generalize w2.heap.size = T at E3 ⊢
  generalize w2.alloc (.cells #[.slice ta N0 tc, .slice tb M0 td] 25) = wA at E3 ⊢
  have G3 := pair_at E3.out.h
  have l3 := heap_lt E3.out.h
  obtain ⟨x, hx0⟩ : ∃ x, s0.edit[M0 - 1]? = some x := ⟨s0.edit[M0 - 1]'(by rw [hM0.out]; omega), List.getElem?_eq_getElem _⟩
  obtain ⟨eb, eo, rfl, el, ec⟩ := at_byte E3.out.l2 hx0
  have x0 : IntKind.i64.wrap ((M0 : Int) - 1) = ((M0 - 1 : Nat) : Int) := by rw [IntKind.wrap_i64]; omega
  have i0 : M0 - 1 < M0 := by omega
  have d0 : decide ((M0 : Int) > 0) = true := decide_eq_true (by omega)
  by_cases hb : x = 32
  · subst hb
    have y0 : (ub 32 != 32) = false := rfl
    have HX0 := Lib.hid hx0
    clear hx0
    by_cases h1 : m = 0
    · have d1 : ((m : Int) == 0) = true := eq_at (k := 0) true (decide_eq_true h1)
      go_wp2_with fail
      go_ret
      exact ⟨rfl, E3.out.b⟩
    have d1 : ((m : Int) == 0) = false := eq_at (k := 0) false (decide_eq_false h1)
    by_cases h2 : blanks < 0
    · have d2 : decide (blanks < 0) = true := decide_eq_true h2
      go_wp2_with fail
      go_ret
      exact ⟨rfl, E3.out.b⟩
    have d2 : decide (blanks < 0) = false := decide_eq_false h2
    by_cases h3 : blanks > 9
    · have d3 : decide (blanks > 9) = true := decide_eq_true h3
      go_wp2_with fail
      go_ret
      exact ⟨rfl, E3.out.b⟩
    have d3 : decide (blanks > 9) = false := decide_eq_false h3
    obtain ⟨j, rfl⟩ : ∃ j : Nat, blanks = (j : Int) := ⟨blanks.toNat, by omega⟩
    have hj : j ≤ 9 := by omega
    have x1 : IntKind.i64.wrap ((M0 : Int) + (m : Int)) = ((M0 + m : Nat) : Int) := by rw [IntKind.wrap_i64]; omega
    have x2 : IntKind.i64.wrap (((M0 + m : Nat) : Int) + (j : Int)) = ((M0 + m + j : Nat) : Int) := by rw [IntKind.wrap_i64]; omega
    by_cases h4 : M0 + m + j > 64
    · have d4 : decide (((M0 + m + j : Nat) : Int) > 64) = true := decide_eq_true (by omega)
      go_wp2_with fail
      go_ret
      exact ⟨rfl, E3.out.b⟩
    have d4 : decide (((M0 + m + j : Nat) : Int) > 64) = false := decide_eq_false (by omega)
    have KM := Lib.hid (HM.out.step E3.out.b)
    by_cases hx : word.any pW = true
    · have HX := Lib.hid hx
      go_wp2_with (first
        | (go_at_call 21; (with_reducible refine (conW_W _ KM hm (by omega) true HX).mono ?_); rintro e w6 ⟨rfl, rfl⟩)
        | fail)
      go_ret
      exact ⟨rfl, E3.out.b⟩
    have HX : Hid (word.any pW = false) := Lib.hid (by simpa using hx)
    go_upto_region 7 with (first
      | (go_at_call 21; (with_reducible refine (conW_W _ KM hm (by omega) false HX).mono ?_); rintro e w6 ⟨rfl, rfl⟩)
      | fail)
    clear d0 y0 i0 x0 el ec
    clear G3 l3
    have HXX := HX.out
    clear d1 d2 d3 d4 x1 x2 hx HX KM
    have HS : Hid (typeQ newQ [keys, word, List.replicate j 32, [23]].flatten = s0) := Lib.hid (hword.out j rfl h1 HXX hj h4 HX0.out)
    have HK4 : Hid ([keys, word, List.replicate j 32, [23]].length = 4) := Lib.hid rfl
    have HT4 : Hid (sumL [keys, word, List.replicate j 32, [23]] = n + m + j + 1) := Lib.hid (by rw [sumL_flat]; simp [hn.out, hm.out]; omega)
    have HN4 : Hid ([keys, word, List.replicate j 32, [23]].flatten.length = n + m + j + 1) := Lib.hid (by rw [← sumL_flat]; exact HT4.out)
    have PSd := (show Es w _ T T N0 M0 N0 M0 ta (some ⟨eb, eo, none⟩) ta (some ⟨eb, eo, none⟩) ka ma tc td tc td kc mc s0 s0 keys word from ⟨E3.out, E3.out, HK.out.step E3.out.b, HM.out.step E3.out.b⟩).step (Below.refl _ _).drew
    clear E3
    refine wp_region_noPanic ?_
    refine wp_region_held_drew (S := fun w' => Es w w' T T N0 M0 N0 M0 ta (some ⟨eb, eo, none⟩) ta (some ⟨eb, eo, none⟩) ka ma tc td tc td kc mc s0 s0 keys word ∧ w'.cell? ⟨T, 0, none⟩ = some (.slice ta N0 tc) ∧ w'.cell? ⟨T, 1, none⟩ = some (.slice (some ⟨eb, eo, none⟩) M0 td)) (by kernel_rfl) (Es.all0 PSd) (fun hHeld => ?_)
    clear PSd
    generalize World.drew _ = wC at hHeld ⊢
    refine wpAnyH_take (i := 0) (v := ?_) rfl (by kernel_rfl) (by kernel_rfl) (by kernel_rfl) (fun _ _ _ h => h) (Or.inl ⟨by rfl, ?_⟩) (by assumption) ?_
    rotate_left
    · (intro wz hSw; (try dsimp only at hSw); go_simp; try with_reducible rfl)
    try simp only [List.getElem_toArray, List.getElem_cons_zero, Act.put, List.setIfInBounds_toArray, List.set_cons_zero, List.set_cons_succ]
    refine wpAnyH_take (i := 1) (v := ?_) rfl (by kernel_rfl) (by kernel_rfl) (by kernel_rfl) (fun _ _ _ h => h) (Or.inl ⟨by rfl, ?_⟩) (by assumption) ?_
    rotate_left
    · (intro wz hSw; (try dsimp only at hSw); go_simp; try with_reducible rfl)
    try simp only [List.getElem_toArray, List.getElem_cons_zero, List.getElem_cons_succ, Act.put, List.setIfInBounds_toArray, List.set_cons_zero, List.set_cons_succ]
    refine wpAnyH_take (i := 3) (v := ?_) rfl (by kernel_rfl) (by kernel_rfl) (by kernel_rfl) (fun _ _ _ h => h) (Or.inl ⟨by rfl, ?_⟩) (by assumption) ?_
    rotate_left
    · (intro wz hSw; (try dsimp only at hSw); go_simp; try with_reducible rfl)
    try simp only [List.getElem_toArray, List.getElem_cons_zero, List.getElem_cons_succ, Act.put, List.setIfInBounds_toArray, List.set_cons_zero, List.set_cons_succ]
    refine wpAnyH_take (i := 9) (v := ?_) rfl (by kernel_rfl) (by kernel_rfl) (by kernel_rfl) (fun _ _ _ h => h) (Or.inl ⟨by rfl, ?_⟩) (by assumption) ?_
    rotate_left
    · (intro wz hSw; (try dsimp only at hSw); go_simp; try with_reducible rfl)
    try simp only [List.getElem_toArray, List.getElem_cons_zero, List.getElem_cons_succ, Act.put, List.setIfInBounds_toArray, List.set_cons_zero, List.set_cons_succ]
    refine wpAnyH_ready (rs := [2, 5]) (by kernel_rfl) (by simp) ?_
    refine AllReadyH.cons rfl (fun K hK => ?_) (AllReadyH.cons rfl (fun K hK => ?_) AllReadyH.nil)
    · go_simp
      refine hK.out _ _ (Es.all0 (hHeld.1.step (below_alloc wC (.cells #[.int .u8 32] 5)))) (fun hHeld => ?_)
      try simp only [List.getElem_toArray, List.getElem_cons_zero, List.getElem_cons_succ, Act.put, List.setIfInBounds_toArray, List.set_cons_zero, List.set_cons_succ]
      refine wpAnyH_more (S2 := fun w' => (Es w w' T T N0 M0 N0 M0 ta (some ⟨eb, eo, none⟩) ta (some ⟨eb, eo, none⟩) ka ma tc td tc td kc mc s0 s0 keys word ∧ w'.cell? ⟨T, 0, none⟩ = some (.slice ta N0 tc) ∧ w'.cell? ⟨T, 1, none⟩ = some (.slice (some ⟨eb, eo, none⟩) M0 td)) ∧ shB.At w' (some ⟨wC.heap.size, 0, none⟩) 1 [32]) (fun _ h => h.1) _ _ _ _ ?_
      have hHeld := And.intro hHeld (lit32 wC 1)
      generalize wC.alloc (.cells #[.int .u8 32] 5) = wx18 at hHeld ⊢
      refine wpAnyH_ready (rs := [4, 5]) (by kernel_rfl) (by simp) ?_
      refine AllReadyH.cons rfl (fun K hK => ?_) (AllReadyH.cons rfl (fun K hK => ?_) AllReadyH.nil)
      · go_simp
        go_at_call 25
        refine (repeat_B 32 j hj _ (Lib.hid hHeld.2)).mono ?_
        rintro e wx19 ⟨rH, rfl, hc, hb⟩
        go_wp2_with fail
        refine hK.out _ _ (⟨Es.all0 (hHeld.1.1.step hb), hHeld.2.step hb⟩) (fun hHeld => ?_)
        try simp only [List.getElem_toArray, List.getElem_cons_zero, List.getElem_cons_succ, Act.put, List.setIfInBounds_toArray, List.set_cons_zero, List.set_cons_succ]
        refine wpAnyH_more (S2 := fun w' => ((Es w w' T T N0 M0 N0 M0 ta (some ⟨eb, eo, none⟩) ta (some ⟨eb, eo, none⟩) ka ma tc td tc td kc mc s0 s0 keys word ∧ w'.cell? ⟨T, 0, none⟩ = some (.slice ta N0 tc) ∧ w'.cell? ⟨T, 1, none⟩ = some (.slice (some ⟨eb, eo, none⟩) M0 td)) ∧ shB.At w' (some ⟨wC.heap.size, 0, none⟩) 1 [32]) ∧ shB.At w' (some ⟨rH, 0, none⟩) j (List.replicate j 32)) (fun _ h => h.1) _ _ _ _ ?_
        have hHeld := And.intro hHeld (hc)
        refine wpAnyH_ready (rs := [5]) (by kernel_rfl) (by simp) ?_
        refine AllReadyH.cons rfl (fun K hK => ?_) AllReadyH.nil
        go_simp
        refine hK.out _ _ (⟨⟨Es.all0 (hHeld.1.1.1.step (below_alloc wx19 (.cells #[.int .u8 23] 5))), hHeld.1.2.step (below_alloc wx19 (.cells #[.int .u8 23] 5))⟩, hHeld.2.step (below_alloc wx19 (.cells #[.int .u8 23] 5))⟩) (fun hHeld => ?_)
        try simp only [List.getElem_toArray, List.getElem_cons_zero, List.getElem_cons_succ, Act.put, List.setIfInBounds_toArray, List.set_cons_zero, List.set_cons_succ]
        refine wpAnyH_more (S2 := fun w' => (((Es w w' T T N0 M0 N0 M0 ta (some ⟨eb, eo, none⟩) ta (some ⟨eb, eo, none⟩) ka ma tc td tc td kc mc s0 s0 keys word ∧ w'.cell? ⟨T, 0, none⟩ = some (.slice ta N0 tc) ∧ w'.cell? ⟨T, 1, none⟩ = some (.slice (some ⟨eb, eo, none⟩) M0 td)) ∧ shB.At w' (some ⟨wC.heap.size, 0, none⟩) 1 [32]) ∧ shB.At w' (some ⟨rH, 0, none⟩) j (List.replicate j 32)) ∧ shB.At w' (some ⟨wx19.heap.size, 0, none⟩) 1 [23]) (fun _ h => h.1) _ _ _ _ ?_
        have hHeld := And.intro hHeld (lit23 wx19 1)
        generalize wx19.alloc (.cells #[.int .u8 23] 5) = wx20 at hHeld ⊢
        refine wpAnyH_ready (rs := [6]) (by kernel_rfl) (by simp) ?_
        refine AllReadyH.cons rfl (fun K hK => ?_) AllReadyH.nil
        go_simp
        have hD := hHeld
        refine hK.out _ _ (⟨⟨⟨Es.all0 (hHeld.1.1.1.1.step (below_alloc wx20 (.cells #[.slice ka n kc, .slice ma m mc, .slice (some ⟨rH, 0, none⟩) j j, .slice (some ⟨wx19.heap.size, 0, none⟩) 1 1] 23))), hHeld.1.1.2.step (below_alloc wx20 (.cells #[.slice ka n kc, .slice ma m mc, .slice (some ⟨rH, 0, none⟩) j j, .slice (some ⟨wx19.heap.size, 0, none⟩) 1 1] 23))⟩, hHeld.1.2.step (below_alloc wx20 (.cells #[.slice ka n kc, .slice ma m mc, .slice (some ⟨rH, 0, none⟩) j j, .slice (some ⟨wx19.heap.size, 0, none⟩) 1 1] 23))⟩, hHeld.2.step (below_alloc wx20 (.cells #[.slice ka n kc, .slice ma m mc, .slice (some ⟨rH, 0, none⟩) j j, .slice (some ⟨wx19.heap.size, 0, none⟩) 1 1] 23))⟩) (fun hHeld => ?_)
        try simp only [List.getElem_toArray, List.getElem_cons_zero, List.getElem_cons_succ, Act.put, List.setIfInBounds_toArray, List.set_cons_zero, List.set_cons_succ]
        refine wpAnyH_more (S2 := fun w' => ((((Es w w' T T N0 M0 N0 M0 ta (some ⟨eb, eo, none⟩) ta (some ⟨eb, eo, none⟩) ka ma tc td tc td kc mc s0 s0 keys word ∧ w'.cell? ⟨T, 0, none⟩ = some (.slice ta N0 tc) ∧ w'.cell? ⟨T, 1, none⟩ = some (.slice (some ⟨eb, eo, none⟩) M0 td)) ∧ shB.At w' (some ⟨wC.heap.size, 0, none⟩) 1 [32]) ∧ shB.At w' (some ⟨rH, 0, none⟩) j (List.replicate j 32)) ∧ shB.At w' (some ⟨wx19.heap.size, 0, none⟩) 1 [23]) ∧ LnsAt w' (some ⟨wx20.heap.size, 0, none⟩) 4 [keys, word, List.replicate j 32, [23]]) (fun _ h => h.1) _ _ _ _ ?_
        have hHeld := And.intro hHeld (lns_four wx20 hD.1.1.1.1.k hn.out hD.1.1.1.1.m hm.out hD.1.2 (List.length_replicate ..) hD.2 (show ([23] : List UInt8).length = 1 from rfl) 4)
        refine wpAnyH_ready (rs := [7]) (by kernel_rfl) (by simp) ?_
        refine AllReadyH.cons rfl (fun K hK => ?_) AllReadyH.nil
        go_simp
        go_at_call 20
        refine (concat_X (k := 4) _ (Lib.hid hHeld.2) HK4 (by decide) (n + m + j + 1) HT4 (by omega)).mono ?_
        rintro e wx21 ⟨ra, rc, rfl, hc, hb⟩
        go_wp2_with fail
        refine hK.out _ _ (⟨⟨⟨⟨Es.all0 (hHeld.1.1.1.1.1.step hb), hHeld.1.1.1.2.step hb⟩, hHeld.1.1.2.step hb⟩, hHeld.1.2.step hb⟩, hHeld.2.step hb⟩) (fun hHeld => ?_)
        try simp only [List.getElem_toArray, List.getElem_cons_zero, List.getElem_cons_succ, Act.put, List.setIfInBounds_toArray, List.set_cons_zero, List.set_cons_succ]
        refine wpAnyH_more (S2 := fun w' => (((((Es w w' T T N0 M0 N0 M0 ta (some ⟨eb, eo, none⟩) ta (some ⟨eb, eo, none⟩) ka ma tc td tc td kc mc s0 s0 keys word ∧ w'.cell? ⟨T, 0, none⟩ = some (.slice ta N0 tc) ∧ w'.cell? ⟨T, 1, none⟩ = some (.slice (some ⟨eb, eo, none⟩) M0 td)) ∧ shB.At w' (some ⟨wC.heap.size, 0, none⟩) 1 [32]) ∧ shB.At w' (some ⟨rH, 0, none⟩) j (List.replicate j 32)) ∧ shB.At w' (some ⟨wx19.heap.size, 0, none⟩) 1 [23]) ∧ LnsAt w' (some ⟨wx20.heap.size, 0, none⟩) 4 [keys, word, List.replicate j 32, [23]]) ∧ shB.At w' ra rc [keys, word, List.replicate j 32, [23]].flatten) (fun _ h => h.1) _ _ _ _ ?_
        have hHeld := And.intro hHeld (hc)
        refine wpAnyH_ready (rs := [8]) (by kernel_rfl) (by simp) ?_
        refine AllReadyH.cons rfl (fun K hK => ?_) AllReadyH.nil
        go_simp
        go_at_call 16
        refine (type_W _ (Lib.hid hHeld.2) HN4 (by omega) s0 HS N0 M0 hN0 hM0).mono ?_
        rintro e wx22 ⟨ya, yc, xa, xc, rfl, q1, q2, hb⟩
        go_wp2_with fail
        refine hK.out _ _ (⟨⟨⟨⟨⟨Es.all0 (hHeld.1.1.1.1.1.1.step hb), hHeld.1.1.1.1.2.step hb⟩, hHeld.1.1.1.2.step hb⟩, hHeld.1.1.2.step hb⟩, hHeld.1.2.step hb⟩, hHeld.2.step hb⟩) (fun hHeld => ?_)
        try simp only [List.getElem_toArray, List.getElem_cons_zero, List.getElem_cons_succ, Act.put, List.setIfInBounds_toArray, List.set_cons_zero, List.set_cons_succ]
        refine wpAnyH_more (S2 := fun w' => ((((((Es w w' T T N0 M0 N0 M0 ta (some ⟨eb, eo, none⟩) ta (some ⟨eb, eo, none⟩) ka ma tc td tc td kc mc s0 s0 keys word ∧ w'.cell? ⟨T, 0, none⟩ = some (.slice ta N0 tc) ∧ w'.cell? ⟨T, 1, none⟩ = some (.slice (some ⟨eb, eo, none⟩) M0 td)) ∧ shB.At w' (some ⟨wC.heap.size, 0, none⟩) 1 [32]) ∧ shB.At w' (some ⟨rH, 0, none⟩) j (List.replicate j 32)) ∧ shB.At w' (some ⟨wx19.heap.size, 0, none⟩) 1 [23]) ∧ LnsAt w' (some ⟨wx20.heap.size, 0, none⟩) 4 [keys, word, List.replicate j 32, [23]]) ∧ shB.At w' ra rc [keys, word, List.replicate j 32, [23]].flatten) ∧ (LnsAt w' ya yc s0.lines ∧ shB.At w' xa xc s0.edit)) (fun _ h => h.1) _ _ _ _ ?_
        have hHeld := And.intro hHeld (And.intro q1 q2)
        refine wpAnyH_ready (rs := [10]) (by kernel_rfl) (by simp) ?_
        refine AllReadyH.cons rfl (fun K hK => ?_) AllReadyH.nil
        go_simp
        go_at_call 15
        refine (same_T _ hN0 hM0 (by omega) (Lib.hid hHeld.2.1) (Lib.hid hHeld.2.2) (Lib.hid hHeld.1.1.1.1.1.1.1.a.l1) (Lib.hid hHeld.1.1.1.1.1.1.1.a.l2)).mono ?_
        rintro e wx23 ⟨rfl, hb4⟩
        go_wp2_with fail
        refine hK.out _ _ (⟨⟨⟨⟨⟨⟨Es.all0 (hHeld.1.1.1.1.1.1.1.step hb4), hHeld.1.1.1.1.1.2.step hb4⟩, hHeld.1.1.1.1.2.step hb4⟩, hHeld.1.1.1.2.step hb4⟩, hHeld.1.1.2.step hb4⟩, hHeld.1.2.step hb4⟩, ⟨hHeld.2.1.step hb4, hHeld.2.2.step hb4⟩⟩) (fun hHeld => ?_)
        try simp only [List.getElem_toArray, List.getElem_cons_zero, List.getElem_cons_succ, Act.put, List.setIfInBounds_toArray, List.set_cons_zero, List.set_cons_succ]
        refine wpAnyH_take (i := 11) (v := ?_) rfl (by kernel_rfl) (by kernel_rfl) (by kernel_rfl) (fun _ _ _ h => h) (Or.inl ⟨by rfl, ?_⟩) (by assumption) ?_
        rotate_left
        · (intro wz hSw; (try dsimp only at hSw); go_simp; try with_reducible rfl)
        try simp only [List.getElem_toArray, List.getElem_cons_zero, List.getElem_cons_succ, Act.put, List.setIfInBounds_toArray, List.set_cons_zero, List.set_cons_succ]
        refine wpAnyH_done (by kernel_rfl) ?_ _
        refine NoPanic.normal ?_
        go_wp2_with fail
        go_ret
        exact ⟨rfl, hHeld.1.1.1.1.1.1.1.a.b⟩
      · go_simp
        refine hK.out _ _ (⟨Es.all0 (hHeld.1.1.step (below_alloc wx18 (.cells #[.int .u8 23] 5))), hHeld.2.step (below_alloc wx18 (.cells #[.int .u8 23] 5))⟩) (fun hHeld => ?_)
        try simp only [List.getElem_toArray, List.getElem_cons_zero, List.getElem_cons_succ, Act.put, List.setIfInBounds_toArray, List.set_cons_zero, List.set_cons_succ]
        refine wpAnyH_more (S2 := fun w' => ((Es w w' T T N0 M0 N0 M0 ta (some ⟨eb, eo, none⟩) ta (some ⟨eb, eo, none⟩) ka ma tc td tc td kc mc s0 s0 keys word ∧ w'.cell? ⟨T, 0, none⟩ = some (.slice ta N0 tc) ∧ w'.cell? ⟨T, 1, none⟩ = some (.slice (some ⟨eb, eo, none⟩) M0 td)) ∧ shB.At w' (some ⟨wC.heap.size, 0, none⟩) 1 [32]) ∧ shB.At w' (some ⟨wx18.heap.size, 0, none⟩) 1 [23]) (fun _ h => h.1) _ _ _ _ ?_
        have hHeld := And.intro hHeld (lit23 wx18 1)
        generalize wx18.alloc (.cells #[.int .u8 23] 5) = wx24 at hHeld ⊢
        refine wpAnyH_ready (rs := [4]) (by kernel_rfl) (by simp) ?_
        refine AllReadyH.cons rfl (fun K hK => ?_) AllReadyH.nil
        go_simp
        go_at_call 25
        refine (repeat_B 32 j hj _ (Lib.hid hHeld.1.2)).mono ?_
        rintro e wx25 ⟨rH, rfl, hc, hb⟩
        go_wp2_with fail
        refine hK.out _ _ (⟨⟨Es.all0 (hHeld.1.1.1.step hb), hHeld.1.2.step hb⟩, hHeld.2.step hb⟩) (fun hHeld => ?_)
        try simp only [List.getElem_toArray, List.getElem_cons_zero, List.getElem_cons_succ, Act.put, List.setIfInBounds_toArray, List.set_cons_zero, List.set_cons_succ]
        refine wpAnyH_more (S2 := fun w' => (((Es w w' T T N0 M0 N0 M0 ta (some ⟨eb, eo, none⟩) ta (some ⟨eb, eo, none⟩) ka ma tc td tc td kc mc s0 s0 keys word ∧ w'.cell? ⟨T, 0, none⟩ = some (.slice ta N0 tc) ∧ w'.cell? ⟨T, 1, none⟩ = some (.slice (some ⟨eb, eo, none⟩) M0 td)) ∧ shB.At w' (some ⟨wC.heap.size, 0, none⟩) 1 [32]) ∧ shB.At w' (some ⟨wx18.heap.size, 0, none⟩) 1 [23]) ∧ shB.At w' (some ⟨rH, 0, none⟩) j (List.replicate j 32)) (fun _ h => h.1) _ _ _ _ ?_
        have hHeld := And.intro hHeld (hc)
        refine wpAnyH_ready (rs := [6]) (by kernel_rfl) (by simp) ?_
        refine AllReadyH.cons rfl (fun K hK => ?_) AllReadyH.nil
        go_simp
        have hD := hHeld
        refine hK.out _ _ (⟨⟨⟨Es.all0 (hHeld.1.1.1.1.step (below_alloc wx25 (.cells #[.slice ka n kc, .slice ma m mc, .slice (some ⟨rH, 0, none⟩) j j, .slice (some ⟨wx18.heap.size, 0, none⟩) 1 1] 23))), hHeld.1.1.2.step (below_alloc wx25 (.cells #[.slice ka n kc, .slice ma m mc, .slice (some ⟨rH, 0, none⟩) j j, .slice (some ⟨wx18.heap.size, 0, none⟩) 1 1] 23))⟩, hHeld.1.2.step (below_alloc wx25 (.cells #[.slice ka n kc, .slice ma m mc, .slice (some ⟨rH, 0, none⟩) j j, .slice (some ⟨wx18.heap.size, 0, none⟩) 1 1] 23))⟩, hHeld.2.step (below_alloc wx25 (.cells #[.slice ka n kc, .slice ma m mc, .slice (some ⟨rH, 0, none⟩) j j, .slice (some ⟨wx18.heap.size, 0, none⟩) 1 1] 23))⟩) (fun hHeld => ?_)
        try simp only [List.getElem_toArray, List.getElem_cons_zero, List.getElem_cons_succ, Act.put, List.setIfInBounds_toArray, List.set_cons_zero, List.set_cons_succ]
        refine wpAnyH_more (S2 := fun w' => ((((Es w w' T T N0 M0 N0 M0 ta (some ⟨eb, eo, none⟩) ta (some ⟨eb, eo, none⟩) ka ma tc td tc td kc mc s0 s0 keys word ∧ w'.cell? ⟨T, 0, none⟩ = some (.slice ta N0 tc) ∧ w'.cell? ⟨T, 1, none⟩ = some (.slice (some ⟨eb, eo, none⟩) M0 td)) ∧ shB.At w' (some ⟨wC.heap.size, 0, none⟩) 1 [32]) ∧ shB.At w' (some ⟨wx18.heap.size, 0, none⟩) 1 [23]) ∧ shB.At w' (some ⟨rH, 0, none⟩) j (List.replicate j 32)) ∧ LnsAt w' (some ⟨wx25.heap.size, 0, none⟩) 4 [keys, word, List.replicate j 32, [23]]) (fun _ h => h.1) _ _ _ _ ?_
        have hHeld := And.intro hHeld (lns_four wx25 hD.1.1.1.1.k hn.out hD.1.1.1.1.m hm.out hD.2 (List.length_replicate ..) hD.1.2 (show ([23] : List UInt8).length = 1 from rfl) 4)
        refine wpAnyH_ready (rs := [7]) (by kernel_rfl) (by simp) ?_
        refine AllReadyH.cons rfl (fun K hK => ?_) AllReadyH.nil
        go_simp
        go_at_call 20
        refine (concat_X (k := 4) _ (Lib.hid hHeld.2) HK4 (by decide) (n + m + j + 1) HT4 (by omega)).mono ?_
        rintro e wx26 ⟨ra, rc, rfl, hc, hb⟩
        go_wp2_with fail
        refine hK.out _ _ (⟨⟨⟨⟨Es.all0 (hHeld.1.1.1.1.1.step hb), hHeld.1.1.1.2.step hb⟩, hHeld.1.1.2.step hb⟩, hHeld.1.2.step hb⟩, hHeld.2.step hb⟩) (fun hHeld => ?_)
        try simp only [List.getElem_toArray, List.getElem_cons_zero, List.getElem_cons_succ, Act.put, List.setIfInBounds_toArray, List.set_cons_zero, List.set_cons_succ]
        refine wpAnyH_more (S2 := fun w' => (((((Es w w' T T N0 M0 N0 M0 ta (some ⟨eb, eo, none⟩) ta (some ⟨eb, eo, none⟩) ka ma tc td tc td kc mc s0 s0 keys word ∧ w'.cell? ⟨T, 0, none⟩ = some (.slice ta N0 tc) ∧ w'.cell? ⟨T, 1, none⟩ = some (.slice (some ⟨eb, eo, none⟩) M0 td)) ∧ shB.At w' (some ⟨wC.heap.size, 0, none⟩) 1 [32]) ∧ shB.At w' (some ⟨wx18.heap.size, 0, none⟩) 1 [23]) ∧ shB.At w' (some ⟨rH, 0, none⟩) j (List.replicate j 32)) ∧ LnsAt w' (some ⟨wx25.heap.size, 0, none⟩) 4 [keys, word, List.replicate j 32, [23]]) ∧ shB.At w' ra rc [keys, word, List.replicate j 32, [23]].flatten) (fun _ h => h.1) _ _ _ _ ?_
        have hHeld := And.intro hHeld (hc)
        refine wpAnyH_ready (rs := [8]) (by kernel_rfl) (by simp) ?_
        refine AllReadyH.cons rfl (fun K hK => ?_) AllReadyH.nil
        go_simp
        go_at_call 16
        refine (type_W _ (Lib.hid hHeld.2) HN4 (by omega) s0 HS N0 M0 hN0 hM0).mono ?_
        rintro e wx27 ⟨ya, yc, xa, xc, rfl, q1, q2, hb⟩
        go_wp2_with fail
        refine hK.out _ _ (⟨⟨⟨⟨⟨Es.all0 (hHeld.1.1.1.1.1.1.step hb), hHeld.1.1.1.1.2.step hb⟩, hHeld.1.1.1.2.step hb⟩, hHeld.1.1.2.step hb⟩, hHeld.1.2.step hb⟩, hHeld.2.step hb⟩) (fun hHeld => ?_)
        try simp only [List.getElem_toArray, List.getElem_cons_zero, List.getElem_cons_succ, Act.put, List.setIfInBounds_toArray, List.set_cons_zero, List.set_cons_succ]
        refine wpAnyH_more (S2 := fun w' => ((((((Es w w' T T N0 M0 N0 M0 ta (some ⟨eb, eo, none⟩) ta (some ⟨eb, eo, none⟩) ka ma tc td tc td kc mc s0 s0 keys word ∧ w'.cell? ⟨T, 0, none⟩ = some (.slice ta N0 tc) ∧ w'.cell? ⟨T, 1, none⟩ = some (.slice (some ⟨eb, eo, none⟩) M0 td)) ∧ shB.At w' (some ⟨wC.heap.size, 0, none⟩) 1 [32]) ∧ shB.At w' (some ⟨wx18.heap.size, 0, none⟩) 1 [23]) ∧ shB.At w' (some ⟨rH, 0, none⟩) j (List.replicate j 32)) ∧ LnsAt w' (some ⟨wx25.heap.size, 0, none⟩) 4 [keys, word, List.replicate j 32, [23]]) ∧ shB.At w' ra rc [keys, word, List.replicate j 32, [23]].flatten) ∧ (LnsAt w' ya yc s0.lines ∧ shB.At w' xa xc s0.edit)) (fun _ h => h.1) _ _ _ _ ?_
        have hHeld := And.intro hHeld (And.intro q1 q2)
        refine wpAnyH_ready (rs := [10]) (by kernel_rfl) (by simp) ?_
        refine AllReadyH.cons rfl (fun K hK => ?_) AllReadyH.nil
        go_simp
        go_at_call 15
        refine (same_T _ hN0 hM0 (by omega) (Lib.hid hHeld.2.1) (Lib.hid hHeld.2.2) (Lib.hid hHeld.1.1.1.1.1.1.1.a.l1) (Lib.hid hHeld.1.1.1.1.1.1.1.a.l2)).mono ?_
        rintro e wx28 ⟨rfl, hb4⟩
        go_wp2_with fail
        refine hK.out _ _ (⟨⟨⟨⟨⟨⟨Es.all0 (hHeld.1.1.1.1.1.1.1.step hb4), hHeld.1.1.1.1.1.2.step hb4⟩, hHeld.1.1.1.1.2.step hb4⟩, hHeld.1.1.1.2.step hb4⟩, hHeld.1.1.2.step hb4⟩, hHeld.1.2.step hb4⟩, ⟨hHeld.2.1.step hb4, hHeld.2.2.step hb4⟩⟩) (fun hHeld => ?_)
        try simp only [List.getElem_toArray, List.getElem_cons_zero, List.getElem_cons_succ, Act.put, List.setIfInBounds_toArray, List.set_cons_zero, List.set_cons_succ]
        refine wpAnyH_take (i := 11) (v := ?_) rfl (by kernel_rfl) (by kernel_rfl) (by kernel_rfl) (fun _ _ _ h => h) (Or.inl ⟨by rfl, ?_⟩) (by assumption) ?_
        rotate_left
        · (intro wz hSw; (try dsimp only at hSw); go_simp; try with_reducible rfl)
        try simp only [List.getElem_toArray, List.getElem_cons_zero, List.getElem_cons_succ, Act.put, List.setIfInBounds_toArray, List.set_cons_zero, List.set_cons_succ]
        refine wpAnyH_done (by kernel_rfl) ?_ _
        refine NoPanic.normal ?_
        go_wp2_with fail
        go_ret
        exact ⟨rfl, hHeld.1.1.1.1.1.1.1.a.b⟩
    · go_simp
      refine hK.out _ _ (Es.all0 (hHeld.1.step (below_alloc wC (.cells #[.int .u8 23] 5)))) (fun hHeld => ?_)
      try simp only [List.getElem_toArray, List.getElem_cons_zero, List.getElem_cons_succ, Act.put, List.setIfInBounds_toArray, List.set_cons_zero, List.set_cons_succ]
      refine wpAnyH_more (S2 := fun w' => (Es w w' T T N0 M0 N0 M0 ta (some ⟨eb, eo, none⟩) ta (some ⟨eb, eo, none⟩) ka ma tc td tc td kc mc s0 s0 keys word ∧ w'.cell? ⟨T, 0, none⟩ = some (.slice ta N0 tc) ∧ w'.cell? ⟨T, 1, none⟩ = some (.slice (some ⟨eb, eo, none⟩) M0 td)) ∧ shB.At w' (some ⟨wC.heap.size, 0, none⟩) 1 [23]) (fun _ h => h.1) _ _ _ _ ?_
      have hHeld := And.intro hHeld (lit23 wC 1)
      generalize wC.alloc (.cells #[.int .u8 23] 5) = wx29 at hHeld ⊢
      refine wpAnyH_ready (rs := [2]) (by kernel_rfl) (by simp) ?_
      refine AllReadyH.cons rfl (fun K hK => ?_) AllReadyH.nil
      go_simp
      refine hK.out _ _ (⟨Es.all0 (hHeld.1.1.step (below_alloc wx29 (.cells #[.int .u8 32] 5))), hHeld.2.step (below_alloc wx29 (.cells #[.int .u8 32] 5))⟩) (fun hHeld => ?_)
      try simp only [List.getElem_toArray, List.getElem_cons_zero, List.getElem_cons_succ, Act.put, List.setIfInBounds_toArray, List.set_cons_zero, List.set_cons_succ]
      refine wpAnyH_more (S2 := fun w' => ((Es w w' T T N0 M0 N0 M0 ta (some ⟨eb, eo, none⟩) ta (some ⟨eb, eo, none⟩) ka ma tc td tc td kc mc s0 s0 keys word ∧ w'.cell? ⟨T, 0, none⟩ = some (.slice ta N0 tc) ∧ w'.cell? ⟨T, 1, none⟩ = some (.slice (some ⟨eb, eo, none⟩) M0 td)) ∧ shB.At w' (some ⟨wC.heap.size, 0, none⟩) 1 [23]) ∧ shB.At w' (some ⟨wx29.heap.size, 0, none⟩) 1 [32]) (fun _ h => h.1) _ _ _ _ ?_
      have hHeld := And.intro hHeld (lit32 wx29 1)
      generalize wx29.alloc (.cells #[.int .u8 32] 5) = wx30 at hHeld ⊢
      refine wpAnyH_ready (rs := [4]) (by kernel_rfl) (by simp) ?_
      refine AllReadyH.cons rfl (fun K hK => ?_) AllReadyH.nil
      go_simp
      go_at_call 25
      refine (repeat_B 32 j hj _ (Lib.hid hHeld.2)).mono ?_
      rintro e wx31 ⟨rH, rfl, hc, hb⟩
      go_wp2_with fail
      refine hK.out _ _ (⟨⟨Es.all0 (hHeld.1.1.1.step hb), hHeld.1.2.step hb⟩, hHeld.2.step hb⟩) (fun hHeld => ?_)
      try simp only [List.getElem_toArray, List.getElem_cons_zero, List.getElem_cons_succ, Act.put, List.setIfInBounds_toArray, List.set_cons_zero, List.set_cons_succ]
      refine wpAnyH_more (S2 := fun w' => (((Es w w' T T N0 M0 N0 M0 ta (some ⟨eb, eo, none⟩) ta (some ⟨eb, eo, none⟩) ka ma tc td tc td kc mc s0 s0 keys word ∧ w'.cell? ⟨T, 0, none⟩ = some (.slice ta N0 tc) ∧ w'.cell? ⟨T, 1, none⟩ = some (.slice (some ⟨eb, eo, none⟩) M0 td)) ∧ shB.At w' (some ⟨wC.heap.size, 0, none⟩) 1 [23]) ∧ shB.At w' (some ⟨wx29.heap.size, 0, none⟩) 1 [32]) ∧ shB.At w' (some ⟨rH, 0, none⟩) j (List.replicate j 32)) (fun _ h => h.1) _ _ _ _ ?_
      have hHeld := And.intro hHeld (hc)
      refine wpAnyH_ready (rs := [6]) (by kernel_rfl) (by simp) ?_
      refine AllReadyH.cons rfl (fun K hK => ?_) AllReadyH.nil
      go_simp
      have hD := hHeld
      refine hK.out _ _ (⟨⟨⟨Es.all0 (hHeld.1.1.1.1.step (below_alloc wx31 (.cells #[.slice ka n kc, .slice ma m mc, .slice (some ⟨rH, 0, none⟩) j j, .slice (some ⟨wC.heap.size, 0, none⟩) 1 1] 23))), hHeld.1.1.2.step (below_alloc wx31 (.cells #[.slice ka n kc, .slice ma m mc, .slice (some ⟨rH, 0, none⟩) j j, .slice (some ⟨wC.heap.size, 0, none⟩) 1 1] 23))⟩, hHeld.1.2.step (below_alloc wx31 (.cells #[.slice ka n kc, .slice ma m mc, .slice (some ⟨rH, 0, none⟩) j j, .slice (some ⟨wC.heap.size, 0, none⟩) 1 1] 23))⟩, hHeld.2.step (below_alloc wx31 (.cells #[.slice ka n kc, .slice ma m mc, .slice (some ⟨rH, 0, none⟩) j j, .slice (some ⟨wC.heap.size, 0, none⟩) 1 1] 23))⟩) (fun hHeld => ?_)
      try simp only [List.getElem_toArray, List.getElem_cons_zero, List.getElem_cons_succ, Act.put, List.setIfInBounds_toArray, List.set_cons_zero, List.set_cons_succ]
      refine wpAnyH_more (S2 := fun w' => ((((Es w w' T T N0 M0 N0 M0 ta (some ⟨eb, eo, none⟩) ta (some ⟨eb, eo, none⟩) ka ma tc td tc td kc mc s0 s0 keys word ∧ w'.cell? ⟨T, 0, none⟩ = some (.slice ta N0 tc) ∧ w'.cell? ⟨T, 1, none⟩ = some (.slice (some ⟨eb, eo, none⟩) M0 td)) ∧ shB.At w' (some ⟨wC.heap.size, 0, none⟩) 1 [23]) ∧ shB.At w' (some ⟨wx29.heap.size, 0, none⟩) 1 [32]) ∧ shB.At w' (some ⟨rH, 0, none⟩) j (List.replicate j 32)) ∧ LnsAt w' (some ⟨wx31.heap.size, 0, none⟩) 4 [keys, word, List.replicate j 32, [23]]) (fun _ h => h.1) _ _ _ _ ?_
      have hHeld := And.intro hHeld (lns_four wx31 hD.1.1.1.1.k hn.out hD.1.1.1.1.m hm.out hD.2 (List.length_replicate ..) hD.1.1.2 (show ([23] : List UInt8).length = 1 from rfl) 4)
      refine wpAnyH_ready (rs := [7]) (by kernel_rfl) (by simp) ?_
      refine AllReadyH.cons rfl (fun K hK => ?_) AllReadyH.nil
      go_simp
      go_at_call 20
      refine (concat_X (k := 4) _ (Lib.hid hHeld.2) HK4 (by decide) (n + m + j + 1) HT4 (by omega)).mono ?_
      rintro e wx32 ⟨ra, rc, rfl, hc, hb⟩
      go_wp2_with fail
      refine hK.out _ _ (⟨⟨⟨⟨Es.all0 (hHeld.1.1.1.1.1.step hb), hHeld.1.1.1.2.step hb⟩, hHeld.1.1.2.step hb⟩, hHeld.1.2.step hb⟩, hHeld.2.step hb⟩) (fun hHeld => ?_)
      try simp only [List.getElem_toArray, List.getElem_cons_zero, List.getElem_cons_succ, Act.put, List.setIfInBounds_toArray, List.set_cons_zero, List.set_cons_succ]
      refine wpAnyH_more (S2 := fun w' => (((((Es w w' T T N0 M0 N0 M0 ta (some ⟨eb, eo, none⟩) ta (some ⟨eb, eo, none⟩) ka ma tc td tc td kc mc s0 s0 keys word ∧ w'.cell? ⟨T, 0, none⟩ = some (.slice ta N0 tc) ∧ w'.cell? ⟨T, 1, none⟩ = some (.slice (some ⟨eb, eo, none⟩) M0 td)) ∧ shB.At w' (some ⟨wC.heap.size, 0, none⟩) 1 [23]) ∧ shB.At w' (some ⟨wx29.heap.size, 0, none⟩) 1 [32]) ∧ shB.At w' (some ⟨rH, 0, none⟩) j (List.replicate j 32)) ∧ LnsAt w' (some ⟨wx31.heap.size, 0, none⟩) 4 [keys, word, List.replicate j 32, [23]]) ∧ shB.At w' ra rc [keys, word, List.replicate j 32, [23]].flatten) (fun _ h => h.1) _ _ _ _ ?_
      have hHeld := And.intro hHeld (hc)
      refine wpAnyH_ready (rs := [8]) (by kernel_rfl) (by simp) ?_
      refine AllReadyH.cons rfl (fun K hK => ?_) AllReadyH.nil
      go_simp
      go_at_call 16
      refine (type_W _ (Lib.hid hHeld.2) HN4 (by omega) s0 HS N0 M0 hN0 hM0).mono ?_
      rintro e wx33 ⟨ya, yc, xa, xc, rfl, q1, q2, hb⟩
      go_wp2_with fail
      refine hK.out _ _ (⟨⟨⟨⟨⟨Es.all0 (hHeld.1.1.1.1.1.1.step hb), hHeld.1.1.1.1.2.step hb⟩, hHeld.1.1.1.2.step hb⟩, hHeld.1.1.2.step hb⟩, hHeld.1.2.step hb⟩, hHeld.2.step hb⟩) (fun hHeld => ?_)
      try simp only [List.getElem_toArray, List.getElem_cons_zero, List.getElem_cons_succ, Act.put, List.setIfInBounds_toArray, List.set_cons_zero, List.set_cons_succ]
      refine wpAnyH_more (S2 := fun w' => ((((((Es w w' T T N0 M0 N0 M0 ta (some ⟨eb, eo, none⟩) ta (some ⟨eb, eo, none⟩) ka ma tc td tc td kc mc s0 s0 keys word ∧ w'.cell? ⟨T, 0, none⟩ = some (.slice ta N0 tc) ∧ w'.cell? ⟨T, 1, none⟩ = some (.slice (some ⟨eb, eo, none⟩) M0 td)) ∧ shB.At w' (some ⟨wC.heap.size, 0, none⟩) 1 [23]) ∧ shB.At w' (some ⟨wx29.heap.size, 0, none⟩) 1 [32]) ∧ shB.At w' (some ⟨rH, 0, none⟩) j (List.replicate j 32)) ∧ LnsAt w' (some ⟨wx31.heap.size, 0, none⟩) 4 [keys, word, List.replicate j 32, [23]]) ∧ shB.At w' ra rc [keys, word, List.replicate j 32, [23]].flatten) ∧ (LnsAt w' ya yc s0.lines ∧ shB.At w' xa xc s0.edit)) (fun _ h => h.1) _ _ _ _ ?_
      have hHeld := And.intro hHeld (And.intro q1 q2)
      refine wpAnyH_ready (rs := [10]) (by kernel_rfl) (by simp) ?_
      refine AllReadyH.cons rfl (fun K hK => ?_) AllReadyH.nil
      go_simp
      go_at_call 15
      refine (same_T _ hN0 hM0 (by omega) (Lib.hid hHeld.2.1) (Lib.hid hHeld.2.2) (Lib.hid hHeld.1.1.1.1.1.1.1.a.l1) (Lib.hid hHeld.1.1.1.1.1.1.1.a.l2)).mono ?_
      rintro e wx34 ⟨rfl, hb4⟩
      go_wp2_with fail
      refine hK.out _ _ (⟨⟨⟨⟨⟨⟨Es.all0 (hHeld.1.1.1.1.1.1.1.step hb4), hHeld.1.1.1.1.1.2.step hb4⟩, hHeld.1.1.1.1.2.step hb4⟩, hHeld.1.1.1.2.step hb4⟩, hHeld.1.1.2.step hb4⟩, hHeld.1.2.step hb4⟩, ⟨hHeld.2.1.step hb4, hHeld.2.2.step hb4⟩⟩) (fun hHeld => ?_)
      try simp only [List.getElem_toArray, List.getElem_cons_zero, List.getElem_cons_succ, Act.put, List.setIfInBounds_toArray, List.set_cons_zero, List.set_cons_succ]
      refine wpAnyH_take (i := 11) (v := ?_) rfl (by kernel_rfl) (by kernel_rfl) (by kernel_rfl) (fun _ _ _ h => h) (Or.inl ⟨by rfl, ?_⟩) (by assumption) ?_
      rotate_left
      · (intro wz hSw; (try dsimp only at hSw); go_simp; try with_reducible rfl)
      try simp only [List.getElem_toArray, List.getElem_cons_zero, List.getElem_cons_succ, Act.put, List.setIfInBounds_toArray, List.set_cons_zero, List.set_cons_succ]
      refine wpAnyH_done (by kernel_rfl) ?_ _
      refine NoPanic.normal ?_
      go_wp2_with fail
      go_ret
      exact ⟨rfl, hHeld.1.1.1.1.1.1.1.a.b⟩
  · have y0 : (ub x != 32) = true := ne_of (c := 32) hb
    clear hx0
    go_wp2_with fail
    go_ret
    exact ⟨rfl, E3.out.b⟩
end Go.Proofs.YtomgifdnnfbpnaaDoor
