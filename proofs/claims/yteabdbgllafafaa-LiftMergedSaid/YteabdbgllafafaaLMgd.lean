/- LiftMerged: the walk. -/
import Derived.Test.YteabdbgllafafaaLftH
import Derived.Test.YteabdbgllafafaaLftO
namespace Go.Proofs.Yteabdbgllafafaa
open Go.RowKit Go.Shelf

set_option maxHeartbeats 1000000 in
set_option maxRecDepth 100000 in
theorem within_W (s1 s2 block : Int) (U : Nat) (w : World) (hc : w.cell? ⟨U, 0, none⟩ = some (.int .i64 block)) (hU : U < w.heap.size) (q : Bool) (hq : Hid (decide (s1 ≤ block ∧ block < s2) = q)) :
    Calls Try.prog 30 #[.agg #[.int .i64 s1, .int .i64 s2], .pointer (some ⟨U, 0, none⟩)] w fun e w' => e = .returned (.bool q) ∧ Below w.heap.size w w' := by
  have B0 := below_alloc w (.cells #[.int .i64 s1, .int .i64 s2] 41)
  by_cases h1 : s1 ≤ block
  · have h1' : decide (s1 ≤ block) = true := decide_eq_true h1
    by_cases h2 : block < s2
    · have h2' : decide (block < s2) = true := decide_eq_true h2
      obtain rfl : q = true := by rw [← hq.out]; exact decide_eq_true ⟨h1, h2⟩
      go_enter Try.func30, Try.ntmps30
      go_wp2_with fail
      go_ret
      exact ⟨rfl, B0⟩
    · have h2' : decide (block < s2) = false := decide_eq_false h2
      obtain rfl : q = false := by rw [← hq.out]; exact decide_eq_false (fun h => h2 h.2)
      go_enter Try.func30, Try.ntmps30
      go_wp2_with fail
      go_ret
      exact ⟨rfl, B0⟩
  · have h1' : decide (s1 ≤ block) = false := decide_eq_false h1
    obtain rfl : q = false := by rw [← hq.out]; exact decide_eq_false (fun h => h1 h.1)
    go_enter Try.func30, Try.ntmps30
    go_wp2_with fail
    go_ret
    exact ⟨rfl, B0⟩
theorem within_pred (block : Int) (U : Nat) (w : World) (hc : w.cell? ⟨U, 0, none⟩ = some (.int .i64 block)) (hU : U < w.heap.size) : PredBelow Try.prog 30 #[.pointer (some ⟨U, 0, none⟩)] (fun x => .agg (shS.enc x).toArray) (fun s => decide (s.1 ≤ block ∧ block < s.2)) w := fun W x hb =>
  (within_W x.1 x.2 block U W ((hb.cell (p := ⟨U, 0, none⟩) hU).trans hc) (Nat.lt_of_lt_of_le hU hb.size) _ (Lib.hid rfl)).mono fun _ _ h => ⟨h.1, hb.trans (h.2.mono hb.size)⟩
theorem any_within_W {ad : Option Addr} {cap n : Nat} {l : List SpS} (block : Int) (U : Nat) (w : World) (hc : w.cell? ⟨U, 0, none⟩ = some (.int .i64 block)) (hU : U < w.heap.size) (HA : Hid (shS.At w ad cap l)) (hn : Hid (l.length = n)) (hnb : n ≤ 9223372036854775807) (q : Bool) (hq : Hid ((l.any fun s => decide (s.1 ≤ block ∧ block < s.2)) = q)) :
    Calls Try.prog 29 #[.slice ad n cap, .func (.func 30) #[] #[.pointer (some ⟨U, 0, none⟩)]] w fun e w' => e = .returned (.bool q) ∧ Below w.heap.size w w' :=
  contains_S 30 #[.pointer (some ⟨U, 0, none⟩)] _ (enters_of Try.func30 (by kernel_rfl) rfl) w (Lib.hid (within_pred block U w hc hU)) HA hn hnb q hq
set_option maxHeartbeats 1000000 in
set_option maxRecDepth 100000 in
theorem has_W {ad : Option Addr} {cap n : Nat} {l : List SpS} (block : Int) (U : Nat) (w : World) (hc : Hid (w.cell? ⟨U, 0, none⟩ = some (.int .i64 block))) (hU : U < w.heap.size) (HA : Hid (shS.At w ad cap l)) (hn : Hid (l.length = n)) (hnb : n ≤ 9223372036854775807) (q : Bool) (hq : Hid ((l.any fun s => decide (s.1 ≤ block ∧ block < s.2)) = q)) :
    Calls Try.prog 28 #[.slice ad n cap, .pointer (some ⟨U, 0, none⟩)] w fun e w' => e = .returned (.bool q) ∧ Below w.heap.size w w' := by
  go_enter Try.func28, Try.ntmps28
  go_wp2_with (first
    | (go_at_call 29; (with_reducible refine (any_within_W block U _ hc.out hU HA hn hnb q hq).mono ?_); rintro e w1 ⟨rfl, b1⟩; have B1 := Lib.hid b1; clear b1)
    | fail)
  go_ret
  exact ⟨rfl, B1.out⟩
theorem any_cov {l m : List SpS} {b : Int} (h : covS l b ↔ covS m b) : (l.any fun s => decide (s.1 ≤ b ∧ b < s.2)) = m.any fun s => decide (s.1 ≤ b ∧ b < s.2) := by
  have e : ∀ l : List SpS, (l.any fun s => decide (s.1 ≤ b ∧ b < s.2)) = true ↔ covS l b := fun l => by
    rw [List.any_eq_true]
    unfold covS
    simp
  rw [Bool.eq_iff_iff, e, e]
  exact h
set_option maxHeartbeats 2000000 in
set_option maxRecDepth 100000 in
theorem merged_no {ad : Option Addr} {cap n : Nat} {l : List SpS} (block : Int) (w : World) (HA : Hid (shS.At w ad cap l)) (hn : Hid (l.length = n)) (hnb : n ≤ 9223372036854775807) (QN : ¬ okM l) :
    Calls Try.prog 8 #[.slice ad n cap, .int .i64 block] w fun e w' => e = .returned (.bool true) ∧ Below w.heap.size w w' := by
  have BX := Lib.hid (below_alloc w (.cells #[.int .i64 block] 3))
  have HX := Lib.hid (HA.out.step BX.out)
  have HM : Hid (∀ (W : World) (_ : Hid (shS.At W ad cap l)), Calls Try.prog 18 #[.slice ad n cap] W (LmOut W 0 [] 2)) := Lib.hid (fun W H => merge_bad W H hn QN hnb)
  clear QN
  go_enter Try.func8, Try.ntmps8
  go_wp2_with (first
    | (go_at_call 21; (with_reducible refine (alive19_N _).mono ?_); rintro e w1 ⟨rfl, b1⟩; have B1 := Lib.hid (pstep BX.out b1); have H1 := Lib.hid (HX.out.step b1); clear b1)
    | (go_at_call 18; (with_reducible refine (HM.out _ H1).mono ?_); rintro e w2 ⟨a2, c2, rfl, r2, b2⟩; have B2 := Lib.hid (pstep B1.out b2); clear r2 b2)
    | fail)
  go_ret
  exact ⟨rfl, B2.out⟩
set_option maxHeartbeats 4000000 in
set_option maxRecDepth 100000 in
theorem merged_ok {ad : Option Addr} {cap n : Nat} {l : List SpS} (block : Int) (w : World) (HA : Hid (shS.At w ad cap l)) (hn : Hid (l.length = n)) (Q : Hid (okM l)) :
    Calls Try.prog 8 #[.slice ad n cap, .int .i64 block] w fun e w' => e = .returned (.bool true) ∧ Below w.heap.size w w' := by
  have h4 : n ≤ 400 := by rw [← hn.out]; exact Q.out.1
  have hnb : n ≤ 9223372036854775807 := by omega
  have hnc : n ≤ 8796093022207 := by omega
  obtain ⟨hap, hcov, hoks⟩ := can_is Q.out.2
  obtain ⟨k, hk⟩ : ∃ k, (canL l).length = k := ⟨_, rfl⟩
  have HK := Lib.hid hk
  have hkn : k ≤ n := by rw [← hk, ← hn.out]; exact can_len Q.out.2
  have hk4 : k ≤ 400 := by omega
  have hkb : k ≤ 9223372036854775807 := by omega
  have hkd : decide ((k : Int) ≤ (n : Int)) = true := decide_eq_true (by omega)
  have HOK : Hid (∀ s ∈ l, okS s) := Lib.hid Q.out.2
  have HOKR : Hid (∀ s ∈ l.reverse, okS s) := Lib.hid (fun s hs => Q.out.2 s (List.mem_reverse.1 hs))
  have HOKM : Hid (∀ s ∈ canL l, okS s) := Lib.hid hoks
  have HRN : Hid (l.reverse.length = n) := Lib.hid (by rw [List.length_reverse]; exact hn.out)
  have HCR : Hid (canL l.reverse = canL l) := Lib.hid (can_perm Q.out.2 (List.reverse_perm l).symm)
  have HCC : Hid (canL (canL l) = canL l) := Lib.hid (can_can Q.out.2)
  have HKR : Hid ((canL l.reverse).length = k) := Lib.hid (by rw [HCR.out]; exact hk)
  have HKC : Hid ((canL (canL l)).length = k) := Lib.hid (by rw [HCC.out]; exact hk)
  have HAP := Lib.hid hap
  obtain ⟨q, hq⟩ : ∃ q, (l.any fun s => decide (s.1 ≤ block ∧ block < s.2)) = q := ⟨_, rfl⟩
  have HQL := Lib.hid hq
  have HQM : Hid (((canL l).any fun s => decide (s.1 ≤ block ∧ block < s.2)) = q) := Lib.hid (by rw [← hq]; exact (any_cov (hcov block)).symm)
  have hqq : (q == q) = true := by simp
  obtain ⟨M, hM⟩ : ∃ M, canL l = M := ⟨_, rfl⟩
  have BX := Lib.hid (below_alloc w (.cells #[.int .i64 block] 3))
  have HX := Lib.hid (HA.out.step BX.out)
  have UX := Lib.hid (heap_alloc_new w (.cells #[.int .i64 block] 3))
  clear hap hcov hoks hk hq
  go_enter Try.func8, Try.ntmps8
  go_upto_region 1 with fail
  generalize w.alloc (.cells #[.int .i64 block] 3) = X at BX HX UX ⊢
  obtain ⟨U, hU⟩ : ∃ U, w.heap.size = U := ⟨_, rfl⟩
  rw [hU] at UX ⊢
  have BX' : Hid (Below w.heap.size w X) := BX
  clear BX hU
  go_wp2_with (first
    | (go_at_call 21; (with_reducible refine (alive19_N _).mono ?_); rintro e w1 ⟨rfl, b1⟩; have B1 := Lib.hid (pstep BX'.out b1); have H1 := Lib.hid (HX.out.step b1); have U1 := Lib.hid (heap_step UX.out b1); clear b1)
    | (go_at_call 18; (with_reducible refine (merge_ok _ R5 HK hk4 HOKM k HKC).mono ?_); rintro e w6 ⟨a6, c6, rfl, r6, b6⟩; rw [HCC.out, hM] at r6; have G6 := Lib.hid r6; have B6 := Lib.hid (pstep B5.out b6); have H6 := Lib.hid (H5.out.step b6); have U6 := Lib.hid (heap_step U5.out b6); have R6 := Lib.hid (R5.out.step b6); have F6 := Lib.hid (F5.out.step b6); clear r6 b6)
    | (go_at_call 18; (with_reducible refine (merge_ok _ L4 HRN h4 HOKR k HKR).mono ?_); rintro e w5 ⟨a5, c5, rfl, r5, b5⟩; rw [HCR.out, hM] at r5; have F5 := Lib.hid r5; have B5 := Lib.hid (pstep B4.out b5); have H5 := Lib.hid (H4.out.step b5); have U5 := Lib.hid (heap_step U4.out b5); have R5 := Lib.hid (R4.out.step b5); clear r5 b5)
    | (go_at_call 18; (with_reducible refine (merge_ok _ H1 hn h4 HOK k HK).mono ?_); rintro e w2 ⟨a2, c2, rfl, r2, b2⟩; have R2 := Lib.hid r2; have B2 := Lib.hid (pstep B1.out b2); have H2 := Lib.hid (H1.out.step b2); have U2 := Lib.hid (heap_step U1.out b2); clear r2 b2)
    | (go_at_call 31; (with_reducible refine (clone_S _ H2 hn hnc).mono ?_); rintro e w3 ⟨a3, c3, rfl, o3, b3⟩; have O3 := Lib.hid o3; have B3 := Lib.hid b3; have lt3 := Nat.lt_of_lt_of_le (heap_lt U2.out) (Nat.le_refl _); clear o3 b3)
    | (go_at_call 32; (with_reducible refine (reverse_S _ O3 hn).mono ?_); rintro e w4 ⟨rfl, o4, g4⟩; have L4 := Lib.hid (Shape.At.own (S := shS) o4 HRN.out); have bb := B3.out.grown g4 B3.out.size (fun j hj => (own_lt O3.out hj).1); have B4 := Lib.hid (pstep B2.out bb); have H4 := Lib.hid (H2.out.step bb); have U4 := Lib.hid (heap_step U2.out bb); have R4 := Lib.hid (R2.out.step bb); clear o4 g4 bb)
    | fail)
  rw [hM] at R6 HK HAP HQM
  have B0 := Lib.hid (Below.refl w6.heap.size w6)
  clear hM
  go_loopw [43] (fun iv wr => ∃ i : Nat, i ≤ k ∧ iv = .int .i64 i ∧ Hid (Below w6.heap.size w6 wr)) (fun iv _ => k - (intOf iv).toNat)
  case atStart => exact ⟨0, Nat.zero_le _, rfl, B0⟩
  case round =>
    clear B0
    obtain ⟨i, hik, rfl, HB⟩ := hrel
    by_cases hlt : i < k
    · obtain ⟨s, hs⟩ : ∃ s, M[i]? = some s := ⟨M[i]'(by rw [HK.out]; exact hlt), List.getElem?_eq_getElem _⟩
      have hsome := HAP.out.some s (List.mem_of_getElem? hs)
      obtain ⟨b, off, rfl, hb, e0, e1⟩ := at_sp R6.out hs
      have c0 := (HB.out.cell (p := ⟨b, off + i * 2, none⟩) hb).trans e0
      have c1 := (HB.out.cell (p := ⟨b, off + i * 2 + 1, none⟩) hb).trans e1
      have hbr : b < wr.heap.size := Nat.lt_of_lt_of_le hb HB.out.size
      obtain ⟨s1, s2⟩ := s
      simp only at c0 c1 hsome
      have d1 : decide (s1 ≥ s2) = false := decide_eq_false (by omega)
      by_cases h0 : i = 0
      · subst h0
        rw [Nat.zero_mul, Nat.add_zero] at c0 c1
        clear hs e0 e1 hsome
        go_wp2_with fail
        go_quiet (fail)
        go_wp2_with fail
        go_roundw
        case rel => exact ⟨1, by omega, by go_num, Lib.hid (below_drewN HB.out _)⟩
        case measure => simp [intOf]; omega
      · obtain ⟨j, rfl⟩ : ∃ j, i = j + 1 := ⟨i - 1, by omega⟩
        have hjk : j < k := by omega
        have hi0 : decide (((j + 1 : Nat) : Int) > 0) = true := decide_eq_true (by omega)
        have hj1 : IntKind.i64.wrap (((j + 1 : Nat) : Int) - 1) = (j : Int) := by rw [IntKind.wrap_i64]; omega
        obtain ⟨t, ht⟩ : ∃ t, M[j]? = some t := ⟨M[j]'(by rw [HK.out]; exact hjk), List.getElem?_eq_getElem _⟩
        have hlt2 : t.2 < s1 := by
          obtain ⟨g1, g2⟩ := List.getElem?_eq_some_iff.1 ht
          obtain ⟨g3, g4⟩ := List.getElem?_eq_some_iff.1 hs
          have h := List.pairwise_iff_getElem.1 HAP.out.apart j (j + 1) g1 g3 (Nat.lt_succ_self _)
          rw [g2, g4] at h
          exact h
        obtain ⟨b', off', e', _, y0, y1⟩ := at_sp R6.out ht
        cases e'
        have z1 := (HB.out.cell (p := ⟨b, off + j * 2 + 1, none⟩) hb).trans y1
        have d2 : decide (t.2 ≥ s1) = false := decide_eq_false (by omega)
        clear hs ht e0 e1 y0 y1 hsome hlt2
        go_wp2_with fail
        go_quiet (fail)
        go_wp2_with fail
        go_roundw
        case rel => exact ⟨j + 1 + 1, by omega, by go_num, Lib.hid (below_drewN HB.out _)⟩
        case measure => simp [intOf]; omega
    · have B7 := Lib.hid (pstep B6.out HB.out)
      have H7 := Lib.hid (H6.out.step HB.out)
      have U7 := Lib.hid (heap_step U6.out HB.out)
      have R7 := Lib.hid (R6.out.step HB.out)
      have F7 := Lib.hid (F6.out.step HB.out)
      have G7 := Lib.hid (G6.out.step HB.out)
      have v7 := Lib.hid (one_at U7.out)
      have l7 := heap_lt U7.out
      go_wp2_with (first
        | (go_at_call 28; (with_reducible refine (has_W block U _ v8 l8 R8 HK hkb q HQM).mono ?_); rintro e w9 ⟨rfl, b9⟩; have B9 := Lib.hid (pstep B8.out b9); have R9 := Lib.hid (R8.out.step b9); have F9 := Lib.hid (F8.out.step b9); have G9 := Lib.hid (G8.out.step b9); clear b9)
        | (go_at_call 28; (with_reducible refine (has_W block U _ v7 l7 H7 hn hnb q HQL).mono ?_); rintro e w8 ⟨rfl, b8⟩; have B8 := Lib.hid (pstep B7.out b8); have R8 := Lib.hid (R7.out.step b8); have F8 := Lib.hid (F7.out.step b8); have G8 := Lib.hid (G7.out.step b8); have v8 := Lib.hid (one_at (heap_step U7.out b8)); have l8 := heap_lt (heap_step U7.out b8); clear b8)
        | (go_at_call 20; (with_reducible refine (equalS _ HK GA RA hkb).mono ?_); rintro e wb ⟨rfl, bb⟩; have BB := Lib.hid (pstep BA.out bb); clear bb)
        | (go_at_call 20; (with_reducible refine (equalS _ HK F9 R9 hkb).mono ?_); rintro e wa ⟨rfl, ba⟩; have BA := Lib.hid (pstep B9.out ba); have RA := Lib.hid (R9.out.step ba); have GA := Lib.hid (G9.out.step ba); clear ba)
        | fail)
      go_ret
      exact ⟨rfl, BB.out⟩
theorem liftMerged_walk (v0 v1 : Value) (w : World) (g0 : ArgSpans w v0) (g1 : ArgInt w v1) :
    Calls Try.prog 8 #[v0, v1] w fun e w' => e = .returned (.bool true) ∧ Below w.heap.size w w' := by
  obtain ⟨ad, cap, l, rfl, h1, h2, _⟩ := g0
  obtain ⟨block, rfl⟩ := g1
  by_cases q : okM l
  · exact merged_ok block w (Lib.hid h1) (Lib.hid rfl) (Lib.hid q)
  · exact merged_no block w (Lib.hid h1) (Lib.hid rfl) h2 q
end Go.Proofs.Yteabdbgllafafaa
