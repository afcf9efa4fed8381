/- Facts for SoftQuiet: with nothing raised one round runs all that is pending, rising; what Compact makes of a sorted row. -/
import Derived.Test.YtnaplbkigebdiaaSofQ
import Derived.Lib.SlicesCompact
namespace Go.Proofs.Ytnaplbkigebdiaa
open Go.Lib

/-- Two rising rows with the same numbers are one. -/
theorem srt_ext : ∀ l m : List Int, l.Pairwise (· < ·) → m.Pairwise (· < ·) → (∀ x, x ∈ l ↔ x ∈ m) → l = m
  | [], [], _, _, _ => rfl
  | [], b :: m, _, _, h => absurd ((h b).2 List.mem_cons_self) (by simp)
  | a :: l, [], _, _, h => absurd ((h a).1 List.mem_cons_self) (by simp)
  | a :: l, b :: m, h1, h2, h => by
    obtain ⟨g1, g2⟩ := List.pairwise_cons.1 h1
    obtain ⟨g3, g4⟩ := List.pairwise_cons.1 h2
    have e : a = b := by
      rcases List.mem_cons.1 ((h a).1 List.mem_cons_self) with e | e
      · exact e
      · rcases List.mem_cons.1 ((h b).2 List.mem_cons_self) with e' | e'
        · exact e'.symm
        · have := g1 b e'; have := g3 a e; omega
    subst e
    congr 1
    refine srt_ext l m g2 g4 fun x => ⟨fun hx => ?_, fun hx => ?_⟩
    · rcases List.mem_cons.1 ((h x).1 (List.mem_cons_of_mem _ hx)) with e | e
      · have := g1 x hx; omega
      · exact e
    · rcases List.mem_cons.1 ((h x).2 (List.mem_cons_of_mem _ hx)) with e | e
      · have := g3 x hx; omega
      · exact e
/-- Compact of a row in order: rising, the same numbers. -/
theorem comp_up {d : Array Int} (hd : ∀ i j, i ≤ j → j < d.size → d[i]! ≤ d[j]!) : ∀ m, m ≤ d.size → (compactUpTo d m).Pairwise (· < ·) ∧ ∀ x, x ∈ compactUpTo d m ↔ ∃ j, j < m ∧ d[j]! = x
  | 0, _ => ⟨by simp [compactUpTo], fun x => by simp [compactUpTo]⟩
  | m + 1, hm => by
    obtain ⟨h1, h2⟩ := comp_up hd m (by omega)
    rw [compactUpTo_succ]
    cases hk : keeps d m with
    | true =>
      rw [if_pos rfl]
      refine ⟨List.pairwise_append.2 ⟨h1, List.pairwise_singleton _ _, fun a ha b hb => ?_⟩, fun x => ?_⟩
      · rw [List.mem_singleton.1 hb]
        obtain ⟨j, hj, rfl⟩ := (h2 a).1 ha
        have h3 := hd j (m - 1) (by omega) (by omega)
        have h4 := hd (m - 1) m (by omega) (by omega)
        have h5 : d[m]! ≠ d[m - 1]! := by
          unfold keeps at hk
          rcases of_decide_eq_true hk with h | h
          · omega
          · exact h
        omega
      · rw [List.mem_append, List.mem_singleton, h2 x]
        constructor
        · rintro (⟨j, hj, e⟩ | e)
          · exact ⟨j, by omega, e⟩
          · exact ⟨m, by omega, e.symm⟩
        · rintro ⟨j, hj, e⟩
          by_cases q : j = m
          · subst q; exact Or.inr e.symm
          · exact Or.inl ⟨j, by omega, e⟩
    | false =>
      rw [if_neg (by simp), List.append_nil]
      refine ⟨h1, fun x => ?_⟩
      rw [h2 x]
      have hk' := of_decide_eq_false hk
      have h0 : ¬ m = 0 := fun e => hk' (Or.inl e)
      have he : d[m]! = d[m - 1]! := Classical.byContradiction fun e => hk' (Or.inr e)
      constructor
      · rintro ⟨j, hj, e⟩
        exact ⟨j, by omega, e⟩
      · rintro ⟨j, hj, e⟩
        by_cases q : j = m
        · subst q; exact ⟨j - 1, by omega, by rw [← he]; exact e⟩
        · exact ⟨j, by omega, e⟩
theorem get_bang {zs : List Int} {j : Nat} (h : j < zs.length) : zs.toArray[j]! = zs[j] := by
  simp [h]
theorem comp_sorted (zs : List Int) : (Lib.compact (zs.mergeSort fun x y => decide (x ≤ y))).Pairwise (· < ·) ∧ ∀ x, x ∈ Lib.compact (zs.mergeSort fun x y => decide (x ≤ y)) ↔ x ∈ zs := by
  obtain ⟨ms, hms⟩ : ∃ ms, (zs.mergeSort fun x y => decide (x ≤ y)) = ms := ⟨_, rfl⟩
  have hp : ms.Pairwise (fun x y => decide (x ≤ y) = true) := by
    rw [← hms]
    exact List.pairwise_mergeSort (fun a b c h1 h2 => by simp only [decide_eq_true_eq] at *; omega) (fun a b => by simp only [Bool.or_eq_true, decide_eq_true_eq]; omega) zs
  have hmem : ∀ x, x ∈ ms ↔ x ∈ zs := fun x => by rw [← hms]; exact (List.mergeSort_perm zs _).mem_iff
  rw [hms]
  obtain ⟨h1, h2⟩ := comp_up (d := ms.toArray) (fun i j hij hj => by
    simp only [List.size_toArray] at hj
    rw [get_bang (by omega), get_bang hj]
    by_cases e : i = j
    · subst e; exact Int.le_refl _
    · exact of_decide_eq_true (List.pairwise_iff_getElem.1 hp i j (by omega) hj (by omega))) ms.length (by simp)
  refine ⟨h1, fun x => ?_⟩
  rw [← hmem x]
  show x ∈ compactUpTo ms.toArray ms.length ↔ _
  rw [h2 x]
  constructor
  · rintro ⟨j, hj, rfl⟩
    rw [get_bang hj]
    exact List.getElem_mem _
  · intro h
    obtain ⟨j, hj, e⟩ := List.getElem_of_mem h
    exact ⟨j, hj, by rw [get_bang hj]; exact e⟩
/-- Nothing is raised. -/
theorem rJ_nil (j s : Nat) : rJ [] j s = false := rfl
theorem scan_quiet {st : SfT} : ∀ k, (scanJ (rJ []) st k).next = st.next ∧ (scanJ (rJ []) st k).ran = st.ran ++ (List.range k).filter st.now
  | 0 => ⟨rfl, by simp [scanJ]⟩
  | k + 1 => by
    obtain ⟨h1, h2⟩ := scan_quiet (st := st) k
    rw [List.range_succ, List.filter_append]
    cases g : st.now k with
    | true =>
      rw [scan_yes g]
      refine ⟨?_, ?_⟩
      · funext x
        show ((scanJ (rJ []) st k).next x || rJ [] _ x) = _
        rw [rJ_nil, Bool.or_false, h1]
      · simp only [h2, List.append_assoc]
        simp [g]
    | false =>
      rw [scan_no g]
      exact ⟨h1, by rw [h2]; simp [g]⟩
theorem rt_nil {pd : List Int} (h : In7 pd) : RtJ pd [] := ⟨h, by simp, fun j r hr => by simp at hr⟩
theorem quiet_one {pd : List Int} : (rdJ pd [] 1).ran = (List.range 8).filter (pendJ pd) ∧ EmptyJ (rdJ pd [] 1).now := by
  rw [rd_succ]
  obtain ⟨h1, h2⟩ := scan_quiet (st := rdJ pd [] 0) 8
  refine ⟨?_, fun s _ => ?_⟩
  · simp only [h2]
    show [] ++ (List.range 8).filter (fun s => pendJ pd s || rJ [] 0 s) = _
    simp [rJ_nil]
  · simp only [h1]
    rfl
theorem quiet_run {pd : List Int} (h : In7 pd) : runJ pd [] = (List.range 8).filter (pendJ pd) := by
  rw [← run_of (rt_nil h) quiet_one.2, quiet_one.1]
theorem quiet_first {pd : List Int} (h : In7 pd) (r : Nat) : firstJ pd [] r = if r = 0 then 0 else (runJ pd []).length := by
  by_cases e : r = 0
  · subst e; rfl
  · rw [if_neg e, ← run_of (rt_nil h) quiet_one.2]
    unfold firstJ
    rw [(rd_stay quiet_one.2 (by omega : 1 ≤ r)).1]
/-- What runs is what Compact makes of what is named, sorted. -/
theorem quiet_want {pd : List Int} (h : In7 pd) : natL (runJ pd []) = Lib.compact (pd.mergeSort fun x y => decide (x ≤ y)) := by
  obtain ⟨h1, h2⟩ := comp_sorted pd
  refine srt_ext _ _ ?_ h1 fun x => ?_
  · rw [quiet_run h]
    unfold natL
    rw [List.pairwise_map]
    exact (List.Pairwise.filter _ List.pairwise_lt_range).imp fun hab => by omega
  · rw [h2 x, quiet_run h]
    unfold natL
    rw [List.mem_map]
    constructor
    · rintro ⟨s, hs, rfl⟩
      exact of_decide_eq_true (List.mem_filter.1 hs).2
    · intro hx
      have := h x hx
      exact ⟨x.toNat, List.mem_filter.2 ⟨List.mem_range.2 (by omega), decide_eq_true (by rw [Int.toNat_of_nonneg this.1]; exact hx)⟩, by omega⟩
end Go.Proofs.Ytnaplbkigebdiaa
