/- Package tty, in plain terms: how a word is taken back by the last place of a blank; blanks at the end, one by one. No program in sight. -/
import Derived.Test.YtomgifdnnfbpnaaDoorTtyP
import Derived.Test.YtomgifdnnfbpnaaDoorByt
import Derived.Lib.LastIndexByte
import Derived.Lib.Strings
namespace Go.Proofs.YtomgifdnnfbpnaaDoor

theorem cut_snoc (p : UInt8 → Bool) (r : List UInt8) (x : UInt8) : cutQ p (r ++ [x]) = if p x = true then cutQ p r else r ++ [x] := by
  unfold cutQ
  rw [List.reverse_append, List.reverse_singleton, List.singleton_append, List.dropWhile_cons]
  split
  · rfl
  · rw [List.reverse_cons, List.reverse_reverse]
theorem cut_nil (p : UInt8 → Bool) : cutQ p [] = [] := rfl
/-- Does it end with a blank? -/
theorem suffix_no (e : List UInt8) (h : e = [] ∨ ∃ r x, e = r ++ [x] ∧ ¬ x = 32) : Lib.hasSuffix e [32] = false := by
  unfold Lib.hasSuffix
  cases hq : ([32] : List UInt8).isSuffixOf e with
  | false => rfl
  | true =>
    have hs := List.isSuffixOf_iff_suffix.1 hq
    obtain ⟨t, ht⟩ := hs
    rcases h with rfl | ⟨r, x, rfl, hx⟩
    · simp at ht
    · have := congrArg List.getLast? ht
      simp at this
      exact absurd this.symm hx
theorem suffix_yes (r : List UInt8) : Lib.hasSuffix (r ++ [32]) [32] = true := by
  unfold Lib.hasSuffix
  exact List.isSuffixOf_iff_suffix.2 ⟨r, rfl⟩
theorem snoc_or (e : List UInt8) : e = [] ∨ ∃ r x, e = r ++ [x] := by
  rcases List.eq_nil_or_concat e with h | ⟨r, x, h⟩
  · exact Or.inl h
  · exact Or.inr ⟨r, x, by rw [h, List.concat_eq_append]⟩
theorem str_at {e : List UInt8} {j : Nat} (h : j < e.length) : (strB e).data[j]! = e[j] := by
  unfold strB
  simp [h]
theorem is_blank (x : UInt8) : ((x.toNat : Int) = 32) ↔ x = 32 := by
  constructor
  · intro h
    have h2 : x.toNat = 32 := by omega
    exact UInt8.toNat_inj.1 h2
  · rintro rfl
    rfl
/-- The word at the end goes: what is left is all up to the last blank. -/
theorem last_word (e : List UInt8) : cutQ (fun b => !decide (b = 32)) e = e.take (Lib.lastIndexByte (strB e) 32 + 1).toNat := by
  rcases Lib.lastIndexByte_spec (strB e) 32 with ⟨h, hn⟩ | ⟨i, hi, h, hc, hn⟩
  · rw [h]
    have h2 := cut_all (p := fun b => !decide (b = 32)) (a := []) (b := e) (fun x hx => by
      obtain ⟨j, hj, rfl⟩ := List.mem_iff_getElem.1 hx
      have := hn j (by rw [strB_size]; exact hj)
      rw [str_at hj] at this
      simp only [Bool.not_eq_true', decide_eq_false_iff_not]
      exact fun q => this ((is_blank _).2 q)) (Or.inl rfl)
    rw [List.nil_append] at h2
    rw [h2]
    rfl
  · rw [h]
    rw [strB_size] at hi
    rw [str_at hi] at hc
    have hx := (is_blank _).1 hc
    have ht : ((i : Int) + 1).toNat = i + 1 := by omega
    rw [ht]
    have h2 := cut_all (p := fun b => !decide (b = 32)) (a := e.take (i + 1)) (b := e.drop (i + 1)) (fun x hx => by
      obtain ⟨j, hj, rfl⟩ := List.mem_iff_getElem.1 hx
      rw [List.length_drop] at hj
      have := hn (i + 1 + j) (by omega) (by rw [strB_size]; omega)
      rw [str_at (by omega)] at this
      simp only [Bool.not_eq_true', decide_eq_false_iff_not, List.getElem_drop]
      exact fun q => this ((is_blank _).2 q)) (Or.inr ⟨32, by
        rw [List.take_add_one, List.getElem?_eq_getElem hi, hx]
        simp, rfl⟩)
    rw [List.take_append_drop] at h2
    exact h2
theorem last_rng (e : List UInt8) : -1 ≤ Lib.lastIndexByte (strB e) 32 ∧ Lib.lastIndexByte (strB e) 32 < (e.length : Int) := by
  rcases Lib.lastIndexByte_spec (strB e) 32 with ⟨h, _⟩ | ⟨i, hi, h, _, _⟩
  · rw [h]; omega
  · rw [h]; rw [strB_size] at hi; omega
end Go.Proofs.YtomgifdnnfbpnaaDoor
