/- TtyWord: the walk, at all arguments. -/
import Derived.Test.YtomgifdnnfbpnaaDoorTWordA
import Derived.Test.YtomgifdnnfbpnaaDoorTWordB
namespace Go.Proofs.YtomgifdnnfbpnaaDoor
open Go.RowKit

theorem ttyWord_walk (v v1 v2 : Value) (w : World) (h : ArgBytes w v) (h1 : ArgBytes w v1) (h2 : ArgInt w v2) (u : lenOf v ≤ 140737488351232) (u1 : lenOf v1 ≤ 140737488351232) : Calls Tryd.prog 7 #[v, v1, v2] w fun e w' => e = .returned (.bool true) ∧ Below w.heap.size w w' := by
  obtain ⟨ka, kc, keys, rfl, A1, _, _⟩ := h
  obtain ⟨ma, mc, word, rfl, A2, _, _⟩ := h1
  obtain ⟨blanks, rfl, _⟩ := h2
  have n63 : keys.length ≤ 140737488351232 := u
  have m63 : word.length ≤ 140737488351232 := u1
  clear u u1
  obtain ⟨s0, hs0⟩ : ∃ s, typeQ newQ keys = s := ⟨_, rfl⟩
  have G0 : GoodQ s0 := by rw [← hs0]; exact good_typeQ good_newQ
  have key : ∀ j : Nat, ¬ word.length = 0 → word.any pW = false → ¬ s0.edit.length + word.length + j > 64 → (s0.edit = [] ∨ s0.edit.getLast? = some 32) → typeQ newQ [keys, word, List.replicate j 32, [23]].flatten = s0 := fun j h1 hx h4 he => by
    have e : [keys, word, List.replicate j 32, [23]].flatten = keys ++ word ++ List.replicate j 32 ++ [23] := by simp
    rw [e, word_Q (by rw [hs0]; exact he) (fun q => h1 (by rw [q]; rfl)) (fun b hb => ?_) (by rw [hs0]; omega), hs0]
    have h7 := List.any_eq_false.1 hx b hb
    unfold pW at h7
    simpa using h7
  by_cases h0 : 0 < s0.edit.length
  · refine word_some w (Lib.hid A1) (Lib.hid rfl) n63 (Lib.hid A2) (Lib.hid rfl) m63 blanks s0 (Lib.hid hs0) _ _ (Lib.hid rfl) (Lib.hid rfl) G0.edit G0.many h0 (Lib.hid fun j _ h1 hx _ h4 h5 => key j h1 hx h4 (Or.inr ?_))
    rw [List.getLast?_eq_getElem?]
    exact h5
  · exact word_none w (Lib.hid A1) (Lib.hid rfl) n63 (Lib.hid A2) (Lib.hid rfl) m63 blanks s0 (Lib.hid hs0) _ _ (Lib.hid rfl) (Lib.hid rfl) G0.edit G0.many (Lib.hid fun j _ h1 hx _ h4 => key j h1 hx h4 (Or.inl (List.eq_nil_of_length_eq_zero (by omega)))) h0
end Go.Proofs.YtomgifdnnfbpnaaDoor
