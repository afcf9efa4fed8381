/- TtyErase: the walk, at all arguments. -/
import Derived.Test.YtomgifdnnfbpnaaDoorTErase
namespace Go.Proofs.YtomgifdnnfbpnaaDoor
open Go.RowKit

theorem ttyErase_walk (v v1 v2 : Value) (w : World) (h : ArgBytes w v) (h1 : ArgByte w v1) (h2 : ArgBytes w v2) (u : lenOf v ≤ 140737488351232) (u2 : lenOf v2 ≤ 140737488351232) : Calls Tryd.prog 5 #[v, v1, v2] w fun e w' => e = .returned (.bool true) ∧ Below w.heap.size w w' := by
  obtain ⟨ka, kc, keys, rfl, A1, _, _⟩ := h
  obtain ⟨b, rfl⟩ := h1
  obtain ⟨ma, mc, more, rfl, A2, _, _⟩ := h2
  have n63 : keys.length ≤ 140737488351232 := u
  have m63 : more.length ≤ 140737488351232 := u2
  clear u u2
  obtain ⟨s0, hs0⟩ : ∃ s, typeQ newQ keys = s := ⟨_, rfl⟩
  have G0 : GoodQ s0 := by rw [← hs0]; exact good_typeQ good_newQ
  have hN0 := G0.many
  have hM0 := G0.edit
  by_cases hp : plainQ b
  · have HP := Lib.hid (decide_eq_true hp)
    by_cases h64 : s0.edit.length = 64
    · exact erase_full w (Lib.hid A1) (Lib.hid rfl) n63 b s0 (Lib.hid hs0) _ _ (Lib.hid rfl) (Lib.hid rfl) HP (Lib.hid h64)
    · have hr : (typeQ newQ keys).edit.length < 64 := by rw [hs0]; omega
      obtain ⟨s1, hs1⟩ : ∃ s, typeQ newQ (keys ++ more) = s := ⟨_, rfl⟩
      have G1 : GoodQ s1 := by rw [← hs1]; exact good_typeQ good_newQ
      have e1 : [keys, [b, 8], more].flatten = keys ++ [b, 8] ++ more := by simp
      have e2 : [keys, more].flatten = keys ++ more := by simp
      have e3 : [keys, more, [21]].flatten = keys ++ more ++ [21] := by simp
      refine erase_main w (Lib.hid A1) (Lib.hid rfl) n63 b s0 (Lib.hid hs0) _ _ (Lib.hid rfl) (Lib.hid rfl) (Lib.hid A2) (Lib.hid rfl) m63 HP (by omega) s1 (Lib.hid (by rw [e1, erase_Q hp hr, hs1])) (Lib.hid (by rw [e2, hs1])) _ _ (Lib.hid rfl) (Lib.hid rfl) G1.many hN0 (Lib.hid fun h0 h6 hx => ?_)
      rw [e3, kill_Q (by rw [hs0]; exact List.eq_nil_of_length_eq_zero h0) h6 (fun x hx' => ?_), hs0]
      have h7 := List.any_eq_false.1 hx x hx'
      unfold pE at h7
      simpa using h7
  · exact erase_np w (Lib.hid A1) (Lib.hid rfl) n63 b s0 (Lib.hid hs0) _ _ (Lib.hid rfl) (Lib.hid rfl) (Lib.hid (decide_eq_false hp))
end Go.Proofs.YtomgifdnnfbpnaaDoor
