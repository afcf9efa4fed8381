/- VectorEven in the words of its arguments. -/
import Derived.Test.YtmjcicpmkmagfaaDoorVEven
import Derived.Test.YtmjcicpmkmagfaaDoorVecO
namespace Go.Proofs.YtmjcicpmkmagfaaDoor
open Go.RowKit
theorem vectorEven_walk (C N : Int) (W : World) (hT : Tab W) :
    Calls Tryd.prog 6 #[.int .i64 C, .int .i64 N] W fun e w' => e = .returned (.bool true) ∧ Below W.heap.size W w' := by
  by_cases hb : C < 1 ∨ (¬ C < 1 ∧ 8 < C) ∨ (¬ C < 1 ∧ ¬ 8 < C ∧ N < 0) ∨ (¬ C < 1 ∧ ¬ 8 < C ∧ ¬ N < 0 ∧ 224 * C < N)
  · exact veven_off W (Lib.hid hT) C N hb
  obtain ⟨c, rfl⟩ : ∃ c : Nat, C = c := ⟨C.toNat, by omega⟩
  obtain ⟨n, rfl⟩ : ∃ n : Nat, N = n := ⟨N.toNat, by omega⟩
  obtain ⟨⟨l, es⟩, hr⟩ : ∃ r, runV c n (evO n) = r := ⟨_, rfl⟩
  exact veven_main W (Lib.hid hT) c n (by omega) (by omega) (by omega) l es (Lib.hid hr)
end Go.Proofs.YtmjcicpmkmagfaaDoor
