/- What an insertion into a row of the call's own leaves. Generic. -/
import Derived.Test.YtgnpodeneknpdaaMem
import Derived.Test.YtgnpodeneknpdaaCopy
import Derived.Lib.SliceRun
import Derived.Lib.Overlaps
import Derived.Deep.RegionLaw
namespace Go.Proofs.Ytgnpodeneknpdaa
open Go.RowKit

def InsOut {α : Type} (S : Shape α) (base T : Nat) (w : World) (v : Value) (l : List α) (n : Nat) (e : Ending) (w' : World) : Prop :=
  ∃ ra rc, e = .returned (.slice ra n rc) ∧ w'.ownsRow base T S.size (.slice ra n rc) n (S.flat l) ∧ w.grownBy w' v.ownBlock ∧ ∀ g, (Value.slice ra n rc).ownBlock = some g → v.ownBlock = some g ∨ w.heap.size ≤ g
theorem splice_len {α : Type} (a b : List α) (o : Nat) (h : o + b.length ≤ a.length) : (splice a o b).length = a.length := by
  unfold splice
  simp
  omega
/-- The row behind the two copies. -/
theorem own_cells {base T size n c g : Nat} {w : World} {C xs : List Value} (hl : xs.length = n * size) (hb : base ≤ g) (hh : w.heap[g]? = some (.cells C.toArray T (0, 0))) (hn : n ≤ c) (hc : c ≤ maxLen) (hs : C.length = c * size) (R : List Value) (e : C = xs ++ R) : w.ownsRow base T size (.slice (some ⟨g, 0, none⟩) n c) n xs :=
  ⟨hl, Or.inr ⟨g, c, C.toArray, rfl, hb, hh, hn, hc, by simpa using hs, by rw [List.toList_toArray, e, ← hl, List.take_left' rfl]⟩⟩
theorem flat_cut {α : Type} (S : Shape α) (xs vs : List α) (k : Nat) : S.flat (xs.take k ++ vs ++ xs.drop k) = S.flat (xs.take k) ++ S.flat vs ++ S.flat (xs.drop k) := by
  rw [S.flat_app, S.flat_app]
theorem lit_at {α : Type} {S : Shape α} {w : World} {vb T cap : Nat} {vs : List α} (h : w.heap[vb]? = some (.cells (S.flat vs).toArray T (0, 0))) : S.At w (some ⟨vb, 0, none⟩) cap vs := Shape.At.lit vs h
end Go.Proofs.Ytgnpodeneknpdaa
