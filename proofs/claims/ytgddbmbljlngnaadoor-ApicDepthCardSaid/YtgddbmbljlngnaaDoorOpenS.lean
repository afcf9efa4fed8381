/- A slice of operations as an argument: from its reading to numbers; a reading stays while nothing that was there turns. -/
import Derived.Test.YtgddbmbljlngnaaDoorOpenL
import Derived.Deep.SlicePairs
import Derived.WideKeyArgs
import Derived.ChangeOld
namespace Go.Proofs.YtgddbmbljlngnaaDoor
open Go.ChangeShapes Go.WideShapes Go.ChangeAt Go.RowKit Go.Deep
section
variable {H : Type} {enc : TypeId × Value → H} {W : World}

theorem open_ops {base : Nat} {v : Value} {dt : DataW H} {p : List MemPlace} (hv : Value.okWide Tryd.prog W .any base 42 v) (h : DataW.Trod enc Tryd.prog W 0 (fun _ => true) true 42 v dt p) :
    (∃ ad cap, v = .slice ad 0 cap) ∨ ∃ (b off len cap : Nat) (K N : Nat → Int), v = .slice (some ⟨b, off, none⟩) len cap ∧ b < W.heap.size ∧ len ≤ 9223372036854775807 ∧ ∀ i, i < len → W.cell? ⟨b, off + i * 2, none⟩ = some (.int .i64 (K i)) ∧ W.cell? ⟨b, off + i * 2 + 1, none⟩ = some (.int .i64 (N i)) := by
  obtain ⟨ad, len, cap, rfl⟩ := okWide_slice Tryd.underlying42 hv
  obtain ⟨fuel, hf⟩ := h
  rcases open_slice_pairs Tryd.underlying42 Tryd.underlying28 cellsOp rfl rfl cellsInt cellsInt hf with ⟨hc, _⟩ | ⟨a, l, c, m, k, V0, V1, D0, D1, P0, P1, hc, _, hl, hm, hmm, _, hall⟩
  · simp only [Value.cells, List.cons.injEq, and_true, Value.slice.injEq] at hc
    obtain ⟨rfl, rfl, rfl⟩ := hc
    exact Or.inl ⟨_, _, rfl⟩
  · simp only [Value.cells, List.cons.injEq, and_true, Value.slice.injEq] at hc
    obtain ⟨rfl, rfl, rfl⟩ := hc
    simp only [if_true] at hmm
    subst hmm
    by_cases h0 : len = 0
    · subst h0
      exact Or.inl ⟨_, _, rfl⟩
    · right
      obtain ⟨b, off, spot⟩ := a
      have hspot : spot = none := by simpa [Addr.add] using World.cell?_spot (hall 0 (by omega)).1
      subst hspot
      have hb : b < W.heap.size := by simpa [Addr.add] using block_lt_of_cell (hall 0 (by omega)).1
      refine ⟨b, off, len, m, fun i => intOf (V0 i), fun i => intOf (V1 i), rfl, hb, ?_, fun i hi => ?_⟩
      · unfold maxLen at hm
        omega
      · obtain ⟨h1, h2, h3, h4⟩ := hall i (by omega)
        obtain ⟨x, e, _, _⟩ := DataW.trod_int Tryd.underlying3 h3
        obtain ⟨y, e', _, _⟩ := DataW.trod_int Tryd.underlying3 h4
        simp only [List.cons.injEq, and_true] at e e'
        dsimp only
        rw [e, e']
        rw [e] at h1
        rw [e'] at h2
        rw [add_plain] at h1 h2
        exact ⟨h1, h2⟩
theorem laidOut : laidOutB Tryd.prog = true := by kernel_rfl
theorem readOps : Tryd.prog.readableRec 42 = true := by kernel_rfl
/-- The reading stays. -/
theorem stays {t : TypeId} (hr : Tryd.prog.readableRec t = true) (hrow : t < Tryd.prog.types.size) {W' : World} {v : Value} {d : DataW H} {ps : List MemPlace} (h : DataW.Trod enc Tryd.prog W 0 (fun _ => true) true t v d ps) (hb : Below W.heap.size W W') :
    DataW.Trod enc Tryd.prog W' 0 (fun b => decide (b < W.heap.size)) true t v d ps := by
  have hlt : ∀ p ∈ ps, p.block < W.heap.size := by
    obtain ⟨n, hn⟩ := h
    exact DataW.trod_lt n _ _ _ hn
  exact Go.WideElems.Trod_stays laidOut hr hrow h (fun p hp => hb.same (hlt p hp)) (fun p hp => by simpa using hlt p hp)
end
end Go.Proofs.YtgddbmbljlngnaaDoor
