/- A slice of numbers as an argument: from its reading to numbers; a reading stays while nothing that was there turns. -/
import Derived.Test.YtmldedkmmhnihaaSprE
import Derived.ProofKit
import Derived.OpenShut
import Derived.Deep.SlicePairs
import Derived.WideKeyArgs
import Derived.ChangeOld
namespace Go.Proofs.Ytmldedkmmhnihaa
open Go.ChangeShapes Go.WideShapes Go.ChangeAt Go.RowKit Go.Deep

theorem ownP : ownKnob Try.prog.godebug = none := by kernel_rfl
theorem cellsInt : Try.prog.cellsOf 3 = 1 := by kernel_rfl
section
variable {H : Type} {enc : TypeId × Value → H} {W : World}
/-- What the walks are told of a slice of numbers. -/
def ArgI (W : World) (v : Value) : Prop := ∃ (ad : Option Addr) (n cap : Nat) (f : Nat → Int), v = .slice ad n cap ∧ n ≤ 9223372036854775807 ∧ IntAt W ad cap n f
/-- How long a slice is. -/
def lenOf : Value → Nat
  | .slice _ n _ => n
  | _ => 0
theorem arg_ints {base : Nat} {v : Value} {dt : DataW H} {p : List MemPlace} (hv : Value.okWide Try.prog W .any base 47 v) (h : DataW.Trod enc Try.prog W 0 (fun _ => true) true 47 v dt p) :
    ArgI W v ∧ (lenOf v = 0 ∨ ∃ el sp, dt = .slice el sp ∧ el.length = lenOf v) := by
  obtain ⟨ad, len, cap, rfl⟩ := okWide_slice Try.underlying47 hv
  obtain ⟨fuel, hf⟩ := h
  rcases open_slice Try.underlying47 hf with ⟨hc, _⟩ | ⟨a, l, c, m, k, D, Pl, hc, _, hl, hm, hmm, hxx, hall⟩
  · simp only [Value.cells, List.cons.injEq, and_true, Value.slice.injEq] at hc
    obtain ⟨rfl, rfl, rfl⟩ := hc
    exact ⟨⟨none, 0, 0, fun _ => 0, rfl, by omega, fun _ => ⟨rfl, rfl⟩, fun h => by omega⟩, Or.inl rfl⟩
  · simp only [Value.cells, List.cons.injEq, and_true, Value.slice.injEq] at hc
    obtain ⟨rfl, rfl, rfl⟩ := hc
    simp only [if_true] at hmm
    subst hmm
    by_cases h0 : len = 0
    · subst h0
      exact ⟨⟨_, 0, _, fun _ => 0, rfl, by omega, (fun h => by cases h), fun h => by omega⟩, Or.inl rfl⟩
    · have each : ∀ i, i < m → ∃ q : Int, W.cell? (a.add (i * 1)) = some (.int .i64 q) := by
        intro i hi
        obtain ⟨cs', h1, h2⟩ := hall i hi
        rw [cellsInt] at h1
        obtain ⟨_, hlen, hcell⟩ := World.cells?_some h1
        obtain ⟨c0, rfl⟩ : ∃ c0, cs' = [c0] := by
          match cs', hlen with
          | [c0], _ => exact ⟨c0, rfl⟩
        obtain ⟨x, e, _, _⟩ := DataW.trod_int Try.underlying3 h2
        simp only [List.cons.injEq, and_true] at e
        have h3 := hcell 0 (by omega)
        rw [e] at h3
        refine ⟨x, ?_⟩
        have h4 : (a.add (i * 1)).add 0 = a.add (i * 1) := by simp [Addr.add]
        rw [h4] at h3
        simpa using h3
      obtain ⟨f, hf'⟩ := choose_lt each
      obtain ⟨b, off, spot⟩ := a
      have hspot : spot = none := by simpa [Addr.add] using World.cell?_spot (hf' 0 (by omega))
      subst hspot
      have hb : b < W.heap.size := by simpa [Addr.add] using block_lt_of_cell (hf' 0 (by omega))
      refine ⟨⟨_, len, m, f, rfl, by unfold maxLen at hm; omega, (fun h => by cases h), fun _ => ⟨b, off, rfl, hb, fun i hi => ?_⟩⟩, ?_⟩
      · have := hf' i (by omega)
        rw [add_plain, Nat.mul_one] at this
        exact this
      · simp only [Prod.mk.injEq] at hxx
        exact Or.inr ⟨_, _, hxx.1, by simp [lenOf]⟩
theorem laidOutI : laidOutB Try.prog = true := by kernel_rfl
theorem readInts : Try.prog.readableRec 47 = true := by kernel_rfl
/-- The reading stays. -/
theorem staysI {t : TypeId} (hr : Try.prog.readableRec t = true) (hrow : t < Try.prog.types.size) {W' : World} {v : Value} {d : DataW H} {ps : List MemPlace} (h : DataW.Trod enc Try.prog W 0 (fun _ => true) true t v d ps) (hb : Below W.heap.size W W') :
    DataW.Trod enc Try.prog W' 0 (fun b => decide (b < W.heap.size)) true t v d ps := by
  have hlt : ∀ p ∈ ps, p.block < W.heap.size := by
    obtain ⟨n, hn⟩ := h
    exact DataW.trod_lt n _ _ _ hn
  exact Go.WideElems.Trod_stays laidOutI hr hrow h (fun p hp => hb.same (hlt p hp)) (fun p hp => by simpa using hlt p hp)
end
end Go.Proofs.Ytmldedkmmhnihaa
