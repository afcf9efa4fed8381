/- Arguments: a slice of whatever lies in a fixed number of cells reads as a list; a reading stays while nothing that was there turns. No function of the project in sight. -/
import Derived.Test.YteabdbgllafafaaMem
import Derived.ProofKit
import Derived.OpenShut
import Derived.Deep.SlicePairs
import Derived.Deep.Fields
import Derived.WideKeyArgs
import Derived.ChangeOld
namespace Go.Proofs.Yteabdbgllafafaa
open Go.ChangeShapes Go.WideShapes Go.ChangeAt Go.RowKit Go.Deep

theorem four {α : Type} (l : List α) (h : l.length = 4) : ∃ a b c d, l = [a, b, c, d] := by
  match l, h with
  | [a, b, c, d], _ => exact ⟨a, b, c, d, rfl⟩
theorem three {α : Type} (l : List α) (h : l.length = 3) : ∃ a b c, l = [a, b, c] := by
  match l, h with
  | [a, b, c], _ => exact ⟨a, b, c, rfl⟩
theorem two {α : Type} (l : List α) (h : l.length = 2) : ∃ a b, l = [a, b] := by
  match l, h with
  | [a, b], _ => exact ⟨a, b, rfl⟩
/-- How long a slice is. -/
def lenOf : Value → Nat
  | .slice _ n _ => n
  | _ => 0
section
variable {P : Program} {H : Type} {enc : TypeId × Value → H} {W : World}
/-- What a slice is read as. -/
structure Reads {α : Type} (S : Shape α) (W : World) (v : Value) (x : DataW H) : Prop where
  ex : ∃ (ad : Option Addr) (cap : Nat) (l : List α), v = .slice ad l.length cap ∧ S.At W ad cap l ∧ l.length ≤ 9223372036854775807 ∧ l.length ≤ cap
  len : lenOf v = 0 ∨ ∃ el sp, x = .slice el sp ∧ el.length = lenOf v
theorem slice_reads {α : Type} [Inhabited α] (S : Shape α) {base : Nat} {sp : Nat → Bool} {hd : Bool} {t e : TypeId} {fuel : Nat} {ad : Option Addr} {len cap : Nat} {x : DataW H × List MemPlace} (ht : P.underlying t = some (.slice e)) (hc : P.cellsOf e = S.size)
    (each : ∀ (n : Nat) (cs : List Value) (y : DataW H × List MemPlace), cs.length = S.size → DataW.trod enc P W base sp hd n e cs = some y → ∃ a, cs = S.enc a)
    (h : DataW.trod enc P W base sp hd fuel t [.slice ad len cap] = some x) : Reads S W (.slice ad len cap) x.1 := by
  rcases open_slice ht h with ⟨hc, _⟩ | ⟨a, l, c, m, k, D, Pl, hcs, _, hl, hm, hmm, hxx, hall⟩
  · simp only [List.cons.injEq, and_true, Value.slice.injEq] at hc
    obtain ⟨rfl, rfl, rfl⟩ := hc
    exact ⟨⟨none, 0, [], rfl, Shape.At.nil W, by simp, by simp⟩, Or.inl rfl⟩
  · simp only [List.cons.injEq, and_true, Value.slice.injEq] at hcs
    obtain ⟨rfl, rfl, rfl⟩ := hcs
    have hlm : len ≤ m := by rw [hmm]; split <;> omega
    have hlen : lenOf (.slice (some a) len cap) = 0 ∨ ∃ el sp, x.1 = .slice el sp ∧ el.length = lenOf (.slice (some a) len cap) := Or.inr ⟨_, _, by rw [hxx], by simp [lenOf]⟩
    by_cases h0 : len = 0
    · subst h0
      exact ⟨⟨_, _, [], rfl, ⟨fun h => (by cases h), fun h => by simp at h⟩, by simp, by simp⟩, hlen⟩
    · have hpos := S.pos
      have each : ∀ i, i < m → ∃ q : α, ∀ j, j < S.size → W.cell? (a.add (i * S.size + j)) = (S.enc q)[j]? := by
        intro i hi
        obtain ⟨cs', h1, h2⟩ := hall i hi
        rw [hc] at h1
        obtain ⟨_, hlen, hcell⟩ := World.cells?_some h1
        obtain ⟨q, hq⟩ := each _ _ _ hlen h2
        refine ⟨q, fun j hj => ?_⟩
        rw [← add_add, hcell j hj, hq]
      obtain ⟨f, hf'⟩ := choose_lt each
      obtain ⟨b, off, spot⟩ := a
      have hz : ∃ u, (S.enc (f 0))[0]? = some u := ⟨_, List.getElem?_eq_getElem (by rw [S.len]; exact hpos)⟩
      obtain ⟨u, hu⟩ := hz
      have hc0 : W.cell? (Addr.add ⟨b, off, spot⟩ (0 * S.size + 0)) = some u := (hf' 0 (by omega) 0 hpos).trans hu
      have hspot : spot = none := by simpa [Addr.add] using World.cell?_spot hc0
      subst hspot
      have hb : b < W.heap.size := by simpa [Addr.add] using block_lt_of_cell hc0
      refine ⟨⟨_, cap, (List.range len).map f, by simp, ⟨fun h => by simp at h, fun _ => ⟨b, off, rfl, hb, fun i hi => ?_⟩⟩, by simp; unfold maxLen at hm; omega, by simp; exact hl⟩, hlen⟩
      simp only [List.length_map, List.length_range] at hi
      have hi2 : i / S.size < len := Nat.div_lt_of_lt_mul (by rw [Nat.mul_comm]; exact hi)
      have hj : ((List.range len).map f)[i / S.size]? = some (f (i / S.size)) := by
        rw [List.getElem?_map, List.getElem?_range hi2]
        rfl
      have hfl := S.flat_at _ (i / S.size) (i % S.size) _ hj (Nat.mod_lt _ hpos)
      have he : i / S.size * S.size + i % S.size = i := by rw [Nat.mul_comm]; exact Nat.div_add_mod i S.size
      rw [he] at hfl
      have := hf' (i / S.size) (by omega) (i % S.size) (Nat.mod_lt _ hpos)
      rw [add_plain, he] at this
      rw [hfl]
      exact this
/-- The reading stays. -/
theorem stays_any (hl : laidOutB P = true) {t : TypeId} (hr : P.readableRec t = true) (hrow : t < P.types.size) {W' : World} {v : Value} {d : DataW H} {ps : List MemPlace} (h : DataW.Trod enc P W 0 (fun _ => true) true t v d ps) (hb : Below W.heap.size W W') :
    DataW.Trod enc P W' 0 (fun b => decide (b < W.heap.size)) true t v d ps := by
  have hlt : ∀ p ∈ ps, p.block < W.heap.size := by
    obtain ⟨n, hn⟩ := h
    exact DataW.trod_lt n _ _ _ hn
  exact Go.WideElems.Trod_stays hl hr hrow h (fun p hp => hb.same (hlt p hp)) (fun p hp => by simpa using hlt p hp)
end
end Go.Proofs.Yteabdbgllafafaa
