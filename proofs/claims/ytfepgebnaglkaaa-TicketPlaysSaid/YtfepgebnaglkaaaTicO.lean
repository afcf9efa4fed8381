/- Locks, operations on them and numbers as arguments: from their readings to data; a reading stays while nothing that was there turns. -/
import Derived.Test.YtfepgebnaglkaaaTicE
import Derived.ProofKit
import Derived.OpenShut
import Derived.Deep.SlicePairs
import Derived.Deep.Fields
import Derived.WideKeyArgs
import Derived.ChangeOld
namespace Go.Proofs.Ytfepgebnaglkaaa
open Go.ChangeShapes Go.WideShapes Go.ChangeAt Go.RowKit Go.Deep

theorem ownP : ownKnob Try.prog.godebug = none := by kernel_rfl
theorem cellsLock : Try.prog.cellsOf 25 = 18 := by kernel_rfl
theorem cellsLop : Try.prog.cellsOf 27 = 2 := by kernel_rfl
theorem cellsInt : Try.prog.cellsOf 3 = 1 := by kernel_rfl
theorem cellsBool : Try.prog.cellsOf 4 = 1 := by kernel_rfl
theorem cellsI8 : Try.prog.cellsOf 22 = 8 := by kernel_rfl
theorem cellsB8 : Try.prog.cellsOf 23 = 8 := by kernel_rfl
theorem four {α : Type} (l : List α) (h : l.length = 4) : ∃ a b c d, l = [a, b, c, d] := by
  match l, h with
  | [a, b, c, d], _ => exact ⟨a, b, c, d, rfl⟩
theorem two {α : Type} (l : List α) (h : l.length = 2) : ∃ a b, l = [a, b] := by
  match l, h with
  | [a, b], _ => exact ⟨a, b, rfl⟩
instance : Inhabited LopT := ⟨⟨0, 0⟩⟩

section
variable {H : Type} {enc : TypeId × Value → H} {W : World}

theorem row_ints {base : Nat} {sp : Nat → Bool} {hd : Bool} {n : Nat} {cs : List Value} {y : DataW H × List MemPlace} (h : DataW.trod enc Try.prog W base sp hd n 22 cs = some y) : ∃ f : Nat → Int, ∀ i, i < 8 → cs[i]? = some (.int .i64 (f i)) := by
  obtain ⟨xs, m, _, _, hl, hx, hg⟩ := DataW.trod_array Try.underlying22 h
  rw [cellsI8] at hl
  have each : ∀ i, i < 8 → ∃ q : Int, cs[i]? = some (.int .i64 q) := fun i hi => by
    have g := hg i hi
    rw [cellsInt, Nat.mul_one, List.getElem?_eq_getElem (by omega)] at g
    obtain ⟨x, e, _⟩ := DataW.trod_int Try.underlying3 g
    refine ⟨x, ?_⟩
    have : ((cs.drop i).take 1)[0]? = some (.int .i64 x) := by rw [e]; rfl
    rw [List.getElem?_take_of_lt (by decide), List.getElem?_drop] at this
    simpa using this
  exact choose_lt each
theorem row_bools {base : Nat} {sp : Nat → Bool} {hd : Bool} {n : Nat} {cs : List Value} {y : DataW H × List MemPlace} (h : DataW.trod enc Try.prog W base sp hd n 23 cs = some y) : ∃ f : Nat → Bool, ∀ i, i < 8 → cs[i]? = some (.bool (f i)) := by
  obtain ⟨xs, m, _, _, hl, hx, hg⟩ := DataW.trod_array Try.underlying23 h
  rw [cellsB8] at hl
  have each : ∀ i, i < 8 → ∃ q : Bool, cs[i]? = some (.bool q) := fun i hi => by
    have g := hg i hi
    rw [cellsBool, Nat.mul_one, List.getElem?_eq_getElem (by omega)] at g
    obtain ⟨x, e, _⟩ := DataW.trod_bool Try.underlying4 g
    refine ⟨x, ?_⟩
    have : ((cs.drop i).take 1)[0]? = some (.bool x) := by rw [e]; rfl
    rw [List.getElem?_take_of_lt (by decide), List.getElem?_drop] at this
    simpa using this
  exact choose_lt each
/-- A lock as an argument. -/
def ArgLock (_ : World) (v : Value) : Prop := ∃ l, v = .agg (lockRow l)
theorem arg_lock {base : Nat} {v : Value} {dt : DataW H} {p : List MemPlace} (hv : Value.okWide Try.prog W .any base 25 v) (h : DataW.Trod enc Try.prog W 0 (fun _ => true) true 25 v dt p) : ArgLock W v := by
  obtain ⟨cs, rfl, hsz⟩ := okWide_struct Try.underlying25 hv
  rw [cellsLock] at hsz
  obtain ⟨fuel, hf⟩ := h
  obtain ⟨xs, n, _, _, _, hlen, hg⟩ := DataW.trod_struct Try.underlying25 hf
  obtain ⟨y0, y1, y2, y3, rfl⟩ := four xs (by simpa using hlen)
  have g0 := hg 0 _ rfl
  have g1 := hg 1 _ rfl
  have g2 := hg 2 _ rfl
  have g3 := hg 3 _ rfl
  obtain ⟨x0, e0, _⟩ := DataW.trod_int (cs := (cs.toList.drop 0).take 1) (x := y0) Try.underlying3 (by simpa [cellsInt, cellsI8, cellsB8, Value.cells] using g0)
  obtain ⟨x1, e1, _⟩ := DataW.trod_int (cs := (cs.toList.drop 1).take 1) (x := y1) Try.underlying3 (by simpa [cellsInt, cellsI8, cellsB8, Value.cells] using g1)
  obtain ⟨f, hf2⟩ := row_ints (cs := (cs.toList.drop 2).take 8) (y := y2) (by simpa [cellsInt, cellsI8, cellsB8, Value.cells] using g2)
  obtain ⟨b, hb2⟩ := row_bools (cs := (cs.toList.drop 10).take 8) (y := y3) (by simpa [cellsInt, cellsI8, cellsB8, Value.cells] using g3)
  refine ⟨⟨x0, x1, f, b⟩, ?_⟩
  congr 1
  apply Array.ext_getElem?
  intro i
  have k0 : ((cs.toList.drop 0).take 1)[0]? = some (.int .i64 x0) := by rw [e0]; rfl
  have k1 : ((cs.toList.drop 1).take 1)[0]? = some (.int .i64 x1) := by rw [e1]; rfl
  rw [List.getElem?_take_of_lt (by decide), List.getElem?_drop, Array.getElem?_toList] at k0 k1
  by_cases h0 : i = 0
  · subst h0; exact k0
  by_cases h1 : i = 1
  · subst h1; exact k1
  by_cases h2 : i < 10
  · obtain ⟨j, rfl⟩ : ∃ j, i = 2 + j := ⟨i - 2, by omega⟩
    have := hf2 j (by omega)
    rw [List.getElem?_take_of_lt (by omega), List.getElem?_drop, Array.getElem?_toList] at this
    rw [this, lockRow_mine _ (by omega)]
  by_cases h3 : i < 18
  · obtain ⟨j, rfl⟩ : ∃ j, i = 10 + j := ⟨i - 10, by omega⟩
    have := hb2 j (by omega)
    rw [List.getElem?_take_of_lt (by omega), List.getElem?_drop, Array.getElem?_toList] at this
    rw [this, lockRow_inn _ (by omega)]
  · rw [Array.getElem?_eq_none (by omega), Array.getElem?_eq_none (by rw [lockRow_size]; omega)]
/-- An operation by value. -/
def ArgLop (_ : World) (v : Value) : Prop := ∃ k c : Int, v = .agg #[.int .i64 k, .int .i64 c]
theorem lop_of {base : Nat} {sp : Nat → Bool} {hd : Bool} {n : Nat} {cs : List Value} {y : DataW H × List MemPlace} (hl : cs.length = 2) (h : DataW.trod enc Try.prog W base sp hd n 27 cs = some y) : ∃ p : LopT, cs = [.int .i64 p.kind, .int .i64 p.core] := by
  obtain ⟨c0, c1, rfl⟩ := two cs hl
  obtain ⟨xs, k, _, _, _, hx, hg⟩ := DataW.trod_struct Try.underlying27 h
  obtain ⟨y0, y1, rfl⟩ := two xs (by simpa using hx)
  have g0 := hg 0 _ rfl
  have g1 := hg 1 _ rfl
  obtain ⟨x0, e0, _, _⟩ := DataW.trod_int (cs := [c0]) (x := y0) Try.underlying3 (by simpa [cellsInt] using g0)
  obtain ⟨x1, e1, _, _⟩ := DataW.trod_int (cs := [c1]) (x := y1) Try.underlying3 (by simpa [cellsInt] using g1)
  simp only [List.cons.injEq, and_true] at e0 e1
  subst e0 e1
  exact ⟨⟨x0, x1⟩, rfl⟩
theorem arg_lop {base : Nat} {v : Value} {dt : DataW H} {p : List MemPlace} (hv : Value.okWide Try.prog W .any base 27 v) (h : DataW.Trod enc Try.prog W 0 (fun _ => true) true 27 v dt p) : ArgLop W v := by
  obtain ⟨cs, rfl, hsz⟩ := okWide_struct Try.underlying27 hv
  rw [cellsLop] at hsz
  obtain ⟨fuel, hf⟩ := h
  obtain ⟨p, e⟩ := lop_of (cs := cs.toList) (by simpa using hsz) hf
  refine ⟨p.kind, p.core, ?_⟩
  congr 1
  rw [← Array.toList_inj, e]
/-- A number. -/
def ArgInt (_ : World) (v : Value) : Prop := ∃ n : Int, v = .int .i64 n
theorem arg_int {base : Nat} {v : Value} {dt : DataW H} {p : List MemPlace} (hv : Value.okWide Try.prog W .any base 3 v) (h : DataW.Trod enc Try.prog W 0 (fun _ => true) true 3 v dt p) : ArgInt W v := by
  obtain ⟨a, rfl, _, _, _⟩ := open_int Try.underlying3 hv h
  exact ⟨a, rfl⟩
/-- How long a slice is. -/
def lenOf : Value → Nat
  | .slice _ n _ => n
  | _ => 0
/-- A slice of operations. -/
def ArgLops (W : World) (v : Value) : Prop := ∃ (ad : Option Addr) (cap : Nat) (l : List LopT), v = .slice ad l.length cap ∧ shL.At W ad cap l
theorem arg_lops {base : Nat} {v : Value} {dt : DataW H} {p : List MemPlace} (hv : Value.okWide Try.prog W .any base 36 v) (h : DataW.Trod enc Try.prog W 0 (fun _ => true) true 36 v dt p) :
    ArgLops W v ∧ (lenOf v = 0 ∨ ∃ el sp, dt = .slice el sp ∧ el.length = lenOf v) := by
  obtain ⟨ad, len, cap, rfl⟩ := okWide_slice Try.underlying36 hv
  obtain ⟨fuel, hf⟩ := h
  rcases open_slice Try.underlying36 hf with ⟨hc, _⟩ | ⟨a, l, c, m, k, D, Pl, hc, _, hl, hm, hmm, hxx, hall⟩
  · simp only [Value.cells, List.cons.injEq, and_true, Value.slice.injEq] at hc
    obtain ⟨rfl, rfl, rfl⟩ := hc
    exact ⟨⟨none, 0, [], rfl, ⟨fun _ => ⟨rfl, rfl⟩, fun h => by simp at h⟩⟩, Or.inl rfl⟩
  · simp only [Value.cells, List.cons.injEq, and_true, Value.slice.injEq] at hc
    obtain ⟨rfl, rfl, rfl⟩ := hc
    simp only [if_true] at hmm
    subst hmm
    by_cases h0 : len = 0
    · subst h0
      exact ⟨⟨_, _, [], rfl, ⟨fun h => (nomatch h), fun h => by simp at h⟩⟩, Or.inl rfl⟩
    · have each : ∀ i, i < m → ∃ q : LopT, ∀ j, j < 2 → W.cell? (a.add (i * 2 + j)) = (shL.enc q)[j]? := by
        intro i hi
        obtain ⟨cs', h1, h2⟩ := hall i hi
        rw [cellsLop] at h1
        obtain ⟨_, hlen, hcell⟩ := World.cells?_some h1
        obtain ⟨q, hq⟩ := lop_of hlen h2
        refine ⟨q, fun j hj => ?_⟩
        rw [← add_add, hcell j hj, hq]
        rfl
      obtain ⟨f, hf'⟩ := choose_lt each
      obtain ⟨b, off, spot⟩ := a
      have hc0 : W.cell? (Addr.add ⟨b, off, spot⟩ (0 * 2 + 0)) = some (.int .i64 (f 0).kind) := (hf' 0 (by omega) 0 (by decide)).trans rfl
      have hspot : spot = none := by simpa [Addr.add] using World.cell?_spot hc0
      subst hspot
      have hb : b < W.heap.size := by simpa [Addr.add] using block_lt_of_cell hc0
      refine ⟨⟨_, m, (List.range len).map f, by simp, ⟨fun h => by simp at h, fun _ => ⟨b, off, rfl, hb, fun i hi => ?_⟩⟩⟩, ?_⟩
      · have hs : shL.size = 2 := rfl
        rw [hs] at hi
        simp at hi
        have hj : ((List.range len).map f)[i / 2]? = some (f (i / 2)) := by
          rw [List.getElem?_map, List.getElem?_range (by omega)]
          rfl
        have hfl := shL.flat_at _ (i / 2) (i % 2) _ hj (Nat.mod_lt _ (by decide))
        rw [hs, show i / 2 * 2 + i % 2 = i by omega] at hfl
        have := hf' (i / 2) (by omega) (i % 2) (Nat.mod_lt _ (by decide))
        rw [add_plain, show i / 2 * 2 + i % 2 = i by omega] at this
        rw [hfl]
        exact this
      · simp only [Prod.mk.injEq] at hxx
        exact Or.inr ⟨_, _, hxx.1, by simp [lenOf]⟩
theorem laidOutP : laidOutB Try.prog = true := by kernel_rfl
theorem readLock : Try.prog.readableRec 25 = true := by kernel_rfl
theorem readLop : Try.prog.readableRec 27 = true := by kernel_rfl
theorem readLops : Try.prog.readableRec 36 = true := by kernel_rfl
theorem readInt : Try.prog.readableRec 3 = true := by kernel_rfl
/-- The reading stays. -/
theorem staysP {t : TypeId} (hr : Try.prog.readableRec t = true) (hrow : t < Try.prog.types.size) {W' : World} {v : Value} {d : DataW H} {ps : List MemPlace} (h : DataW.Trod enc Try.prog W 0 (fun _ => true) true t v d ps) (hb : Below W.heap.size W W') :
    DataW.Trod enc Try.prog W' 0 (fun b => decide (b < W.heap.size)) true t v d ps := by
  have hlt : ∀ p ∈ ps, p.block < W.heap.size := by
    obtain ⟨n, hn⟩ := h
    exact DataW.trod_lt n _ _ _ hn
  exact Go.WideElems.Trod_stays laidOutP hr hrow h (fun p hp => hb.same (hlt p hp)) (fun p hp => by simpa using hlt p hp)
end
end Go.Proofs.Ytfepgebnaglkaaa
