/- Package lift's arguments: numbers, a list of numbers, a list of spans. -/
import Derived.Test.YteabdbgllafafaaSpA
import Derived.Test.YteabdbgllafafaaArg
namespace Go.Proofs.Yteabdbgllafafaa
open Go.ChangeShapes Go.WideShapes Go.ChangeAt Go.RowKit Go.Deep

theorem ownP : ownKnob Try.prog.godebug = none := by kernel_rfl
theorem cellsSpan : Try.prog.cellsOf 41 = 2 := by kernel_rfl
theorem cellsInt : Try.prog.cellsOf 3 = 1 := by kernel_rfl
theorem laidOutP : laidOutB Try.prog = true := by kernel_rfl
theorem readSpans : Try.prog.readableRec 36 = true := by kernel_rfl
theorem readInts : Try.prog.readableRec 22 = true := by kernel_rfl
theorem readInt : Try.prog.readableRec 3 = true := by kernel_rfl
instance : Inhabited SpS := ⟨(0, 0)⟩
section
variable {H : Type} {enc : TypeId × Value → H} {W : World}
theorem span_of {base : Nat} {sp : Nat → Bool} {hd : Bool} (n : Nat) (cs : List Value) (y : DataW H × List MemPlace) (hl : cs.length = 2) (h : DataW.trod enc Try.prog W base sp hd n 41 cs = some y) : ∃ p : SpS, cs = shS.enc p := by
  obtain ⟨c0, c1, rfl⟩ := two cs hl
  obtain ⟨xs, k, _, _, _, hx, hg⟩ := DataW.trod_struct Try.underlying41 h
  obtain ⟨y0, y1, rfl⟩ := two xs (by simpa using hx)
  have g0 := hg 0 _ rfl
  have g1 := hg 1 _ rfl
  obtain ⟨x0, e0, _⟩ := DataW.trod_int (cs := [c0]) (x := y0) Try.underlying3 (by simpa [cellsInt] using g0)
  obtain ⟨x1, e1, _⟩ := DataW.trod_int (cs := [c1]) (x := y1) Try.underlying3 (by simpa [cellsInt] using g1)
  simp only [List.cons.injEq, and_true] at e0 e1
  subst e0 e1
  exact ⟨(x0, x1), rfl⟩
theorem num_of {base : Nat} {sp : Nat → Bool} {hd : Bool} (n : Nat) (cs : List Value) (y : DataW H × List MemPlace) (_ : cs.length = 1) (h : DataW.trod enc Try.prog W base sp hd n 3 cs = some y) : ∃ p : Int, cs = shI.enc p := by
  obtain ⟨x0, e0, _⟩ := DataW.trod_int (cs := cs) (x := y) Try.underlying3 h
  exact ⟨x0, e0⟩
/-- Spans. -/
def ArgSpans (W : World) (v : Value) : Prop := ∃ (ad : Option Addr) (cap : Nat) (l : List SpS), v = .slice ad l.length cap ∧ shS.At W ad cap l ∧ l.length ≤ 9223372036854775807 ∧ l.length ≤ cap
theorem arg_spans {base : Nat} {v : Value} {dt : DataW H} {p : List MemPlace} (hv : Value.okWide Try.prog W .any base 36 v) (h : DataW.Trod enc Try.prog W 0 (fun _ => true) true 36 v dt p) :
    ArgSpans W v ∧ (lenOf v = 0 ∨ ∃ el sp, dt = .slice el sp ∧ el.length = lenOf v) := by
  obtain ⟨ad, len, cap, rfl⟩ := okWide_slice Try.underlying36 hv
  obtain ⟨fuel, hf⟩ := h
  have r := slice_reads shS Try.underlying36 cellsSpan (fun n cs y => span_of n cs y) hf
  exact ⟨r.ex, r.len⟩
/-- Numbers. -/
def ArgNums (W : World) (v : Value) : Prop := ∃ (ad : Option Addr) (cap : Nat) (l : List Int), v = .slice ad l.length cap ∧ shI.At W ad cap l ∧ l.length ≤ 9223372036854775807 ∧ l.length ≤ cap
theorem arg_nums {base : Nat} {v : Value} {dt : DataW H} {p : List MemPlace} (hv : Value.okWide Try.prog W .any base 22 v) (h : DataW.Trod enc Try.prog W 0 (fun _ => true) true 22 v dt p) :
    ArgNums W v ∧ (lenOf v = 0 ∨ ∃ el sp, dt = .slice el sp ∧ el.length = lenOf v) := by
  obtain ⟨ad, len, cap, rfl⟩ := okWide_slice Try.underlying22 hv
  obtain ⟨fuel, hf⟩ := h
  have r := slice_reads shI Try.underlying22 cellsInt (fun n cs y => num_of n cs y) hf
  exact ⟨r.ex, r.len⟩
/-- A number. -/
def ArgInt (_ : World) (v : Value) : Prop := ∃ x : Int, v = .int .i64 x
theorem arg_int {base : Nat} {v : Value} {dt : DataW H} {p : List MemPlace} (hv : Value.okWide Try.prog W .any base 3 v) (h : DataW.Trod enc Try.prog W 0 (fun _ => true) true 3 v dt p) : ArgInt W v := by
  obtain ⟨a, rfl, _, _, _⟩ := open_int Try.underlying3 hv h
  exact ⟨a, rfl⟩
/-- The reading stays. -/
theorem staysP {t : TypeId} (hr : Try.prog.readableRec t = true) (hrow : t < Try.prog.types.size) {W' : World} {v : Value} {d : DataW H} {ps : List MemPlace} (h : DataW.Trod enc Try.prog W 0 (fun _ => true) true t v d ps) (hb : Below W.heap.size W W') :
    DataW.Trod enc Try.prog W' 0 (fun b => decide (b < W.heap.size)) true t v d ps := stays_any laidOutP hr hrow h hb
end
end Go.Proofs.Yteabdbgllafafaa
