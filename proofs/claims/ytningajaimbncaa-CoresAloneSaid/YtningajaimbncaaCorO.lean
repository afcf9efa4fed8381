/- Package cores' arguments: threads, a number. -/
import Derived.Test.YtningajaimbncaaCorB
import Derived.Test.YtningajaimbncaaArg
namespace Go.Proofs.Ytningajaimbncaa
open Go.ChangeShapes Go.WideShapes Go.ChangeAt Go.RowKit Go.Deep

theorem ownP : ownKnob Try.prog.godebug = none := by kernel_rfl
theorem cellsTh : Try.prog.cellsOf 35 = 3 := by kernel_rfl
theorem cellsInt : Try.prog.cellsOf 3 = 1 := by kernel_rfl
theorem laidOutP : laidOutB Try.prog = true := by kernel_rfl
theorem readThs : Try.prog.readableRec 22 = true := by kernel_rfl
theorem readInt : Try.prog.readableRec 3 = true := by kernel_rfl
instance : Inhabited ThT := ⟨⟨0, 0, 0⟩⟩
section
variable {H : Type} {enc : TypeId × Value → H} {W : World}
theorem th_of {base : Nat} {sp : Nat → Bool} {hd : Bool} (n : Nat) (cs : List Value) (y : DataW H × List MemPlace) (hl : cs.length = 3) (h : DataW.trod enc Try.prog W base sp hd n 35 cs = some y) : ∃ p : ThT, cs = shT.enc p := by
  obtain ⟨c0, c1, c2, rfl⟩ := three cs hl
  obtain ⟨xs, k, _, _, _, hx, hg⟩ := DataW.trod_struct Try.underlying35 h
  obtain ⟨y0, y1, y2, rfl⟩ := three xs (by simpa using hx)
  have g0 := hg 0 _ rfl
  have g1 := hg 1 _ rfl
  have g2 := hg 2 _ rfl
  obtain ⟨x0, e0, _⟩ := DataW.trod_int (cs := [c0]) (x := y0) Try.underlying3 (by simpa [cellsInt] using g0)
  obtain ⟨x1, e1, _⟩ := DataW.trod_int (cs := [c1]) (x := y1) Try.underlying3 (by simpa [cellsInt] using g1)
  obtain ⟨x2, e2, _⟩ := DataW.trod_int (cs := [c2]) (x := y2) Try.underlying3 (by simpa [cellsInt] using g2)
  simp only [List.cons.injEq, and_true] at e0 e1 e2
  subst e0 e1 e2
  exact ⟨⟨x0, x1, x2⟩, rfl⟩
/-- A slice of threads. -/
def ArgThs (W : World) (v : Value) : Prop := ∃ (ad : Option Addr) (cap : Nat) (l : List ThT), v = .slice ad l.length cap ∧ shT.At W ad cap l ∧ l.length ≤ 9223372036854775807 ∧ l.length ≤ cap
set_option maxRecDepth 10000 in
theorem arg_ths {base : Nat} {v : Value} {dt : DataW H} {p : List MemPlace} (hv : Value.okWide Try.prog W .any base 22 v) (h : DataW.Trod enc Try.prog W 0 (fun _ => true) true 22 v dt p) :
    ArgThs W v ∧ (lenOf v = 0 ∨ ∃ el sp, dt = .slice el sp ∧ el.length = lenOf v) := by
  obtain ⟨ad, len, cap, rfl⟩ := okWide_slice Try.underlying22 hv
  obtain ⟨fuel, hf⟩ := h
  have r := slice_reads shT Try.underlying22 cellsTh (fun n cs y => th_of n cs y) hf
  exact ⟨r.ex, r.len⟩
/-- A number. -/
def ArgInt (_ : World) (v : Value) : Prop := ∃ n : Int, v = .int .i64 n
set_option maxRecDepth 10000 in
theorem arg_int {base : Nat} {v : Value} {dt : DataW H} {p : List MemPlace} (hv : Value.okWide Try.prog W .any base 3 v) (h : DataW.Trod enc Try.prog W 0 (fun _ => true) true 3 v dt p) : ArgInt W v := by
  obtain ⟨a, rfl, _⟩ := open_int Try.underlying3 hv h
  exact ⟨a, rfl⟩
/-- The reading stays. -/
theorem staysP {t : TypeId} (hr : Try.prog.readableRec t = true) (hrow : t < Try.prog.types.size) {W' : World} {v : Value} {d : DataW H} {ps : List MemPlace} (h : DataW.Trod enc Try.prog W 0 (fun _ => true) true t v d ps) (hb : Below W.heap.size W W') :
    DataW.Trod enc Try.prog W' 0 (fun b => decide (b < W.heap.size)) true t v d ps := stays_any laidOutP hr hrow h hb
end
end Go.Proofs.Ytningajaimbncaa
