/- Package tty's arguments: a terminal, bytes, a byte, rows of bytes, a number. -/
import Derived.Test.YtomgifdnnfbpnaaDoorTyA
import Derived.Test.YtomgifdnnfbpnaaDoorBytO
namespace Go.Proofs.YtomgifdnnfbpnaaDoor
open Go.ChangeShapes Go.WideShapes Go.ChangeAt Go.RowKit Go.Deep

theorem ownP : ownKnob Tryd.prog.godebug = none := by kernel_rfl
theorem cellsTty : Tryd.prog.cellsOf 25 = 2 := by kernel_rfl
theorem cellsLns : Tryd.prog.cellsOf 22 = 1 := by kernel_rfl
theorem laidOutP : laidOutB Tryd.prog = true := by kernel_rfl
theorem readTty : Tryd.prog.readableRec 25 = true := by kernel_rfl
theorem readBytes : Tryd.prog.readableRec 23 = true := by kernel_rfl
theorem readLns : Tryd.prog.readableRec 22 = true := by kernel_rfl
theorem readByte : Tryd.prog.readableRec 5 = true := by kernel_rfl
theorem readInt : Tryd.prog.readableRec 3 = true := by kernel_rfl
section
variable {H : Type} {enc : TypeId × Value → H} {W : World}
/-- A terminal. -/
def ArgTty (W : World) (v : Value) : Prop := ∃ (la : Option Addr) (lc : Nat) (ea : Option Addr) (ec : Nat) (s : StQ), v = .agg #[.slice la s.lines.length lc, .slice ea s.edit.length ec] ∧ LnsAt W la lc s.lines ∧ shB.At W ea ec s.edit ∧ s.lines.length ≤ 9223372036854775807 ∧ s.lines.length ≤ lc
theorem arg_tty {base : Nat} {v : Value} {dt : DataW H} {p : List MemPlace} (hv : Value.okWide Tryd.prog W .any base 25 v) (h : DataW.Trod enc Tryd.prog W 0 (fun _ => true) true 25 v dt p) : ArgTty W v := by
  obtain ⟨cs, rfl, hsz⟩ := okWide_struct Tryd.underlying25 hv
  rw [cellsTty] at hsz
  obtain ⟨fuel, hf⟩ := h
  obtain ⟨c0, c1, hcs⟩ := two cs.toList (by simpa using hsz)
  obtain rfl : cs = #[c0, c1] := by rw [← Array.toList_inj, hcs]
  obtain ⟨xs, k, _, _, _, hx, hg⟩ := DataW.trod_struct Tryd.underlying25 hf
  obtain ⟨y0, y1, rfl⟩ := two xs (by simpa using hx)
  have g0 := hg 0 _ rfl
  have g1 := hg 1 _ rfl
  obtain ⟨la, lc, ls, rfl, h1, h63⟩ := lines_of0 (W := W) (enc := enc) (c := c0) (y := y0) (by simpa [cellsLns, Value.cells] using g0)
  obtain ⟨ea, ec, ed, rfl, h2⟩ := bytes_of0 (W := W) (enc := enc) (c := c1) (y := y1) (by simpa [cellsBytes0, Value.cells] using g1)
  exact ⟨la, lc, ea, ec, ⟨ls, ed⟩, rfl, h1, h2, h63⟩
/-- A number. -/
def ArgInt (_ : World) (v : Value) : Prop := ∃ a : Int, v = .int .i64 a ∧ -9223372036854775808 ≤ a ∧ a ≤ 9223372036854775807
theorem arg_int {base : Nat} {v : Value} {dt : DataW H} {p : List MemPlace} (hv : Value.okWide Tryd.prog W .any base 3 v) (h : DataW.Trod enc Tryd.prog W 0 (fun _ => true) true 3 v dt p) : ArgInt W v := by
  obtain ⟨a, rfl, _, _, hw⟩ := open_int Tryd.underlying3 hv h
  simp only [Lit.wf, Bool.and_eq_true, decide_eq_true_eq] at hw
  exact ⟨a, rfl, hw.1, hw.2⟩
/-- The reading stays. -/
theorem staysP {t : TypeId} (hr : Tryd.prog.readableRec t = true) (hrow : t < Tryd.prog.types.size) {W' : World} {v : Value} {d : DataW H} {ps : List MemPlace} (h : DataW.Trod enc Tryd.prog W 0 (fun _ => true) true t v d ps) (hb : Below W.heap.size W W') :
    DataW.Trod enc Tryd.prog W' 0 (fun b => decide (b < W.heap.size)) true t v d ps := stays_any laidOutP hr hrow h hb
end
end Go.Proofs.YtomgifdnnfbpnaaDoor
