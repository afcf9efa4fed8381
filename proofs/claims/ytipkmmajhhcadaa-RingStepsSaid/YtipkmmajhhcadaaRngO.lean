/- Package ring's arguments: a ring, an operation, operations, a number. -/
import Derived.Test.YtipkmmajhhcadaaRngA
import Derived.Test.YtipkmmajhhcadaaArg
namespace Go.Proofs.Ytipkmmajhhcadaa
open Go.ChangeShapes Go.WideShapes Go.ChangeAt Go.RowKit Go.Deep

theorem ownP : ownKnob Try.prog.godebug = none := by kernel_rfl
theorem cellsRing : Try.prog.cellsOf 24 = 4 := by kernel_rfl
theorem cellsOp : Try.prog.cellsOf 26 = 2 := by kernel_rfl
theorem cellsCell : Try.prog.cellsOf 47 = 2 := by kernel_rfl
theorem cellsCells : Try.prog.cellsOf 22 = 1 := by kernel_rfl
theorem cellsInt : Try.prog.cellsOf 3 = 1 := by kernel_rfl
theorem cellsBool : Try.prog.cellsOf 4 = 1 := by kernel_rfl
theorem laidOutP : laidOutB Try.prog = true := by kernel_rfl
theorem readRing : Try.prog.readableRec 24 = true := by kernel_rfl
theorem readOp : Try.prog.readableRec 26 = true := by kernel_rfl
theorem readOps : Try.prog.readableRec 41 = true := by kernel_rfl
theorem readInt : Try.prog.readableRec 3 = true := by kernel_rfl
instance : Inhabited RoT := ⟨⟨0, 0⟩⟩
section
variable {H : Type} {enc : TypeId × Value → H} {W : World}
theorem op_of {base : Nat} {sp : Nat → Bool} {hd : Bool} (n : Nat) (cs : List Value) (y : DataW H × List MemPlace) (hl : cs.length = 2) (h : DataW.trod enc Try.prog W base sp hd n 26 cs = some y) : ∃ p : RoT, cs = shRo.enc p := by
  obtain ⟨c0, c1, rfl⟩ := two cs hl
  obtain ⟨xs, k, _, _, _, hx, hg⟩ := DataW.trod_struct Try.underlying26 h
  obtain ⟨y0, y1, rfl⟩ := two xs (by simpa using hx)
  have g0 := hg 0 _ rfl
  have g1 := hg 1 _ rfl
  obtain ⟨x0, e0, _⟩ := DataW.trod_int (cs := [c0]) (x := y0) Try.underlying3 (by simpa [cellsInt] using g0)
  obtain ⟨x1, e1, _⟩ := DataW.trod_int (cs := [c1]) (x := y1) Try.underlying3 (by simpa [cellsInt] using g1)
  simp only [List.cons.injEq, and_true] at e0 e1
  subst e0 e1
  exact ⟨⟨x0, x1⟩, rfl⟩
theorem cell_of {base : Nat} {sp : Nat → Bool} {hd : Bool} (n : Nat) (cs : List Value) (y : DataW H × List MemPlace) (hl : cs.length = 2) (h : DataW.trod enc Try.prog W base sp hd n 47 cs = some y) : ∃ p : CeR, cs = shCe.enc p := by
  obtain ⟨c0, c1, rfl⟩ := two cs hl
  obtain ⟨xs, k, _, _, _, hx, hg⟩ := DataW.trod_struct Try.underlying47 h
  obtain ⟨y0, y1, rfl⟩ := two xs (by simpa using hx)
  have g0 := hg 0 _ rfl
  have g1 := hg 1 _ rfl
  obtain ⟨x0, e0, _⟩ := DataW.trod_bool (cs := [c0]) (x := y0) Try.underlying4 (by simpa [cellsBool] using g0)
  obtain ⟨x1, e1, _⟩ := DataW.trod_int (cs := [c1]) (x := y1) Try.underlying3 (by simpa [cellsInt] using g1)
  simp only [List.cons.injEq, and_true] at e0 e1
  subst e0 e1
  exact ⟨(x0, x1), rfl⟩
/-- Operations. -/
def ArgRos (W : World) (v : Value) : Prop := ∃ (ad : Option Addr) (cap : Nat) (l : List RoT), v = .slice ad l.length cap ∧ shRo.At W ad cap l ∧ l.length ≤ 9223372036854775807 ∧ l.length ≤ cap
theorem arg_ros {base : Nat} {v : Value} {dt : DataW H} {p : List MemPlace} (hv : Value.okWide Try.prog W .any base 41 v) (h : DataW.Trod enc Try.prog W 0 (fun _ => true) true 41 v dt p) :
    ArgRos W v ∧ (lenOf v = 0 ∨ ∃ el sp, dt = .slice el sp ∧ el.length = lenOf v) := by
  obtain ⟨ad, len, cap, rfl⟩ := okWide_slice Try.underlying41 hv
  obtain ⟨fuel, hf⟩ := h
  have r := slice_reads shRo Try.underlying41 cellsOp (fun n cs y => op_of n cs y) hf
  exact ⟨r.ex, r.len⟩
/-- An operation. -/
def ArgRo (_ : World) (v : Value) : Prop := ∃ o : RoT, v = .agg #[.int .i64 o.k, .int .i64 o.d]
theorem arg_ro {base : Nat} {v : Value} {dt : DataW H} {p : List MemPlace} (hv : Value.okWide Try.prog W .any base 26 v) (h : DataW.Trod enc Try.prog W 0 (fun _ => true) true 26 v dt p) : ArgRo W v := by
  obtain ⟨cs, rfl, hsz⟩ := okWide_struct Try.underlying26 hv
  rw [cellsOp] at hsz
  obtain ⟨fuel, hf⟩ := h
  obtain ⟨c0, c1, hcs⟩ := two cs.toList (by simpa using hsz)
  obtain rfl : cs = #[c0, c1] := by rw [← Array.toList_inj, hcs]
  obtain ⟨o, ho⟩ := op_of (W := W) (enc := enc) fuel [c0, c1] (dt, p) rfl (by simpa [Value.cells] using hf)
  simp only [shRo, List.cons.injEq, and_true] at ho
  obtain ⟨rfl, rfl⟩ := ho
  exact ⟨o, rfl⟩
/-- A number. -/
def ArgInt (_ : World) (v : Value) : Prop := ∃ x : Int, v = .int .i64 x
theorem arg_int {base : Nat} {v : Value} {dt : DataW H} {p : List MemPlace} (hv : Value.okWide Try.prog W .any base 3 v) (h : DataW.Trod enc Try.prog W 0 (fun _ => true) true 3 v dt p) : ArgInt W v := by
  obtain ⟨a, rfl, _, _, _⟩ := open_int Try.underlying3 hv h
  exact ⟨a, rfl⟩
/-- A ring. -/
def ArgRing (W : World) (v : Value) : Prop := ∃ (ad : Option Addr) (cap : Nat) (cs : List CeR) (g t k : Int), v = .agg #[.slice ad cs.length cap, .int .i64 g, .int .i64 t, .int .i64 k] ∧ shCe.At W ad cap cs ∧ cs.length ≤ 9223372036854775807
instance : Inhabited CeR := ⟨(false, 0)⟩
theorem cells_of {base : Nat} {sp : Nat → Bool} {hd : Bool} {n : Nat} {c : Value} {y : DataW H × List MemPlace} (h : DataW.trod enc Try.prog W base sp hd n 22 [c] = some y) : ∃ (ad : Option Addr) (cap : Nat) (l : List CeR), c = .slice ad l.length cap ∧ shCe.At W ad cap l ∧ l.length ≤ 9223372036854775807 := by
  obtain ⟨ad, n', cap, rfl⟩ : ∃ ad n cap, c = .slice ad n cap := by
    rcases open_slice Try.underlying22 h with ⟨hc, _⟩ | ⟨a, l, c', m, k, D, Pl, hcs, _⟩
    · simp only [List.cons.injEq, and_true] at hc; exact ⟨_, _, _, hc⟩
    · simp only [List.cons.injEq, and_true] at hcs; exact ⟨_, _, _, hcs⟩
  obtain ⟨ad', cap', l, hv, hat, h63, _⟩ := (slice_reads shCe Try.underlying22 cellsCell (fun n cs y => cell_of n cs y) h).ex
  exact ⟨ad', cap', l, hv, hat, h63⟩
theorem arg_ring {base : Nat} {v : Value} {dt : DataW H} {p : List MemPlace} (hv : Value.okWide Try.prog W .any base 24 v) (h : DataW.Trod enc Try.prog W 0 (fun _ => true) true 24 v dt p) : ArgRing W v := by
  obtain ⟨cs, rfl, hsz⟩ := okWide_struct Try.underlying24 hv
  rw [cellsRing] at hsz
  obtain ⟨fuel, hf⟩ := h
  obtain ⟨c0, c1, c2, c3, hcs⟩ := four cs.toList (by simpa using hsz)
  obtain rfl : cs = #[c0, c1, c2, c3] := by rw [← Array.toList_inj, hcs]
  obtain ⟨xs, k, _, _, _, hx, hg⟩ := DataW.trod_struct Try.underlying24 hf
  obtain ⟨y0, y1, y2, y3, rfl⟩ := four xs (by simpa using hx)
  have g0 := hg 0 _ rfl
  have g1 := hg 1 _ rfl
  have g2 := hg 2 _ rfl
  have g3 := hg 3 _ rfl
  obtain ⟨ia, ic, inn, rfl, h1, h2⟩ := cells_of (W := W) (enc := enc) (c := c0) (y := y0) (by simpa [cellsCells, Value.cells] using g0)
  obtain ⟨x1, e1, _⟩ := DataW.trod_int (cs := [c1]) (x := y1) Try.underlying3 (by simpa [cellsInt, Value.cells] using g1)
  obtain ⟨x2, e2, _⟩ := DataW.trod_int (cs := [c2]) (x := y2) Try.underlying3 (by simpa [cellsInt, Value.cells] using g2)
  obtain ⟨x3, e3, _⟩ := DataW.trod_int (cs := [c3]) (x := y3) Try.underlying3 (by simpa [cellsInt, Value.cells] using g3)
  simp only [List.cons.injEq, and_true] at e1 e2 e3
  subst e1 e2 e3
  exact ⟨ia, ic, inn, x1, x2, x3, rfl, h1, h2⟩
/-- The reading stays. -/
theorem staysP {t : TypeId} (hr : Try.prog.readableRec t = true) (hrow : t < Try.prog.types.size) {W' : World} {v : Value} {d : DataW H} {ps : List MemPlace} (h : DataW.Trod enc Try.prog W 0 (fun _ => true) true t v d ps) (hb : Below W.heap.size W W') :
    DataW.Trod enc Try.prog W' 0 (fun b => decide (b < W.heap.size)) true t v d ps := stays_any laidOutP hr hrow h hb
end
end Go.Proofs.Ytipkmmajhhcadaa
