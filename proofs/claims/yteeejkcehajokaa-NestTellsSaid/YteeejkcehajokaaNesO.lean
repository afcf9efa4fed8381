/- Package nest's arguments: a core, a number, a slice of numbers. -/
import Derived.Test.YteeejkcehajokaaNesF
import Derived.Test.YteeejkcehajokaaArg
namespace Go.Proofs.Yteeejkcehajokaa
open Go.ChangeShapes Go.WideShapes Go.ChangeAt Go.RowKit Go.Deep

theorem ownP : ownKnob Try.prog.godebug = none := by kernel_rfl
theorem cellsCore : Try.prog.cellsOf 24 = 2 := by kernel_rfl
theorem cellsFrame : Try.prog.cellsOf 43 = 2 := by kernel_rfl
theorem cellsInt : Try.prog.cellsOf 3 = 1 := by kernel_rfl
theorem cellsBool : Try.prog.cellsOf 4 = 1 := by kernel_rfl
theorem cellsFrames : Try.prog.cellsOf 22 = 1 := by kernel_rfl
instance : Inhabited FrT := ⟨⟨false, false⟩⟩
theorem laidOutP : laidOutB Try.prog = true := by kernel_rfl
theorem readCore : Try.prog.readableRec 24 = true := by kernel_rfl
theorem readInts : Try.prog.readableRec 25 = true := by kernel_rfl
theorem readInt : Try.prog.readableRec 3 = true := by kernel_rfl
section
variable {H : Type} {enc : TypeId × Value → H} {W : World}
theorem frame_of {base : Nat} {sp : Nat → Bool} {hd : Bool} (n : Nat) (cs : List Value) (y : DataW H × List MemPlace) (hl : cs.length = 2) (h : DataW.trod enc Try.prog W base sp hd n 43 cs = some y) : ∃ p : FrT, cs = shF.enc p := by
  obtain ⟨c0, c1, rfl⟩ := two cs hl
  obtain ⟨xs, k, _, _, _, hx, hg⟩ := DataW.trod_struct Try.underlying43 h
  obtain ⟨y0, y1, rfl⟩ := two xs (by simpa using hx)
  have g0 := hg 0 _ rfl
  have g1 := hg 1 _ rfl
  obtain ⟨x0, e0, _⟩ := DataW.trod_bool (cs := [c0]) (x := y0) Try.underlying4 (by simpa [cellsBool] using g0)
  obtain ⟨x1, e1, _⟩ := DataW.trod_bool (cs := [c1]) (x := y1) Try.underlying4 (by simpa [cellsBool] using g1)
  simp only [List.cons.injEq, and_true] at e0 e1
  subst e0 e1
  exact ⟨⟨x0, x1⟩, rfl⟩
theorem int_of {base : Nat} {sp : Nat → Bool} {hd : Bool} (n : Nat) (cs : List Value) (y : DataW H × List MemPlace) (_ : cs.length = 1) (h : DataW.trod enc Try.prog W base sp hd n 3 cs = some y) : ∃ p : Int, cs = shI.enc p := by
  obtain ⟨x0, e0, _⟩ := DataW.trod_int (cs := cs) (x := y) Try.underlying3 h
  exact ⟨x0, e0⟩
/-- A core as an argument. -/
def ArgCore (W : World) (v : Value) : Prop := ∃ (on : Bool) (ad : Option Addr) (cap : Nat) (l : List FrT), v = .agg #[.bool on, .slice ad l.length cap] ∧ shF.At W ad cap l ∧ l.length ≤ 9223372036854775807 ∧ l.length ≤ cap
theorem arg_core {base : Nat} {v : Value} {dt : DataW H} {p : List MemPlace} (hv : Value.okWide Try.prog W .any base 24 v) (h : DataW.Trod enc Try.prog W 0 (fun _ => true) true 24 v dt p) : ArgCore W v := by
  obtain ⟨cs, rfl, hsz⟩ := okWide_struct Try.underlying24 hv
  rw [cellsCore] at hsz
  obtain ⟨fuel, hf⟩ := h
  obtain ⟨c0, c1, hcs⟩ := two cs.toList (by simpa using hsz)
  obtain rfl : cs = #[c0, c1] := by rw [← Array.toList_inj, hcs]
  obtain ⟨xs, k, _, _, _, hx, hg⟩ := DataW.trod_struct Try.underlying24 hf
  obtain ⟨y0, y1, rfl⟩ := two xs (by simpa using hx)
  have g0 := hg 0 _ rfl
  have g1 := hg 1 _ rfl
  obtain ⟨x0, e0, _⟩ := DataW.trod_bool (cs := [c0]) (x := y0) Try.underlying4 (by simpa [cellsBool, Value.cells] using g0)
  simp only [List.cons.injEq, and_true] at e0
  subst e0
  have g1' : DataW.trod enc Try.prog W 0 (fun _ => true) true k 22 [c1] = some y1 := by simpa [cellsFrames, Value.cells] using g1
  obtain ⟨ad, n, cap, rfl⟩ : ∃ ad n cap, c1 = .slice ad n cap := by
    rcases open_slice Try.underlying22 g1' with ⟨hc, _⟩ | ⟨a, l, c, m, k, D, Pl, hcs, _⟩
    · simp only [List.cons.injEq, and_true] at hc; exact ⟨_, _, _, hc⟩
    · simp only [List.cons.injEq, and_true] at hcs; exact ⟨_, _, _, hcs⟩
  obtain ⟨ad', cap', l, hv, hat, hle⟩ := (slice_reads shF Try.underlying22 cellsFrame (fun n cs y => frame_of n cs y) g1').ex
  exact ⟨x0, ad', cap', l, by rw [hv], hat, hle⟩
/-- A slice of numbers. -/
def ArgKs (W : World) (v : Value) : Prop := ∃ (ad : Option Addr) (cap : Nat) (l : List Int), v = .slice ad l.length cap ∧ shI.At W ad cap l ∧ l.length ≤ 9223372036854775807 ∧ l.length ≤ cap
theorem arg_ks {base : Nat} {v : Value} {dt : DataW H} {p : List MemPlace} (hv : Value.okWide Try.prog W .any base 25 v) (h : DataW.Trod enc Try.prog W 0 (fun _ => true) true 25 v dt p) :
    ArgKs W v ∧ (lenOf v = 0 ∨ ∃ el sp, dt = .slice el sp ∧ el.length = lenOf v) := by
  obtain ⟨ad, len, cap, rfl⟩ := okWide_slice Try.underlying25 hv
  obtain ⟨fuel, hf⟩ := h
  have r := slice_reads shI Try.underlying25 cellsInt (fun n cs y => int_of n cs y) hf
  exact ⟨r.ex, r.len⟩
/-- A number. -/
def ArgInt (_ : World) (v : Value) : Prop := ∃ n : Int, v = .int .i64 n
theorem arg_int {base : Nat} {v : Value} {dt : DataW H} {p : List MemPlace} (hv : Value.okWide Try.prog W .any base 3 v) (h : DataW.Trod enc Try.prog W 0 (fun _ => true) true 3 v dt p) : ArgInt W v := by
  obtain ⟨a, rfl, _, _, _⟩ := open_int Try.underlying3 hv h
  exact ⟨a, rfl⟩
/-- The reading stays. -/
theorem staysP {t : TypeId} (hr : Try.prog.readableRec t = true) (hrow : t < Try.prog.types.size) {W' : World} {v : Value} {d : DataW H} {ps : List MemPlace} (h : DataW.Trod enc Try.prog W 0 (fun _ => true) true t v d ps) (hb : Below W.heap.size W W') :
    DataW.Trod enc Try.prog W' 0 (fun b => decide (b < W.heap.size)) true t v d ps := stays_any laidOutP hr hrow h hb
end
end Go.Proofs.Yteeejkcehajokaa
