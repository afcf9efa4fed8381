/- Package runq's arguments: operations, numbers, a number; that each number is one of 64 bits is kept. -/
import Derived.Test.YtgnpodeneknpdaaRqA
import Derived.Test.YtgnpodeneknpdaaArg
namespace Go.Proofs.Ytgnpodeneknpdaa
open Go.ChangeShapes Go.WideShapes Go.ChangeAt Go.RowKit Go.Deep

theorem ownP : ownKnob Try.prog.godebug = none := by kernel_rfl
theorem cellsRu : Try.prog.cellsOf 34 = 3 := by kernel_rfl
theorem cellsInt : Try.prog.cellsOf 3 = 1 := by kernel_rfl
theorem laidOutP : laidOutB Try.prog = true := by kernel_rfl
theorem readInts : Try.prog.readableRec 24 = true := by kernel_rfl
theorem readRus : Try.prog.readableRec 22 = true := by kernel_rfl
theorem readInt : Try.prog.readableRec 3 = true := by kernel_rfl
/-- Operations whose Ids are numbers of 64 bits; such numbers. -/
abbrev RuW := {o : RuT // WfI o.i}
abbrev IntW := {x : Int // WfI x}
def shRw : Shape RuW := ⟨3, fun r => [.int .i64 r.1.k, .int .i64 r.1.i, .int .i64 r.1.l], fun _ => rfl, fun _ u hu => by simp at hu; rcases hu with rfl | rfl | rfl <;> rfl, by decide⟩
def shIw : Shape IntW := ⟨1, fun x => [.int .i64 x.1], fun _ => rfl, fun _ u hu => by simp at hu; subst hu; rfl, by decide⟩
instance : Inhabited RuW := ⟨⟨⟨0, 0, 0⟩, by unfold WfI; decide⟩⟩
instance : Inhabited IntW := ⟨⟨0, by unfold WfI; decide⟩⟩
theorem flat_rw (l : List RuW) : shR.flat (l.map (·.1)) = shRw.flat l := by
  unfold Shape.flat
  rw [List.flatMap_map]
  rfl
theorem flat_iw (l : List IntW) : shI.flat (l.map (·.1)) = shIw.flat l := by
  unfold Shape.flat
  rw [List.flatMap_map]
  rfl
theorem at_rw {w : World} {ad : Option Addr} {cap : Nat} {l : List RuW} (h : shRw.At w ad cap l) : shR.At w ad cap (l.map (·.1)) := by
  refine ⟨fun e => ?_, fun h0 => ?_⟩
  · obtain ⟨h1, h2⟩ := h.1 e
    exact ⟨h1, by rw [h2]; rfl⟩
  · rw [List.length_map] at h0
    obtain ⟨b, off, e, hb, hc⟩ := h.2 h0
    refine ⟨b, off, e, hb, fun k hk => ?_⟩
    rw [List.length_map] at hk
    rw [flat_rw]
    exact hc k hk
theorem at_iw {w : World} {ad : Option Addr} {cap : Nat} {l : List IntW} (h : shIw.At w ad cap l) : shI.At w ad cap (l.map (·.1)) := by
  refine ⟨fun e => ?_, fun h0 => ?_⟩
  · obtain ⟨h1, h2⟩ := h.1 e
    exact ⟨h1, by rw [h2]; rfl⟩
  · rw [List.length_map] at h0
    obtain ⟨b, off, e, hb, hc⟩ := h.2 h0
    refine ⟨b, off, e, hb, fun k hk => ?_⟩
    rw [List.length_map] at hk
    rw [flat_iw]
    exact hc k hk
section
variable {H : Type} {enc : TypeId × Value → H} {W : World}
theorem int_of {base : Nat} {sp : Nat → Bool} {hd : Bool} (n : Nat) (cs : List Value) (y : DataW H × List MemPlace) (_ : cs.length = 1) (h : DataW.trod enc Try.prog W base sp hd n 3 cs = some y) : ∃ z : IntW, cs = shIw.enc z := by
  obtain ⟨x, e, _, hw⟩ := DataW.trod_int Try.underlying3 h
  exact ⟨⟨x, hw⟩, e⟩
theorem ru_of {base : Nat} {sp : Nat → Bool} {hd : Bool} (n : Nat) (cs : List Value) (y : DataW H × List MemPlace) (hl : cs.length = 3) (h : DataW.trod enc Try.prog W base sp hd n 34 cs = some y) : ∃ p : RuW, cs = shRw.enc p := by
  obtain ⟨c0, c1, c2, rfl⟩ := three cs hl
  obtain ⟨xs, k, _, _, _, hx, hg⟩ := DataW.trod_struct Try.underlying34 h
  obtain ⟨y0, y1, y2, rfl⟩ := three xs (by simpa using hx)
  have g0 := hg 0 _ rfl
  have g1 := hg 1 _ rfl
  have g2 := hg 2 _ rfl
  obtain ⟨x0, e0, _⟩ := DataW.trod_int (cs := [c0]) (x := y0) Try.underlying3 (by simpa [cellsInt] using g0)
  obtain ⟨x1, e1, _, hw⟩ := DataW.trod_int (cs := [c1]) (x := y1) Try.underlying3 (by simpa [cellsInt] using g1)
  obtain ⟨x2, e2, _⟩ := DataW.trod_int (cs := [c2]) (x := y2) Try.underlying3 (by simpa [cellsInt] using g2)
  simp only [List.cons.injEq, and_true] at e0 e1 e2
  subst e0 e1 e2
  exact ⟨⟨⟨x0, x1, x2⟩, hw⟩, rfl⟩
/-- A slice of operations. -/
def ArgRus (W : World) (v : Value) : Prop := ∃ (ad : Option Addr) (cap : Nat) (l : List RuT), v = .slice ad l.length cap ∧ shR.At W ad cap l ∧ (∀ o ∈ l, WfI o.i) ∧ l.length ≤ 9223372036854775807 ∧ l.length ≤ cap
set_option maxRecDepth 10000 in
theorem arg_rus {base : Nat} {v : Value} {dt : DataW H} {p : List MemPlace} (hv : Value.okWide Try.prog W .any base 22 v) (h : DataW.Trod enc Try.prog W 0 (fun _ => true) true 22 v dt p) :
    ArgRus W v ∧ (lenOf v = 0 ∨ ∃ el sp, dt = .slice el sp ∧ el.length = lenOf v) := by
  obtain ⟨ad, len, cap, rfl⟩ := okWide_slice Try.underlying22 hv
  obtain ⟨fuel, hf⟩ := h
  have r := slice_reads shRw Try.underlying22 cellsRu (fun n cs y => ru_of n cs y) hf
  obtain ⟨ad', cap', l, h1, h2, h3, h4⟩ := r.ex
  refine ⟨⟨ad', cap', l.map (·.1), by rw [List.length_map]; exact h1, at_rw h2, fun o ho => ?_, by rw [List.length_map]; exact h3, by rw [List.length_map]; exact h4⟩, r.len⟩
  obtain ⟨q, _, rfl⟩ := List.mem_map.1 ho
  exact q.2
/-- A slice of numbers. -/
def ArgIds (W : World) (v : Value) : Prop := ∃ (ad : Option Addr) (cap : Nat) (l : List Int), v = .slice ad l.length cap ∧ shI.At W ad cap l ∧ (∀ x ∈ l, WfI x) ∧ l.length ≤ 9223372036854775807 ∧ l.length ≤ cap
set_option maxRecDepth 10000 in
theorem arg_ids {base : Nat} {v : Value} {dt : DataW H} {p : List MemPlace} (hv : Value.okWide Try.prog W .any base 24 v) (h : DataW.Trod enc Try.prog W 0 (fun _ => true) true 24 v dt p) :
    ArgIds W v ∧ (lenOf v = 0 ∨ ∃ el sp, dt = .slice el sp ∧ el.length = lenOf v) := by
  obtain ⟨ad, len, cap, rfl⟩ := okWide_slice Try.underlying24 hv
  obtain ⟨fuel, hf⟩ := h
  have r := slice_reads shIw Try.underlying24 cellsInt (fun n cs y => int_of n cs y) hf
  obtain ⟨ad', cap', l, h1, h2, h3, h4⟩ := r.ex
  refine ⟨⟨ad', cap', l.map (·.1), by rw [List.length_map]; exact h1, at_iw h2, fun o ho => ?_, by rw [List.length_map]; exact h3, by rw [List.length_map]; exact h4⟩, r.len⟩
  obtain ⟨q, _, rfl⟩ := List.mem_map.1 ho
  exact q.2
/-- A number. -/
def ArgInt (_ : World) (v : Value) : Prop := ∃ n : Int, v = .int .i64 n ∧ WfI n
set_option maxRecDepth 10000 in
theorem arg_int {base : Nat} {v : Value} {dt : DataW H} {p : List MemPlace} (hv : Value.okWide Try.prog W .any base 3 v) (h : DataW.Trod enc Try.prog W 0 (fun _ => true) true 3 v dt p) : ArgInt W v := by
  have h0 := h
  obtain ⟨a, rfl, _, _, _⟩ := open_int Try.underlying3 hv h
  obtain ⟨fuel, hf⟩ := h0
  obtain ⟨z, hz⟩ := int_of fuel _ _ rfl hf
  have e : a = z.1 := by
    have h2 : [Value.int .i64 a] = [Value.int .i64 z.1] := hz
    simpa using h2
  exact ⟨a, rfl, by rw [e]; exact z.2⟩
/-- The reading stays. -/
theorem staysP {t : TypeId} (hr : Try.prog.readableRec t = true) (hrow : t < Try.prog.types.size) {W' : World} {v : Value} {d : DataW H} {ps : List MemPlace} (h : DataW.Trod enc Try.prog W 0 (fun _ => true) true t v d ps) (hb : Below W.heap.size W W') :
    DataW.Trod enc Try.prog W' 0 (fun b => decide (b < W.heap.size)) true t v d ps := stays_any laidOutP hr hrow h hb
end
end Go.Proofs.Ytgnpodeneknpdaa
