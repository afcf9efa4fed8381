/- Package uart's arguments: a device, an operation, operations. -/
import Derived.Test.YtalcfbdnnlapnaaUarA
import Derived.Test.YtalcfbdnnlapnaaArg
namespace Go.Proofs.Ytalcfbdnnlapnaa
open Go.ChangeShapes Go.WideShapes Go.ChangeAt Go.RowKit Go.Deep

theorem ownP : ownKnob Try.prog.godebug = none := by kernel_rfl
theorem cellsDev : Try.prog.cellsOf 24 = 4 := by kernel_rfl
theorem cellsOp : Try.prog.cellsOf 26 = 2 := by kernel_rfl
theorem cellsByte : Try.prog.cellsOf 5 = 1 := by kernel_rfl
theorem cellsBytes : Try.prog.cellsOf 22 = 1 := by kernel_rfl
theorem cellsInt : Try.prog.cellsOf 3 = 1 := by kernel_rfl
theorem cellsBool : Try.prog.cellsOf 4 = 1 := by kernel_rfl
theorem laidOutP : laidOutB Try.prog = true := by kernel_rfl
theorem readDev : Try.prog.readableRec 24 = true := by kernel_rfl
theorem readOp : Try.prog.readableRec 26 = true := by kernel_rfl
theorem readOps : Try.prog.readableRec 33 = true := by kernel_rfl
instance : Inhabited UaT := ⟨⟨0, 0⟩⟩
theorem byte_val {n : Int} (h : (Lit.int .u8 n).wf = true) : ∃ b : UInt8, n = ub b := by
  have h1 : 0 ≤ n ∧ n ≤ 255 := by
    simp only [Lit.wf, Bool.and_eq_true, decide_eq_true_eq] at h
    exact h
  refine ⟨UInt8.ofNat n.toNat, ?_⟩
  unfold ub
  rw [UInt8.toNat_ofNat']
  omega
section
variable {H : Type} {enc : TypeId × Value → H} {W : World}
theorem byte_of {base : Nat} {sp : Nat → Bool} {hd : Bool} (n : Nat) (cs : List Value) (y : DataW H × List MemPlace) (_ : cs.length = 1) (h : DataW.trod enc Try.prog W base sp hd n 5 cs = some y) : ∃ b : UInt8, cs = shB.enc b := by
  obtain ⟨x0, e0, _, hw⟩ := DataW.trod_int (cs := cs) (x := y) Try.underlying5 h
  obtain ⟨b, rfl⟩ := byte_val hw
  exact ⟨b, e0⟩
theorem op_of {base : Nat} {sp : Nat → Bool} {hd : Bool} (n : Nat) (cs : List Value) (y : DataW H × List MemPlace) (hl : cs.length = 2) (h : DataW.trod enc Try.prog W base sp hd n 26 cs = some y) : ∃ p : UaT, cs = shO.enc p := by
  obtain ⟨c0, c1, rfl⟩ := two cs hl
  obtain ⟨xs, k, _, _, _, hx, hg⟩ := DataW.trod_struct Try.underlying26 h
  obtain ⟨y0, y1, rfl⟩ := two xs (by simpa using hx)
  have g0 := hg 0 _ rfl
  have g1 := hg 1 _ rfl
  obtain ⟨x0, e0, _⟩ := DataW.trod_int (cs := [c0]) (x := y0) Try.underlying3 (by simpa [cellsInt] using g0)
  obtain ⟨b, e1⟩ := byte_of (W := W) (enc := enc) _ [c1] y1 rfl (by simpa [cellsByte] using g1)
  simp only [List.cons.injEq, and_true] at e0
  subst e0
  exact ⟨⟨x0, b⟩, by rw [show shO.enc ⟨x0, b⟩ = .int .i64 x0 :: shB.enc b from rfl, ← e1]⟩
/-- Operations. -/
def ArgUos (W : World) (v : Value) : Prop := ∃ (ad : Option Addr) (cap : Nat) (l : List UaT), v = .slice ad l.length cap ∧ shO.At W ad cap l ∧ l.length ≤ 9223372036854775807 ∧ l.length ≤ cap
theorem arg_uos {base : Nat} {v : Value} {dt : DataW H} {p : List MemPlace} (hv : Value.okWide Try.prog W .any base 33 v) (h : DataW.Trod enc Try.prog W 0 (fun _ => true) true 33 v dt p) :
    ArgUos W v ∧ (lenOf v = 0 ∨ ∃ el sp, dt = .slice el sp ∧ el.length = lenOf v) := by
  obtain ⟨ad, len, cap, rfl⟩ := okWide_slice Try.underlying33 hv
  obtain ⟨fuel, hf⟩ := h
  have r := slice_reads shO Try.underlying33 cellsOp (fun n cs y => op_of n cs y) hf
  exact ⟨r.ex, r.len⟩
/-- An operation. -/
def ArgUo (_ : World) (v : Value) : Prop := ∃ o : UaT, v = .agg #[.int .i64 o.k, .int .u8 (ub o.b)]
theorem arg_uo {base : Nat} {v : Value} {dt : DataW H} {p : List MemPlace} (hv : Value.okWide Try.prog W .any base 26 v) (h : DataW.Trod enc Try.prog W 0 (fun _ => true) true 26 v dt p) : ArgUo W v := by
  obtain ⟨cs, rfl, hsz⟩ := okWide_struct Try.underlying26 hv
  rw [cellsOp] at hsz
  obtain ⟨fuel, hf⟩ := h
  obtain ⟨c0, c1, hcs⟩ := two cs.toList (by simpa using hsz)
  obtain rfl : cs = #[c0, c1] := by rw [← Array.toList_inj, hcs]
  obtain ⟨o, ho⟩ := op_of (W := W) (enc := enc) fuel [c0, c1] (dt, p) rfl (by simpa [Value.cells] using hf)
  simp only [shO, List.cons.injEq, and_true] at ho
  obtain ⟨rfl, rfl⟩ := ho
  exact ⟨o, rfl⟩
/-- A device. -/
def ArgDev (W : World) (v : Value) : Prop := ∃ (ia : Option Addr) (ic : Nat) (oa : Option Addr) (oc : Nat) (inn out : List UInt8) (lost : Int) (asks : Bool), v = .agg #[.slice ia inn.length ic, .slice oa out.length oc, .int .i64 lost, .bool asks] ∧ shB.At W ia ic inn ∧ shB.At W oa oc out
theorem bytes_of {base : Nat} {sp : Nat → Bool} {hd : Bool} {n : Nat} {c : Value} {y : DataW H × List MemPlace} (h : DataW.trod enc Try.prog W base sp hd n 22 [c] = some y) : ∃ (ad : Option Addr) (cap : Nat) (l : List UInt8), c = .slice ad l.length cap ∧ shB.At W ad cap l := by
  obtain ⟨ad, n', cap, rfl⟩ : ∃ ad n cap, c = .slice ad n cap := by
    rcases open_slice Try.underlying22 h with ⟨hc, _⟩ | ⟨a, l, c', m, k, D, Pl, hcs, _⟩
    · simp only [List.cons.injEq, and_true] at hc; exact ⟨_, _, _, hc⟩
    · simp only [List.cons.injEq, and_true] at hcs; exact ⟨_, _, _, hcs⟩
  obtain ⟨ad', cap', l, hv, hat, _⟩ := (slice_reads shB Try.underlying22 cellsByte (fun n cs y => byte_of n cs y) h).ex
  exact ⟨ad', cap', l, hv, hat⟩
theorem arg_dev {base : Nat} {v : Value} {dt : DataW H} {p : List MemPlace} (hv : Value.okWide Try.prog W .any base 24 v) (h : DataW.Trod enc Try.prog W 0 (fun _ => true) true 24 v dt p) : ArgDev W v := by
  obtain ⟨cs, rfl, hsz⟩ := okWide_struct Try.underlying24 hv
  rw [cellsDev] at hsz
  obtain ⟨fuel, hf⟩ := h
  obtain ⟨c0, c1, c2, c3, hcs⟩ := four cs.toList (by simpa using hsz)
  obtain rfl : cs = #[c0, c1, c2, c3] := by rw [← Array.toList_inj, hcs]
  obtain ⟨xs, k, _, _, _, hx, hg⟩ := DataW.trod_struct Try.underlying24 hf
  obtain ⟨y0, y1, y2, y3, rfl⟩ := four xs (by simpa using hx)
  have g0 := hg 0 _ rfl
  have g1 := hg 1 _ rfl
  have g2 := hg 2 _ rfl
  have g3 := hg 3 _ rfl
  obtain ⟨ia, ic, inn, rfl, h1⟩ := bytes_of (W := W) (enc := enc) (c := c0) (y := y0) (by simpa [cellsBytes, Value.cells] using g0)
  obtain ⟨oa, oc, out, rfl, h2⟩ := bytes_of (W := W) (enc := enc) (c := c1) (y := y1) (by simpa [cellsBytes, Value.cells] using g1)
  obtain ⟨lost, e2, _⟩ := DataW.trod_int (cs := [c2]) (x := y2) Try.underlying3 (by simpa [cellsInt, Value.cells] using g2)
  obtain ⟨asks, e3, _⟩ := DataW.trod_bool (cs := [c3]) (x := y3) Try.underlying4 (by simpa [cellsBool, Value.cells] using g3)
  simp only [List.cons.injEq, and_true] at e2 e3
  subst e2 e3
  exact ⟨ia, ic, oa, oc, inn, out, lost, asks, rfl, h1, h2⟩
/-- The reading stays. -/
theorem staysP {t : TypeId} (hr : Try.prog.readableRec t = true) (hrow : t < Try.prog.types.size) {W' : World} {v : Value} {d : DataW H} {ps : List MemPlace} (h : DataW.Trod enc Try.prog W 0 (fun _ => true) true t v d ps) (hb : Below W.heap.size W W') :
    DataW.Trod enc Try.prog W' 0 (fun b => decide (b < W.heap.size)) true t v d ps := stays_any laidOutP hr hrow h hb
end
end Go.Proofs.Ytalcfbdnnlapnaa
