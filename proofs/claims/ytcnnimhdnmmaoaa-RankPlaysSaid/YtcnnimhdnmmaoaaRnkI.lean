/- slices.Equal on error codes and on numbers; package rank's arguments. -/
import Derived.Test.YtcnnimhdnmmaoaaNum
import Derived.Test.YtcnnimhdnmmaoaaRnkD
import Derived.Test.YtcnnimhdnmmaoaaArg
namespace Go.Proofs.Ytcnnimhdnmmaoaa
open Go.ChangeShapes Go.WideShapes Go.ChangeAt Go.RowKit Go.Deep

set_option maxHeartbeats 1000000 in
set_option maxRecDepth 100000 in
theorem equalE {a1 a2 : Option Addr} {c1 c2 n : Nat} {l : List Int} (w : World) (hl : Hid (l.length = n)) (H1 : Hid (shI.At w a1 c1 l)) (H2 : Hid (shI.At w a2 c2 l)) (hn : n ≤ 9223372036854775807) :
    Calls Try.prog 11 #[.slice a1 n c1, .slice a2 n c2] w fun e w' => e = .returned (.bool true) ∧ Below w.heap.size w w' := by
  go_enter Try.func11, Try.ntmps11
  go_wp2_with fail
  go_loopw [13] (fun i wr => ∃ k : Nat, k ≤ n ∧ i = .int .i64 k ∧ ∃ q, wr = w.drewN q) (fun i _ => n - (intOf i).toNat)
  case atStart => exact ⟨0, Nat.zero_le _, rfl, 0, rfl⟩
  case round =>
    obtain ⟨k, hk, rfl, q, rfl⟩ := hrel
    by_cases hlt : k < n
    · obtain ⟨x, hx⟩ : ∃ x, l[k]? = some x := ⟨l[k]'(by rw [hl.out]; exact hlt), List.getElem?_eq_getElem _⟩
      obtain ⟨b, off, rfl, _, c0⟩ := at_int H1.out hx
      obtain ⟨b2, off2, rfl, _, c1⟩ := at_int H2.out hx
      clear hx
      go_wp2_with fail
      go_quiet (fail)
      go_wp2_with fail
      go_roundw
      case rel => exact ⟨k + 1, by omega, by go_num, _, rfl⟩
      case measure => simp [intOf]; omega
    · obtain rfl : k = n := by omega
      clear hlt hk
      go_wp2_with fail
      go_ret
      exact ⟨rfl, below_drewN (Below.refl _ _) _⟩
set_option maxHeartbeats 1000000 in
set_option maxRecDepth 100000 in
theorem equalI {a1 a2 : Option Addr} {c1 c2 n : Nat} {l : List Int} (w : World) (hl : Hid (l.length = n)) (H1 : Hid (shI.At w a1 c1 l)) (H2 : Hid (shI.At w a2 c2 l)) (hn : n ≤ 9223372036854775807) :
    Calls Try.prog 12 #[.slice a1 n c1, .slice a2 n c2] w fun e w' => e = .returned (.bool true) ∧ Below w.heap.size w w' := by
  go_enter Try.func12, Try.ntmps12
  go_wp2_with fail
  go_loopw [13] (fun i wr => ∃ k : Nat, k ≤ n ∧ i = .int .i64 k ∧ ∃ q, wr = w.drewN q) (fun i _ => n - (intOf i).toNat)
  case atStart => exact ⟨0, Nat.zero_le _, rfl, 0, rfl⟩
  case round =>
    obtain ⟨k, hk, rfl, q, rfl⟩ := hrel
    by_cases hlt : k < n
    · obtain ⟨x, hx⟩ : ∃ x, l[k]? = some x := ⟨l[k]'(by rw [hl.out]; exact hlt), List.getElem?_eq_getElem _⟩
      obtain ⟨b, off, rfl, _, c0⟩ := at_int H1.out hx
      obtain ⟨b2, off2, rfl, _, c1⟩ := at_int H2.out hx
      clear hx
      go_wp2_with fail
      go_quiet (fail)
      go_wp2_with fail
      go_roundw
      case rel => exact ⟨k + 1, by omega, by go_num, _, rfl⟩
      case measure => simp [intOf]; omega
    · obtain rfl : k = n := by omega
      clear hlt hk
      go_wp2_with fail
      go_ret
      exact ⟨rfl, below_drewN (Below.refl _ _) _⟩
theorem ownP : ownKnob Try.prog.godebug = none := by kernel_rfl
theorem cellsOp : Try.prog.cellsOf 35 = 3 := by kernel_rfl
theorem cellsInt : Try.prog.cellsOf 3 = 1 := by kernel_rfl
theorem laidOutP : laidOutB Try.prog = true := by kernel_rfl
theorem readInts : Try.prog.readableRec 24 = true := by kernel_rfl
theorem readInt : Try.prog.readableRec 3 = true := by kernel_rfl
theorem readBool : Try.prog.readableRec 4 = true := by kernel_rfl
theorem readOp : Try.prog.readableRec 35 = true := by kernel_rfl
theorem readOps : Try.prog.readableRec 22 = true := by kernel_rfl
instance : Inhabited RopT := ⟨⟨0, 0, 0⟩⟩
section
variable {H : Type} {enc : TypeId × Value → H} {W : World}
theorem int_of {base : Nat} {sp : Nat → Bool} {hd : Bool} (n : Nat) (cs : List Value) (y : DataW H × List MemPlace) (_ : cs.length = 1) (h : DataW.trod enc Try.prog W base sp hd n 3 cs = some y) : ∃ p : Int, cs = shI.enc p := by
  obtain ⟨x0, e0, _⟩ := DataW.trod_int (cs := cs) (x := y) Try.underlying3 h
  exact ⟨x0, e0⟩
theorem op_of {base : Nat} {sp : Nat → Bool} {hd : Bool} (n : Nat) (cs : List Value) (y : DataW H × List MemPlace) (hl : cs.length = 3) (h : DataW.trod enc Try.prog W base sp hd n 35 cs = some y) : ∃ p : RopT, cs = shO.enc p := by
  obtain ⟨c0, c1, c2, rfl⟩ := three cs hl
  obtain ⟨xs, k, _, _, _, hx, hg⟩ := DataW.trod_struct Try.underlying35 h
  obtain ⟨y0, y1, y2, rfl⟩ := three xs (by simpa using hx)
  have g0 := hg 0 _ rfl
  have g1 := hg 1 _ rfl
  have g2 := hg 2 _ rfl
  obtain ⟨x0, e0, _⟩ := DataW.trod_int (cs := [c0]) (x := y0) Try.underlying3 (by simpa [cellsInt] using g0)
  obtain ⟨x1, e1, _⟩ := DataW.trod_int (cs := [c1]) (x := y1) Try.underlying3 (by simpa [cellsInt] using g1)
  obtain ⟨x2, e2, _⟩ := DataW.trod_int (cs := [c2]) (x := y2) Try.underlying3 (by simpa [cellsInt] using g2)
  simp only [List.cons.injEq, and_true] at e0 e1 e2
  subst e0 e1 e2
  exact ⟨⟨x0, x1, x2⟩, rfl⟩
/-- A slice of numbers. -/
def ArgKs (W : World) (v : Value) : Prop := ∃ (ad : Option Addr) (cap : Nat) (l : List Int), v = .slice ad l.length cap ∧ shI.At W ad cap l ∧ l.length ≤ 9223372036854775807 ∧ l.length ≤ cap
theorem arg_ks {base : Nat} {v : Value} {dt : DataW H} {p : List MemPlace} (hv : Value.okWide Try.prog W .any base 24 v) (h : DataW.Trod enc Try.prog W 0 (fun _ => true) true 24 v dt p) :
    ArgKs W v ∧ (lenOf v = 0 ∨ ∃ el sp, dt = .slice el sp ∧ el.length = lenOf v) := by
  obtain ⟨ad, len, cap, rfl⟩ := okWide_slice Try.underlying24 hv
  obtain ⟨fuel, hf⟩ := h
  have r := slice_reads shI Try.underlying24 cellsInt (fun n cs y => int_of n cs y) hf
  exact ⟨r.ex, r.len⟩
/-- A slice of operations. -/
def ArgOps (W : World) (v : Value) : Prop := ∃ (ad : Option Addr) (cap : Nat) (l : List RopT), v = .slice ad l.length cap ∧ shO.At W ad cap l ∧ l.length ≤ 9223372036854775807 ∧ l.length ≤ cap
theorem arg_ops {base : Nat} {v : Value} {dt : DataW H} {p : List MemPlace} (hv : Value.okWide Try.prog W .any base 22 v) (h : DataW.Trod enc Try.prog W 0 (fun _ => true) true 22 v dt p) :
    ArgOps W v ∧ (lenOf v = 0 ∨ ∃ el sp, dt = .slice el sp ∧ el.length = lenOf v) := by
  obtain ⟨ad, len, cap, rfl⟩ := okWide_slice Try.underlying22 hv
  obtain ⟨fuel, hf⟩ := h
  have r := slice_reads shO Try.underlying22 cellsOp (fun n cs y => op_of n cs y) hf
  exact ⟨r.ex, r.len⟩
/-- One operation. -/
def ArgOp (_ : World) (v : Value) : Prop := ∃ k t l : Int, v = .agg #[.int .i64 k, .int .i64 t, .int .i64 l]
theorem arg_op {base : Nat} {v : Value} {dt : DataW H} {p : List MemPlace} (hv : Value.okWide Try.prog W .any base 35 v) (h : DataW.Trod enc Try.prog W 0 (fun _ => true) true 35 v dt p) : ArgOp W v := by
  obtain ⟨cs, rfl, hsz⟩ := okWide_struct Try.underlying35 hv
  rw [cellsOp] at hsz
  obtain ⟨fuel, hf⟩ := h
  obtain ⟨o, ho⟩ := op_of fuel cs.toList _ (by simpa using hsz) hf
  obtain rfl : cs = #[.int .i64 o.kind, .int .i64 o.th, .int .i64 o.lk] := by rw [← Array.toList_inj, ho]; rfl
  exact ⟨_, _, _, rfl⟩
/-- A number. -/
def ArgInt (_ : World) (v : Value) : Prop := ∃ n : Int, v = .int .i64 n
theorem arg_int {base : Nat} {v : Value} {dt : DataW H} {p : List MemPlace} (hv : Value.okWide Try.prog W .any base 3 v) (h : DataW.Trod enc Try.prog W 0 (fun _ => true) true 3 v dt p) : ArgInt W v := by
  obtain ⟨a, rfl, _, _, _⟩ := open_int Try.underlying3 hv h
  exact ⟨a, rfl⟩
/-- A truth value. -/
def ArgBool (_ : World) (v : Value) : Prop := ∃ b : Bool, v = .bool b
theorem arg_bool {base : Nat} {v : Value} {dt : DataW H} {p : List MemPlace} (hv : Value.okWide Try.prog W .any base 4 v) (h : DataW.Trod enc Try.prog W 0 (fun _ => true) true 4 v dt p) : ArgBool W v := by
  obtain ⟨a, rfl, _⟩ := open_bool Try.underlying4 hv h
  exact ⟨a, rfl⟩
/-- The reading stays. -/
theorem staysP {t : TypeId} (hr : Try.prog.readableRec t = true) (hrow : t < Try.prog.types.size) {W' : World} {v : Value} {d : DataW H} {ps : List MemPlace} (h : DataW.Trod enc Try.prog W 0 (fun _ => true) true t v d ps) (hb : Below W.heap.size W W') :
    DataW.Trod enc Try.prog W' 0 (fun b => decide (b < W.heap.size)) true t v d ps := stays_any laidOutP hr hrow h hb
end
end Go.Proofs.Ytcnnimhdnmmaoaa
