/- Lines and operations as arguments: slices of structs, from their readings to lists and numbers; a reading stays while nothing that was there turns. -/
import Derived.Test.YtmldedkmmhnihaaLinD
import Derived.ProofKit
import Derived.OpenShut
import Derived.Deep.SlicePairs
import Derived.WideKeyArgs
import Derived.ChangeOld
namespace Go.Proofs.Ytmldedkmmhnihaa
open Go.ChangeShapes Go.WideShapes Go.ChangeAt Go.RowKit Go.Deep

theorem ownP : ownKnob Try.prog.godebug = none := by kernel_rfl
theorem cellsPin : Try.prog.cellsOf 33 = 7 := by kernel_rfl
theorem cellsPinOp : Try.prog.cellsOf 41 = 2 := by kernel_rfl
theorem cellsIntP : Try.prog.cellsOf 3 = 1 := by kernel_rfl
theorem cellsBoolP : Try.prog.cellsOf 4 = 1 := by kernel_rfl
theorem seven {α : Type} (l : List α) (h : l.length = 7) : ∃ a b c d e f g, l = [a, b, c, d, e, f, g] := by
  match l, h with
  | [a, b, c, d, e, f, g], _ => exact ⟨a, b, c, d, e, f, g, rfl⟩
instance : Inhabited PinT := ⟨pin0⟩

section
variable {H : Type} {enc : TypeId × Value → H} {W : World}

theorem pin_of {base : Nat} {sp : Nat → Bool} {hd : Bool} {n : Nat} {cs : List Value} {y : DataW H × List MemPlace} (hl : cs.length = 7) (h : DataW.trod enc Try.prog W base sp hd n 33 cs = some y) : ∃ p : PinT, ∀ i, i < 7 → cs[i]? = some (pinCell p i) := by
  obtain ⟨c0, c1, c2, c3, c4, c5, c6, rfl⟩ := seven cs hl
  obtain ⟨xs, k, _, _, _, hx, hg⟩ := DataW.trod_struct Try.underlying33 h
  obtain ⟨y0, y1, y2, y3, y4, y5, y6, rfl⟩ := seven xs (by simpa using hx)
  have g0 := hg 0 _ rfl
  have g1 := hg 1 _ rfl
  have g2 := hg 2 _ rfl
  have g3 := hg 3 _ rfl
  have g4 := hg 4 _ rfl
  have g5 := hg 5 _ rfl
  have g6 := hg 6 _ rfl
  obtain ⟨x0, e0, _, _⟩ := DataW.trod_int (cs := [c0]) (x := y0) Try.underlying3 (by simpa [cellsIntP] using g0)
  obtain ⟨x1, e1, _, _⟩ := DataW.trod_int (cs := [c1]) (x := y1) Try.underlying3 (by simpa [cellsIntP] using g1)
  obtain ⟨x2, e2, _⟩ := DataW.trod_bool (cs := [c2]) (x := y2) Try.underlying4 (by simpa [cellsBoolP] using g2)
  obtain ⟨x3, e3, _⟩ := DataW.trod_bool (cs := [c3]) (x := y3) Try.underlying4 (by simpa [cellsBoolP] using g3)
  obtain ⟨x4, e4, _⟩ := DataW.trod_bool (cs := [c4]) (x := y4) Try.underlying4 (by simpa [cellsBoolP] using g4)
  obtain ⟨x5, e5, _⟩ := DataW.trod_bool (cs := [c5]) (x := y5) Try.underlying4 (by simpa [cellsBoolP] using g5)
  obtain ⟨x6, e6, _⟩ := DataW.trod_bool (cs := [c6]) (x := y6) Try.underlying4 (by simpa [cellsBoolP] using g6)
  simp only [List.cons.injEq, and_true] at e0 e1 e2 e3 e4 e5 e6
  subst e0 e1 e2 e3 e4 e5 e6
  refine ⟨⟨x0, x1, x2, x3, x4, x5, x6⟩, fun i hi => ?_⟩
  have h7 : i = 0 ∨ i = 1 ∨ i = 2 ∨ i = 3 ∨ i = 4 ∨ i = 5 ∨ i = 6 := by omega
  rcases h7 with rfl | rfl | rfl | rfl | rfl | rfl | rfl <;> rfl

/-- A slice of lines. -/
theorem open_pins {base : Nat} {v : Value} {dt : DataW H} {p : List MemPlace} (hv : Value.okWide Try.prog W .any base 22 v) (h : DataW.Trod enc Try.prog W 0 (fun _ => true) true 22 v dt p) :
    ∃ (ad : Option Addr) (cap : Nat) (l : List PinT), v = .slice ad l.length cap ∧ l.length ≤ 9223372036854775807 ∧ PinsAt W ad cap l ∧ (l.length = 0 ∨ ∃ el sp, dt = .slice el sp ∧ el.length = l.length) := by
  obtain ⟨ad, len, cap, rfl⟩ := okWide_slice Try.underlying22 hv
  obtain ⟨fuel, hf⟩ := h
  rcases open_slice Try.underlying22 hf with ⟨hc, _⟩ | ⟨a, l, c, m, k, D, Pl, hc, _, hl, hm, hmm, hxx, hall⟩
  · simp only [Value.cells, List.cons.injEq, and_true, Value.slice.injEq] at hc
    obtain ⟨rfl, rfl, rfl⟩ := hc
    exact ⟨none, 0, [], rfl, by simp, ⟨fun _ => ⟨rfl, rfl⟩, fun h => by simp at h⟩, Or.inl rfl⟩
  · simp only [Value.cells, List.cons.injEq, and_true, Value.slice.injEq] at hc
    obtain ⟨rfl, rfl, rfl⟩ := hc
    simp only [if_true] at hmm
    subst hmm
    by_cases h0 : len = 0
    · subst h0
      exact ⟨_, _, [], rfl, by simp, ⟨fun h => (nomatch h), fun h => by simp at h⟩, Or.inl rfl⟩
    · have each : ∀ i, i < m → ∃ q : PinT, ∀ j, j < 7 → W.cell? (a.add (i * 7 + j)) = some (pinCell q j) := by
        intro i hi
        obtain ⟨cs', h1, h2⟩ := hall i hi
        rw [cellsPin] at h1
        obtain ⟨_, hlen, hcell⟩ := World.cells?_some h1
        obtain ⟨q, hq⟩ := pin_of hlen h2
        refine ⟨q, fun j hj => ?_⟩
        rw [← add_add, hcell j hj]
        exact hq j hj
      obtain ⟨f, hf'⟩ := choose_lt each
      obtain ⟨b, off, spot⟩ := a
      have hspot : spot = none := by simpa [Addr.add] using World.cell?_spot (hf' 0 (by omega) 0 (by decide))
      subst hspot
      have hb : b < W.heap.size := by simpa [Addr.add] using block_lt_of_cell (hf' 0 (by omega) 0 (by decide))
      refine ⟨_, m, (List.range len).map f, by simp, ?_, ⟨fun h => by simp at h, fun _ => ⟨b, off, rfl, hb, fun j hj i hi => ?_⟩⟩, ?_⟩
      · unfold maxLen at hm
        simp
        omega
      · simp at hj
        have := hf' j (by omega) i hi
        rw [add_plain] at this
        rw [List.getD_eq_getElem?_getD, List.getElem?_map, List.getElem?_range hj]
        rw [Nat.add_assoc]
        exact this
      · simp only [Prod.mk.injEq] at hxx
        exact Or.inr ⟨_, _, hxx.1, by simp⟩
/-- A slice of operations. -/
theorem open_pinops {base : Nat} {v : Value} {dt : DataW H} {p : List MemPlace} (hv : Value.okWide Try.prog W .any base 23 v) (h : DataW.Trod enc Try.prog W 0 (fun _ => true) true 23 v dt p) :
    ∃ (ad : Option Addr) (len cap : Nat) (K N : Nat → Int), v = .slice ad len cap ∧ len ≤ 9223372036854775807 ∧ OpsAt W ad cap K N len ∧ (len = 0 ∨ ∃ el sp, dt = .slice el sp ∧ el.length = len) := by
  obtain ⟨ad, len, cap, rfl⟩ := okWide_slice Try.underlying23 hv
  obtain ⟨fuel, hf⟩ := h
  rcases open_slice_pairs Try.underlying23 Try.underlying41 cellsPinOp rfl rfl cellsIntP cellsIntP hf with ⟨hc, _⟩ | ⟨a, l, c, m, k, V0, V1, D0, D1, P0, P1, hc, _, hl, hm, hmm, hxx, hall⟩
  · simp only [Value.cells, List.cons.injEq, and_true, Value.slice.injEq] at hc
    obtain ⟨rfl, rfl, rfl⟩ := hc
    exact ⟨none, 0, 0, fun _ => 0, fun _ => 0, rfl, by simp, ⟨fun _ => ⟨rfl, rfl⟩, fun h => by simp at h⟩, Or.inl rfl⟩
  · simp only [Value.cells, List.cons.injEq, and_true, Value.slice.injEq] at hc
    obtain ⟨rfl, rfl, rfl⟩ := hc
    simp only [if_true] at hmm
    subst hmm
    by_cases h0 : len = 0
    · subst h0
      exact ⟨_, 0, _, fun _ => 0, fun _ => 0, rfl, by simp, ⟨fun h => (nomatch h), fun h => by simp at h⟩, Or.inl rfl⟩
    · obtain ⟨b, off, spot⟩ := a
      have hspot : spot = none := by simpa [Addr.add] using World.cell?_spot (hall 0 (by omega)).1
      subst hspot
      have hb : b < W.heap.size := by simpa [Addr.add] using block_lt_of_cell (hall 0 (by omega)).1
      refine ⟨_, len, m, fun i => intOf (V0 i), fun i => intOf (V1 i), rfl, ?_, ⟨fun h => by simp at h, fun _ => ⟨b, off, rfl, hb, fun i hi => ?_⟩⟩, ?_⟩
      · unfold maxLen at hm
        omega
      · obtain ⟨h1, h2, h3, h4⟩ := hall i (by omega)
        obtain ⟨x, e, _, _⟩ := DataW.trod_int Try.underlying3 h3
        obtain ⟨y, e', _, _⟩ := DataW.trod_int Try.underlying3 h4
        simp only [List.cons.injEq, and_true] at e e'
        dsimp only
        rw [e, e']
        rw [e] at h1
        rw [e'] at h2
        rw [add_plain] at h1 h2
        exact ⟨h1, h2⟩
      · simp only [Prod.mk.injEq] at hxx
        exact Or.inr ⟨_, _, hxx.1, by simp⟩
theorem two' {α : Type} (l : List α) (h : l.length = 2) : ∃ a b, l = [a, b] := by
  match l, h with
  | [a, b], _ => exact ⟨a, b, rfl⟩
/-- An operation by value. -/
theorem open_pinop {base : Nat} {sp : Nat → Bool} {hd : Bool} {b0 : Nat} {v : Value} {dt : DataW H} {p : List MemPlace} (hv : Value.okWide Try.prog W .any base 41 v) (h : DataW.Trod enc Try.prog W b0 sp hd 41 v dt p) :
    ∃ k n : Int, v = .agg #[.int .i64 k, .int .i64 n] ∧ dt = .agg [.lit (.int .i64 k), .lit (.int .i64 n)] ∧ p = [] ∧ (Lit.int .i64 k).wf = true ∧ (Lit.int .i64 n).wf = true := by
  obtain ⟨cs, rfl, hsz⟩ := okWide_struct Try.underlying41 hv
  rw [cellsPinOp] at hsz
  obtain ⟨l⟩ := cs
  obtain ⟨c0, c1, rfl⟩ := two' l hsz
  obtain ⟨fuel, hf⟩ := h
  obtain ⟨xs, n, _, hx, _, hlen, hg⟩ := DataW.trod_struct Try.underlying41 hf
  obtain ⟨y0, y1, rfl⟩ := two' xs (by simpa using hlen)
  have g0 := hg 0 _ rfl
  have g1 := hg 1 _ rfl
  obtain ⟨k, e, rfl, wk⟩ := DataW.trod_int (cs := [c0]) (x := y0) Try.underlying3 (by simpa [cellsIntP, Value.cells] using g0)
  obtain ⟨m, e', rfl, wm⟩ := DataW.trod_int (cs := [c1]) (x := y1) Try.underlying3 (by simpa [cellsIntP, Value.cells] using g1)
  simp at e e'
  subst e e'
  simp only [Prod.mk.injEq] at hx
  obtain ⟨rfl, rfl⟩ := hx
  exact ⟨k, m, rfl, rfl, rfl, wk, wm⟩
theorem shut_pinop {b0 : Nat} {sp : Nat → Bool} {hd : Bool} {k n : Int} (hk : (Lit.int .i64 k).wf = true) (hn : (Lit.int .i64 n).wf = true) :
    DataW.Trod enc Try.prog W b0 sp hd 41 (.agg #[.int .i64 k, .int .i64 n]) (.agg [.lit (.int .i64 k), .lit (.int .i64 n)]) [] :=
  ⟨2, by simp [DataW.trod, Value.cells, Try.underlying41, Try.underlying3, cellsPinOp, cellsIntP, hk, hn]⟩
/-- How long a slice is. -/
def lenOf : Value → Nat
  | .slice _ n _ => n
  | _ => 0
/-- What the walks are told of a slice of lines, of a slice of operations. -/
def ArgPins (W : World) (v : Value) : Prop := ∃ (ad : Option Addr) (cap : Nat) (l : List PinT), v = .slice ad l.length cap ∧ l.length ≤ 9223372036854775807 ∧ PinsAt W ad cap l
def ArgOps (W : World) (v : Value) : Prop := ∃ (ad : Option Addr) (len cap : Nat) (K N : Nat → Int), v = .slice ad len cap ∧ len ≤ 9223372036854775807 ∧ OpsAt W ad cap K N len
theorem arg_pins {base : Nat} {v : Value} {dt : DataW H} {p : List MemPlace} (hv : Value.okWide Try.prog W .any base 22 v) (h : DataW.Trod enc Try.prog W 0 (fun _ => true) true 22 v dt p) : ArgPins W v ∧ (lenOf v = 0 ∨ ∃ el sp, dt = .slice el sp ∧ el.length = lenOf v) := by
  obtain ⟨ad, cap, l, rfl, h1, h2, h3⟩ := open_pins hv h
  exact ⟨⟨ad, cap, l, rfl, h1, h2⟩, h3⟩
theorem arg_ops {base : Nat} {v : Value} {dt : DataW H} {p : List MemPlace} (hv : Value.okWide Try.prog W .any base 23 v) (h : DataW.Trod enc Try.prog W 0 (fun _ => true) true 23 v dt p) : ArgOps W v ∧ (lenOf v = 0 ∨ ∃ el sp, dt = .slice el sp ∧ el.length = lenOf v) := by
  obtain ⟨ad, len, cap, K, N, rfl, h1, h2, h3⟩ := open_pinops hv h
  exact ⟨⟨ad, len, cap, K, N, rfl, h1, h2⟩, h3⟩
theorem laidOutP : laidOutB Try.prog = true := by kernel_rfl
theorem readPins : Try.prog.readableRec 22 = true := by kernel_rfl
theorem readPinOps : Try.prog.readableRec 23 = true := by kernel_rfl
/-- The reading stays. -/
theorem staysP {t : TypeId} (hr : Try.prog.readableRec t = true) (hrow : t < Try.prog.types.size) {W' : World} {v : Value} {d : DataW H} {ps : List MemPlace} (h : DataW.Trod enc Try.prog W 0 (fun _ => true) true t v d ps) (hb : Below W.heap.size W W') :
    DataW.Trod enc Try.prog W' 0 (fun b => decide (b < W.heap.size)) true t v d ps := by
  have hlt : ∀ p ∈ ps, p.block < W.heap.size := by
    obtain ⟨n, hn⟩ := h
    exact DataW.trod_lt n _ _ _ hn
  exact Go.WideElems.Trod_stays laidOutP hr hrow h (fun p hp => hb.same (hlt p hp)) (fun p hp => by simpa using hlt p hp)
end
end Go.Proofs.Ytmldedkmmhnihaa
