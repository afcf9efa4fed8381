/- A controller's state and an operation as arguments: from their readings to numbers and back. -/
import Derived.Test.YtgddbmbljlngnaaDoorOpen
import Derived.Test.YtgddbmbljlngnaaDoorLocP
import Derived.Deep.Fields
namespace Go.Proofs.YtgddbmbljlngnaaDoor
open Go.ChangeShapes Go.WideShapes Go.ChangeAt Go.RowKit

theorem cellsLocal : Tryd.prog.cellsOf 26 = 9 := by kernel_rfl
theorem cellsOp : Tryd.prog.cellsOf 28 = 2 := by kernel_rfl
theorem cellsInt : Tryd.prog.cellsOf 3 = 1 := by kernel_rfl
section
variable {H : Type} {enc : TypeId × Value → H} {W : World}

theorem open_row {base : Nat} {sp : Nat → Bool} {hd : Bool} {n : Nat} {c0 c1 c2 c3 : Value} {y : DataW H × List MemPlace} (h : DataW.trod enc Tryd.prog W base sp hd n 24 [c0, c1, c2, c3] = some y) :
    ∃ a b c d : Nat, c0 = .int .u64 a ∧ c1 = .int .u64 b ∧ c2 = .int .u64 c ∧ c3 = .int .u64 d ∧ y = (.agg [.lit (.int .u64 a), .lit (.int .u64 b), .lit (.int .u64 c), .lit (.int .u64 d)], []) ∧ Ok a b c d := by
  obtain ⟨y0, y1, y2, y3, m, hx, hy0, hy1, hy2, hy3⟩ := trod_array4 Tryd.underlying24 cellsU64 h
  obtain ⟨x0, e0, rfl, w0⟩ := DataW.trod_int Tryd.underlying22 hy0
  obtain ⟨x1, e1, rfl, w1⟩ := DataW.trod_int Tryd.underlying22 hy1
  obtain ⟨x2, e2, rfl, w2⟩ := DataW.trod_int Tryd.underlying22 hy2
  obtain ⟨x3, e3, rfl, w3⟩ := DataW.trod_int Tryd.underlying22 hy3
  simp at e0 e1 e2 e3
  subst e0 e1 e2 e3
  obtain ⟨a, rfl, ha⟩ := word_of_wf w0
  obtain ⟨b, rfl, hb⟩ := word_of_wf w1
  obtain ⟨c, rfl, hc⟩ := word_of_wf w2
  obtain ⟨d, rfl, hd⟩ := word_of_wf w3
  exact ⟨a, b, c, d, rfl, rfl, rfl, rfl, by simpa using hx, ha, hb, hc, hd⟩

theorem list9 {α : Type} (l : List α) (h : (⟨l⟩ : Array α).size = 9) : ∃ a b c d e f g i j, l = [a, b, c, d, e, f, g, i, j] := by
  match l, h with
  | [a, b, c, d, e, f, g, i, j], _ => exact ⟨a, b, c, d, e, f, g, i, j, rfl⟩
theorem list2 {α : Type} (l : List α) (h : (⟨l⟩ : Array α).size = 2) : ∃ a b, l = [a, b] := by
  match l, h with
  | [a, b], _ => exact ⟨a, b, rfl⟩
theorem three {α : Type} (l : List α) (h : l.length = 3) : ∃ a b c, l = [a, b, c] := by
  match l, h with
  | [a, b, c], _ => exact ⟨a, b, c, rfl⟩
theorem two {α : Type} (l : List α) (h : l.length = 2) : ∃ a b, l = [a, b] := by
  match l, h with
  | [a, b], _ => exact ⟨a, b, rfl⟩

/-- A state as an argument. -/
theorem open_local {base : Nat} {sp : Nat → Bool} {hd : Bool} {b0 : Nat} {v : Value} {dt : DataW H} {p : List MemPlace} (hv : Value.okWide Tryd.prog W .any base 26 v) (h : DataW.Trod enc Tryd.prog W b0 sp hd 26 v dt p) :
    ∃ s : St, v = .agg #[.int .u64 s.a0, .int .u64 s.a1, .int .u64 s.a2, .int .u64 s.a3, .int .u64 s.s0, .int .u64 s.s1, .int .u64 s.s2, .int .u64 s.s3, .int .i64 s.c] ∧ dt = .agg [.agg [.lit (.int .u64 s.a0), .lit (.int .u64 s.a1), .lit (.int .u64 s.a2), .lit (.int .u64 s.a3)], .agg [.lit (.int .u64 s.s0), .lit (.int .u64 s.s1), .lit (.int .u64 s.s2), .lit (.int .u64 s.s3)], .lit (.int .i64 s.c)] ∧ p = [] ∧ s.Ok ∧ (Lit.int .i64 s.c).wf = true := by
  obtain ⟨cs, rfl, hsz⟩ := okWide_struct Tryd.underlying26 hv
  rw [cellsLocal] at hsz
  obtain ⟨l⟩ := cs
  obtain ⟨c0, c1, c2, c3, c4, c5, c6, c7, c8, rfl⟩ := list9 l hsz
  obtain ⟨fuel, hf⟩ := h
  obtain ⟨xs, n, _, hx, _, hlen, hg⟩ := DataW.trod_struct Tryd.underlying26 hf
  obtain ⟨y0, y1, y2, rfl⟩ := three xs (by simpa using hlen)
  have g0 := hg 0 _ rfl
  have g1 := hg 1 _ rfl
  have g2 := hg 2 _ rfl
  obtain ⟨a0, a1, a2, a3, rfl, rfl, rfl, rfl, rfl, ha⟩ := open_row (y := y0) (by simpa [cellsBits, cellsInt, Value.cells] using g0)
  obtain ⟨s0, s1, s2, s3, rfl, rfl, rfl, rfl, rfl, hs⟩ := open_row (y := y1) (by simpa [cellsBits, cellsInt, Value.cells] using g1)
  obtain ⟨c, e, rfl, wc⟩ := DataW.trod_int (cs := [c8]) (x := y2) Tryd.underlying3 (by simpa [cellsBits, cellsInt, Value.cells] using g2)
  simp at e
  subst e
  simp only [Prod.mk.injEq] at hx
  obtain ⟨rfl, rfl⟩ := hx
  exact ⟨⟨a0, a1, a2, a3, s0, s1, s2, s3, c⟩, rfl, rfl, rfl, ⟨ha, hs⟩, wc⟩
/-- It reads so in every world. -/
theorem shut_local {b0 : Nat} {sp : Nat → Bool} {hd : Bool} {s : St} (h : s.Ok) (hc : (Lit.int .i64 s.c).wf = true) :
    DataW.Trod enc Tryd.prog W b0 sp hd 26 (.agg #[.int .u64 s.a0, .int .u64 s.a1, .int .u64 s.a2, .int .u64 s.a3, .int .u64 s.s0, .int .u64 s.s1, .int .u64 s.s2, .int .u64 s.s3, .int .i64 s.c]) (.agg [.agg [.lit (.int .u64 s.a0), .lit (.int .u64 s.a1), .lit (.int .u64 s.a2), .lit (.int .u64 s.a3)], .agg [.lit (.int .u64 s.s0), .lit (.int .u64 s.s1), .lit (.int .u64 s.s2), .lit (.int .u64 s.s3)], .lit (.int .i64 s.c)]) [] := by
  have w0 := wf_of_word h.1.1
  have w1 := wf_of_word h.1.2.1
  have w2 := wf_of_word h.1.2.2.1
  have w3 := wf_of_word h.1.2.2.2
  have u0 := wf_of_word h.2.1
  have u1 := wf_of_word h.2.2.1
  have u2 := wf_of_word h.2.2.2.1
  have u3 := wf_of_word h.2.2.2.2
  exact ⟨3, by simp [DataW.trod, Value.cells, Tryd.underlying26, Tryd.underlying24, Tryd.underlying22, Tryd.underlying3, cellsLocal, cellsBits, cellsU64, cellsInt, w0, w1, w2, w3, u0, u1, u2, u3, hc, show List.range 4 = [0, 1, 2, 3] from rfl]⟩
/-- An operation as an argument. -/
theorem open_op {base : Nat} {sp : Nat → Bool} {hd : Bool} {b0 : Nat} {v : Value} {dt : DataW H} {p : List MemPlace} (hv : Value.okWide Tryd.prog W .any base 28 v) (h : DataW.Trod enc Tryd.prog W b0 sp hd 28 v dt p) :
    ∃ k n : Int, v = .agg #[.int .i64 k, .int .i64 n] ∧ dt = .agg [.lit (.int .i64 k), .lit (.int .i64 n)] ∧ p = [] ∧ (Lit.int .i64 k).wf = true ∧ (Lit.int .i64 n).wf = true := by
  obtain ⟨cs, rfl, hsz⟩ := okWide_struct Tryd.underlying28 hv
  rw [cellsOp] at hsz
  obtain ⟨l⟩ := cs
  obtain ⟨c0, c1, rfl⟩ := list2 l hsz
  obtain ⟨fuel, hf⟩ := h
  obtain ⟨xs, n, _, hx, _, hlen, hg⟩ := DataW.trod_struct Tryd.underlying28 hf
  obtain ⟨y0, y1, rfl⟩ := two xs (by simpa using hlen)
  have g0 := hg 0 _ rfl
  have g1 := hg 1 _ rfl
  obtain ⟨k, e, rfl, wk⟩ := DataW.trod_int (cs := [c0]) (x := y0) Tryd.underlying3 (by simpa [cellsBits, cellsInt, Value.cells] using g0)
  obtain ⟨m, e', rfl, wm⟩ := DataW.trod_int (cs := [c1]) (x := y1) Tryd.underlying3 (by simpa [cellsBits, cellsInt, Value.cells] using g1)
  simp at e e'
  subst e e'
  simp only [Prod.mk.injEq] at hx
  obtain ⟨rfl, rfl⟩ := hx
  exact ⟨k, m, rfl, rfl, rfl, wk, wm⟩
theorem shut_op {b0 : Nat} {sp : Nat → Bool} {hd : Bool} {k n : Int} (hk : (Lit.int .i64 k).wf = true) (hn : (Lit.int .i64 n).wf = true) :
    DataW.Trod enc Tryd.prog W b0 sp hd 28 (.agg #[.int .i64 k, .int .i64 n]) (.agg [.lit (.int .i64 k), .lit (.int .i64 n)]) [] :=
  ⟨2, by simp [DataW.trod, Value.cells, Tryd.underlying28, Tryd.underlying3, cellsOp, cellsInt, hk, hn]⟩
end
end Go.Proofs.YtgddbmbljlngnaaDoor
