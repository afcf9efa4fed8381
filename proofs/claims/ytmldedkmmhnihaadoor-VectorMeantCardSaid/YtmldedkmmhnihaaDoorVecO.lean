/- Operations of vector allocation as arguments: from their readings to lists; a reading stays while nothing that was there turns. -/
import Derived.Test.YtmldedkmmhnihaaDoorVecPl
import Derived.ProofKit
import Derived.OpenShut
import Derived.Deep.SlicePairs
import Derived.WideKeyArgs
import Derived.ChangeOld
namespace Go.Proofs.YtmldedkmmhnihaaDoor
open Go.ChangeShapes Go.WideShapes Go.ChangeAt Go.RowKit Go.Deep

theorem own : ownKnob Tryd.prog.godebug = none := by kernel_rfl
theorem cellsVop : Tryd.prog.cellsOf 24 = 3 := by kernel_rfl
theorem cellsIntV : Tryd.prog.cellsOf 3 = 1 := by kernel_rfl
theorem three {α : Type} (l : List α) (h : l.length = 3) : ∃ a b c, l = [a, b, c] := by
  match l, h with
  | [a, b, c], _ => exact ⟨a, b, c, rfl⟩
instance : Inhabited VopT := ⟨⟨0, 0, 0⟩⟩

section
variable {H : Type} {enc : TypeId × Value → H} {W : World}

theorem vop_of {base : Nat} {sp : Nat → Bool} {hd : Bool} {n : Nat} {cs : List Value} {y : DataW H × List MemPlace} (hl : cs.length = 3) (h : DataW.trod enc Tryd.prog W base sp hd n 24 cs = some y) : ∃ p : VopT, ∀ i, i < 3 → cs[i]? = (shO.enc p)[i]? := by
  obtain ⟨c0, c1, c2, rfl⟩ := three cs hl
  obtain ⟨xs, k, _, _, _, hx, hg⟩ := DataW.trod_struct Tryd.underlying24 h
  obtain ⟨y0, y1, y2, rfl⟩ := three xs (by simpa using hx)
  have g0 := hg 0 _ rfl
  have g1 := hg 1 _ rfl
  have g2 := hg 2 _ rfl
  obtain ⟨x0, e0, _, _⟩ := DataW.trod_int (cs := [c0]) (x := y0) Tryd.underlying3 (by simpa [cellsIntV] using g0)
  obtain ⟨x1, e1, _, _⟩ := DataW.trod_int (cs := [c1]) (x := y1) Tryd.underlying3 (by simpa [cellsIntV] using g1)
  obtain ⟨x2, e2, _, _⟩ := DataW.trod_int (cs := [c2]) (x := y2) Tryd.underlying3 (by simpa [cellsIntV] using g2)
  simp only [List.cons.injEq, and_true] at e0 e1 e2
  subst e0 e1 e2
  exact ⟨⟨x0, x1, x2⟩, fun i _ => rfl⟩
/-- A slice of operations. -/
theorem open_vops {base : Nat} {v : Value} {dt : DataW H} {p : List MemPlace} (hv : Value.okWide Tryd.prog W .any base 22 v) (h : DataW.Trod enc Tryd.prog W 0 (fun _ => true) true 22 v dt p) :
    ∃ (ad : Option Addr) (cap : Nat) (l : List VopT), v = .slice ad l.length cap ∧ shO.At W ad cap l ∧ (l.length = 0 ∨ ∃ el sp, dt = .slice el sp ∧ el.length = l.length) := by
  obtain ⟨ad, len, cap, rfl⟩ := okWide_slice Tryd.underlying22 hv
  obtain ⟨fuel, hf⟩ := h
  rcases open_slice Tryd.underlying22 hf with ⟨hc, _⟩ | ⟨a, l, c, m, k, D, Pl, hc, _, hl, hm, hmm, hxx, hall⟩
  · simp only [Value.cells, List.cons.injEq, and_true, Value.slice.injEq] at hc
    obtain ⟨rfl, rfl, rfl⟩ := hc
    exact ⟨none, 0, [], rfl, ⟨fun _ => ⟨rfl, rfl⟩, fun h => by simp at h⟩, Or.inl rfl⟩
  · simp only [Value.cells, List.cons.injEq, and_true, Value.slice.injEq] at hc
    obtain ⟨rfl, rfl, rfl⟩ := hc
    simp only [if_true] at hmm
    subst hmm
    by_cases h0 : len = 0
    · subst h0
      exact ⟨_, _, [], rfl, ⟨fun h => (nomatch h), fun h => by simp at h⟩, Or.inl rfl⟩
    · have each : ∀ i, i < m → ∃ q : VopT, ∀ j, j < 3 → W.cell? (a.add (i * 3 + j)) = (shO.enc q)[j]? := by
        intro i hi
        obtain ⟨cs', h1, h2⟩ := hall i hi
        rw [cellsVop] at h1
        obtain ⟨_, hlen, hcell⟩ := World.cells?_some h1
        obtain ⟨q, hq⟩ := vop_of hlen h2
        refine ⟨q, fun j hj => ?_⟩
        rw [← add_add, hcell j hj]
        exact hq j hj
      obtain ⟨f, hf'⟩ := choose_lt each
      obtain ⟨b, off, spot⟩ := a
      have hc0 : W.cell? (Addr.add ⟨b, off, spot⟩ (0 * 3 + 0)) = some (.int .i64 (f 0).kind) := (hf' 0 (by omega) 0 (by decide)).trans rfl
      have hspot : spot = none := by simpa [Addr.add] using World.cell?_spot hc0
      subst hspot
      have hb : b < W.heap.size := by simpa [Addr.add] using block_lt_of_cell hc0
      refine ⟨_, m, (List.range len).map f, by simp, ⟨fun h => by simp at h, fun _ => ⟨b, off, rfl, hb, fun i hi => ?_⟩⟩, ?_⟩
      · have hs : shO.size = 3 := rfl
        rw [hs] at hi
        simp at hi
        have hj : ((List.range len).map f)[i / 3]? = some (f (i / 3)) := by
          rw [List.getElem?_map, List.getElem?_range (by omega)]
          rfl
        have hfl := shO.flat_at _ (i / 3) (i % 3) _ hj (Nat.mod_lt _ (by decide))
        rw [hs, show i / 3 * 3 + i % 3 = i by omega] at hfl
        have := hf' (i / 3) (by omega) (i % 3) (Nat.mod_lt _ (by decide))
        rw [add_plain, show i / 3 * 3 + i % 3 = i by omega] at this
        rw [hfl]
        exact this
      · simp only [Prod.mk.injEq] at hxx
        exact Or.inr ⟨_, _, hxx.1, by simp⟩
/-- An operation by value. -/
theorem open_vop {base : Nat} {sp : Nat → Bool} {hd : Bool} {b0 : Nat} {v : Value} {dt : DataW H} {p : List MemPlace} (hv : Value.okWide Tryd.prog W .any base 24 v) (h : DataW.Trod enc Tryd.prog W b0 sp hd 24 v dt p) :
    ∃ k n m : Int, v = .agg #[.int .i64 k, .int .i64 n, .int .i64 m] ∧ dt = .agg [.lit (.int .i64 k), .lit (.int .i64 n), .lit (.int .i64 m)] ∧ p = [] ∧ (Lit.int .i64 k).wf = true ∧ (Lit.int .i64 n).wf = true ∧ (Lit.int .i64 m).wf = true := by
  obtain ⟨cs, rfl, hsz⟩ := okWide_struct Tryd.underlying24 hv
  rw [cellsVop] at hsz
  obtain ⟨l⟩ := cs
  obtain ⟨c0, c1, c2, rfl⟩ := three l hsz
  obtain ⟨fuel, hf⟩ := h
  obtain ⟨xs, n, _, hx, _, hlen, hg⟩ := DataW.trod_struct Tryd.underlying24 hf
  obtain ⟨y0, y1, y2, rfl⟩ := three xs (by simpa using hlen)
  have g0 := hg 0 _ rfl
  have g1 := hg 1 _ rfl
  have g2 := hg 2 _ rfl
  obtain ⟨k, e, rfl, wk⟩ := DataW.trod_int (cs := [c0]) (x := y0) Tryd.underlying3 (by simpa [cellsIntV, Value.cells] using g0)
  obtain ⟨m, e', rfl, wm⟩ := DataW.trod_int (cs := [c1]) (x := y1) Tryd.underlying3 (by simpa [cellsIntV, Value.cells] using g1)
  obtain ⟨o, e'', rfl, wo⟩ := DataW.trod_int (cs := [c2]) (x := y2) Tryd.underlying3 (by simpa [cellsIntV, Value.cells] using g2)
  simp at e e' e''
  subst e e' e''
  simp only [Prod.mk.injEq] at hx
  obtain ⟨rfl, rfl⟩ := hx
  exact ⟨k, m, o, rfl, rfl, rfl, wk, wm, wo⟩
theorem shut_vop {b0 : Nat} {sp : Nat → Bool} {hd : Bool} {k n m : Int} (hk : (Lit.int .i64 k).wf = true) (hn : (Lit.int .i64 n).wf = true) (hm : (Lit.int .i64 m).wf = true) :
    DataW.Trod enc Tryd.prog W b0 sp hd 24 (.agg #[.int .i64 k, .int .i64 n, .int .i64 m]) (.agg [.lit (.int .i64 k), .lit (.int .i64 n), .lit (.int .i64 m)]) [] :=
  ⟨2, by simp [DataW.trod, Value.cells, Tryd.underlying24, Tryd.underlying3, cellsVop, cellsIntV, hk, hn, hm]⟩
/-- How long a slice is. -/
def lenOf : Value → Nat
  | .slice _ n _ => n
  | _ => 0
/-- What the walks are told of a slice of operations. -/
def ArgV (W : World) (v : Value) : Prop := ∃ (ad : Option Addr) (cap : Nat) (l : List VopT), v = .slice ad l.length cap ∧ shO.At W ad cap l
theorem arg_vops {base : Nat} {v : Value} {dt : DataW H} {p : List MemPlace} (hv : Value.okWide Tryd.prog W .any base 22 v) (h : DataW.Trod enc Tryd.prog W 0 (fun _ => true) true 22 v dt p) : ArgV W v ∧ (lenOf v = 0 ∨ ∃ el sp, dt = .slice el sp ∧ el.length = lenOf v) := by
  obtain ⟨ad, cap, l, rfl, h1, h2⟩ := open_vops hv h
  exact ⟨⟨ad, cap, l, rfl, h1⟩, h2⟩
theorem laidOutV : laidOutB Tryd.prog = true := by kernel_rfl
theorem readVops : Tryd.prog.readableRec 22 = true := by kernel_rfl
/-- The reading stays. -/
theorem staysV {t : TypeId} (hr : Tryd.prog.readableRec t = true) (hrow : t < Tryd.prog.types.size) {W' : World} {v : Value} {d : DataW H} {ps : List MemPlace} (h : DataW.Trod enc Tryd.prog W 0 (fun _ => true) true t v d ps) (hb : Below W.heap.size W W') :
    DataW.Trod enc Tryd.prog W' 0 (fun b => decide (b < W.heap.size)) true t v d ps := by
  have hlt : ∀ p ∈ ps, p.block < W.heap.size := by
    obtain ⟨n, hn⟩ := h
    exact DataW.trod_lt n _ _ _ hn
  exact Go.WideElems.Trod_stays laidOutV hr hrow h (fun p hp => hb.same (hlt p hp)) (fun p hp => by simpa using hlt p hp)
end
end Go.Proofs.YtmldedkmmhnihaaDoor
