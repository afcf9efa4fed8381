/- The walk of ticket.Play. -/
import Derived.Test.YtfepgebnaglkaaaTicZ
import Derived.Test.YtfepgebnaglkaaaGen
import Derived.Deep.AppendLies
import Derived.Laws.OwnMore
namespace Go.Proofs.Ytfepgebnaglkaaa
open Go.RowKit

theorem info_int : (Try.prog.info? 3).map (fun i => (i.zero, i.size, i.bytes)) = some (some (.int .i64 0), 1, 8) := by kernel_rfl
theorem info_parts {t : TypeId} {z : Value} {n b : Nat} (h : (Try.prog.info? t).map (fun i => (i.zero, i.size, i.bytes)) = some (some z, n, b)) : ∃ i, Try.prog.info? t = some i ∧ i.zero = some z ∧ i.size = n ∧ i.bytes = b := by
  cases hq : Try.prog.info? t with
  | none => simp [hq] at h
  | some i =>
    simp [hq] at h
    exact ⟨i, rfl, h.1, h.2.1, h.2.2⟩
def shI : Shape Int := ⟨1, fun x => [.int .i64 x], fun _ => rfl, fun _ u hu => by simp at hu; subst hu; rfl, by decide⟩
def shL : Shape LopT := ⟨2, fun o => [.int .i64 o.kind, .int .i64 o.core], fun _ => rfl, fun _ u hu => by simp at hu; rcases hu with rfl | rfl <;> rfl, by decide⟩
theorem at_lop {w : World} {ad : Option Addr} {cap k : Nat} {l : List LopT} {o : LopT} (h : shL.At w ad cap l) (hk : l[k]? = some o) : ∃ b off, ad = some ⟨b, off, none⟩ ∧ b < w.heap.size ∧ w.cell? ⟨b, off + k * 2, none⟩ = some (.int .i64 o.kind) ∧ w.cell? ⟨b, off + k * 2 + 1, none⟩ = some (.int .i64 o.core) := by
  have hkl := (List.getElem?_eq_some_iff.1 hk).1
  obtain ⟨b, off, e, hb, hl⟩ := h.2 (by omega)
  have h0 := shL.flat_at l k 0 o hk (by decide)
  have h1 := shL.flat_at l k 1 o hk (by decide)
  have hs : shL.size = 2 := rfl
  rw [hs] at h0 h1 hl
  refine ⟨b, off, e, hb, ?_, ?_⟩
  · rw [show off + k * 2 = off + (k * 2 + 0) from rfl, hl _ (by omega), h0]; rfl
  · rw [Nat.add_assoc, hl _ (by omega), h1]; rfl
theorem own_heap {w w' : World} {base e size n : Nat} {v : Value} {xs : List Value} (h : w.ownsRow base e size v n xs) (hk : ∀ g o, v.ownBlock = some g → w.heap[g]? = some o → w'.heap[g]? = some o) : w'.ownsRow base e size v n xs := by
  obtain ⟨h1, h2⟩ := h
  refine ⟨h1, ?_⟩
  rcases h2 with h2 | ⟨g, cap, cur, hv, hg, hh, r⟩
  · exact Or.inl h2
  · exact Or.inr ⟨g, cap, cur, hv, hg, hk g _ (by rw [hv]; rfl) hh, r⟩
theorem own_ne {w : World} {base e size n : Nat} {v : Value} {xs : List Value} (h : w.ownsRow base e size v n xs) {B t : Nat} {cs : Array Value} {fr : Nat × Nat} (hB : w.heap[B]? = some (.cells cs t fr)) (hte : ¬ t = e) : ∀ g, v.ownBlock = some g → g ≠ B := by
  intro g hg e0
  subst e0
  obtain ⟨h1, h2⟩ := h
  rcases h2 with ⟨rfl, _⟩ | ⟨g', cap, cur, hv, _, hh, r⟩
  · cases hg
  · rw [hv] at hg
    simp only [Value.ownBlock, Option.some.injEq] at hg
    subst hg
    rw [hh] at hB
    simp only [Option.some.injEq, Obj.cells.injEq] at hB
    exact hte hB.2.1.symm
theorem own_step {w w' : World} {base e size n : Nat} {v : Value} {xs : List Value} (h : w.ownsRow base e size v n xs) (hb : Below w.heap.size w w') : w'.ownsRow base e size v n xs :=
  own_heap h fun _ _ _ ho => heap_step ho hb
/-- What is in memory while Play runs: the answer's box, the lock's, the cores that came in. -/
structure LpT (w wx : World) (B : Nat) (R Z : Array Value) (es : List Int) (v : Value) : Prop where
  b : Below w.heap.size w wx
  lt : w.heap.size < B
  z : wx.heap[w.heap.size]? = some (.cells Z 25 (0, 0))
  r : wx.heap[B]? = some (.cells R 25 (0, 0))
  o : wx.ownsRow w.heap.size 3 1 v es.length (shI.flat es)
theorem LpT.step {w wx wy : World} {B : Nat} {R Z : Array Value} {es : List Int} {v : Value} (h : LpT w wx B R Z es v) (hb : Below wx.heap.size wx wy) : LpT w wy B R Z es v :=
  ⟨pstep h.b hb, h.lt, heap_step h.z hb, heap_step h.r hb, own_step h.o hb⟩
theorem LpT.alloc {w wx : World} {B : Nat} {R Z : Array Value} {es : List Int} {v : Value} (h : LpT w wx B R Z es v) (o : Obj) : LpT w (wx.alloc o) B R Z es v := h.step (below_alloc _ _)
theorem LpT.blt {w wx : World} {B : Nat} {R Z : Array Value} {es : List Int} {v : Value} (h : LpT w wx B R Z es v) : B < wx.heap.size := (Array.getElem?_eq_some_iff.1 h.r).1
theorem LpT.set {w wx wy : World} {B : Nat} {R R' Z : Array Value} {es : List Int} {v : Value} (h : LpT w wx B R Z es v) (hs : SetR wx wy B (.cells R' 25 (0, 0))) : LpT w wy B R' Z es v :=
  ⟨h.b.trans (hs.below _ (by have := h.lt; omega)), h.lt, (hs.other _ (by have := h.lt; omega)).trans h.z, hs.put, own_heap h.o fun g o hg ho => (hs.other g (own_ne h.o h.r (by decide) g hg)).trans ho⟩
theorem LpT.grown {w wx wy : World} {B : Nat} {R Z : Array Value} {es es' : List Int} {v v' : Value} (h : LpT w wx B R Z es v) (hg : wx.grownBy wy v.ownBlock) (ho : wy.ownsRow w.heap.size 3 1 v' es'.length (shI.flat es')) : LpT w wy B R Z es' v' :=
  ⟨h.b.grown hg h.b.size (fun k hk => (World.ownsRow.lt h.o k hk).1), h.lt,
    (hg.block _ (Array.getElem?_eq_some_iff.1 h.z).1 (fun e => (own_ne h.o h.z (by decide) _ e.symm) rfl)).trans h.z,
    (hg.block _ h.blt (fun e => (own_ne h.o h.r (by decide) _ e.symm) rfl)).trans h.r, ho⟩
end Go.Proofs.Ytfepgebnaglkaaa
