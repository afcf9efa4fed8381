/- Package runq in memory: operations, a map from Ids to blocks, rings of blocks, the queue's struct. -/
import Derived.Test.YtgnpodeneknpdaaRqP
import Derived.Test.YtgnpodeneknpdaaNum
import Derived.StillTailTactics
import Derived.Maps.OwnSet
import Derived.Maps.RangeWalk
namespace Go.Proofs.Ytgnpodeneknpdaa
open Go.RowKit Go.Maps

def shR : Shape RuT := ⟨3, fun r => [.int .i64 r.k, .int .i64 r.i, .int .i64 r.l], fun _ => rfl, fun _ u hu => by simp at hu; rcases hu with rfl | rfl | rfl <;> rfl, by decide⟩
theorem info_ru : (Try.prog.info? 34).map (fun i => (i.zero, i.size, i.bytes)) = some (some (.agg #[.int .i64 0, .int .i64 0, .int .i64 0]), 3, 24) := by kernel_rfl
theorem at_ru {w : World} {ad : Option Addr} {cap k : Nat} {l : List RuT} {f : RuT} (h : shR.At w ad cap l) (hk : l[k]? = some f) : ∃ b off, ad = some ⟨b, off, none⟩ ∧ b < w.heap.size ∧ w.cell? ⟨b, off + k * 3, none⟩ = some (.int .i64 f.k) ∧ w.cell? ⟨b, off + k * 3 + 1, none⟩ = some (.int .i64 f.i) ∧ w.cell? ⟨b, off + k * 3 + 2, none⟩ = some (.int .i64 f.l) := by
  have hkl := (List.getElem?_eq_some_iff.1 hk).1
  obtain ⟨b, off, e, hb, hl⟩ := h.2 (by omega)
  have h0 := shR.flat_at l k 0 f hk (by decide)
  have h1 := shR.flat_at l k 1 f hk (by decide)
  have h2 := shR.flat_at l k 2 f hk (by decide)
  have hs : shR.size = 3 := rfl
  rw [hs] at h0 h1 h2 hl
  refine ⟨b, off, e, hb, ?_, ?_, ?_⟩
  · rw [show off + k * 3 = off + (k * 3 + 0) from rfl, hl _ (by omega), h0]; rfl
  · rw [Nat.add_assoc, hl _ (by omega), h1]; rfl
  · rw [Nat.add_assoc, hl _ (by omega), h2]; rfl
def WfI (x : Int) : Prop := (Lit.int .i64 x).wf = true
theorem lawI : Keyed Try.prog 3 := int_keyed Try.underlying3
theorem zeroP (w : World) : (zeroValue 51).run Try.prog w = .ok (.pointer none) w := by kernel_rfl
abbrev Dt := DataW Unit
/-- How a pointer reads. -/
def rdP : Value → Option (Dt × List MemPlace)
  | .pointer none => some (.lit (.int .i64 (-1)), [])
  | .pointer (some ⟨b, 0, none⟩) => some (.lit (.int .i64 (b : Int)), [])
  | _ => none
theorem rdP_mk (b : Nat) : rdP (.pointer (some ⟨b, 0, none⟩)) = some (.lit (.int .i64 (b : Int)), []) := rfl
theorem rdP_inv {v : Value} {b : Nat} {ps : List MemPlace} (h : rdP v = some (.lit (.int .i64 (b : Int)), ps)) : v = .pointer (some ⟨b, 0, none⟩) := by
  unfold rdP at h
  split at h
  · simp only [Option.some.injEq, Prod.mk.injEq, DataW.lit.injEq, Lit.int.injEq, true_and] at h
    omega
  · simp only [Option.some.injEq, Prod.mk.injEq, DataW.lit.injEq, Lit.int.injEq, true_and] at h
    rename_i b'
    have : b' = b := by omega
    rw [this]
  · cases h
/-- A map's reading tells who stands where. -/
structure TellsP (D : Dt) (f : Int → Option Nat) (n : Nat) : Prop where
  has : ∀ i : Int, Maps.has D (.int .i64 i) = (f i).isSome
  at' : ∀ (i : Int) (b : Nat) (z : Dt), f i = some b → D.atKey (.int .i64 i) z = .lit (.int .i64 (b : Int))
  sz : Maps.size D = n
theorem lit_ne {i j : Int} (h : ¬ i = j) : (Lit.int .i64 i) ≠ Lit.int .i64 j := fun e => h (by cases e; rfl)
theorem tells_empty : TellsP (.map []) (fun _ => none) 0 := ⟨fun _ => rfl, (fun t i z h => by cases h), rfl⟩
theorem TellsP.put {D : Dt} {f : Int → Option Nat} {n : Nat} {i : Int} {b : Nat} (h : TellsP D f n) (hD : IsMap D) (hT : Tidy D) (hq : (f i).isSome = false) : TellsP (D.put (.int .i64 i) (.lit (.int .i64 (b : Int)))) (fun k => if k = i then some b else f k) (n + 1) := by
  refine ⟨fun j => ?_, fun j b' z hj => ?_, ?_⟩
  · by_cases e : j = i
    · subst e
      rw [has_put_same hD (show WideAt.IsKeyLit (.int .i64 j) from trivial), if_pos rfl]
      rfl
    · rw [has_put_other (lit_ne e), h.has j, if_neg e]
  · by_cases e : j = i
    · subst e
      rw [if_pos rfl] at hj
      cases hj
      rw [atKey_put_same hD (show WideAt.IsKeyLit (.int .i64 j) from trivial)]
    · rw [if_neg e] at hj
      rw [atKey_put_other (lit_ne e)]
      exact h.at' j b' z hj
  · rw [size_put hT, h.has i, hq, h.sz]
    rfl
theorem TellsP.del {D : Dt} {f : Int → Option Nat} {n : Nat} {i : Int} (h : TellsP D f (n + 1)) (hT : Tidy D) (hq : (f i).isSome = true) : TellsP (D.del (.int .i64 i)) (fun k => if k = i then none else f k) n := by
  refine ⟨fun j => ?_, fun j b' z hj => ?_, ?_⟩
  · by_cases e : j = i
    · subst e
      rw [has_del_same, if_pos rfl]
      rfl
    · rw [has_del_other (lit_ne e), h.has j, if_neg e]
  · by_cases e : j = i
    · rw [if_pos e] at hj
      cases hj
    · rw [if_neg e] at hj
      rw [atKey_del_other (lit_ne e)]
      exact h.at' j b' z hj
  · have h1 := size_del (k := .int .i64 i) hT
    rw [h.has i, h.sz, hq, if_pos rfl] at h1
    omega
/-- Block b is a map of at most L entries that tells f. -/
def MapP (w : World) (b L : Nat) (f : Int → Option Nat) (n : Nat) : Prop := ∃ D : Dt, w.ownsMap Try.prog 3 rdP b L D ∧ TellsP D f n
theorem own_sameM {w w' : World} {b m : Nat} {D : Dt} {R : Value → Option (Dt × List MemPlace)} (h : w.ownsMap Try.prog 3 R b m D) (e : w'.heap[b]? = w.heap[b]?) : w'.ownsMap Try.prog 3 R b m D := by
  obtain ⟨es, clock, hb, r⟩ := h
  exact ⟨es, clock, e.trans hb, r⟩
section
variable {w w' : World} {b L n : Nat} {f : Int → Option Nat}
theorem MapP.same (h : MapP w b L f n) (e : w'.heap[b]? = w.heap[b]?) : MapP w' b L f n := by
  obtain ⟨D, h1, h2⟩ := h
  exact ⟨D, own_sameM h1 e, h2⟩
theorem MapP.lt (h : MapP w b L f n) : b < w.heap.size := by
  obtain ⟨D, h1, h2⟩ := h
  exact h1.lt
theorem MapP.step (h : MapP w b L f n) (hb : Below w.heap.size w w') : MapP w' b L f n := h.same (hb.block b h.lt)
theorem MapP.more (h : MapP w b L f n) {L' : Nat} (hm : L ≤ L') : MapP w b L' f n := by
  obtain ⟨D, h1, h2⟩ := h
  exact ⟨D, h1.mono hm, h2⟩
theorem MapP.isMap (h : MapP w b L f n) : ∃ es clock, w.heap[b]? = some (.map es clock) := by
  obtain ⟨D, ⟨es, clock, hb, _⟩, _⟩ := h
  exact ⟨es, clock, hb⟩
theorem mapP_ne (h : MapP w b L f n) {B t : Nat} {cs : Array Value} {fr : Nat × Nat} (hB : w.heap[B]? = some (.cells cs t fr)) : ¬ B = b := by
  obtain ⟨es, clock, hb⟩ := h.isMap
  rintro rfl
  rw [hB] at hb
  cases hb
theorem own_nemapP {base e size k : Nat} {v : Value} {xs : List Value} (h : w.ownsRow base e size v k xs) (hm : MapP w b L f n) : ∀ g, v.ownBlock = some g → g ≠ b := by
  intro g hg e0
  subst e0
  obtain ⟨h1, h2⟩ := h
  rcases h2 with ⟨rfl, _⟩ | ⟨g', cap, cur, hv, _, hh, r⟩
  · cases hg
  · rw [hv] at hg
    simp only [Value.ownBlock, Option.some.injEq] at hg
    subst hg
    exact mapP_ne hm hh rfl
end
theorem map_newP (w : World) : MapP (w.alloc (.map #[] 0)) w.heap.size 0 (fun _ => none) 0 := ⟨.map [], World.ownsMap_made _ _ _ _, tells_empty⟩
theorem grown_refl (w : World) (r : Option Nat) : w.grownBy w r := ⟨rfl, rfl, rfl, Nat.le_refl _, fun _ _ _ => rfl⟩
/-- A place. -/
def NodR (w : World) (g : Gq) (b : Nat) : Prop := w.heap[b]? = some (.cells #[.int .i64 (g.id b), .pointer (some ⟨g.pv b, 0, none⟩), .pointer (some ⟨g.nx b, 0, none⟩)] 72 (0, 0))
theorem cells_ne {w : World} {a b : Nat} {cs ds : Array Value} {t u : TypeId} {fr fr' : Nat × Nat} (ha : w.heap[a]? = some (.cells cs t fr)) (hb : w.heap[b]? = some (.cells ds u fr')) (hne : ¬ t = u) : ¬ a = b := by
  rintro rfl
  rw [ha] at hb
  simp only [Option.some.injEq, Obj.cells.injEq] at hb
  exact hne hb.2.1
section
variable {w : World} {g : Gq} {b : Nat}
theorem NodR.cells (h : NodR w g b) : w.cell? ⟨b, 0, none⟩ = some (.int .i64 (g.id b)) ∧ w.cell? ⟨b, 1, none⟩ = some (.pointer (some ⟨g.pv b, 0, none⟩)) ∧ w.cell? ⟨b, 2, none⟩ = some (.pointer (some ⟨g.nx b, 0, none⟩)) := trio_at h
theorem NodR.froz (h : NodR w g b) (i : Nat) : w.frozen? ⟨b, i, none⟩ = false := frozen_of_row w b i _ _ h
theorem NodR.setN (h : NodR w g b) (x p : Nat) : NodR (w.setCell ⟨x, 2, none⟩ (.pointer (some ⟨p, 0, none⟩))) ⟨g.e, upN g.nx x p, g.pv, g.id, g.L, g.own, g.f⟩ b := by
  unfold NodR at *
  by_cases e : b = x
  · subst e
    show _ = some (Obj.cells #[_, _, .pointer (some ⟨upN g.nx b p b, 0, none⟩)] _ _)
    rw [upN_same]
    exact heap_setCell_same w b 2 _ _ _ h
  · show _ = some (Obj.cells #[_, _, .pointer (some ⟨upN g.nx x p b, 0, none⟩)] _ _)
    rw [upN_other e]
    exact (Below.heap_setCell w _ _ b e).trans h
theorem NodR.setP (h : NodR w g b) (x p : Nat) : NodR (w.setCell ⟨x, 1, none⟩ (.pointer (some ⟨p, 0, none⟩))) ⟨g.e, g.nx, upN g.pv x p, g.id, g.L, g.own, g.f⟩ b := by
  unfold NodR at *
  by_cases e : b = x
  · subst e
    show _ = some (Obj.cells #[_, .pointer (some ⟨upN g.pv b p b, 0, none⟩), _] _ _)
    rw [upN_same]
    exact heap_setCell_same w b 1 _ _ _ h
  · show _ = some (Obj.cells #[_, .pointer (some ⟨upN g.pv x p b, 0, none⟩), _] _ _)
    rw [upN_other e]
    exact (Below.heap_setCell w _ _ b e).trans h
end
/-- The queue in memory: the struct in block B, the map in block m, the row of those taken, the places. -/
structure MemQ (w0 w : World) (B m L : Nat) (g : Gq) (R : Array Value) (tv : Value) (taken : List Int) (cnt : Nat) : Prop where
  b : Below w0.heap.size w0 w
  hB : w0.heap.size ≤ B
  hp : w.heap[B]? = some (.cells R 55 (0, 0))
  re : ∀ j, j < 32 → R[j]? = some (.pointer (some ⟨g.e j, 0, none⟩))
  rm : R[32]? = some (.map (some m))
  rt : R[33]? = some tv
  hm : w0.heap.size ≤ m
  mp : MapP w m L g.f cnt
  tk : w.ownsRow w0.heap.size 3 1 tv taken.length (shI.flat taken)
  nod : ∀ j, j < 32 → ∀ b, b ∈ g.e j :: g.L j → NodR w g b ∧ w0.heap.size ≤ b
  wf : ∀ i b, g.f i = some b → WfI i
/-- What is neither a place nor the queue nor a number stays. -/
structure KeepQ (w w' : World) : Prop where
  sz : w.heap.size ≤ w'.heap.size
  at_ : ∀ (b : Nat) (cs : Array Value) (t : TypeId) (fr : Nat × Nat), w.heap[b]? = some (.cells cs t fr) → ¬ t = 3 → ¬ t = 72 → ¬ t = 55 → w'.heap[b]? = some (.cells cs t fr)
section
variable {w w' w'' : World}
theorem KeepQ.refl (w : World) : KeepQ w w := ⟨Nat.le_refl _, fun _ _ _ _ h _ _ _ => h⟩
theorem KeepQ.trans (h : KeepQ w w') (h' : KeepQ w' w'') : KeepQ w w'' := ⟨Nat.le_trans h.sz h'.sz, fun b cs t fr hb h1 h2 h3 => h'.at_ b cs t fr (h.at_ b cs t fr hb h1 h2 h3) h1 h2 h3⟩
theorem keep_below (hb : Below w.heap.size w w') : KeepQ w w' := ⟨hb.size, fun _ _ _ _ h _ _ _ => heap_step h hb⟩
theorem keep_turn {m L n : Nat} {f : Int → Option Nat} (h : MapP w m L f n) (hg : w.grownBy w' (some m)) : KeepQ w w' :=
  ⟨hg.size, fun b _ _ _ hb _ _ _ => (hg.block b (heap_lt hb) (fun e => mapP_ne h hb (Option.some.inj e))).trans hb⟩
theorem keep_int {base size n : Nat} {v : Value} {xs : List Value} (h : w.ownsRow base 3 size v n xs) (hg : w.grownBy w' v.ownBlock) : KeepQ w w' :=
  ⟨hg.size, fun b _ _ _ hb h1 _ _ => (hg.block b (heap_lt hb) (fun e => own_ne h hb h1 b e.symm rfl)).trans hb⟩
theorem keep_set {B i : Nat} {R : Array Value} {t : TypeId} {u : Value} {fr : Nat × Nat} (h : w.heap[B]? = some (.cells R t fr)) (ht : t = 72 ∨ t = 55) : KeepQ w (w.setCell ⟨B, i, none⟩ u) :=
  ⟨by simp, fun b cs t' fr' hb _ h2 h3 => (Below.heap_setCell w ⟨B, i, none⟩ u b (fun e => by
    simp only at e
    subst e
    rw [h] at hb
    simp only [Option.some.injEq, Obj.cells.injEq] at hb
    rcases ht with e | e
    · exact h2 (hb.2.1.symm.trans e)
    · exact h3 (hb.2.1.symm.trans e))).trans hb⟩
end
section
variable {w0 w w' : World} {B m L : Nat} {g : Gq} {R : Array Value} {tv : Value} {taken : List Int} {cnt : Nat}
theorem MemQ.step (h : MemQ w0 w B m L g R tv taken cnt) (hb : Below w.heap.size w w') : MemQ w0 w' B m L g R tv taken cnt :=
  ⟨pstep h.b hb, h.hB, heap_step h.hp hb, h.re, h.rm, h.rt, h.hm, h.mp.step hb, own_step h.tk hb, fun j hj b hm => ⟨heap_step (h.nod j hj b hm).1 hb, (h.nod j hj b hm).2⟩, h.wf⟩
theorem MemQ.more (h : MemQ w0 w B m L g R tv taken cnt) {L' : Nat} (hL : L ≤ L') : MemQ w0 w B m L' g R tv taken cnt :=
  ⟨h.b, h.hB, h.hp, h.re, h.rm, h.rt, h.hm, h.mp.more hL, h.tk, h.nod, h.wf⟩
theorem MemQ.cell (h : MemQ w0 w B m L g R tv taken cnt) {i : Nat} {u : Value} (hu : R[i]? = some u) : w.cell? ⟨B, i, none⟩ = some u := by
  rw [cell_of_row w B i _ _ _ h.hp]; exact hu
theorem MemQ.lt (h : MemQ w0 w B m L g R tv taken cnt) : B < w.heap.size := heap_lt h.hp
theorem MemQ.froz (h : MemQ w0 w B m L g R tv taken cnt) (i : Nat) : w.frozen? ⟨B, i, none⟩ = false := frozen_of_row w B i _ _ h.hp
theorem MemQ.nlt (h : MemQ w0 w B m L g R tv taken cnt) {j b : Nat} (hj : j < 32) (hb : b ∈ g.e j :: g.L j) : b < w.heap.size := heap_lt (h.nod j hj b hb).1
/-- A store into a place. -/
theorem MemQ.setN (h : MemQ w0 w B m L g R tv taken cnt) {j x : Nat} (hj : j < 32) (hx : x ∈ g.e j :: g.L j) (p : Nat) : MemQ w0 (w.setCell ⟨x, 2, none⟩ (.pointer (some ⟨p, 0, none⟩))) B m L ⟨g.e, upN g.nx x p, g.pv, g.id, g.L, g.own, g.f⟩ R tv taken cnt := by
  have hn := h.nod j hj x hx
  have hBx : ¬ B = x := cells_ne h.hp hn.1 (by decide)
  have htx : ∀ k, tv.ownBlock = some k → k ≠ x := own_ne h.tk hn.1 (by decide)
  exact ⟨h.b.trans (Below.setCell (Below.refl _ _) hn.2 _), h.hB, (Below.heap_setCell w _ _ B hBx).trans h.hp, h.re, h.rm, h.rt, h.hm,
    h.mp.same (Below.heap_setCell w _ _ m (fun e => mapP_ne h.mp hn.1 e.symm)), own_set h.tk htx _, fun j hj b hb => ⟨(h.nod j hj b hb).1.setN x p, (h.nod j hj b hb).2⟩, h.wf⟩
theorem MemQ.setP (h : MemQ w0 w B m L g R tv taken cnt) {j x : Nat} (hj : j < 32) (hx : x ∈ g.e j :: g.L j) (p : Nat) : MemQ w0 (w.setCell ⟨x, 1, none⟩ (.pointer (some ⟨p, 0, none⟩))) B m L ⟨g.e, g.nx, upN g.pv x p, g.id, g.L, g.own, g.f⟩ R tv taken cnt := by
  have hn := h.nod j hj x hx
  have hBx : ¬ B = x := cells_ne h.hp hn.1 (by decide)
  have htx : ∀ k, tv.ownBlock = some k → k ≠ x := own_ne h.tk hn.1 (by decide)
  exact ⟨h.b.trans (Below.setCell (Below.refl _ _) hn.2 _), h.hB, (Below.heap_setCell w _ _ B hBx).trans h.hp, h.re, h.rm, h.rt, h.hm,
    h.mp.same (Below.heap_setCell w _ _ m (fun e => mapP_ne h.mp hn.1 e.symm)), own_set h.tk htx _, fun j hj b hb => ⟨(h.nod j hj b hb).1.setP x p, (h.nod j hj b hb).2⟩, h.wf⟩
theorem MemQ.keepN (h : MemQ w0 w B m L g R tv taken cnt) {j x : Nat} (hj : j < 32) (hx : x ∈ g.e j :: g.L j) (i : Nat) (u : Value) : KeepQ w (w.setCell ⟨x, i, none⟩ u) := keep_set (h.nod j hj x hx).1 (Or.inl rfl)
/-- The map has turned. -/
theorem MemQ.turn (h : MemQ w0 w B m L g R tv taken cnt) {w' : World} {L' cnt' : Nat} {f' : Int → Option Nat} (hg : w.grownBy w' (some m)) (hp : MapP w' m L' f' cnt') (hwf : ∀ i b, f' i = some b → WfI i) : MemQ w0 w' B m L' ⟨g.e, g.nx, g.pv, g.id, g.L, g.own, f'⟩ R tv taken cnt' := by
  have hk : ∀ (b : Nat) (cs : Array Value) (t : TypeId) (fr : Nat × Nat), w.heap[b]? = some (.cells cs t fr) → w'.heap[b]? = some (.cells cs t fr) := fun b _ _ _ hb => (hg.block b (heap_lt hb) (fun e => mapP_ne h.mp hb (Option.some.inj e))).trans hb
  exact ⟨h.b.grown hg h.b.size (fun _ e => by cases e; exact h.hm), h.hB, hk _ _ _ _ h.hp, h.re, h.rm, h.rt, h.hm, hp,
    own_heap h.tk (fun g o hgo ho => (hg.block g (heap_lt ho) (fun e => own_nemapP h.tk h.mp g hgo (Option.some.inj e))).trans ho), fun j hj b hb => ⟨hk _ _ _ _ (h.nod j hj b hb).1, (h.nod j hj b hb).2⟩, hwf⟩
/-- Those taken are another row, and are stored. -/
theorem MemQ.putT (h : MemQ w0 w B m L g R tv taken cnt) {w' : World} {tv' : Value} {taken' : List Int} (hg : w.grownBy w' tv.ownBlock) (ho : w'.ownsRow w0.heap.size 3 1 tv' taken'.length (shI.flat taken')) :
    w'.heap[B]? = some (.cells R 55 (0, 0)) ∧ MemQ w0 (w'.setCell ⟨B, 33, none⟩ tv') B m L g (R.setIfInBounds 33 tv') tv' taken' cnt := by
  have hk : ∀ (b : Nat) (cs : Array Value) (t : TypeId) (fr : Nat × Nat), w.heap[b]? = some (.cells cs t fr) → ¬ t = 3 → w'.heap[b]? = some (.cells cs t fr) := fun b _ _ _ hb ht => (hg.block b (heap_lt hb) (fun e => own_ne h.tk hb ht b e.symm rfl)).trans hb
  have hp' := hk _ _ _ _ h.hp (by decide)
  have hmp : MapP w' m L g.f cnt := h.mp.same (hg.block m h.mp.lt (fun e => own_nemapP h.tk h.mp m e.symm rfl))
  have hR : 33 < R.size := (Array.getElem?_eq_some_iff.1 h.rt).1
  refine ⟨hp', ((h.b.grown hg h.b.size (fun _ e => (own_lt h.tk e).1)).trans (Below.setCell (Below.refl _ _) h.hB _)), h.hB, heap_setCell_same w' B 33 _ _ _ hp', fun j hj => ?_, ?_, ?_, h.hm, hmp.same (Below.heap_setCell w' _ _ m (fun e => mapP_ne hmp hp' e.symm)), own_set ho (own_ne ho hp' (by decide)) _, fun j hj b hb => ⟨?_, (h.nod j hj b hb).2⟩, h.wf⟩
  · rw [Array.getElem?_setIfInBounds_ne (by omega)]; exact h.re j hj
  · rw [Array.getElem?_setIfInBounds_ne (by omega)]; exact h.rm
  · rw [Array.getElem?_setIfInBounds, if_pos rfl, if_pos hR]
  · have hn := hk _ _ _ _ (h.nod j hj b hb).1 (by decide)
    exact (Below.heap_setCell w' ⟨B, 33, none⟩ _ b (cells_ne hn hp' (by decide))).trans hn
/-- One place more, just made. -/
theorem MemQ.grow (h : MemQ w0 w B m L g R tv taken cnt) {l1 l2 : List Nat} {l : Nat} {i : Int} {x y : Nat} (hL : g.L l = l1 ++ l2) :
    MemQ w0 (w.alloc (.cells #[.int .i64 i, .pointer (some ⟨x, 0, none⟩), .pointer (some ⟨y, 0, none⟩)] 72)) B m L ⟨g.e, upN g.nx w.heap.size y, upN g.pv w.heap.size x, fun b => if b = w.heap.size then i else g.id b, fun j => if j = l then l1 ++ w.heap.size :: l2 else g.L j, fun b => if b = w.heap.size then l else g.own b, g.f⟩ R tv taken cnt := by
  have BA := below_alloc w (.cells #[.int .i64 i, .pointer (some ⟨x, 0, none⟩), .pointer (some ⟨y, 0, none⟩)] 72)
  have hs := h.step BA
  have HN := heap_alloc_new w (.cells #[.int .i64 i, .pointer (some ⟨x, 0, none⟩), .pointer (some ⟨y, 0, none⟩)] 72)
  refine ⟨hs.b, hs.hB, hs.hp, hs.re, hs.rm, hs.rt, hs.hm, hs.mp, hs.tk, fun j hj b hb => ?_, hs.wf⟩
  by_cases e : b = w.heap.size
  · subst e
    refine ⟨?_, h.b.size⟩
    show _ = some (Obj.cells #[.int .i64 (if _ then _ else _), .pointer (some ⟨upN _ _ _ _, 0, none⟩), .pointer (some ⟨upN _ _ _ _, 0, none⟩)] _ _)
    rw [if_pos rfl, upN_same, upN_same]
    exact HN
  · have hb' : b ∈ g.e j :: g.L j := by
      replace hb : b ∈ g.e j :: (if j = l then l1 ++ w.heap.size :: l2 else g.L j) := hb
      by_cases ej : j = l
      · rw [if_pos ej] at hb
        rw [ej] at hb ⊢
        rw [hL]
        simp only [List.mem_cons, List.mem_append] at hb ⊢
        rcases hb with q | q | q | q
        · exact Or.inl q
        · exact Or.inr (Or.inl q)
        · exact absurd q e
        · exact Or.inr (Or.inr q)
      · rw [if_neg ej] at hb
        exact hb
    refine ⟨?_, (h.nod j hj b hb').2⟩
    show _ = some (Obj.cells #[.int .i64 (if _ then _ else _), .pointer (some ⟨upN _ _ _ _, 0, none⟩), .pointer (some ⟨upN _ _ _ _, 0, none⟩)] _ _)
    rw [if_neg e, upN_other e, upN_other e]
    exact (hs.nod j hj b hb').1
/-- A place is left out. -/
theorem MemQ.less (h : MemQ w0 w B m L g R tv taken cnt) {L' : Nat → List Nat} (hL : ∀ j, j < 32 → ∀ b, b ∈ L' j → b ∈ g.L j) : MemQ w0 w B m L ⟨g.e, g.nx, g.pv, g.id, L', g.own, g.f⟩ R tv taken cnt :=
  ⟨h.b, h.hB, h.hp, h.re, h.rm, h.rt, h.hm, h.mp, h.tk, fun j hj b hb => h.nod j hj b (by
    rcases List.mem_cons.1 hb with e | e
    · rw [e]; exact List.mem_cons_self
    · exact List.mem_cons_of_mem _ (hL j hj b e)), h.wf⟩
/-- Another row of the call's own is written into. -/
theorem MemQ.other (h : MemQ w0 w B m L g R tv taken cnt) {E i : Nat} {cs : Array Value} {u : Value} (hE : w.heap[E]? = some (.cells cs 28 (0, 0))) (hw : w0.heap.size ≤ E) : MemQ w0 (w.setCell ⟨E, i, none⟩ u) B m L g R tv taken cnt :=
  ⟨h.b.trans (Below.setCell (Below.refl _ _) hw _), h.hB, (Below.heap_setCell w ⟨E, i, none⟩ _ B (cells_ne h.hp hE (by decide))).trans h.hp, h.re, h.rm, h.rt, h.hm,
    h.mp.same (Below.heap_setCell w _ _ m (fun e => mapP_ne h.mp hE e.symm)), own_set h.tk (own_ne h.tk hE (by decide)) _, fun j hj b hb => ⟨(Below.heap_setCell w ⟨E, i, none⟩ _ b (cells_ne (h.nod j hj b hb).1 hE (by decide))).trans (h.nod j hj b hb).1, (h.nod j hj b hb).2⟩, h.wf⟩
end
/-- The queue at a state. -/
def QuS (w0 w : World) (B m L : Nat) (s : StU) : Prop := ∃ g R tv, MemQ w0 w B m L g R tv s.taken s.list.length ∧ TellQ g s
theorem QuS.step {w0 w w' : World} {B m L : Nat} {s : StU} (h : QuS w0 w B m L s) (hb : Below w.heap.size w w') : QuS w0 w' B m L s := by
  obtain ⟨g, R, tv, h1, h2⟩ := h
  exact ⟨g, R, tv, h1.step hb, h2⟩
theorem QuS.b {w0 w : World} {B m L : Nat} {s : StU} (h : QuS w0 w B m L s) : Below w0.heap.size w0 w := by
  obtain ⟨g, R, tv, h1, _⟩ := h
  exact h1.b
end Go.Proofs.Ytgnpodeneknpdaa
