/- Package wait in memory: operations, a map from numbers to threads, threads behind pointers, the row of them in their order, the queue's struct. -/
import Derived.Test.YtghonbiiichedaaWaitP
import Derived.Test.YtghonbiiichedaaNum
import Derived.StillTailTactics
import Derived.Maps.OwnSet
import Derived.Maps.RangeWalk
namespace Go.Proofs.Ytghonbiiichedaa
open Go.RowKit Go.Maps

def shV : Shape WvT := ⟨2, fun r => [.int .i64 r.k, .int .i64 r.t], fun _ => rfl, fun _ u hu => by simp at hu; rcases hu with rfl | rfl <;> rfl, by decide⟩
theorem info_wv : (Try.prog.info? 35).map (fun i => (i.zero, i.size, i.bytes)) = some (some (.agg #[.int .i64 0, .int .i64 0]), 2, 16) := by kernel_rfl
theorem info_ptr : (Try.prog.info? 50).map (fun i => (i.zero, i.size, i.bytes)) = some (some (.pointer none), 1, 8) := by kernel_rfl
theorem at_wv {w : World} {ad : Option Addr} {cap k : Nat} {l : List WvT} {f : WvT} (h : shV.At w ad cap l) (hk : l[k]? = some f) : ∃ b off, ad = some ⟨b, off, none⟩ ∧ b < w.heap.size ∧ w.cell? ⟨b, off + k * 2, none⟩ = some (.int .i64 f.k) ∧ w.cell? ⟨b, off + k * 2 + 1, none⟩ = some (.int .i64 f.t) := by
  have hkl := (List.getElem?_eq_some_iff.1 hk).1
  obtain ⟨b, off, e, hb, hl⟩ := h.2 (by omega)
  have h0 := shV.flat_at l k 0 f hk (by decide)
  have h1 := shV.flat_at l k 1 f hk (by decide)
  have hs : shV.size = 2 := rfl
  rw [hs] at h0 h1 hl
  refine ⟨b, off, e, hb, ?_, ?_⟩
  · rw [show off + k * 2 = off + (k * 2 + 0) from rfl, hl _ (by omega), h0]; rfl
  · rw [Nat.add_assoc, hl _ (by omega), h1]; rfl
def WfI (x : Int) : Prop := (Lit.int .i64 x).wf = true
theorem lawI : Keyed Try.prog 3 := int_keyed Try.underlying3
theorem zeroP (w : World) : (zeroValue 50).run Try.prog w = .ok (.pointer none) w := by kernel_rfl
abbrev Dt := DataW Unit
/-- How a pointer reads. -/
def rdP : Value → Option (Dt × List MemPlace)
  | .pointer none => some (.lit (.int .i64 (-1)), [])
  | .pointer (some ⟨b, 0, none⟩) => some (.lit (.int .i64 (b : Int)), [])
  | _ => none
theorem rdP_mk (b : Nat) : rdP (.pointer (some ⟨b, 0, none⟩)) = some (.lit (.int .i64 (b : Int)), []) := rfl
theorem rdP_inv {v : Value} {b : Nat} {ps : List MemPlace} (h : rdP v = some (.lit (.int .i64 (b : Int)), ps)) : v = .pointer (some ⟨b, 0, none⟩) := by
  unfold rdP at h
  split at h
  · simp only [Option.some.injEq, Prod.mk.injEq, DataW.lit.injEq, Lit.int.injEq, true_and] at h
    omega
  · simp only [Option.some.injEq, Prod.mk.injEq, DataW.lit.injEq, Lit.int.injEq, true_and] at h
    rename_i b'
    have : b' = b := by omega
    rw [this]
  · cases h
/-- A map's reading tells who stands where. -/
structure TellsP (D : Dt) (f : Int → Option Nat) (n : Nat) : Prop where
  has : ∀ i : Int, Maps.has D (.int .i64 i) = (f i).isSome
  at' : ∀ (i : Int) (b : Nat) (z : Dt), f i = some b → D.atKey (.int .i64 i) z = .lit (.int .i64 (b : Int))
  sz : Maps.size D = n
theorem lit_ne {i j : Int} (h : ¬ i = j) : (Lit.int .i64 i) ≠ Lit.int .i64 j := fun e => h (by cases e; rfl)
theorem tells_empty : TellsP (.map []) (fun _ => none) 0 := ⟨fun _ => rfl, (fun t i z h => by cases h), rfl⟩
theorem TellsP.put {D : Dt} {f : Int → Option Nat} {n : Nat} {i : Int} {b : Nat} (h : TellsP D f n) (hD : IsMap D) (hT : Tidy D) (hq : (f i).isSome = false) : TellsP (D.put (.int .i64 i) (.lit (.int .i64 (b : Int)))) (fun k => if k = i then some b else f k) (n + 1) := by
  refine ⟨fun j => ?_, fun j b' z hj => ?_, ?_⟩
  · by_cases e : j = i
    · subst e
      rw [has_put_same hD (show WideAt.IsKeyLit (.int .i64 j) from trivial), if_pos rfl]
      rfl
    · rw [has_put_other (lit_ne e), h.has j, if_neg e]
  · by_cases e : j = i
    · subst e
      rw [if_pos rfl] at hj
      cases hj
      rw [atKey_put_same hD (show WideAt.IsKeyLit (.int .i64 j) from trivial)]
    · rw [if_neg e] at hj
      rw [atKey_put_other (lit_ne e)]
      exact h.at' j b' z hj
  · rw [size_put hT, h.has i, hq, h.sz]
    rfl
theorem TellsP.del {D : Dt} {f : Int → Option Nat} {n : Nat} {i : Int} (h : TellsP D f (n + 1)) (hT : Tidy D) (hq : (f i).isSome = true) : TellsP (D.del (.int .i64 i)) (fun k => if k = i then none else f k) n := by
  refine ⟨fun j => ?_, fun j b' z hj => ?_, ?_⟩
  · by_cases e : j = i
    · subst e
      rw [has_del_same, if_pos rfl]
      rfl
    · rw [has_del_other (lit_ne e), h.has j, if_neg e]
  · by_cases e : j = i
    · rw [if_pos e] at hj
      cases hj
    · rw [if_neg e] at hj
      rw [atKey_del_other (lit_ne e)]
      exact h.at' j b' z hj
  · have h1 := size_del (k := .int .i64 i) hT
    rw [h.has i, h.sz, hq, if_pos rfl] at h1
    omega
/-- Block b is a map of at most L entries that tells f. -/
def MapP (w : World) (b L : Nat) (f : Int → Option Nat) (n : Nat) : Prop := ∃ D : Dt, w.ownsMap Try.prog 3 rdP b L D ∧ TellsP D f n
theorem own_sameM {w w' : World} {b m : Nat} {D : Dt} {R : Value → Option (Dt × List MemPlace)} (h : w.ownsMap Try.prog 3 R b m D) (e : w'.heap[b]? = w.heap[b]?) : w'.ownsMap Try.prog 3 R b m D := by
  obtain ⟨es, clock, hb, r⟩ := h
  exact ⟨es, clock, e.trans hb, r⟩
section
variable {w w' : World} {b L n : Nat} {f : Int → Option Nat}
theorem MapP.same (h : MapP w b L f n) (e : w'.heap[b]? = w.heap[b]?) : MapP w' b L f n := by
  obtain ⟨D, h1, h2⟩ := h
  exact ⟨D, own_sameM h1 e, h2⟩
theorem MapP.lt (h : MapP w b L f n) : b < w.heap.size := by
  obtain ⟨D, h1, h2⟩ := h
  exact h1.lt
theorem MapP.step (h : MapP w b L f n) (hb : Below w.heap.size w w') : MapP w' b L f n := h.same (hb.block b h.lt)
theorem MapP.more (h : MapP w b L f n) {L' : Nat} (hm : L ≤ L') : MapP w b L' f n := by
  obtain ⟨D, h1, h2⟩ := h
  exact ⟨D, h1.mono hm, h2⟩
theorem MapP.isMap (h : MapP w b L f n) : ∃ es clock, w.heap[b]? = some (.map es clock) := by
  obtain ⟨D, ⟨es, clock, hb, _⟩, _⟩ := h
  exact ⟨es, clock, hb⟩
theorem mapP_ne (h : MapP w b L f n) {B t : Nat} {cs : Array Value} {fr : Nat × Nat} (hB : w.heap[B]? = some (.cells cs t fr)) : ¬ B = b := by
  obtain ⟨es, clock, hb⟩ := h.isMap
  rintro rfl
  rw [hB] at hb
  cases hb
theorem own_nemapP {base e size k : Nat} {v : Value} {xs : List Value} (h : w.ownsRow base e size v k xs) (hm : MapP w b L f n) : ∀ g, v.ownBlock = some g → g ≠ b := by
  intro g hg e0
  subst e0
  obtain ⟨h1, h2⟩ := h
  rcases h2 with ⟨rfl, _⟩ | ⟨g', cap, cur, hv, _, hh, r⟩
  · cases hg
  · rw [hv] at hg
    simp only [Value.ownBlock, Option.some.injEq] at hg
    subst hg
    exact mapP_ne hm hh rfl
end
theorem map_newP (w : World) : MapP (w.alloc (.map #[] 0)) w.heap.size 0 (fun _ => none) 0 := ⟨.map [], World.ownsMap_made _ _ _ _, tells_empty⟩
theorem grown_refl (w : World) (r : Option Nat) : w.grownBy w r := ⟨rfl, rfl, rfl, Nat.le_refl _, fun _ _ _ => rfl⟩
/-- Pointers in a row. -/
def shP : Shape Nat := ⟨1, fun b => [.pointer (some ⟨b, 0, none⟩)], fun _ => rfl, fun _ u hu => by simp at hu; subst hu; rfl, by decide⟩
theorem at_ptr {w : World} {ad : Option Addr} {cap k : Nat} {l : List Nat} {x : Nat} (h : shP.At w ad cap l) (hk : l[k]? = some x) : ∃ b off, ad = some ⟨b, off, none⟩ ∧ b < w.heap.size ∧ w.cell? ⟨b, off + k, none⟩ = some (.pointer (some ⟨x, 0, none⟩)) := by
  have hkl := (List.getElem?_eq_some_iff.1 hk).1
  obtain ⟨b, off, e, hb, hl⟩ := h.2 (by omega)
  have h0 := shP.flat_at l k 0 x hk (by decide)
  have hs : shP.size = 1 := rfl
  rw [hs, Nat.mul_one, Nat.add_zero] at h0
  rw [hs] at hl
  exact ⟨b, off, e, hb, by rw [hl _ (by omega), h0]; rfl⟩
theorem flat_ptr (l : List Nat) : shP.flat l = l.map fun b => .pointer (some ⟨b, 0, none⟩) := by
  induction l with
  | nil => rfl
  | cons a r ih => rw [show shP.flat (a :: r) = shP.enc a ++ shP.flat r from rfl, ih]; rfl
theorem cells_ne {w : World} {a b : Nat} {cs ds : Array Value} {t u : TypeId} {fr fr' : Nat × Nat} (ha : w.heap[a]? = some (.cells cs t fr)) (hb : w.heap[b]? = some (.cells ds u fr')) (hne : ¬ t = u) : ¬ a = b := by
  rintro rfl
  rw [ha] at hb
  simp only [Option.some.injEq, Obj.cells.injEq] at hb
  exact hne hb.2.1
/-- A thread. -/
def ThrW (w : World) (P : Int → Nat) (q : WtT) : Prop := w.heap[P q.1]? = some (.cells #[.int .i64 q.1, .bool (q.2 == 2), .bool (q.2 == 1)] 52 (0, 0))
/-- A function on numbers with one value turned. -/
def upP (P : Int → Nat) (t : Int) (b : Nat) : Int → Nat := fun k => if k = t then b else P k
theorem upP_same (P : Int → Nat) (t : Int) (b : Nat) : upP P t b t = b := if_pos rfl
theorem upP_other {P : Int → Nat} {t k : Int} {b : Nat} (h : ¬ k = t) : upP P t b k = P k := if_neg h
/-- What the map tells. -/
def fnV (P : Int → Nat) (l : List WtT) : Int → Option Nat := fun k => if stV l k = none then none else some (P k)
/-- The pointers, in the order of the queue. -/
def ptrsV (P : Int → Nat) (l : List WtT) : List Nat := l.map fun q => P q.1
theorem ptrs_len (P : Int → Nat) (l : List WtT) : (ptrsV P l).length = l.length := by simp [ptrsV]
theorem ptrs_names {P : Int → Nat} {l l' : List WtT} (h : l'.map (·.1) = l.map (·.1)) : ptrsV P l' = ptrsV P l := by
  have e : ∀ l : List WtT, ptrsV P l = (l.map (·.1)).map P := fun l => by simp [ptrsV]
  rw [e, e, h]
theorem len_names {l l' : List WtT} (h : l'.map (·.1) = l.map (·.1)) : l'.length = l.length := by
  have := congrArg List.length h
  simpa using this
theorem st_names {l l' : List WtT} (h : l'.map (·.1) = l.map (·.1)) (k : Int) : stV l' k = none ↔ stV l k = none := by
  rw [stV_none, stV_none]
  have e : ∀ l : List WtT, (∀ q ∈ l, ¬ q.1 = k) ↔ ¬ k ∈ l.map (·.1) := fun l => by
    simp only [List.mem_map, not_exists, not_and]
  rw [e, e, h]
theorem fn_names {P : Int → Nat} {l l' : List WtT} (h : l'.map (·.1) = l.map (·.1)) : fnV P l' = fnV P l := by
  funext k
  unfold fnV
  by_cases h2 : stV l k = none
  · rw [if_pos h2, if_pos ((st_names h k).2 h2)]
  · rw [if_neg h2, if_neg (fun e => h2 ((st_names h k).1 e))]
theorem fn_some (P : Int → Nat) (l : List WtT) (k : Int) : (fnV P l k).isSome = (stV l k).isSome := by
  unfold fnV
  cases h : stV l k with
  | none => rw [if_pos rfl]
  | some x => rw [if_neg (by simp)]; rfl
theorem st_add {l : List WtT} {t k : Int} {x : Nat} : stV (l ++ [(t, x)]) k = none ↔ stV l k = none ∧ ¬ k = t := by
  rw [stV_none, stV_none]
  constructor
  · intro h
    exact ⟨fun q hq => h q (List.mem_append_left _ hq), fun e => h (t, x) (by simp) e.symm⟩
  · rintro ⟨h1, h2⟩ q hq
    rcases List.mem_append.1 hq with h | h
    · exact h1 q h
    · rw [List.mem_singleton] at h
      rw [h]
      exact fun e => h2 e.symm
theorem fn_add {P : Int → Nat} {l : List WtT} {t : Int} {x b : Nat} : fnV (upP P t b) (l ++ [(t, x)]) = fun k => if k = t then some b else fnV P l k := by
  funext k
  unfold fnV
  by_cases e : k = t
  · subst e
    rw [if_pos rfl, upP_same, if_neg (fun h => (st_add.1 h).2 rfl)]
  · rw [if_neg e, upP_other e]
    by_cases h : stV l k = none
    · rw [if_pos h, if_pos (st_add.2 ⟨h, e⟩)]
    · rw [if_neg h, if_neg (fun q => h (st_add.1 q).1)]
theorem st_out {l : List WtT} {t k : Int} : stV (outV l t) k = none ↔ stV l k = none ∨ k = t := by
  rw [stV_none, stV_none]
  unfold outV
  constructor
  · intro h
    by_cases e : k = t
    · exact Or.inr e
    · exact Or.inl fun q hq e2 => h q (List.mem_filter.2 ⟨hq, by rw [decide_eq_true_eq, e2]; exact e⟩) e2
  · rintro (h | rfl) q hq
    · exact h q (List.mem_filter.1 hq).1
    · have := (List.mem_filter.1 hq).2
      rw [decide_eq_true_eq] at this
      exact this
theorem fn_out {P : Int → Nat} {l : List WtT} {t : Int} : fnV P (outV l t) = fun k => if k = t then none else fnV P l k := by
  funext k
  unfold fnV
  by_cases e : k = t
  · rw [if_pos e, if_pos (st_out.2 (Or.inr e))]
  · rw [if_neg e]
    by_cases h : stV l k = none
    · rw [if_pos h, if_pos (st_out.2 (Or.inl h))]
    · rw [if_neg h, if_neg (fun q => by rcases st_out.1 q with q | q; exact h q; exact e q)]
/-- The queue in memory: the struct in block B, the map in block m, the row of pointers, the row of those who got one, the threads. -/
structure MemV (w0 w : World) (B m L : Nat) (P : Int → Nat) (f : Int → Option Nat) (cnt : Nat) (ps : List Nat) (l : List WtT) (gt : List Int) (th : Nat) (ov gv : Value) : Prop where
  b : Below w0.heap.size w0 w
  hB : w0.heap.size ≤ B
  hp : w.heap[B]? = some (.cells #[ov, .map (some m), .int .i64 (th : Nat), gv] 40 (0, 0))
  hm : w0.heap.size ≤ m
  mp : MapP w m L f cnt
  ord : w.ownsRow w0.heap.size 50 1 ov ps.length (shP.flat ps)
  got : w.ownsRow w0.heap.size 3 1 gv gt.length (shI.flat gt)
  thr : ∀ q ∈ l, ThrW w P q ∧ w0.heap.size ≤ P q.1
/-- What is neither a thread nor the queue nor a number nor a row of pointers stays. -/
structure KeepV (w w' : World) : Prop where
  sz : w.heap.size ≤ w'.heap.size
  at_ : ∀ (b : Nat) (cs : Array Value) (t : TypeId) (fr : Nat × Nat), w.heap[b]? = some (.cells cs t fr) → ¬ t = 3 → ¬ t = 52 → ¬ t = 40 → ¬ t = 50 → w'.heap[b]? = some (.cells cs t fr)
section
variable {w w' w'' : World}
theorem KeepV.refl (w : World) : KeepV w w := ⟨Nat.le_refl _, fun _ _ _ _ h _ _ _ _ => h⟩
theorem KeepV.trans (h : KeepV w w') (h' : KeepV w' w'') : KeepV w w'' := ⟨Nat.le_trans h.sz h'.sz, fun b cs t fr hb h1 h2 h3 h4 => h'.at_ b cs t fr (h.at_ b cs t fr hb h1 h2 h3 h4) h1 h2 h3 h4⟩
theorem keep_below (hb : Below w.heap.size w w') : KeepV w w' := ⟨hb.size, fun _ _ _ _ h _ _ _ _ => heap_step h hb⟩
theorem keep_turn {m L n : Nat} {f : Int → Option Nat} (h : MapP w m L f n) (hg : w.grownBy w' (some m)) : KeepV w w' :=
  ⟨hg.size, fun b _ _ _ hb _ _ _ _ => (hg.block b (heap_lt hb) (fun e => mapP_ne h hb (Option.some.inj e))).trans hb⟩
theorem keep_row {base size n e : Nat} {v : Value} {xs : List Value} (h : w.ownsRow base e size v n xs) (he : e = 3 ∨ e = 50) (hg : w.grownBy w' v.ownBlock) : KeepV w w' :=
  ⟨hg.size, fun b _ t _ hb h1 _ _ h4 => (hg.block b (heap_lt hb) (fun e' => own_ne h hb (by rcases he with rfl | rfl; exact h1; exact h4) b e'.symm rfl)).trans hb⟩
theorem keep_set {B i : Nat} {R : Array Value} {t : TypeId} {u : Value} {fr : Nat × Nat} (h : w.heap[B]? = some (.cells R t fr)) (ht : t = 52 ∨ t = 40) : KeepV w (w.setCell ⟨B, i, none⟩ u) :=
  ⟨by simp, fun b cs t' fr' hb _ h2 h3 _ => (Below.heap_setCell w ⟨B, i, none⟩ u b (fun e => by
    simp only at e
    subst e
    rw [h] at hb
    simp only [Option.some.injEq, Obj.cells.injEq] at hb
    rcases ht with e | e
    · exact h2 (hb.2.1.symm.trans e)
    · exact h3 (hb.2.1.symm.trans e))).trans hb⟩
end
theorem four_at {w : World} {b : Nat} {x y z u : Value} {t : TypeId} {fr : Nat × Nat} (h : w.heap[b]? = some (.cells #[x, y, z, u] t fr)) : w.cell? ⟨b, 0, none⟩ = some x ∧ w.cell? ⟨b, 1, none⟩ = some y ∧ w.cell? ⟨b, 2, none⟩ = some z ∧ w.cell? ⟨b, 3, none⟩ = some u := by
  refine ⟨?_, ?_, ?_, ?_⟩ <;> (rw [cell_of_row _ _ _ _ _ _ h]; rfl)
section
variable {w0 w w' : World} {B m L : Nat} {P : Int → Nat} {f : Int → Option Nat} {cnt : Nat} {ps : List Nat} {l : List WtT} {gt : List Int} {th : Nat} {ov gv : Value}
theorem MemV.step (h : MemV w0 w B m L P f cnt ps l gt th ov gv) (hb : Below w.heap.size w w') : MemV w0 w' B m L P f cnt ps l gt th ov gv :=
  ⟨pstep h.b hb, h.hB, heap_step h.hp hb, h.hm, h.mp.step hb, own_step h.ord hb, own_step h.got hb, fun q hq => ⟨heap_step (h.thr q hq).1 hb, (h.thr q hq).2⟩⟩
theorem MemV.more (h : MemV w0 w B m L P f cnt ps l gt th ov gv) {L' : Nat} (hL : L ≤ L') : MemV w0 w B m L' P f cnt ps l gt th ov gv :=
  ⟨h.b, h.hB, h.hp, h.hm, h.mp.more hL, h.ord, h.got, h.thr⟩
theorem MemV.lt (h : MemV w0 w B m L P f cnt ps l gt th ov gv) : B < w.heap.size := heap_lt h.hp
theorem MemV.froz (h : MemV w0 w B m L P f cnt ps l gt th ov gv) (i : Nat) : w.frozen? ⟨B, i, none⟩ = false := frozen_of_row w B i _ _ h.hp
theorem MemV.cells (h : MemV w0 w B m L P f cnt ps l gt th ov gv) : w.cell? ⟨B, 0, none⟩ = some ov ∧ w.cell? ⟨B, 1, none⟩ = some (.map (some m)) ∧ w.cell? ⟨B, 2, none⟩ = some (.int .i64 (th : Nat)) ∧ w.cell? ⟨B, 3, none⟩ = some gv := four_at h.hp
theorem MemV.rows (h : MemV w0 w B m L P f cnt ps l gt th ov gv) : ∃ ad cap, ov = .slice ad ps.length cap ∧ shP.At w ad cap ps := by
  obtain ⟨ad, cap, rfl, _⟩ := own_shape h.ord
  exact ⟨ad, cap, rfl, Shape.At.own (S := shP) h.ord rfl⟩
theorem MemV.thrAt (h : MemV w0 w B m L P f cnt ps l gt th ov gv) {q : WtT} (hq : q ∈ l) : w.cell? ⟨P q.1, 0, none⟩ = some (.int .i64 q.1) ∧ w.cell? ⟨P q.1, 1, none⟩ = some (.bool (q.2 == 2)) ∧ w.cell? ⟨P q.1, 2, none⟩ = some (.bool (q.2 == 1)) ∧ P q.1 < w.heap.size ∧ ∀ i, w.frozen? ⟨P q.1, i, none⟩ = false := by
  have ht := (h.thr q hq).1
  obtain ⟨h1, h2, h3⟩ := trio_at ht
  exact ⟨h1, h2, h3, heap_lt ht, fun i => frozen_of_row w _ i _ _ ht⟩
/-- Threads lie in different blocks. -/
theorem MemV.inj (h : MemV w0 w B m L P f cnt ps l gt th ov gv) {a b : WtT} (ha : a ∈ l) (hb : b ∈ l) (e : P a.1 = P b.1) : a.1 = b.1 := by
  have h1 := (h.thr a ha).1
  have h2 := (h.thr b hb).1
  unfold ThrW at h1 h2
  rw [e, h2] at h1
  simp only [Option.some.injEq, Obj.cells.injEq] at h1
  have := congrArg (fun x : Array Value => x[0]?) h1.1
  simp at this
  exact this.symm
/-- The world has turned in one block of the call's own, which is a thread's; each thread of the new line lies as it says. -/
theorem MemV.setT (h : MemV w0 w B m L P f cnt ps l gt th ov gv) {x i : Nat} {u : Value} {cs : Array Value} {l' : List WtT} (hx : w.heap[x]? = some (.cells cs 52 (0, 0))) (h0 : w0.heap.size ≤ x) (ht : ∀ q ∈ l', ThrW (w.setCell ⟨x, i, none⟩ u) P q ∧ w0.heap.size ≤ P q.1) : MemV w0 (w.setCell ⟨x, i, none⟩ u) B m L P f cnt ps l' gt th ov gv := by
  have hBx : ¬ B = x := cells_ne h.hp hx (by decide)
  exact ⟨h.b.trans (Below.setCell (Below.refl _ _) h0 _), h.hB, (Below.heap_setCell w _ _ B hBx).trans h.hp, h.hm, h.mp.same (Below.heap_setCell w _ _ m (fun e => mapP_ne h.mp hx e.symm)), own_set h.ord (own_ne h.ord hx (by decide)) _, own_set h.got (own_ne h.got hx (by decide)) _, ht⟩
/-- The map has turned. -/
theorem MemV.turn (h : MemV w0 w B m L P f cnt ps l gt th ov gv) {L' cnt' : Nat} {f' : Int → Option Nat} (hg : w.grownBy w' (some m)) (hp : MapP w' m L' f' cnt') : MemV w0 w' B m L' P f' cnt' ps l gt th ov gv := by
  have hk : ∀ (b : Nat) (cs : Array Value) (t : TypeId) (fr : Nat × Nat), w.heap[b]? = some (.cells cs t fr) → w'.heap[b]? = some (.cells cs t fr) := fun b _ _ _ hb => (hg.block b (heap_lt hb) (fun e => mapP_ne h.mp hb (Option.some.inj e))).trans hb
  exact ⟨h.b.grown hg h.b.size (fun _ e => by cases e; exact h.hm), h.hB, hk _ _ _ _ h.hp, h.hm, hp,
    own_heap h.ord (fun g o hgo ho => (hg.block g (heap_lt ho) (fun e => own_nemapP h.ord h.mp g hgo (Option.some.inj e))).trans ho),
    own_heap h.got (fun g o hgo ho => (hg.block g (heap_lt ho) (fun e => own_nemapP h.got h.mp g hgo (Option.some.inj e))).trans ho), fun q hq => ⟨hk _ _ _ _ (h.thr q hq).1, (h.thr q hq).2⟩⟩
/-- Rows of different elements lie in different blocks. -/
theorem own_two {w : World} {base base' e e' size size' k k' : Nat} {v u : Value} {xs ys : List Value} (h : w.ownsRow base e size v k xs) (h' : w.ownsRow base' e' size' u k' ys) (hne : ¬ e = e') : ∀ g, v.ownBlock = some g → u.ownBlock = some g → False := by
  intro g hg hu
  obtain ⟨h1, h2⟩ := h
  rcases h2 with ⟨rfl, _⟩ | ⟨g', cap, cur, hv, _, hh, r⟩
  · cases hg
  · rw [hv] at hg
    simp only [Value.ownBlock, Option.some.injEq] at hg
    subst hg
    exact own_ne h' hh hne _ hu rfl
/-- The row of pointers is another one, and is stored. -/
theorem MemV.putO (h : MemV w0 w B m L P f cnt ps l gt th ov gv) {ov' : Value} {ps' : List Nat} {l' : List WtT} (hg : w.grownBy w' ov.ownBlock) (ho : w'.ownsRow w0.heap.size 50 1 ov' ps'.length (shP.flat ps')) (hl : ∀ q ∈ l', q ∈ l) :
    w'.heap[B]? = some (.cells #[ov, .map (some m), .int .i64 (th : Nat), gv] 40 (0, 0)) ∧ MemV w0 (w'.setCell ⟨B, 0, none⟩ ov') B m L P f cnt ps' l' gt th ov' gv := by
  have hk : ∀ (b : Nat) (cs : Array Value) (t : TypeId) (fr : Nat × Nat), w.heap[b]? = some (.cells cs t fr) → ¬ t = 50 → w'.heap[b]? = some (.cells cs t fr) := fun b _ _ _ hb ht => (hg.block b (heap_lt hb) (fun e => own_ne h.ord hb ht b e.symm rfl)).trans hb
  have hp' := hk _ _ _ _ h.hp (by decide)
  have hmp : MapP w' m L f cnt := h.mp.same (hg.block m h.mp.lt (fun e => own_nemapP h.ord h.mp m e.symm rfl))
  have hgt : w'.ownsRow w0.heap.size 3 1 gv gt.length (shI.flat gt) := own_heap h.got (fun g o hgo ho => (hg.block g (heap_lt ho) (fun e => own_two h.got h.ord (by decide) g hgo e.symm)).trans ho)
  refine ⟨hp', ((h.b.grown hg h.b.size (fun _ e => (own_lt h.ord e).1)).trans (Below.setCell (Below.refl _ _) h.hB _)), h.hB, heap_setCell_same w' B 0 _ _ _ hp', h.hm, hmp.same (Below.heap_setCell w' _ _ m (fun e => mapP_ne hmp hp' e.symm)), own_set ho (own_ne ho hp' (by decide)) _, own_set hgt (own_ne hgt hp' (by decide)) _, fun q hq => ?_⟩
  have hn := hk _ _ _ _ (h.thr q (hl q hq)).1 (by decide)
  exact ⟨(Below.heap_setCell w' ⟨B, 0, none⟩ _ (P q.1) (cells_ne hn hp' (by decide))).trans hn, (h.thr q (hl q hq)).2⟩
/-- Those who got one are another row, and are stored. -/
theorem MemV.putG (h : MemV w0 w B m L P f cnt ps l gt th ov gv) {gv' : Value} {gt' : List Int} (hg : w.grownBy w' gv.ownBlock) (ho : w'.ownsRow w0.heap.size 3 1 gv' gt'.length (shI.flat gt')) :
    w'.heap[B]? = some (.cells #[ov, .map (some m), .int .i64 (th : Nat), gv] 40 (0, 0)) ∧ MemV w0 (w'.setCell ⟨B, 3, none⟩ gv') B m L P f cnt ps l gt' th ov gv' := by
  have hk : ∀ (b : Nat) (cs : Array Value) (t : TypeId) (fr : Nat × Nat), w.heap[b]? = some (.cells cs t fr) → ¬ t = 3 → w'.heap[b]? = some (.cells cs t fr) := fun b _ _ _ hb ht => (hg.block b (heap_lt hb) (fun e => own_ne h.got hb ht b e.symm rfl)).trans hb
  have hp' := hk _ _ _ _ h.hp (by decide)
  have hmp : MapP w' m L f cnt := h.mp.same (hg.block m h.mp.lt (fun e => own_nemapP h.got h.mp m e.symm rfl))
  have hod : w'.ownsRow w0.heap.size 50 1 ov ps.length (shP.flat ps) := own_heap h.ord (fun g o hgo ho => (hg.block g (heap_lt ho) (fun e => own_two h.ord h.got (by decide) g hgo e.symm)).trans ho)
  refine ⟨hp', ((h.b.grown hg h.b.size (fun _ e => (own_lt h.got e).1)).trans (Below.setCell (Below.refl _ _) h.hB _)), h.hB, heap_setCell_same w' B 3 _ _ _ hp', h.hm, hmp.same (Below.heap_setCell w' _ _ m (fun e => mapP_ne hmp hp' e.symm)), own_set hod (own_ne hod hp' (by decide)) _, own_set ho (own_ne ho hp' (by decide)) _, fun q hq => ?_⟩
  have hn := hk _ _ _ _ (h.thr q hq).1 (by decide)
  exact ⟨(Below.heap_setCell w' ⟨B, 3, none⟩ _ (P q.1) (cells_ne hn hp' (by decide))).trans hn, (h.thr q hq).2⟩
/-- As many things as that. -/
theorem MemV.putN (h : MemV w0 w B m L P f cnt ps l gt th ov gv) (th' : Nat) : MemV w0 (w.setCell ⟨B, 2, none⟩ (.int .i64 (th' : Nat))) B m L P f cnt ps l gt th' ov gv :=
  ⟨h.b.trans (Below.setCell (Below.refl _ _) h.hB _), h.hB, heap_setCell_same w B 2 _ _ _ h.hp, h.hm, h.mp.same (Below.heap_setCell w _ _ m (fun e => mapP_ne h.mp h.hp e.symm)), own_set h.ord (own_ne h.ord h.hp (by decide)) _, own_set h.got (own_ne h.got h.hp (by decide)) _, fun q hq => ⟨(Below.heap_setCell w ⟨B, 2, none⟩ _ (P q.1) (cells_ne (h.thr q hq).1 h.hp (by decide))).trans (h.thr q hq).1, (h.thr q hq).2⟩⟩
theorem MemV.keepB (h : MemV w0 w B m L P f cnt ps l gt th ov gv) (i : Nat) (u : Value) : KeepV w (w.setCell ⟨B, i, none⟩ u) := keep_set h.hp (Or.inr rfl)
theorem MemV.keepT (h : MemV w0 w B m L P f cnt ps l gt th ov gv) {q : WtT} (hq : q ∈ l) (i : Nat) (u : Value) : KeepV w (w.setCell ⟨P q.1, i, none⟩ u) := keep_set (h.thr q hq).1 (Or.inl rfl)
/-- Another row of the call's own is written into. -/
theorem MemV.other (h : MemV w0 w B m L P f cnt ps l gt th ov gv) {E i : Nat} {cs : Array Value} {u : Value} (hE : w.heap[E]? = some (.cells cs 28 (0, 0))) (hw : w0.heap.size ≤ E) : MemV w0 (w.setCell ⟨E, i, none⟩ u) B m L P f cnt ps l gt th ov gv :=
  ⟨h.b.trans (Below.setCell (Below.refl _ _) hw _), h.hB, (Below.heap_setCell w ⟨E, i, none⟩ _ B (cells_ne h.hp hE (by decide))).trans h.hp, h.hm, h.mp.same (Below.heap_setCell w _ _ m (fun e => mapP_ne h.mp hE e.symm)), own_set h.ord (own_ne h.ord hE (by decide)) _, own_set h.got (own_ne h.got hE (by decide)) _, fun q hq => ⟨(Below.heap_setCell w ⟨E, i, none⟩ _ (P q.1) (cells_ne (h.thr q hq).1 hE (by decide))).trans (h.thr q hq).1, (h.thr q hq).2⟩⟩
/-- One thread more, just made: nobody speaks of it yet. -/
theorem MemV.grow (h : MemV w0 w B m L P f cnt ps l gt th ov gv) {t : Int} (hn : stV l t = none) :
    MemV w0 (w.alloc (.cells #[.int .i64 t, .bool false, .bool false] 52)) B m L (upP P t w.heap.size) f cnt ps (l ++ [(t, 0)]) gt th ov gv := by
  have hs := h.step (below_alloc w (.cells #[.int .i64 t, .bool false, .bool false] 52))
  have HN := heap_alloc_new w (.cells #[.int .i64 t, .bool false, .bool false] 52)
  refine ⟨hs.b, hs.hB, hs.hp, hs.hm, hs.mp, hs.ord, hs.got, fun q hq => ?_⟩
  rcases List.mem_append.1 hq with hq | hq
  · have hne : ¬ q.1 = t := stV_none.1 hn q hq
    unfold ThrW
    rw [upP_other hne]
    exact hs.thr q hq
  · rw [List.mem_singleton] at hq
    subst hq
    unfold ThrW
    simp only
    rw [upP_same]
    exact ⟨HN, h.b.size⟩
end
/-- The queue at a state. -/
def QuV (w0 w : World) (B m L : Nat) (s : StV) : Prop := ∃ P ov gv, MemV w0 w B m L P (fnV P s.line) s.line.length (ptrsV P s.line) s.line s.got s.things ov gv
section
variable {w0 w w' : World} {B m L : Nat} {s : StV}
theorem QuV.step (h : QuV w0 w B m L s) (hb : Below w.heap.size w w') : QuV w0 w' B m L s := by
  obtain ⟨P, ov, gv, h1⟩ := h
  exact ⟨P, ov, gv, h1.step hb⟩
theorem QuV.b (h : QuV w0 w B m L s) : Below w0.heap.size w0 w := by
  obtain ⟨P, ov, gv, h1⟩ := h
  exact h1.b
theorem QuV.more (h : QuV w0 w B m L s) {L' : Nat} (hL : L ≤ L') : QuV w0 w B m L' s := by
  obtain ⟨P, ov, gv, h1⟩ := h
  exact ⟨P, ov, gv, h1.more hL⟩
theorem QuV.other (h : QuV w0 w B m L s) {E i : Nat} {cs : Array Value} {u : Value} (hE : w.heap[E]? = some (.cells cs 28 (0, 0))) (hw : w0.heap.size ≤ E) : QuV w0 (w.setCell ⟨E, i, none⟩ u) B m L s := by
  obtain ⟨P, ov, gv, h1⟩ := h
  exact ⟨P, ov, gv, h1.other hE hw⟩
end
/-- What a step leaves. -/
def StepV (w0 w : World) (B m L : Nat) (s : StV) (e : Ending) (w' : World) : Prop := e = .returned (.tuple #[]) ∧ QuV w0 w' B m L s ∧ KeepV w w'
end Go.Proofs.Ytghonbiiichedaa
