/- Facts on memory that every walk of mine uses: what stays below a number of blocks, a row of the call's own, a slice that reads as a list. No function of the project in sight. -/
import Derived.Test.YteabdbgllafafaaGen
import Derived.Test.YteabdbgllafafaaRowL
import Derived.Deep.AppendLies
import Derived.Laws.OwnMore
namespace Go.Proofs.Yteabdbgllafafaa
open Go.RowKit

theorem pstep {W w w' : World} (h : Below W.heap.size W w) (hb : Below w.heap.size w w') : Below W.heap.size W w' := h.trans (hb.mono h.size)
theorem bat' {w w1 : World} (hb : Below w.heap.size w w1) (b : Nat) (h : b < w.heap.size) : (∀ o, w1.cell? ⟨b, o, none⟩ = w.cell? ⟨b, o, none⟩) ∧ (∀ o, w1.frozen? ⟨b, o, none⟩ = w.frozen? ⟨b, o, none⟩) ∧ b < w1.heap.size :=
  ⟨fun o => hb.cell (p := ⟨b, o, none⟩) h, fun o => hb.frozen (p := ⟨b, o, none⟩) h, Nat.lt_of_lt_of_le h hb.size⟩
theorem below_alloc (w : World) (o : Obj) : Below w.heap.size w (w.alloc o) := (Below.refl _ _).alloc (Nat.le_refl _) o
theorem below_two (w : World) (o o' : Obj) : Below w.heap.size w ((w.alloc o).alloc o') := (below_alloc w o).alloc (by simp) o'
theorem below_three (w : World) (a b c : Obj) : Below w.heap.size w (((w.alloc a).alloc b).alloc c) := (below_two w a b).alloc (by simp; omega) c
theorem heap_step {w w' : World} {k : Nat} {o : Obj} (h : w.heap[k]? = some o) (hb : Below w.heap.size w w') : w'.heap[k]? = some o := by
  rw [hb.block k (Array.getElem?_eq_some_iff.1 h).1]; exact h
theorem heap_lt {w : World} {k : Nat} {o : Obj} (h : w.heap[k]? = some o) : k < w.heap.size := (Array.getElem?_eq_some_iff.1 h).1
theorem info_parts' {P : Program} {t : TypeId} {z : Value} {n b : Nat} (h : (P.info? t).map (fun i => (i.zero, i.size, i.bytes)) = some (some z, n, b)) : ∃ i, P.info? t = some i ∧ i.zero = some z ∧ i.size = n ∧ i.bytes = b := by
  cases hq : P.info? t with
  | none => simp [hq] at h
  | some i =>
    simp [hq] at h
    exact ⟨i, rfl, h.1, h.2.1, h.2.2⟩
/-- The answer tells whether P. -/
def RetB (P : Prop) (e : Ending) : Prop := ∃ b, e = .returned (.bool b) ∧ (b = true ↔ P)
theorem RetB.yes {P : Prop} (h : P) : RetB P (.returned (.bool true)) := ⟨true, rfl, fun _ => h, fun _ => rfl⟩
theorem RetB.no {P : Prop} (h : ¬ P) : RetB P (.returned (.bool false)) := ⟨false, rfl, (fun e => by cases e), fun e => absurd e h⟩
theorem own_heap {w w' : World} {base e size n : Nat} {v : Value} {xs : List Value} (h : w.ownsRow base e size v n xs) (hk : ∀ g o, v.ownBlock = some g → w.heap[g]? = some o → w'.heap[g]? = some o) : w'.ownsRow base e size v n xs := by
  obtain ⟨h1, h2⟩ := h
  refine ⟨h1, ?_⟩
  rcases h2 with h2 | ⟨g, cap, cur, hv, hg, hh, r⟩
  · exact Or.inl h2
  · exact Or.inr ⟨g, cap, cur, hv, hg, hk g _ (by rw [hv]; rfl) hh, r⟩
theorem own_ne {w : World} {base e size n : Nat} {v : Value} {xs : List Value} (h : w.ownsRow base e size v n xs) {B t : Nat} {cs : Array Value} {fr : Nat × Nat} (hB : w.heap[B]? = some (.cells cs t fr)) (hte : ¬ t = e) : ∀ g, v.ownBlock = some g → g ≠ B := by
  intro g hg e0
  subst e0
  obtain ⟨h1, h2⟩ := h
  rcases h2 with ⟨rfl, _⟩ | ⟨g', cap, cur, hv, _, hh, r⟩
  · cases hg
  · rw [hv] at hg
    simp only [Value.ownBlock, Option.some.injEq] at hg
    subst hg
    rw [hh] at hB
    simp only [Option.some.injEq, Obj.cells.injEq] at hB
    exact hte hB.2.1.symm
theorem own_step {w w' : World} {base e size n : Nat} {v : Value} {xs : List Value} (h : w.ownsRow base e size v n xs) (hb : Below w.heap.size w w') : w'.ownsRow base e size v n xs :=
  own_heap h fun _ _ _ ho => heap_step ho hb
theorem own_lt {w : World} {base e size n : Nat} {v : Value} {xs : List Value} (h : w.ownsRow base e size v n xs) {g : Nat} (hg : v.ownBlock = some g) : base ≤ g ∧ g < w.heap.size := h.lt g hg
/-- The call's own row counts from a lower number, too. -/
theorem own_base {w : World} {base base' e size n : Nat} {v : Value} {xs : List Value} (h : w.ownsRow base e size v n xs) (hb : base' ≤ base) : w.ownsRow base' e size v n xs := by
  obtain ⟨h1, h2⟩ := h
  refine ⟨h1, ?_⟩
  rcases h2 with h2 | ⟨g, cap, cur, hv, hg, r⟩
  · exact Or.inl h2
  · exact Or.inr ⟨g, cap, cur, hv, Nat.le_trans hb hg, r⟩
/-- What shape it has. -/
theorem own_shape {w : World} {base e size n : Nat} {v : Value} {xs : List Value} (h : w.ownsRow base e size v n xs) : ∃ ad cap, v = .slice ad n cap ∧ n ≤ cap ∧ cap ≤ maxLen ∧ (ad = none → n = 0 ∧ cap = 0) ∧ (∀ a, ad = some a → ∃ g, a = ⟨g, 0, none⟩ ∧ base ≤ g ∧ g < w.heap.size) := by
  obtain ⟨h1, h2⟩ := h
  rcases h2 with ⟨rfl, rfl⟩ | ⟨g, cap, cur, hv, hg, hh, hn, hc, r⟩
  · exact ⟨none, 0, rfl, Nat.le_refl _, Nat.zero_le _, fun _ => ⟨rfl, rfl⟩, fun a e => by cases e⟩
  · exact ⟨_, cap, hv, hn, hc, (fun e => by cases e), fun a e => by cases e; exact ⟨g, rfl, hg, heap_lt hh⟩⟩
/-- The row without its last elements. -/
theorem own_take {α : Type} {S : Shape α} {w : World} {base e n k : Nat} {ad : Option Addr} {cap : Nat} {l : List α} (h : w.ownsRow base e S.size (.slice ad n cap) n (S.flat l)) (hl : l.length = n) (hk : k ≤ n) : w.ownsRow base e S.size (.slice ad k cap) k (S.flat (l.take k)) := by
  obtain ⟨h1, h2⟩ := h
  refine ⟨by rw [S.flat_len, List.length_take, hl, Nat.min_eq_left hk], ?_⟩
  rcases h2 with ⟨h2, h3⟩ | ⟨g, cap', cur, hv, hg, hh, hn, hc, hs, ht⟩
  · simp only [Value.slice.injEq] at h2
    obtain ⟨rfl, rfl, rfl⟩ := h2
    obtain rfl : k = 0 := by omega
    exact Or.inl ⟨rfl, rfl⟩
  · simp only [Value.slice.injEq, true_and] at hv
    obtain ⟨rfl, rfl⟩ := hv
    refine Or.inr ⟨g, cap, cur, rfl, hg, hh, by omega, hc, hs, ?_⟩
    have e : S.flat l = S.flat (l.take k) ++ S.flat (l.drop k) := by rw [← S.flat_app, List.take_append_drop]
    have hlen : (S.flat (l.take k)).length = k * S.size := by rw [S.flat_len, List.length_take, hl, Nat.min_eq_left hk]
    have h6 : (cur.toList.take (n * S.size)).take (k * S.size) = cur.toList.take (k * S.size) := by rw [List.take_take, Nat.min_eq_left (Nat.mul_le_mul_right _ hk)]
    rw [← h6, ht, e, List.take_left' hlen]
theorem Shape.At.lit {α : Type} {S : Shape α} {w : World} {b T cap : Nat} (l : List α) (hh : w.heap[b]? = some (.cells (S.flat l).toArray T (0, 0))) : S.At w (some ⟨b, 0, none⟩) cap l :=
  ⟨fun e => (by cases e), fun _ => ⟨b, 0, rfl, (Array.getElem?_eq_some_iff.1 hh).1, fun k _ => by
    rw [cell_of_row w b _ _ _ _ hh, Nat.zero_add, List.getElem?_toArray]⟩⟩
theorem Shape.At.own {α : Type} {S : Shape α} {w : World} {base e n cap : Nat} {ad : Option Addr} {l : List α} (h : w.ownsRow base e S.size (.slice ad n cap) n (S.flat l)) (hl : l.length = n) : S.At w ad cap l := by
  subst hl
  obtain ⟨ad', cap', hv, h'⟩ := Shape.At.of_row h
  simp only [Value.slice.injEq, true_and] at hv
  obtain ⟨rfl, rfl⟩ := hv
  exact h'
theorem Shape.At.take {α : Type} {S : Shape α} {w : World} {ad : Option Addr} {cap : Nat} {l : List α} (h : S.At w ad cap l) (k : Nat) : S.At w ad cap (l.take k) :=
  ⟨fun e => by obtain ⟨h1, h2⟩ := h.1 e; exact ⟨h1, by rw [h2]; simp⟩, fun h0 => by
    have hl : (l.take k).length ≤ l.length := by rw [List.length_take]; omega
    obtain ⟨b, off, e, hb, hc⟩ := h.2 (by omega)
    refine ⟨b, off, e, hb, fun i hi => ?_⟩
    have e2 : S.flat l = S.flat (l.take k) ++ S.flat (l.drop k) := by rw [← S.flat_app, List.take_append_drop]
    rw [hc i (Nat.lt_of_lt_of_le hi (Nat.mul_le_mul_right _ hl)), e2, List.getElem?_append_left (by rw [S.flat_len]; exact hi)]⟩
/-- Where a row has grown and then more was made; and the other way round. -/
theorem grown_below {w w1 w2 : World} {r : Option Nat} (h : w.grownBy w1 r) (hb : Below w.heap.size w1 w2) : w.grownBy w2 r :=
  ⟨hb.os.trans h.os, hb.tape.trans h.tape, hb.output.trans h.output, Nat.le_trans h.size hb.size, fun k hk hr => (hb.block k hk).trans (h.block k hk hr)⟩
theorem below_grown {w w1 w2 : World} {r : Option Nat} (hb : Below w.heap.size w w1) (h : w1.grownBy w2 r) : w.grownBy w2 r :=
  ⟨h.os.trans hb.os, h.tape.trans hb.tape, h.output.trans hb.output, Nat.le_trans hb.size h.size, fun k hk hr => (h.block k (Nat.lt_of_lt_of_le hk hb.size) hr).trans (hb.block k hk)⟩
theorem below_row {w w' : World} (hb : Below w.heap.size w w') (r : Option Nat) : w.grownBy w' r := ⟨hb.os, hb.tape, hb.output, hb.size, fun k hk _ => hb.block k hk⟩
/-- A struct of two cells in a block. -/
theorem pair_at {w : World} {b : Nat} {x y : Value} {t : TypeId} {fr : Nat × Nat} (h : w.heap[b]? = some (.cells #[x, y] t fr)) : w.cell? ⟨b, 0, none⟩ = some x ∧ w.cell? ⟨b, 1, none⟩ = some y := by
  refine ⟨?_, ?_⟩ <;> (rw [cell_of_row _ _ _ _ _ _ h]; rfl)
section
variable {P : Program}
/-- 'append' in one law, at a step of a region that draws its order. -/
theorem step_append_at {α : Type} (S : Shape α) {w : World} {ops : Array Oper} {o : Oper} {a : Act} {K : Act → World → Prop} {Q : Exit → Act → World → Prop} {E : Prop} (hgd : o.guard = none) (s x : Operand) (t : TypeId)
    (ho : o.op = .call { callee := .builtin .append, args := #[s, x], argTypes := #[t, t] })
    (base : Nat) (e : TypeId) (i : TypeInfo) (z : Value) (bytes : Nat) (ht : P.underlying t = some (.slice e)) (hi : P.info? e = some i) (hz : i.zero = some z)
    (hsize : i.size = S.size) (hby : i.bytes = bytes) (hzs : z.cells.size = S.size) (v : Value) (xs ys : List α) (hs : a.eval s = v) (hown : w.ownsRow base e S.size v xs.length (S.flat xs)) (sa : Option Addr) (m c : Nat) (hx : a.eval x = .slice sa m c) (hm : Hid (ys.length = m)) (hy : S.At w sa c ys)
    (h63 : xs.length + m ≤ maxLen) (hbytes : (xs.length + m) * bytes ≤ 140737488355328) (hbase : base ≤ w.heap.size)
    (h : ∀ ra rc w', w'.ownsRow base e S.size (.slice ra (xs.length + m) rc) (xs.length + m) (S.flat (xs ++ ys)) → w.grownBy w' v.ownBlock → (∀ g, (Value.slice ra (xs.length + m) rc).ownBlock = some g → v.ownBlock = some g ∨ g = w.heap.size) → K (a.put o.dst (.slice ra (xs.length + m) rc)) w') :
    if Region.wanted o (yielded ops a.tmps) = true then Oper.wp P o a w K Q else E := by
  have hw : Region.wanted o (yielded ops a.tmps) = true := by simp [Region.wanted, hgd]
  rw [if_pos hw]
  have e := hm.out
  subst e
  obtain ⟨ra, rc, w', hr, h2, h3, h4⟩ := run_append_at (P := P) S base t o.type _ i z bytes ht hi hz hsize hby hzs v xs ys hown sa c hy h63 hbytes hbase
  unfold Oper.wp execOp
  simp only [ho, resolve, invoke, builtin, Sem.run_bind, Sem.run_pure, Result.andThen_ok, List.map_toArray, List.map_cons, List.map_nil, hs, hx, hr]
  exact h ra rc w' h2 h3 h4
/-- 'append' in one law, the length of what was there by a name. -/
theorem wpList_append_n {w : World} {α : Type} (S : Shape α) {ops : Array Oper} {rest : List Oper} {o : Oper} {a : Act} {Q : Exit → Act → World → Prop} (hgd : o.guard = none) (s x : Operand) (t : TypeId)
    (ho : o.op = .call { callee := .builtin .append, args := #[s, x], argTypes := #[t, t] })
    (base : Nat) (e : TypeId) (i : TypeInfo) (z : Value) (bytes : Nat) (ht : P.underlying t = some (.slice e)) (hi : P.info? e = some i) (hz : i.zero = some z)
    (hsize : i.size = S.size) (hby : i.bytes = bytes) (hzs : z.cells.size = S.size) (v : Value) (n : Nat) (xs ys : List α) (hn : Hid (xs.length = n)) (hs : a.eval s = v) (hown : w.ownsRow base e S.size v n (S.flat xs)) (sa : Option Addr) (m c : Nat) (hx : a.eval x = .slice sa m c) (hm : Hid (ys.length = m)) (hy : S.At w sa c ys)
    (h63 : n + m ≤ maxLen) (hbytes : (n + m) * bytes ≤ 140737488355328) (hbase : base ≤ w.heap.size)
    (h : ∀ ra rc w', w'.ownsRow base e S.size (.slice ra (n + m) rc) (n + m) (S.flat (xs ++ ys)) → w.grownBy w' v.ownBlock → (∀ g, (Value.slice ra (n + m) rc).ownBlock = some g → v.ownBlock = some g ∨ g = w.heap.size) → wpList P ops Q rest (a.put o.dst (.slice ra (n + m) rc)) w') : wpList P ops Q (o :: rest) a w := by
  have e := hn.out
  subst e
  exact wpList_append_at S hgd s x t ho base _ i z bytes ht hi hz hsize hby hzs v xs ys hs hown sa m c hx hm hy h63 hbytes hbase h
theorem step_append_n {α : Type} (S : Shape α) {w : World} {ops : Array Oper} {o : Oper} {a : Act} {K : Act → World → Prop} {Q : Exit → Act → World → Prop} {E : Prop} (hgd : o.guard = none) (s x : Operand) (t : TypeId)
    (ho : o.op = .call { callee := .builtin .append, args := #[s, x], argTypes := #[t, t] })
    (base : Nat) (e : TypeId) (i : TypeInfo) (z : Value) (bytes : Nat) (ht : P.underlying t = some (.slice e)) (hi : P.info? e = some i) (hz : i.zero = some z)
    (hsize : i.size = S.size) (hby : i.bytes = bytes) (hzs : z.cells.size = S.size) (v : Value) (n : Nat) (xs ys : List α) (hn : Hid (xs.length = n)) (hs : a.eval s = v) (hown : w.ownsRow base e S.size v n (S.flat xs)) (sa : Option Addr) (m c : Nat) (hx : a.eval x = .slice sa m c) (hm : Hid (ys.length = m)) (hy : S.At w sa c ys)
    (h63 : n + m ≤ maxLen) (hbytes : (n + m) * bytes ≤ 140737488355328) (hbase : base ≤ w.heap.size)
    (h : ∀ ra rc w', w'.ownsRow base e S.size (.slice ra (n + m) rc) (n + m) (S.flat (xs ++ ys)) → w.grownBy w' v.ownBlock → (∀ g, (Value.slice ra (n + m) rc).ownBlock = some g → v.ownBlock = some g ∨ g = w.heap.size) → K (a.put o.dst (.slice ra (n + m) rc)) w') :
    if Region.wanted o (yielded ops a.tmps) = true then Oper.wp P o a w K Q else E := by
  have e := hn.out
  subst e
  exact step_append_at S hgd s x t ho base _ i z bytes ht hi hz hsize hby hzs v xs ys hs hown sa m c hx hm hy h63 hbytes hbase h
/-- 'append' onto what holds nothing yet. -/
theorem wpList_append_0 {w : World} {α : Type} (S : Shape α) {ops : Array Oper} {rest : List Oper} {o : Oper} {a : Act} {Q : Exit → Act → World → Prop} (hgd : o.guard = none) (s x : Operand) (t : TypeId)
    (ho : o.op = .call { callee := .builtin .append, args := #[s, x], argTypes := #[t, t] })
    (base : Nat) (e : TypeId) (i : TypeInfo) (z : Value) (bytes : Nat) (ht : P.underlying t = some (.slice e)) (hi : P.info? e = some i) (hz : i.zero = some z)
    (hsize : i.size = S.size) (hby : i.bytes = bytes) (hzs : z.cells.size = S.size) (v : Value) (ys : List α) (hs : a.eval s = v) (hown : w.ownsRow base e S.size v 0 []) (sa : Option Addr) (m c : Nat) (hx : a.eval x = .slice sa m c) (hm : Hid (ys.length = m)) (hy : S.At w sa c ys)
    (h63 : m ≤ maxLen) (hbytes : m * bytes ≤ 140737488355328) (hbase : base ≤ w.heap.size)
    (h : ∀ ra rc w', w'.ownsRow base e S.size (.slice ra m rc) m (S.flat ys) → w.grownBy w' v.ownBlock → wpList P ops Q rest (a.put o.dst (.slice ra m rc)) w') : wpList P ops Q (o :: rest) a w :=
  wpList_append_n S hgd s x t ho base e i z bytes ht hi hz hsize hby hzs v 0 [] ys (show Hid _ from rfl) hs hown sa m c hx hm hy (by rw [Nat.zero_add]; exact h63) (by rw [Nat.zero_add]; exact hbytes) hbase fun ra rc w' h1 h2 _ => by
    rw [Nat.zero_add] at h1 ⊢
    exact h ra rc w' h1 h2
theorem step_append_0 {α : Type} (S : Shape α) {w : World} {ops : Array Oper} {o : Oper} {a : Act} {K : Act → World → Prop} {Q : Exit → Act → World → Prop} {E : Prop} (hgd : o.guard = none) (s x : Operand) (t : TypeId)
    (ho : o.op = .call { callee := .builtin .append, args := #[s, x], argTypes := #[t, t] })
    (base : Nat) (e : TypeId) (i : TypeInfo) (z : Value) (bytes : Nat) (ht : P.underlying t = some (.slice e)) (hi : P.info? e = some i) (hz : i.zero = some z)
    (hsize : i.size = S.size) (hby : i.bytes = bytes) (hzs : z.cells.size = S.size) (v : Value) (ys : List α) (hs : a.eval s = v) (hown : w.ownsRow base e S.size v 0 []) (sa : Option Addr) (m c : Nat) (hx : a.eval x = .slice sa m c) (hm : Hid (ys.length = m)) (hy : S.At w sa c ys)
    (h63 : m ≤ maxLen) (hbytes : m * bytes ≤ 140737488355328) (hbase : base ≤ w.heap.size)
    (h : ∀ ra rc w', w'.ownsRow base e S.size (.slice ra m rc) m (S.flat ys) → w.grownBy w' v.ownBlock → K (a.put o.dst (.slice ra m rc)) w') :
    if Region.wanted o (yielded ops a.tmps) = true then Oper.wp P o a w K Q else E :=
  step_append_n S hgd s x t ho base e i z bytes ht hi hz hsize hby hzs v 0 [] ys (show Hid _ from rfl) hs hown sa m c hx hm hy (by rw [Nat.zero_add]; exact h63) (by rw [Nat.zero_add]; exact hbytes) hbase fun ra rc w' h1 h2 _ => by
    rw [Nat.zero_add] at h1 ⊢
    exact h ra rc w' h1 h2
end
/-- An empty row, just made. -/
theorem own_new (X : World) (e base : Nat) {size : Nat} (hX : base ≤ X.heap.size) : (X.alloc (.cells #[] e)).ownsRow base e size (.slice (some ⟨X.heap.size, 0, none⟩) 0 0) 0 [] :=
  own_base ⟨by simp, Or.inr ⟨X.heap.size, 0, #[], rfl, Nat.le_refl _, heap_alloc_new X _, Nat.le_refl _, Nat.zero_le _, by simp, by simp⟩⟩ hX
/-- A store into another block. -/
theorem own_set {w : World} {base e size n : Nat} {v : Value} {xs : List Value} (h : w.ownsRow base e size v n xs) {a : Addr} (ha : ∀ g, v.ownBlock = some g → g ≠ a.block) (u : Value) : (w.setCell a u).ownsRow base e size v n xs :=
  own_heap h fun g _ hg ho => (Below.heap_setCell w a u g (ha g hg)).trans ho
theorem heap3_0 (w : World) (a b c : Obj) : (((w.alloc a).alloc b).alloc c).heap[w.heap.size]? = some a := heap_step (heap_step (heap_alloc_new w a) (below_alloc _ b)) (below_alloc _ c)
theorem heap3_1 (w : World) (a b c : Obj) : (((w.alloc a).alloc b).alloc c).heap[w.heap.size + 1]? = some b := by
  have := heap_alloc_new (w.alloc a) b
  simp only [World.size_alloc] at this
  exact heap_step this (below_alloc _ c)
theorem heap3_2 (w : World) (a b c : Obj) : (((w.alloc a).alloc b).alloc c).heap[w.heap.size + 1 + 1]? = some c := by
  have := heap_alloc_new ((w.alloc a).alloc b) c
  simpa only [World.size_alloc] using this
end Go.Proofs.Yteabdbgllafafaa
