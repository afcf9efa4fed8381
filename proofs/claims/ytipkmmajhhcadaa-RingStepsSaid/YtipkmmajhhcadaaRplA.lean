/- corebellref.RPlay: what is in memory. -/
import Derived.Test.YtipkmmajhhcadaaRngE
namespace Go.Proofs.Ytipkmmajhhcadaa
open Go.RowKit

section
variable {P : Program}
theorem step_make_full {w : World} {ops : Array Oper} {o : Oper} {a : Act} {K : Act → World → Prop} {Q : Exit → Act → World → Prop} {E : Prop}
    (hgd : o.guard = none) (l c : Operand) (t : TypeId) (hop : o.op = Op.makeSlice t l c)
    (base : Nat) (e : TypeId) (i : TypeInfo) (z : Value) (size : Nat) (h1 : P.underlying t = some (.slice e)) (h2 : P.info? e = some i) (h3 : i.zero = some z) (h4 : i.size = size)
    (kl kc : IntKind) (L C : Int) (n : Nat) (hl : a.eval l = .int kl L) (hc : a.eval c = .int kc C) (hL : L = (n : Int)) (hC : C = (n : Int)) (b2 : i.bytes * n ≤ 281474976710656) (b3 : n ≤ maxLen) (b4 : base ≤ w.heap.size)
    (hK : ∀ w', w'.ownsRow base e size (.slice (some ⟨w.heap.size, 0, none⟩) n n) n (madeCells z.cells (n * size)).toList → w.grownBy w' none → K (a.put o.dst (.slice (some ⟨w.heap.size, 0, none⟩) n n)) w') :
    if Region.wanted o (yielded ops a.tmps) = true then Oper.wp P o a w K Q else E := by
  have hw : Region.wanted o (yielded ops a.tmps) = true := by simp [Region.wanted, hgd]
  rw [if_pos hw]
  obtain ⟨w', hrun, r1, r2⟩ := run_make_full (P := P) w base t e i z size h1 h2 h3 h4 kl kc n b2 b3 b4
  subst hL
  subst hC
  unfold Oper.wp
  simp [execOp, hop, hl, hc, hrun, Result.andThen]
  exact hK w' r1 r2
end
/-- Two slices lie apart. -/
def ApV (v v' : Value) : Prop := ∀ x, v.ownBlock = some x → ¬ v'.ownBlock = some x
/-- The new slice lies where the old one lay, or in what is new. -/
def FrV (w : World) (v v' : Value) : Prop := ∀ x, v'.ownBlock = some x → v.ownBlock = some x ∨ w.heap.size ≤ x
theorem que_blk {α : Type} {S : Shape α} {wr : World} {base N : Nat} {T : TypeId} {v : Value} {l : List α} (h : Que S wr base T v N l) {B : Nat} (hv : v.ownBlock = some B) : ∃ cur, wr.heap[B]? = some (.cells cur T (0, 0)) := by
  obtain ⟨ad, cap, hs, _, _, _, h1⟩ := que_shape h
  subst hs
  cases ad with
  | none => cases hv
  | some x =>
    obtain ⟨g, off, e, _⟩ := h1 x rfl
    subst e
    simp only [Value.ownBlock, Option.some.injEq] at hv
    subst hv
    exact que_block h
theorem que_apT {α : Type} {S : Shape α} {wr : World} {base N : Nat} {T T' : TypeId} {v : Value} {l : List α} (h : Que S wr base T v N l) (hT : ¬ T' = T) {B : Nat} {cur : Array Value} (hB : wr.heap[B]? = some (.cells cur T' (0, 0))) : ¬ some B = v.ownBlock := fun e => que_ne h hB hT B e.symm rfl
section
variable {w wr wy : World} {ev gv kv tv ev' gv' kv' tv' : Value} {ne G K T ne' G' K' T' : Nat} {es gs ks ts es' gs' ks' ts' : List Int}
theorem apV_new {v u u' : Value} {N : Nat} {l : List Int} {base : Nat} {e : TypeId} (h : ApV v u) (hv : Que shI wr base e v N l) (hf : FrV wr u u') : ApV v u' := fun x h1 h2 => by
  rcases hf x h2 with e | e
  · exact h x h1 e
  · have := (que_lt hv h1).2; omega
theorem apV_new' {v u u' : Value} {N : Nat} {l : List Int} {base : Nat} {e : TypeId} (h : ApV u v) (hv : Que shI wr base e v N l) (hf : FrV wr u u') : ApV u' v := fun x h1 h2 => by
  rcases hf x h1 with e | e
  · exact h x e h2
  · have := (que_lt hv h2).2; omega
/-- What is in memory while RPlay runs: codes, what was given, what was worked at, what was taken. -/
structure LpP (w wr : World) (ev : Value) (ne : Nat) (es : List Int) (gv : Value) (G : Nat) (gs : List Int) (kv : Value) (K : Nat) (ks : List Int) (tv : Value) (T : Nat) (ts : List Int) : Prop where
  b : Below w.heap.size w wr
  z : wr.heap[w.heap.size]? = some (.cells #[.slice none 0 0, .int .i64 0, .int .i64 0, .int .i64 0] tR (0, 0))
  e : Que shI wr w.heap.size tE ev ne es
  g : Que shI wr w.heap.size tI gv G gs
  k : Que shI wr w.heap.size tI kv K ks
  t : Que shI wr w.heap.size tI tv T ts
  gk : ApV gv kv
  gt : ApV gv tv
  kt : ApV kv tv
theorem LpP.step (h : LpP w wr ev ne es gv G gs kv K ks tv T ts) (hb : Below wr.heap.size wr wy) : LpP w wy ev ne es gv G gs kv K ks tv T ts :=
  ⟨pstep h.b hb, heap_step h.z hb, que_step h.e hb, que_step h.g hb, que_step h.k hb, que_step h.t hb, h.gk, h.gt, h.kt⟩
theorem kept_T {α : Type} {S : Shape α} {T1 T2 : TypeId} {v u : Value} {N M base b2 : Nat} {l : List α} {β : Type} {S2 : Shape β} {m : List β} (h : Que S wr base T1 v N l) (hu : Que S2 wr b2 T2 u M m) (hT : ¬ T1 = T2) : ∀ x, v.ownBlock = some x → some x ≠ u.ownBlock := fun x hx e => by
  obtain ⟨cur, hc⟩ := que_blk h hx
  exact que_ne hu hc hT x e.symm rfl
theorem LpP.growE (h : LpP w wr ev ne es gv G gs kv K ks tv T ts) (hg : wr.grownBy wy ev.ownBlock) (hq : Que shI wy w.heap.size tE ev' ne' es') : LpP w wy ev' ne' es' gv G gs kv K ks tv T ts :=
  ⟨h.b.grown hg h.b.size (fun k hk => (que_lt h.e hk).1), (hg.block _ (heap_lt h.z) (que_apT h.e (by decide) h.z)).trans h.z, hq, que_kept h.g hg (kept_T h.g h.e (by decide)), que_kept h.k hg (kept_T h.k h.e (by decide)), que_kept h.t hg (kept_T h.t h.e (by decide)), h.gk, h.gt, h.kt⟩
theorem LpP.growG (h : LpP w wr ev ne es gv G gs kv K ks tv T ts) (hg : wr.grownBy wy gv.ownBlock) (hq : Que shI wy w.heap.size tI gv' G' gs') (hf : FrV wr gv gv') : LpP w wy ev ne es gv' G' gs' kv K ks tv T ts :=
  ⟨h.b.grown hg h.b.size (fun k hk => (que_lt h.g hk).1), (hg.block _ (heap_lt h.z) (que_apT h.g (by decide) h.z)).trans h.z, que_kept h.e hg (kept_T h.e h.g (by decide)), hq, que_kept h.k hg (fun x hx e => h.gk x e.symm hx), que_kept h.t hg (fun x hx e => h.gt x e.symm hx), apV_new' h.gk h.k hf, apV_new' h.gt h.t hf, h.kt⟩
theorem LpP.growK (h : LpP w wr ev ne es gv G gs kv K ks tv T ts) (hg : wr.grownBy wy kv.ownBlock) (hq : Que shI wy w.heap.size tI kv' K' ks') (hf : FrV wr kv kv') : LpP w wy ev ne es gv G gs kv' K' ks' tv T ts :=
  ⟨h.b.grown hg h.b.size (fun k hk => (que_lt h.k hk).1), (hg.block _ (heap_lt h.z) (que_apT h.k (by decide) h.z)).trans h.z, que_kept h.e hg (kept_T h.e h.k (by decide)), que_kept h.g hg (fun x hx e => h.gk x hx e.symm), hq, que_kept h.t hg (fun x hx e => h.kt x e.symm hx), apV_new h.gk h.g hf, h.gt, apV_new' h.kt h.t hf⟩
theorem LpP.growT (h : LpP w wr ev ne es gv G gs kv K ks tv T ts) (hg : wr.grownBy wy tv.ownBlock) (hq : Que shI wy w.heap.size tI tv' T' ts') (hf : FrV wr tv tv') : LpP w wy ev ne es gv G gs kv K ks tv' T' ts' :=
  ⟨h.b.grown hg h.b.size (fun k hk => (que_lt h.t hk).1), (hg.block _ (heap_lt h.z) (que_apT h.t (by decide) h.z)).trans h.z, que_kept h.e hg (kept_T h.e h.t (by decide)), que_kept h.g hg (fun x hx e => h.gt x hx e.symm), que_kept h.k hg (fun x hx e => h.kt x hx e.symm), hq, h.gk, apV_new h.gt h.g hf, apV_new h.kt h.k hf⟩
theorem LpP.cutG (h : LpP w wr ev ne es gv G gs kv K ks tv T ts) (hq : Que shI wr w.heap.size tI gv' G' gs') (hf : ∀ x, gv'.ownBlock = some x → gv.ownBlock = some x) : LpP w wr ev ne es gv' G' gs' kv K ks tv T ts :=
  ⟨h.b, h.z, h.e, hq, h.k, h.t, fun x hx => h.gk x (hf x hx), fun x hx => h.gt x (hf x hx), h.kt⟩
theorem LpP.cutK (h : LpP w wr ev ne es gv G gs kv K ks tv T ts) (hq : Que shI wr w.heap.size tI kv' K' ks') (hf : ∀ x, kv'.ownBlock = some x → kv.ownBlock = some x) : LpP w wr ev ne es gv G gs kv' K' ks' tv T ts :=
  ⟨h.b, h.z, h.e, h.g, hq, h.t, fun x hx hx' => h.gk x hx (hf x hx'), h.gt, fun x hx => h.kt x (hf x hx)⟩
/-- A cell of another type is written. -/
theorem LpP.setB (h : LpP w wr ev ne es gv G gs kv K ks tv T ts) {B i : Nat} {cur : Array Value} (hB : wr.heap[B]? = some (.cells cur tC (0, 0))) (hw : w.heap.size ≤ B) (u : Value) : LpP w (wr.setCell ⟨B, i, none⟩ u) ev ne es gv G gs kv K ks tv T ts :=
  ⟨h.b.setCell hw _, (Below.heap_setCell wr ⟨B, i, none⟩ u _ (fun e => by have h1 := h.z; simp only at e; rw [e, hB] at h1; simp at h1; exact absurd h1.2 (by decide))).trans h.z, que_set (a := ⟨B, i, none⟩) h.e (que_ne h.e hB (by decide)) u, que_set (a := ⟨B, i, none⟩) h.g (que_ne h.g hB (by decide)) u, que_set (a := ⟨B, i, none⟩) h.k (que_ne h.k hB (by decide)) u, que_set (a := ⟨B, i, none⟩) h.t (que_ne h.t hB (by decide)) u, h.gk, h.gt, h.kt⟩
/-- .. and the ring that is being laid. -/
structure LpQ (w wr : World) (C B n : Nat) (cs : List CeR) (g t k : Nat) (ev : Value) (ne : Nat) (es : List Int) (gv : Value) (G : Nat) (gs : List Int) (kv : Value) (K : Nat) (ks : List Int) (tv : Value) (T : Nat) (ts : List Int) : Prop where
  p : LpP w wr ev ne es gv G gs kv K ks tv T ts
  c : wr.heap[C]? = some (.cells #[.slice (some ⟨B, 0, none⟩) n n, .int .i64 (g : Nat), .int .i64 (t : Nat), .int .i64 (k : Nat)] tR (0, 0))
  q : Que shCe wr w.heap.size tC (.slice (some ⟨B, 0, none⟩) n n) n cs
variable {C B n g t k : Nat} {cs : List CeR}
theorem LpQ.step (h : LpQ w wr C B n cs g t k ev ne es gv G gs kv K ks tv T ts) (hb : Below wr.heap.size wr wy) : LpQ w wy C B n cs g t k ev ne es gv G gs kv K ks tv T ts := ⟨h.p.step hb, heap_step h.c hb, que_step h.q hb⟩
theorem LpQ.data (h : LpQ w wr C B n cs g t k ev ne es gv G gs kv K ks tv T ts) {i : Nat} {a : CeR} (hi : cs[i]? = some a) (d : Int) : LpQ w (wr.setCell ⟨B, i * 2 + 1, none⟩ (.int .i64 d)) C B n (cs.set i (a.1, d)) g t k ev ne es gv G gs kv K ks tv T ts := by
  obtain ⟨cur, hB⟩ := que_block h.q
  have hw : w.heap.size ≤ B := (que_lt h.q rfl).1
  have hq := que_data (d := d) h.q hi
  rw [Nat.zero_add] at hq
  exact ⟨h.p.setB hB hw _, (Below.heap_setCell wr ⟨B, i * 2 + 1, none⟩ _ _ (fun e => by have h1 := h.c; simp only at e; rw [e, hB] at h1; simp at h1; exact absurd h1.2 (by decide))).trans h.c, hq⟩
theorem LpQ.cell (h : LpQ w wr C B n cs g t k ev ne es gv G gs kv K ks tv T ts) {i : Nat} {a : CeR} (hi : cs[i]? = some a) (c : CeR) : LpQ w ((wr.setCell ⟨B, i * 2, none⟩ (.bool c.1)).setCell ⟨B, i * 2 + 1, none⟩ (.int .i64 c.2)) C B n (cs.set i c) g t k ev ne es gv G gs kv K ks tv T ts := by
  obtain ⟨cur, hB⟩ := que_block h.q
  have hw : w.heap.size ≤ B := (que_lt h.q rfl).1
  have hB' : (wr.setCell ⟨B, i * 2, none⟩ (.bool c.1)).heap[B]? = some (.cells (cur.setIfInBounds (i * 2) (.bool c.1)) tC (0, 0)) := heap_setCell_same wr B (i * 2) _ _ _ hB
  have hne : C ≠ B := fun e => by have h1 := h.c; rw [e, hB] at h1; simp at h1; exact absurd h1.2 (by decide)
  have hq := que_cell (c := c) h.q hi
  rw [Nat.zero_add, Nat.zero_add] at hq
  exact ⟨(h.p.setB hB hw _).setB hB' hw _, (Below.heap_setCell _ ⟨B, i * 2 + 1, none⟩ _ _ hne).trans ((Below.heap_setCell _ ⟨B, i * 2, none⟩ _ _ hne).trans h.c), hq⟩
end
/-- What RPlay answers. -/
def RPlayOut (w : World) (n m A : Nat) (es tk : List Int) (s : StG) (e : Ending) (w' : World) : Prop :=
  ∃ ea ec ta tc ra rc cs g t k, e = .returned (.tuple #[.slice ea m ec, .slice ta A tc, .agg #[.slice ra n rc, .int .i64 (g : Nat), .int .i64 (t : Nat), .int .i64 (k : Nat)], .int .i64 0]) ∧ RiR.Tells n ⟨cs, g, t, k⟩ s ∧ IdxG n ⟨cs, g, t, k⟩ s ∧ shI.At w' ea ec es ∧ shI.At w' ta tc tk ∧ shCe.At w' ra rc cs ∧ Below w.heap.size w w'
end Go.Proofs.Ytipkmmajhhcadaa
