/- TtyPlain: what is held while it reads. -/
import Derived.Test.YtomgifdnnfbpnaaDoorTyP
import Derived.Test.YtomgifdnnfbpnaaDoorTErase
namespace Go.Proofs.YtomgifdnnfbpnaaDoor
open Go.RowKit

theorem keysQ_next {ls : List (List UInt8)} {k : Nat} {l : List UInt8} (h : ls[k]? = some l) : keysQ (ls.take (k + 1)) = keysQ (ls.take k) ++ l ++ [10] := by
  unfold keysQ
  rw [List.take_add_one, h]
  simp [List.flatMap_append]
theorem all_next {p : List UInt8 → Prop} {ls : List (List UInt8)} {k : Nat} {l : List UInt8} (h : ls[k]? = some l) (ha : ∀ x ∈ ls.take k, p x) (hl : p l) : ∀ x ∈ ls.take (k + 1), p x := fun x hx => by
  rw [List.take_add_one, h] at hx
  rcases List.mem_append.1 hx with hx | hx
  · exact ha x hx
  · simp at hx
    rw [hx]
    exact hl
theorem lit10 (X : World) (cap : Nat) : shB.At (X.alloc (.cells #[.int .u8 10] 5)) (some ⟨X.heap.size, 0, none⟩) cap [10] := Shape.At.lit (S := shB) [10] (heap_alloc_new X _)
/-- Lines apart from what is being collected and from a box. -/
structure Ln (W : World) (T : Nat) (ya : Option Addr) (yc : Nat) (ls : List (List UInt8)) (r : Option Nat) (hs : List Hd) : Prop where
  a : shL.At W ya yc hs
  i : Lin W hs ls
  f : ApL hs r
  g : 0 < hs.length → ∀ x, ya = some x → r ≠ some x.block ∧ x.block ≠ T
theorem Ln.step {W W' : World} {T : Nat} {ya : Option Addr} {yc : Nat} {ls : List (List UInt8)} {r : Option Nat} {hs : List Hd} (h : Ln W T ya yc ls r hs) (hb : Below W.heap.size W W') : Ln W' T ya yc ls r hs := ⟨h.a.step hb, h.i.step hb, h.f, h.g⟩
theorem at_grown {α : Type} {S : Shape α} {W W' : World} {ad : Option Addr} {cap : Nat} {l : List α} {r : Option Nat} (h : S.At W ad cap l) (hg : W.grownBy W' r) (ha : 0 < l.length → ∀ x, ad = some x → r ≠ some x.block) : S.At W' ad cap l := by
  refine ⟨h.1, fun h0 => ?_⟩
  obtain ⟨b, off, e, hb, hc⟩ := h.2 h0
  have hne := ha h0 _ e
  refine ⟨b, off, e, Nat.lt_of_lt_of_le hb hg.size, fun k hk => ?_⟩
  exact (World.cell?_of_block (a := ⟨b, off + k, none⟩) (hg.block b hb (fun q => hne q.symm))).trans (hc k hk)
theorem at_set {α : Type} {S : Shape α} {W : World} {ad : Option Addr} {cap : Nat} {l : List α} {T i : Nat} {u : Value} (h : S.At W ad cap l) (ha : 0 < l.length → ∀ x, ad = some x → x.block ≠ T) : S.At (W.setCell ⟨T, i, none⟩ u) ad cap l := by
  refine ⟨h.1, fun h0 => ?_⟩
  obtain ⟨b, off, e, hb, hc⟩ := h.2 h0
  have hne := ha h0 _ e
  refine ⟨b, off, e, by simpa using hb, fun k hk => ?_⟩
  exact (World.cell?_of_block (a := ⟨b, off + k, none⟩) (Below.heap_setCell W ⟨T, i, none⟩ u b hne)).trans (hc k hk)
/-- What has been collected has grown. -/
theorem Ln.put {W W' : World} {T : Nat} {ya : Option Addr} {yc : Nat} {ls : List (List UInt8)} {v v' : Value} {hs : List Hd} (h : Ln W T ya yc ls v.ownBlock hs) (hg : W.grownBy W' v.ownBlock) (hn : ∀ g, v'.ownBlock = some g → v.ownBlock = some g ∨ g = W.heap.size) : Ln W' T ya yc ls v'.ownBlock hs := by
  refine ⟨at_grown h.a hg fun h0 x hx => (h.g h0 x hx).1, h.i.grown hg h.f, fun y hy h0 x hx e => ?_, fun h0 x hx => ⟨fun e => ?_, (h.g h0 x hx).2⟩⟩
  · rcases hn _ e with q | q
    · exact h.f y hy h0 x hx q
    · have := h.i.lt hy h0 hx
      omega
  · rcases hn _ e with q | q
    · exact (h.g h0 x hx).1 q
    · obtain ⟨b, off, e2, hb, _⟩ := h.a.2 h0
      rw [hx] at e2
      cases e2
      simp only at q
      omega
/-- A box is written. -/
theorem Ln.set {W : World} {T : Nat} {ya : Option Addr} {yc : Nat} {ls : List (List UInt8)} {r : Option Nat} {hs : List Hd} (h : Ln W T ya yc ls r hs) {x1 x2 : Option Addr} {n1 n2 c1 c2 : Nat} (hh : W.heap[T]? = some (.cells #[.slice x1 n1 c1, .slice x2 n2 c2] tT (0, 0))) (i : Nat) (u : Value) : Ln (W.setCell ⟨T, i, none⟩ u) T ya yc ls r hs :=
  ⟨at_set h.a fun h0 x hx => (h.g h0 x hx).2, lin_set h.i (lin_ne h.i hh (fun k e => by cases e) (fun k e => by cases e)) i u, h.f, h.g⟩
/-- Before a read: the terminal in its box, what has been collected. -/
structure Pl (w2 W : World) (N n gn : Nat) (ya yb : Option Addr) (yc yd : Nat) (ls : List (List UInt8)) (gv : Value) (got : List UInt8) (hs : List Hd) : Prop where
  b : Below w2.heap.size w2 W
  h : W.heap[w2.heap.size]? = some (.cells #[.slice ya N yc, .slice yb n yd] tT (0, 0))
  l : Ln W w2.heap.size ya yc ls gv.ownBlock hs
  g : Que shB W w2.heap.size tB gv gn got
/-- Behind a read: what it gave in a box of its own. -/
structure PZ (w2 W : World) (U N gn : Nat) (ua ub : Option Addr) (uc ud : Nat) (ls : List (List UInt8)) (gv : Value) (got : List UInt8) (hs : List Hd) (x1 x2 : Option Addr) (n1 n2 c1 c2 : Nat) : Prop where
  b : Below w2.heap.size w2 W
  h : W.heap[w2.heap.size]? = some (.cells #[.slice x1 n1 c1, .slice x2 n2 c2] tT (0, 0))
  u : W.heap[U]? = some (.cells #[.slice ua N uc, .slice ub 0 ud] tT (0, 0))
  l : Ln W w2.heap.size ua uc ls gv.ownBlock hs
  g : Que shB W w2.heap.size tB gv gn got
  n : U ≠ w2.heap.size
section
variable {w2 W W' : World} {U N gn : Nat} {ua ub : Option Addr} {uc ud : Nat} {ls : List (List UInt8)} {gv : Value} {got : List UInt8} {hs : List Hd} {x1 x2 : Option Addr} {n1 n2 c1 c2 : Nat}
theorem Pl.step {n : Nat} {ya yb : Option Addr} {yc yd : Nat} (h : Pl w2 W N n gn ya yb yc yd ls gv got hs) (hb : Below W.heap.size W W') : Pl w2 W' N n gn ya yb yc yd ls gv got hs := ⟨pstep h.b hb, heap_step h.h hb, h.l.step hb, que_step h.g hb⟩
theorem PZ.step (h : PZ w2 W U N gn ua ub uc ud ls gv got hs x1 x2 n1 n2 c1 c2) (hb : Below W.heap.size W W') : PZ w2 W' U N gn ua ub uc ud ls gv got hs x1 x2 n1 n2 c1 c2 := ⟨pstep h.b hb, heap_step h.h hb, heap_step h.u hb, h.l.step hb, que_step h.g hb, h.n⟩
theorem PZ.put {v' : Value} {k : Nat} {got' : List UInt8} (h : PZ w2 W U N gn ua ub uc ud ls gv got hs x1 x2 n1 n2 c1 c2) (hq : Que shB W' w2.heap.size tB v' k got') (hg : W.grownBy W' gv.ownBlock) (hn : ∀ g, v'.ownBlock = some g → gv.ownBlock = some g ∨ g = W.heap.size) : PZ w2 W' U N k ua ub uc ud ls v' got' hs x1 x2 n1 n2 c1 c2 :=
  ⟨h.b.grown hg h.b.size (fun q hq => (que_lt h.g hq).1), (hg.block _ (heap_lt h.h) (fun e => que_apart h.g _ _ _ h.h (by decide) e.symm)).trans h.h, (hg.block _ (heap_lt h.u) (fun e => que_apart h.g _ _ _ h.u (by decide) e.symm)).trans h.u, h.l.put hg hn, hq, h.n⟩
theorem PZ.store {va vb : Option Addr} {p q pc qc : Nat} (h : PZ w2 W U N gn ua ub uc ud ls gv got hs x1 x2 n1 n2 c1 c2) : PZ w2 ((W.setCell ⟨w2.heap.size, 0, none⟩ (.slice va p pc)).setCell ⟨w2.heap.size, 1, none⟩ (.slice vb q qc)) U N gn ua ub uc ud ls gv got hs va vb p q pc qc := by
  have z1 := two_set0 (x' := .slice va p pc) h.h
  have g1 := que_set (a := ⟨w2.heap.size, 0, none⟩) h.g (que_ne h.g h.h (by decide)) (.slice va p pc)
  have g2 := que_set (a := ⟨w2.heap.size, 1, none⟩) g1 (que_ne g1 z1 (by decide)) (.slice vb q qc)
  exact ⟨two_below _ _ h.b (Nat.le_refl _), two_set h.h, (two_other W _ _ h.n).trans h.u, (h.l.set h.h 0 _).set z1 1 _, g2, h.n⟩
theorem PZ.at_store {va vb xa : Option Addr} {p q pc qc xc : Nat} {l : List UInt8} (h : PZ w2 W U N gn ua ub uc ud ls gv got hs x1 x2 n1 n2 c1 c2) (ha : shB.At W xa xc l) : shB.At ((W.setCell ⟨w2.heap.size, 0, none⟩ (.slice va p pc)).setCell ⟨w2.heap.size, 1, none⟩ (.slice vb q qc)) xa xc l := by
  have hg : Lin W [((xa, l.length, xc) : Hd)] [l] := Lin.one ⟨rfl, ha⟩
  have hA := lin_ne hg h.h (fun k e => by cases e) (fun k e => by cases e)
  exact ((lin_set (lin_set hg hA _ _) hA _ _).a 0 _ _ rfl rfl).a
theorem pl_start {w2 : World} {ta tb : Option Addr} {tc td n : Nat} {lines : List (List UInt8)} (h : LnsAt w2 ta tc lines) : ∃ hs, Pl w2 (w2.alloc (.cells #[.slice ta N tc, .slice tb n td] tT)) N n 0 ta tb tc td lines (.slice none 0 0) [] hs := by
  obtain ⟨hs, q1, q2⟩ := h
  have B := below_alloc w2 (.cells #[.slice ta N tc, .slice tb n td] tT)
  exact ⟨hs, B, heap_alloc_new w2 _, ⟨q1.step B, q2.step B, (fun y hy h0 x hx e => by cases e), fun h0 x hx => ⟨(fun e => by cases e), by
    obtain ⟨b, off, e2, hb, _⟩ := q1.2 h0
    rw [hx] at e2
    cases e2
    simp only
    omega⟩⟩, que_nil _ _ _ _⟩
theorem at_any {W W' : World} {ad : Option Addr} {cap : Nat} (h : shB.At W ad cap []) : shB.At W' ad cap [] := ⟨h.1, fun h0 => absurd h0 (by decide)⟩
theorem PZ.pl (h : PZ w2 W U N gn ua ub uc ud ls gv got hs ua ub N 0 uc ud) : Pl w2 W N 0 gn ua ub uc ud ls gv got hs := ⟨h.b, h.h, h.l, h.g⟩
/-- The read, and the box. -/
theorem pz_new {n : Nat} {ya yb : Option Addr} {yc yd Ny : Nat} {gs : List Hd} {lsy : List (List UInt8)} (h : Pl w2 W Ny n gn ya yb yc yd lsy gv got gs) (hb : Below W.heap.size W W') (hl : LnsF W W' ua uc ls) : ∃ hs, PZ w2 (W'.alloc (.cells #[.slice ua N uc, .slice ub 0 ud] tT)) W'.heap.size N gn ua ub uc ud ls gv got hs ya yb Ny n yc yd := by
  obtain ⟨hs, q1, q2, q3, q4⟩ := hl
  have B := below_alloc W' (.cells #[.slice ua N uc, .slice ub 0 ud] tT)
  have H := (h.step hb).step B
  have hlt : w2.heap.size < W.heap.size := heap_lt h.h
  have hsz := hb.size
  refine ⟨hs, H.b, H.h, heap_alloc_new W' _, ⟨q1.step B, q2.step B, fun y hy h0 x hx e => ?_, fun h0 x hx => ⟨fun e => ?_, ?_⟩⟩, H.g, by omega⟩
  · have h1 := q3 y hy h0 x hx
    have h2 := (que_lt h.g e).2
    omega
  · have h1 := q4 x hx
    have h2 := (que_lt h.g e).2
    omega
  · have h1 := q4 x hx
    omega
theorem PZ.all (h : PZ w2 W U N gn ua ub uc ud ls gv got hs x1 x2 n1 n2 c1 c2) : PZ w2 W U N gn ua ub uc ud ls gv got hs x1 x2 n1 n2 c1 c2 ∧ W.cell? ⟨U, 0, none⟩ = some (.slice ua N uc) ∧ W.cell? ⟨U, 1, none⟩ = some (.slice ub 0 ud) := ⟨h, pair_at h.u⟩
end
end Go.Proofs.YtomgifdnnfbpnaaDoor
