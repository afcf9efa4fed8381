/- Package tty in memory: terminals by value; a terminal of the call's own: a row of lines, the line that is being written, apart. -/
import Derived.Test.YtomgifdnnfbpnaaDoorTtyU
import Derived.Test.YtomgifdnnfbpnaaDoorLns
import Derived.Test.YtomgifdnnfbpnaaDoorSetE
import Derived.StillTailTactics
import Derived.BigQuiet
import Derived.Deep.QuietTactic
import Derived.RegionTactic
import Derived.Deep.CutRange
import Derived.Lib.SliceRun
import Derived.Lib.MinMax
namespace Go.Proofs.YtomgifdnnfbpnaaDoor
open Go.RowKit

theorem size_tty : (Tryd.prog.info? 25).map (·.size) = some 2 := by kernel_rfl
abbrev tB : TypeId := 5
abbrev tL : TypeId := 23
abbrev tT : TypeId := 25
theorem two_set {w : World} {b : Nat} {x y x' y' : Value} {T : TypeId} (h : w.heap[b]? = some (.cells #[x, y] T (0, 0))) : ((w.setCell ⟨b, 0, none⟩ x').setCell ⟨b, 1, none⟩ y').heap[b]? = some (.cells #[x', y'] T (0, 0)) :=
  heap_setCell_same _ b 1 _ _ y' (heap_setCell_same _ b 0 _ _ x' h)
theorem two_set0 {w : World} {b : Nat} {x y x' : Value} {T : TypeId} (h : w.heap[b]? = some (.cells #[x, y] T (0, 0))) : (w.setCell ⟨b, 0, none⟩ x').heap[b]? = some (.cells #[x', y] T (0, 0)) := heap_setCell_same _ b 0 _ _ x' h
theorem two_set1 {w : World} {b : Nat} {x y y' : Value} {T : TypeId} (h : w.heap[b]? = some (.cells #[x, y] T (0, 0))) : (w.setCell ⟨b, 1, none⟩ y').heap[b]? = some (.cells #[x, y'] T (0, 0)) := heap_setCell_same _ b 1 _ _ y' h
theorem two_below {w wx : World} {b : Nat} (x y : Value) (h : Below w.heap.size w wx) (hb : w.heap.size ≤ b) : Below w.heap.size w ((wx.setCell ⟨b, 0, none⟩ x).setCell ⟨b, 1, none⟩ y) := (h.setCell hb _).setCell hb _
theorem two_other (w : World) {b k : Nat} (x y : Value) (h : k ≠ b) : ((w.setCell ⟨b, 0, none⟩ x).setCell ⟨b, 1, none⟩ y).heap[k]? = w.heap[k]? := (Below.heap_setCell _ _ _ _ h).trans (Below.heap_setCell _ _ _ _ h)
section
variable {P : Program}
theorem results_row1 {fn : Func} {p : Tmp} {ty : TypeId} (h : fn.results = #[.cell p ty]) (tmps : Array Value) (w : World) (g : Nat) (t : TypeId) (cs : Array Value) (fr : Nat × Nat) (d : TypeDesc)
    (hp : tmps.getD p undef = .pointer (some ⟨g, 0, none⟩)) (hg : w.heap[g]? = some (.cells cs t fr))
    (hu : P.underlying ty = some d) (hd : (match d with | .struct _ | .array _ _ => true | _ => false) = true) (hi : (P.info? ty).map (·.size) = some cs.size) :
    (results fn tmps).run P w = .ok (.agg cs) w := by
  have hp' : tmps[p]?.getD undef = .pointer (some ⟨g, 0, none⟩) := by simpa using hp
  simp [results, h, hp', asAddr, run_loadVar_row w g t ty cs fr d hg hu hd hi]
theorem results_tmp2_row {fn : Func} {p u v : Tmp} {ty : TypeId} (h : fn.results = #[.tmp u, .tmp v, .cell p ty]) (tmps : Array Value) (w : World) (g : Nat) (t : TypeId) (cs : Array Value) (fr : Nat × Nat) (d : TypeDesc)
    (hp : tmps.getD p undef = .pointer (some ⟨g, 0, none⟩)) (hg : w.heap[g]? = some (.cells cs t fr))
    (hu : P.underlying ty = some d) (hd : (match d with | .struct _ | .array _ _ => true | _ => false) = true) (hi : (P.info? ty).map (·.size) = some cs.size) :
    (results fn tmps).run P w = .ok (.tuple #[tmps.getD u undef, tmps.getD v undef, .agg cs]) w := by
  have hp' : tmps[p]?.getD undef = .pointer (some ⟨g, 0, none⟩) := by simpa using hp
  simp [results, h, hp', asAddr, run_loadVar_row w g t ty cs fr d hg hu hd hi]
end
/-- The row without its last elements. -/
theorem que_take {α : Type} {S : Shape α} {w : World} {base n k : Nat} {e : TypeId} {ad : Option Addr} {cap : Nat} {l : List α} (h : Que S w base e (.slice ad n cap) n l) (hk : k ≤ n) : Que S w base e (.slice ad k cap) k (l.take k) := by
  obtain ⟨h1, h2⟩ := h
  refine ⟨by rw [List.length_take, h1, Nat.min_eq_left hk], ?_⟩
  rcases h2 with ⟨h2, h3⟩ | ⟨g, off, cap', cur, hv, hg, hh, hn, hc, hs, ht⟩
  · simp only [Value.slice.injEq] at h2
    obtain ⟨rfl, rfl, rfl⟩ := h2
    obtain rfl : k = 0 := by omega
    exact Or.inl ⟨rfl, rfl⟩
  · simp only [Value.slice.injEq, true_and] at hv
    obtain ⟨rfl, rfl⟩ := hv
    refine Or.inr ⟨g, off, cap, cur, rfl, hg, hh, by omega, hc, hs, fun i hi => ?_⟩
    have hlt : i < n * S.size := Nat.lt_of_lt_of_le hi (Nat.mul_le_mul_right _ hk)
    have e : S.flat l = S.flat (l.take k) ++ S.flat (l.drop k) := by rw [← S.flat_app, List.take_append_drop]
    rw [ht i hlt, e, List.getElem?_append_left (by rw [S.flat_len, List.length_take, h1, Nat.min_eq_left hk]; exact hi)]
/-- Apart from a block. -/
def ApL (hs : List Hd) (r : Option Nat) : Prop := ∀ h ∈ hs, 0 < h.2.1 → ∀ a, h.1 = some a → r ≠ some a.block
/-- Heads read as before where one block has grown that lies apart. -/
theorem Lin.grown {w w' : World} {hs : List Hd} {ls : List (List UInt8)} {r : Option Nat} (q : Lin w hs ls) (hg : w.grownBy w' r) (ha : ApL hs r) : Lin w' hs ls :=
  ⟨q.n, fun k h l h1 h2 => by
    have hq := q.a k h l h1 h2
    refine ⟨hq.n, hq.a.1, fun h0 => ?_⟩
    obtain ⟨b, off, e, hlt, hl⟩ := hq.a.2 h0
    refine ⟨b, off, e, Nat.lt_of_lt_of_le hlt hg.size, fun k hk => ?_⟩
    have hm : h ∈ hs := List.mem_of_getElem? h1
    have : w'.heap[b]? = w.heap[b]? := hg.block b hlt (fun q => ha h hm (by rw [hq.n]; exact h0) _ e q.symm)
    exact (World.cell?_of_block (a := ⟨b, off + k, none⟩) this).trans (hl k hk)⟩
theorem Lin.lt {w : World} {hs : List Hd} {ls : List (List UInt8)} (q : Lin w hs ls) {h : Hd} (hm : h ∈ hs) (h0 : 0 < h.2.1) {a : Addr} (ha : h.1 = some a) : a.block < w.heap.size := by
  obtain ⟨k, hk, rfl⟩ := List.mem_iff_getElem.1 hm
  have hk2 : k < ls.length := by rw [← q.n]; exact hk
  have hq := q.a k _ _ (List.getElem?_eq_getElem hk) (List.getElem?_eq_getElem hk2)
  obtain ⟨b, off, e, hlt, _⟩ := hq.a.2 (by rw [← hq.n]; exact h0)
  rw [e] at ha
  cases ha
  exact hlt
/-- All but two blocks stays. -/
structure Kp (w w' : World) (r1 r2 : Option Nat) : Prop where
  sz : w.heap.size ≤ w'.heap.size
  blk : ∀ k, k < w.heap.size → ¬ r1 = some k → ¬ r2 = some k → w'.heap[k]? = w.heap[k]?
section
variable {w w' w'' : World} {r1 r2 : Option Nat}
theorem kp_below (h : Below w.heap.size w w') (r1 r2 : Option Nat) : Kp w w' r1 r2 := ⟨h.size, fun k hk _ _ => h.block k hk⟩
theorem kp_left (h : w.grownBy w' r1) (r2 : Option Nat) : Kp w w' r1 r2 := ⟨h.size, fun k hk h1 _ => h.block k hk (fun e => h1 e.symm)⟩
theorem kp_right (h : w.grownBy w' r2) (r1 : Option Nat) : Kp w w' r1 r2 := ⟨h.size, fun k hk _ h2 => h.block k hk (fun e => h2 e.symm)⟩
theorem Kp.trans (h : Kp w w' r1 r2) (h' : Kp w' w'' r1 r2) : Kp w w'' r1 r2 := ⟨Nat.le_trans h.sz h'.sz, fun k hk h1 h2 => (h'.blk k (Nat.lt_of_lt_of_le hk h.sz) h1 h2).trans (h.blk k hk h1 h2)⟩
theorem Kp.set (h : Kp w w' r1 r2) {B i : Nat} (hB : w.heap.size ≤ B) (u : Value) : Kp w (w'.setCell ⟨B, i, none⟩ u) r1 r2 :=
  ⟨by simpa using h.sz, fun k hk h1 h2 => (Below.heap_setCell w' ⟨B, i, none⟩ u k (fun e => by simp only at e; omega)).trans (h.blk k hk h1 h2)⟩
theorem Kp.two (h : Kp w w' r1 r2) {B : Nat} (hB : w.heap.size ≤ B) (x y : Value) : Kp w ((w'.setCell ⟨B, 0, none⟩ x).setCell ⟨B, 1, none⟩ y) r1 r2 := (h.set hB x).set hB y
/-- Where another row was meant that is new, or none. -/
theorem Kp.fresh {r3 : Option Nat} (h : Kp w w' r1 r2) (h' : Kp w' w'' r1 r3) (hr : ∀ g, r3 = some g → r2 = some g ∨ w.heap.size ≤ g) : Kp w w'' r1 r2 :=
  ⟨Nat.le_trans h.sz h'.sz, fun k hk h1 h2 => (h'.blk k (Nat.lt_of_lt_of_le hk h.sz) h1 (fun e => by rcases hr k e with q | q; exact h2 q; omega)).trans (h.blk k hk h1 h2)⟩
end
/-- The new slice lies where the old one lay, or in what is new. -/
def Fr (w : World) (v v' : Value) : Prop := ∀ g, v'.ownBlock = some g → v.ownBlock = some g ∨ w.heap.size ≤ g
theorem fr_refl (w : World) (v : Value) : Fr w v v := fun _ h => Or.inl h
theorem fr_nil (w : World) (v : Value) : Fr w v (.slice none 0 0) := fun _ h => (by cases h)
theorem fr_le {w X : World} {v v' : Value} (h : Fr X v v') (hb : w.heap.size ≤ X.heap.size) : Fr w v v' := fun g hg => (h g hg).imp id (fun e => Nat.le_trans hb e)
theorem fr_cut (w : World) (ad : Option Addr) (m k cap cap' : Nat) : Fr w (.slice ad m cap) (.slice ad k cap') := fun g h => Or.inl (by cases ad <;> exact h)
/-- A terminal of the call's own: the heads of its lines, the line that is being written. -/
structure TtyQ (w0 w : World) (hs : List Hd) (lv ev : Value) (n m : Nat) (lines : List (List UInt8)) (edit : List UInt8) : Prop where
  b : Below w0.heap.size w0 w
  e : Que shB w w0.heap.size tB ev m edit
  l : Que shL w w0.heap.size tL lv n hs
  i : Lin w hs lines
  ae : ApL hs ev.ownBlock
  al : ApL hs lv.ownBlock
  c : ∀ h ∈ hs, h.2.1 ≤ h.2.2
theorem que_apart {α : Type} {S : Shape α} {w : World} {base n : Nat} {e : TypeId} {v : Value} {l : List α} (h : Que S w base e v n l) : ∀ B t cs, w.heap[B]? = some (.cells cs t (0, 0)) → ¬ t = e → v.ownBlock ≠ some B := fun _ _ _ hB ht q => que_ne h hB ht _ q rfl
theorem que_cells {α : Type} {S : Shape α} {w : World} {base n : Nat} {e : TypeId} {v : Value} {l : List α} (h : Que S w base e v n l) {g : Nat} (hg : v.ownBlock = some g) : ∃ cs, w.heap[g]? = some (.cells cs e (0, 0)) := by
  obtain ⟨_, hh⟩ := h
  rcases hh with ⟨rfl, _⟩ | ⟨g', off, cap, cur, hv, _, hhh, _⟩
  · cases hg
  · rw [hv] at hg
    cases hg
    exact ⟨cur, hhh⟩
theorem lin_set {w : World} {hs : List Hd} {ls : List (List UInt8)} (q : Lin w hs ls) {B : Nat} (hB : ApL hs (some B)) (i : Nat) (u : Value) : Lin (w.setCell ⟨B, i, none⟩ u) hs ls :=
  ⟨q.n, fun k h l h1 h2 => by
    have hq := q.a k h l h1 h2
    refine ⟨hq.n, hq.a.1, fun h0 => ?_⟩
    obtain ⟨b, off, e, hlt, hl⟩ := hq.a.2 h0
    have hm : h ∈ hs := List.mem_of_getElem? h1
    have hne : b ≠ B := fun q => hB h hm (by rw [hq.n]; exact h0) _ e (by rw [q])
    refine ⟨b, off, e, by simpa using hlt, fun k hk => ?_⟩
    exact (World.cell?_of_block (a := ⟨b, off + k, none⟩) (Below.heap_setCell w ⟨B, i, none⟩ u b hne)).trans (hl k hk)⟩
/-- No line lies in a terminal's block. -/
theorem lin_ne {w : World} {hs : List Hd} {ls : List (List UInt8)} (q : Lin w hs ls) {B : Nat} {x y : Value} {t : TypeId} {fr : Nat × Nat} (hB : w.heap[B]? = some (.cells #[x, y] t fr)) (hx : ∀ k : Int, x ≠ .int .u8 k) (hy : ∀ k : Int, y ≠ .int .u8 k) : ApL hs (some B) := by
  intro h hm h0 a ha e
  cases e
  obtain ⟨k, hk, rfl⟩ := List.mem_iff_getElem.1 hm
  have hk2 : k < ls.length := by rw [← q.n]; exact hk
  have hq := q.a k _ _ (List.getElem?_eq_getElem hk) (List.getElem?_eq_getElem hk2)
  rw [hq.n] at h0
  have hat := hq.a
  rw [ha] at hat
  generalize ls[k] = l at hat h0
  cases l with
  | nil => simp at h0
  | cons c r =>
    obtain ⟨b', off', e', _, c0⟩ := at_byte hat (k := 0) (x := c) rfl
    cases e'
    rw [Nat.add_zero, cell_of_row _ _ _ _ _ _ hB] at c0
    match off', c0 with
    | 0, c0 => exact hx _ (Option.some.inj c0)
    | 1, c0 => exact hy _ (Option.some.inj c0)
    | k + 2, c0 => simp at c0
section
variable {w0 w w' : World} {hs hs' : List Hd} {lv ev lv' ev' : Value} {n m n' m' : Nat} {lines lines' : List (List UInt8)} {edit edit' : List UInt8}
theorem TtyQ.len (h : TtyQ w0 w hs lv ev n m lines edit) : lines.length = n := by rw [← h.i.n]; exact que_len h.l
theorem TtyQ.step (h : TtyQ w0 w hs lv ev n m lines edit) (hb : Below w.heap.size w w') : TtyQ w0 w' hs lv ev n m lines edit :=
  ⟨pstep h.b hb, que_step h.e hb, que_step h.l hb, h.i.step hb, h.ae, h.al, h.c⟩
/-- Counted from a lower number of blocks. -/
theorem TtyQ.from {w00 : World} (h : TtyQ w0 w hs lv ev n m lines edit) (hb : Below w00.heap.size w00 w0) : TtyQ w00 w hs lv ev n m lines edit :=
  ⟨pstep hb h.b, que_base h.e hb.size, que_base h.l hb.size, h.i, h.ae, h.al, h.c⟩
theorem TtyQ.set (h : TtyQ w0 w hs lv ev n m lines edit) {B : Nat} {x y : Value} {t : TypeId} (hh : w.heap[B]? = some (.cells #[x, y] t (0, 0))) (ht1 : ¬ t = tB) (ht2 : ¬ t = tL) (hx : ∀ k : Int, x ≠ .int .u8 k) (hy : ∀ k : Int, y ≠ .int .u8 k) (hB : w0.heap.size ≤ B) (i : Nat) (u : Value) : TtyQ w0 (w.setCell ⟨B, i, none⟩ u) hs lv ev n m lines edit :=
  ⟨h.b.setCell hB _, que_set h.e (que_ne h.e hh ht1) _, que_set h.l (que_ne h.l hh ht2) _, lin_set h.i (lin_ne h.i hh hx hy) _ _, h.ae, h.al, h.c⟩
/-- A terminal's block is written, whole or in a part of it. -/
theorem TtyQ.set0 (h : TtyQ w0 w hs lv ev n m lines edit) {B : Nat} {xa ya : Option Addr} {xn xc yn yc : Nat} (hh : w.heap[B]? = some (.cells #[.slice xa xn xc, .slice ya yn yc] tT (0, 0))) (hB : w0.heap.size ≤ B) (i : Nat) (u : Value) : TtyQ w0 (w.setCell ⟨B, i, none⟩ u) hs lv ev n m lines edit :=
  h.set hh (by decide) (by decide) (fun k e => by cases e) (fun k e => by cases e) hB i u
theorem TtyQ.two (h : TtyQ w0 w hs lv ev n m lines edit) {B : Nat} {xa ya x2 : Option Addr} {xn xc yn yc n2 c2 : Nat} (hh : w.heap[B]? = some (.cells #[.slice xa xn xc, .slice ya yn yc] tT (0, 0))) (hB : w0.heap.size ≤ B) (u : Value) : TtyQ w0 ((w.setCell ⟨B, 0, none⟩ (.slice x2 n2 c2)).setCell ⟨B, 1, none⟩ u) hs lv ev n m lines edit :=
  (h.set0 hh hB 0 _).set0 (two_set0 hh) hB 1 u
/-- Another line is being written: the old one's block has grown, or a new one. -/
theorem TtyQ.putE (h : TtyQ w0 w hs lv ev n m lines edit) (hq : Que shB w' w0.heap.size tB ev' m' edit') (hg : w.grownBy w' ev.ownBlock) (hf : Fr w ev ev') : TtyQ w0 w' hs lv ev' n m' lines edit' := by
  refine ⟨h.b.grown hg h.b.size (fun k hk => (que_lt h.e hk).1), hq, que_kept h.l hg (fun g hg' e => ?_), h.i.grown hg h.ae, ?_, h.al, h.c⟩
  · obtain ⟨cs, hc⟩ := que_cells h.l hg'
    exact que_apart h.e _ _ _ hc (by decide) e.symm
  · intro hd hm h0 a ha e
    rcases hf _ e with e2 | e2
    · exact h.ae hd hm h0 a ha e2
    · have := h.i.lt hm h0 ha; omega
/-- It is cut, at its end. -/
theorem TtyQ.cutE {ad : Option Addr} {cap k : Nat} (h : TtyQ w0 w hs lv (.slice ad m cap) n m lines edit) (hk : k ≤ m) : TtyQ w0 w hs lv (.slice ad k cap) n k lines (edit.take k) :=
  ⟨h.b, que_take h.e hk, h.l, h.i, fun hd hm h0 a ha e => h.ae hd hm h0 a ha (by cases ad <;> exact e), h.al, h.c⟩
/-- There is none. -/
theorem TtyQ.noE (h : TtyQ w0 w hs lv ev n m lines edit) : TtyQ w0 w hs lv (.slice none 0 0) n 0 lines [] :=
  ⟨h.b, que_nil _ _ _ _, h.l, h.i, fun _ _ _ _ _ e => (by cases e), h.al, h.c⟩
theorem TtyQ.ate {ad : Option Addr} {cap : Nat} (h : TtyQ w0 w hs lv (.slice ad m cap) n m lines edit) : shB.At w ad cap edit := que_at h.e
theorem TtyQ.atl {ad : Option Addr} {cap : Nat} (h : TtyQ w0 w hs (.slice ad n cap) ev n m lines edit) : LnsAt w ad cap lines := ⟨hs, que_at h.l, h.i⟩
theorem ttyQ_new (w : World) : TtyQ w w [] (.slice none 0 0) (.slice none 0 0) 0 0 [] [] := ⟨Below.refl _ _, que_nil _ _ _ _, que_nil _ _ _ _, Lin.nil w, (fun h hm => by cases hm), (fun h hm => by cases hm), (fun h hm => by cases hm)⟩
theorem TtyQ.shapeE (h : TtyQ w0 w hs lv ev n m lines edit) : ∃ ad cap, ev = .slice ad m cap ∧ m ≤ cap ∧ cap ≤ maxLen := by
  obtain ⟨ad, cap, hv, h1, h2, _⟩ := que_shape h.e
  exact ⟨ad, cap, hv, h1, h2⟩
theorem TtyQ.shapeL (h : TtyQ w0 w hs lv ev n m lines edit) : ∃ ad cap, lv = .slice ad n cap ∧ n ≤ cap ∧ cap ≤ maxLen := by
  obtain ⟨ad, cap, hv, h1, h2, _⟩ := que_shape h.l
  exact ⟨ad, cap, hv, h1, h2⟩
/-- The line is done: it is one of the lines, and there is none that is being written. The row of lines has grown by its head. -/
theorem TtyQ.putL {ad : Option Addr} {cap : Nat} (h : TtyQ w0 w hs lv (.slice ad m cap) n m lines edit) (hq : Que shL w' w0.heap.size tL lv' (n + 1) (hs ++ [(ad, m, cap)])) (hg : w.grownBy w' lv.ownBlock) (hf : Fr w lv lv') : TtyQ w0 w' (hs ++ [(ad, m, cap)]) lv' (.slice none 0 0) (n + 1) 0 (lines ++ [edit]) [] := by
  have hap : ApL [(ad, m, cap)] lv.ownBlock := by
    intro hd hm h0 a ha e
    rw [List.mem_singleton] at hm
    subst hm
    simp only at ha h0
    subst ha
    obtain ⟨cs, hc⟩ := que_cells h.l e
    exact que_apart h.e _ _ _ hc (by decide) rfl
  have hlin : Lin w (hs ++ [(ad, m, cap)]) (lines ++ [edit]) := h.i.app (Lin.one ⟨(que_len h.e).symm, h.ate⟩)
  have hal : ApL (hs ++ [(ad, m, cap)]) lv.ownBlock := fun hd hm => by
    rcases List.mem_append.1 hm with hm | hm
    · exact h.al hd hm
    · exact hap hd hm
  refine ⟨h.b.grown hg h.b.size (fun k hk => (que_lt h.l hk).1), que_nil _ _ _ _, hq, hlin.grown hg hal, fun _ _ _ _ _ e => (by cases e), ?_, fun hd hm => ?_⟩
  · intro hd hm h0 a ha e
    rcases hf _ e with e2 | e2
    · exact hal hd hm h0 a ha e2
    · have := hlin.lt hm h0 ha; omega
  · rcases List.mem_append.1 hm with hm | hm
    · exact h.c hd hm
    · rw [List.mem_singleton] at hm
      subst hm
      obtain ⟨_, _, hv, hmc, _⟩ := h.shapeE
      simp only [Value.slice.injEq, true_and] at hv
      obtain ⟨rfl, rfl⟩ := hv
      exact hmc
end
end Go.Proofs.YtomgifdnnfbpnaaDoor
