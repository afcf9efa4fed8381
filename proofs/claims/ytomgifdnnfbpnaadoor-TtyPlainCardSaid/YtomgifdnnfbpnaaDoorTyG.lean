/- Package tty: the walk of Read. -/
import Derived.Test.YtomgifdnnfbpnaaDoorTyF
import Derived.Deep.RegionLaw
namespace Go.Proofs.YtomgifdnnfbpnaaDoor
open Go.RowKit

/-- What is read, what is left, the error. -/
def resR (s : StQ) (most : Int) : StQ × List UInt8 × Int :=
  if rgtQ s.lines s.lines.length s.edit.length = true then if most < 1 then (newQ, [], 2) else if s.lines = [] then (newQ, [], 7) else (restQ s most.toNat, gotQ s most.toNat, 0) else (newQ, [], 1)
def ReadOut (w : World) (n m g : Nat) (s : StQ) (got : List UInt8) (x : Int) (e : Ending) (w' : World) : Prop :=
  ∃ la lc ea ec ra rc, e = .returned (.tuple #[.agg #[.slice la n lc, .slice ea m ec], .slice ra g rc, .int .i64 x]) ∧ LnsAt w' la lc s.lines ∧ shB.At w' ea ec s.edit ∧ shB.At w' ra rc got ∧ Below w.heap.size w w'
theorem read_none {w w' : World} {x : Int} {e : Ending} (he : e = .returned (.tuple #[.agg #[.slice none 0 0, .slice none 0 0], .slice none 0 0, .int .i64 x])) (hb : Below w.heap.size w w') : ReadOut w 0 0 0 newQ [] x e w' := ⟨none, 0, none, 0, none, 0, he, LnsAt.nil _, Shape.At.nil _, Shape.At.nil _, hb⟩
set_option maxHeartbeats 1000000 in
set_option maxRecDepth 100000 in
theorem read_bad {la ea : Option Addr} {n lc m ec : Nat} {ls : List (List UInt8)} (w : World) (HL : Hid (LnsAt w la lc ls)) (hn : Hid (ls.length = n)) (most : Int) (r : Bool) (hr : Hid (rgtQ ls n m = r)) (x : Int) (hx : r = false ∧ x = 1 ∨ r = true ∧ most < 1 ∧ x = 2 ∨ r = true ∧ ¬ most < 1 ∧ n = 0 ∧ x = 7) :
    Calls Tryd.prog 11 #[.agg #[.slice la n lc, .slice ea m ec], .int .i64 most] w (ReadOut w 0 0 0 newQ [] x) := by
  have hb := Lib.hid (bx_new w (.slice la n lc) (.slice ea m ec))
  rcases hx with ⟨rfl, rfl⟩ | ⟨rfl, h1, rfl⟩ | ⟨rfl, h1, rfl, rfl⟩
  · go_enter Tryd.func11, Tryd.ntmps11
    go_upto_region 1 with fail
    generalize (w.alloc (.cells #[.slice la n lc, .slice ea m ec] 25)).alloc (.cells #[.slice none 0 0, .slice none 0 0] 25) = X at hb ⊢
    have G0 := pair_at hb.out.d
    have l0 := heap_lt hb.out.d
    have HLX := Lib.hid (HL.out.step hb.out.b)
    go_wp2_with (first
      | (go_at_call 13; (with_reducible refine (right_W _ HLX hn _ hr).mono ?_); rintro e w1 ⟨rfl, hb1⟩; have X1 := Lib.hid (hb.out.step hb1); have Z1 := pair_at X1.out.z; have F1 := (fun i => frozen_of_row w1 (w.heap.size + 1) i _ _ X1.out.z); have z1 := heap_lt X1.out.z; clear hb1)
      | fail)
    refine bodyPost_ret (results_row_tmp2 rfl _ _ (w.heap.size + 1) 25 #[.slice none 0 0, .slice none 0 0] (0, 0) _ rfl (two_set X1.out.z) Tryd.underlying25 rfl size_tty) rfl ?_
    exact read_none rfl (two_below _ _ X1.out.b (by omega))
  · have h1' : decide (most < 1) = true := decide_eq_true h1
    go_enter Tryd.func11, Tryd.ntmps11
    go_upto_region 1 with fail
    generalize (w.alloc (.cells #[.slice la n lc, .slice ea m ec] 25)).alloc (.cells #[.slice none 0 0, .slice none 0 0] 25) = X at hb ⊢
    have G0 := pair_at hb.out.d
    have l0 := heap_lt hb.out.d
    have HLX := Lib.hid (HL.out.step hb.out.b)
    go_wp2_with (first
      | (go_at_call 13; (with_reducible refine (right_W _ HLX hn _ hr).mono ?_); rintro e w1 ⟨rfl, hb1⟩; have X1 := Lib.hid (hb.out.step hb1); have Z1 := pair_at X1.out.z; have F1 := (fun i => frozen_of_row w1 (w.heap.size + 1) i _ _ X1.out.z); have z1 := heap_lt X1.out.z; clear hb1)
      | fail)
    refine bodyPost_ret (results_row_tmp2 rfl _ _ (w.heap.size + 1) 25 #[.slice none 0 0, .slice none 0 0] (0, 0) _ rfl (two_set X1.out.z) Tryd.underlying25 rfl size_tty) rfl ?_
    exact read_none rfl (two_below _ _ X1.out.b (by omega))
  · have h1' : decide (most < 1) = false := decide_eq_false h1
    go_enter Tryd.func11, Tryd.ntmps11
    go_upto_region 1 with fail
    generalize (w.alloc (.cells #[.slice la 0 lc, .slice ea m ec] 25)).alloc (.cells #[.slice none 0 0, .slice none 0 0] 25) = X at hb ⊢
    have G0 := pair_at hb.out.d
    have l0 := heap_lt hb.out.d
    have HLX := Lib.hid (HL.out.step hb.out.b)
    go_wp2_with (first
      | (go_at_call 13; (with_reducible refine (right_W _ HLX hn _ hr).mono ?_); rintro e w1 ⟨rfl, hb1⟩; have X1 := Lib.hid (hb.out.step hb1); have G1 := pair_at X1.out.d; have l1 := heap_lt X1.out.d; have Z1 := pair_at X1.out.z; have F1 := (fun i => frozen_of_row w1 (w.heap.size + 1) i _ _ X1.out.z); have z1 := heap_lt X1.out.z; clear hb1)
      | fail)
    refine bodyPost_ret (results_row_tmp2 rfl _ _ (w.heap.size + 1) 25 #[.slice none 0 0, .slice none 0 0] (0, 0) _ rfl (two_set X1.out.z) Tryd.underlying25 rfl size_tty) rfl ?_
    exact read_none rfl (two_below _ _ X1.out.b (by omega))
/-- What is in memory while something is read: the terminal in its box, the zero result, the first line as it was. -/
structure Rs (w W : World) (hs : List Hd) (lv ev : Value) (n m : Nat) (lines : List (List UInt8)) (edit : List UInt8) (a : Option Addr) (c y : Nat) (l : List UInt8) : Prop where
  t : TtyQ w W hs lv ev n m lines edit
  d : W.heap[w.heap.size]? = some (.cells #[lv, ev] tT (0, 0))
  z : W.heap[w.heap.size + 1]? = some (.cells #[.slice none 0 0, .slice none 0 0] tT (0, 0))
  f : Lin W [((a, y, c) : Hd)] [l]
  p : ApL [((a, y, c) : Hd)] lv.ownBlock
section
variable {w W W' : World} {hs : List Hd} {lv ev : Value} {n m : Nat} {lines : List (List UInt8)} {edit : List UInt8} {a : Option Addr} {c y : Nat} {l : List UInt8}
theorem Rs.step (h : Rs w W hs lv ev n m lines edit a c y l) (hb : Below W.heap.size W W') : Rs w W' hs lv ev n m lines edit a c y l := ⟨h.t.step hb, heap_step h.d hb, heap_step h.z hb, h.f.step hb, h.p⟩
theorem Rs.first (h : Rs w W hs lv ev n m lines edit a c y l) : shB.At W a c l := (h.f.a 0 _ _ rfl rfl).a
theorem Rs.len (h : Rs w W hs lv ev n m lines edit a c y l) : l.length = y := (h.f.a 0 _ _ rfl rfl).n.symm
/-- The box is written. -/
theorem Rs.box {la ea xa ya : Option Addr} {n' lc m' ec xn xc yn yc : Nat} {hs' : List Hd} {lines' : List (List UInt8)} {edit' : List UInt8} (h : Rs w W hs (.slice xa xn xc) (.slice ya yn yc) n m lines edit a c y l) (t : TtyQ w W hs' (.slice la n' lc) (.slice ea m' ec) n' m' lines' edit') (hp : ApL [((a, y, c) : Hd)] (Value.slice la n' lc).ownBlock) :
    Rs w ((W.setCell ⟨w.heap.size, 0, none⟩ (.slice la n' lc)).setCell ⟨w.heap.size, 1, none⟩ (.slice ea m' ec)) hs' (.slice la n' lc) (.slice ea m' ec) n' m' lines' edit' a c y l := by
  have hA := lin_ne h.f h.d (fun k e => by cases e) (fun k e => by cases e)
  exact ⟨t.two h.d (Nat.le_refl _) _, two_set h.d, (two_other W _ _ (by omega)).trans h.z, lin_set (lin_set h.f hA _ _) hA _ _, hp⟩
theorem Rs.box0 {la xa ya : Option Addr} {n' lc xn xc yn yc : Nat} {hs' : List Hd} {lines' : List (List UInt8)} (h : Rs w W hs (.slice xa xn xc) (.slice ya yn yc) n m lines edit a c y l) (t : TtyQ w W hs' (.slice la n' lc) (.slice ya yn yc) n' m lines' edit) (hp : ApL [((a, y, c) : Hd)] (Value.slice la n' lc).ownBlock) :
    Rs w (W.setCell ⟨w.heap.size, 0, none⟩ (.slice la n' lc)) hs' (.slice la n' lc) (.slice ya yn yc) n' m lines' edit a c y l := by
  have hA := lin_ne h.f h.d (fun k e => by cases e) (fun k e => by cases e)
  exact ⟨t.set0 h.d (Nat.le_refl _) _ _, two_set0 h.d, (Below.heap_setCell W ⟨w.heap.size, 0, none⟩ _ _ (by simp)).trans h.z, lin_set h.f hA _ _, hp⟩
/-- Copied first, then the result stored. -/
theorem rs_end1 {la ea ra : Option Addr} {lc ec rc k : Nat} (h : Rs w W hs (.slice la n lc) (.slice ea m ec) n m lines edit a c y l) (hb : Below W.heap.size W W') (hq : Que shB W' W.heap.size tB (.slice ra k rc) k (l.take k)) :
    LnsAt ((W'.setCell ⟨w.heap.size + 1, 0, none⟩ (.slice la n lc)).setCell ⟨w.heap.size + 1, 1, none⟩ (.slice ea m ec)) la lc lines ∧ shB.At ((W'.setCell ⟨w.heap.size + 1, 0, none⟩ (.slice la n lc)).setCell ⟨w.heap.size + 1, 1, none⟩ (.slice ea m ec)) ea ec edit ∧ shB.At ((W'.setCell ⟨w.heap.size + 1, 0, none⟩ (.slice la n lc)).setCell ⟨w.heap.size + 1, 1, none⟩ (.slice ea m ec)) ra rc (l.take k) ∧ Below w.heap.size w ((W'.setCell ⟨w.heap.size + 1, 0, none⟩ (.slice la n lc)).setCell ⟨w.heap.size + 1, 1, none⟩ (.slice ea m ec)) := by
  have h' := h.step hb
  have T := h'.t.two h'.z (by omega) (x2 := la) (n2 := n) (c2 := lc) (.slice ea m ec)
  have hg : Lin W' [((ra, k, rc) : Hd)] [l.take k] := Lin.one ⟨(que_len hq).symm, que_at hq⟩
  have hA := lin_ne hg h'.z (fun k e => by cases e) (fun k e => by cases e)
  exact ⟨T.atl, T.ate, ((lin_set (lin_set hg hA _ _) hA _ _).a 0 _ _ rfl rfl).a, T.b⟩
/-- Stored first, then copied. -/
theorem Rs.res {la ea : Option Addr} {lc ec : Nat} (h : Rs w W hs (.slice la n lc) (.slice ea m ec) n m lines edit a c y l) :
    TtyQ w ((W.setCell ⟨w.heap.size + 1, 0, none⟩ (.slice la n lc)).setCell ⟨w.heap.size + 1, 1, none⟩ (.slice ea m ec)) hs (.slice la n lc) (.slice ea m ec) n m lines edit ∧ ((W.setCell ⟨w.heap.size + 1, 0, none⟩ (.slice la n lc)).setCell ⟨w.heap.size + 1, 1, none⟩ (.slice ea m ec)).heap[w.heap.size + 1]? = some (.cells #[.slice la n lc, .slice ea m ec] tT (0, 0)) ∧ shB.At ((W.setCell ⟨w.heap.size + 1, 0, none⟩ (.slice la n lc)).setCell ⟨w.heap.size + 1, 1, none⟩ (.slice ea m ec)) a c l := by
  have hA := lin_ne h.f h.z (fun k e => by cases e) (fun k e => by cases e)
  exact ⟨h.t.two h.z (by omega) _, two_set h.z, ((lin_set (lin_set h.f hA _ _) hA _ _).a 0 _ _ rfl rfl).a⟩
end
/-- The first line is another one: its head is written in the row. -/
theorem TtyQ.setL {w0 w : World} {h h' : Hd} {hr : List Hd} {b off n lc m : Nat} {ev : Value} {l l' : List UInt8} {r : List (List UInt8)} {edit : List UInt8} (t : TtyQ w0 w (h :: hr) (.slice (some ⟨b, off, none⟩) n lc) ev n m (l :: r) edit) (hl : HdAt w h' l') (h0 : 0 < h.2.1) (hc : h'.2.1 ≤ h'.2.2) (ha : ∀ x, h'.1 = some x → ∃ y, h.1 = some y ∧ y.block = x.block) :
    TtyQ w0 (w.setCell ⟨b, off, none⟩ (.slice h'.1 h'.2.1 h'.2.2)) (h' :: hr) (.slice (some ⟨b, off, none⟩) n lc) ev n m (l' :: r) edit := by
  have hb := que_lt t.l (g := b) rfl
  obtain ⟨cs, hcs⟩ := que_cells t.l (g := b) rfl
  have hal : ∀ q, ApL (h :: hr) q → ApL (h' :: hr) q := fun q hq hd hm hp x hx e => by
    rcases List.mem_cons.1 hm with rfl | hm
    · obtain ⟨y, hy, hyx⟩ := ha x hx
      exact hq h List.mem_cons_self h0 y hy (by rw [e, hyx])
    · exact hq hd (List.mem_cons_of_mem _ hm) hp x hx e
  have h1 := que_entry (i := 0) (k := 0) (v := .slice h'.1 h'.2.1 h'.2.2) (a := h) (a' := h') t.l rfl (by decide) rfl
  rw [Nat.zero_mul, Nat.add_zero, List.set_cons_zero] at h1
  have hlin : Lin w (h' :: hr) (l' :: r) := t.i.set 0 hl
  exact ⟨t.b.setCell (show w0.heap.size ≤ b from hb.1) _, que_set t.e (fun g hg e => by
    subst e
    obtain ⟨cs2, hcs2⟩ := que_cells t.e hg
    rw [hcs] at hcs2
    simp only [Option.some.injEq, Obj.cells.injEq] at hcs2
    exact absurd hcs2.2.1 (by decide)) _, h1, lin_set hlin (hal _ t.al) _ _, hal _ t.ae, hal _ t.al, fun hd hm => by
    rcases List.mem_cons.1 hm with rfl | hm
    · exact hc
    · exact t.c hd (List.mem_cons_of_mem _ hm)⟩
/-- The first line is gone. -/
theorem TtyQ.dropL {w0 w : World} {h : Hd} {hr : List Hd} {lv lv' ev : Value} {n m : Nat} {l : List UInt8} {r : List (List UInt8)} {edit : List UInt8} (t : TtyQ w0 w (h :: hr) lv ev (n + 1) m (l :: r) edit) (hq : Que shL w w0.heap.size tL lv' n hr) (hf : ∀ g, lv'.ownBlock = some g → lv.ownBlock = some g) :
    TtyQ w0 w hr lv' ev n m r edit :=
  ⟨t.b, t.e, hq, t.i.drop 1, fun hd hm => t.ae hd (List.mem_cons_of_mem _ hm), fun hd hm hp a ha e => t.al hd (List.mem_cons_of_mem _ hm) hp a ha (hf _ e), fun hd hm => t.c hd (List.mem_cons_of_mem _ hm)⟩
theorem rs_begin {w W : World} {hr : List Hd} {la ea xa ya a : Option Addr} {n lc m ec xn xc yn yc c y : Nat} {l : List UInt8} {r : List (List UInt8)} {edit : List UInt8} (t : TtyQ w W (((a, y, c) : Hd) :: hr) (.slice la n lc) (.slice ea m ec) n m (l :: r) edit) (hd : W.heap[w.heap.size]? = some (.cells #[.slice xa xn xc, .slice ya yn yc] tT (0, 0))) (hz : W.heap[w.heap.size + 1]? = some (.cells #[.slice none 0 0, .slice none 0 0] tT (0, 0))) :
    Rs w ((W.setCell ⟨w.heap.size, 0, none⟩ (.slice la n lc)).setCell ⟨w.heap.size, 1, none⟩ (.slice ea m ec)) (((a, y, c) : Hd) :: hr) (.slice la n lc) (.slice ea m ec) n m (l :: r) edit a c y l := by
  have T := t.two hd (Nat.le_refl _) (x2 := la) (n2 := n) (c2 := lc) (.slice ea m ec)
  exact ⟨T, two_set hd, (two_other W _ _ (by omega)).trans hz, Lin.one (T.i.a 0 _ _ rfl rfl), fun hd hm hp x hx => T.al hd (by rw [List.mem_singleton] at hm; rw [hm]; exact List.mem_cons_self) hp x hx⟩
/-- The first head. -/
theorem first_hd {w W : World} {hs : List Hd} {lv ev : Value} {n m : Nat} {l : List UInt8} {r : List (List UInt8)} {edit : List UInt8} (t : TtyQ w W hs lv ev n m (l :: r) edit) : ∃ a c hr, hs = ((a, l.length, c) : Hd) :: hr ∧ l.length ≤ c := by
  have hn := t.i.n
  cases hs with
  | nil => simp at hn
  | cons h hr =>
    have hq := t.i.a 0 _ _ rfl rfl
    obtain ⟨a, y, c⟩ := h
    have e : y = l.length := hq.n
    subst e
    exact ⟨a, c, hr, rfl, t.c _ List.mem_cons_self⟩
/-- Of the first line so many are gone. -/
theorem Rs.part {w W : World} {hr : List Hd} {b off n lc m fb fo c y k : Nat} {xb : Option Addr} {xm xc : Nat} {l : List UInt8} {r : List (List UInt8)} {edit : List UInt8} (h : Rs w W (((some ⟨fb, fo, none⟩, y, c) : Hd) :: hr) (.slice (some ⟨b, off, none⟩) n lc) (.slice xb xm xc) n m (l :: r) edit (some ⟨fb, fo, none⟩) c y l) (hk : k < y) (hc : y ≤ c) :
    Rs w (W.setCell ⟨b, off, none⟩ (.slice (some ⟨fb, fo + k, none⟩) (y - k) (c - k))).drew (((some ⟨fb, fo + k, none⟩, y - k, c - k) : Hd) :: hr) (.slice (some ⟨b, off, none⟩) n lc) (.slice xb xm xc) n m (l.drop k :: r) edit (some ⟨fb, fo, none⟩) c y l := by
  have hl := h.len
  have hat := h.first
  have hs1 : shB.size = 1 := rfl
  have hd := at_drop hat k (c - k) (by omega)
  rw [hs1, Nat.mul_one] at hd
  have T := h.t.setL (h' := (some ⟨fb, fo + k, none⟩, y - k, c - k)) (l' := l.drop k) ⟨by rw [List.length_drop, hl], hd⟩ (by simp only; omega) (by simp only; omega) (fun x hx => by cases hx; exact ⟨_, rfl, rfl⟩)
  obtain ⟨cs, hcs⟩ := que_cells h.t.l (g := b) rfl
  have hne : ∀ {B : Nat} {x y : Value}, W.heap[B]? = some (.cells #[x, y] tT (0, 0)) → B ≠ b := fun hB e => by
    subst e
    rw [hcs] at hB
    simp only [Option.some.injEq, Obj.cells.injEq] at hB
    exact absurd hB.2.1 (by decide)
  have h1 : Rs w (W.setCell ⟨b, off, none⟩ (.slice (some ⟨fb, fo + k, none⟩) (y - k) (c - k))) (((some ⟨fb, fo + k, none⟩, y - k, c - k) : Hd) :: hr) (.slice (some ⟨b, off, none⟩) n lc) (.slice xb xm xc) n m (l.drop k :: r) edit (some ⟨fb, fo, none⟩) c y l :=
    ⟨T, (Below.heap_setCell W ⟨b, off, none⟩ _ _ (hne h.d)).trans h.d, (Below.heap_setCell W ⟨b, off, none⟩ _ _ (hne h.z)).trans h.z, lin_set h.f h.p _ _, h.p⟩
  exact h1.step ((Below.refl _ _).drew)
set_option maxHeartbeats 4000000 in
set_option maxRecDepth 100000 in
theorem read_part {la ea : Option Addr} {j lc m ec : Nat} {l : List UInt8} {r : List (List UInt8)} {edit : List UInt8} (w : World) (HL : Hid (LnsAt w la lc (l :: r))) (hn : Hid ((l :: r).length = j + 1)) (HE : Hid (shB.At w ea ec edit)) (hm : Hid (edit.length = m)) (hr : Hid (rgtQ (l :: r) (j + 1) m = true)) (hn4 : j + 1 ≤ 400) (hm6 : m ≤ 64) (y : Nat) (hy : l.length = y) (hy65 : y ≤ 65) (k : Nat) (hk1 : 1 ≤ k) (hky : k < y) :
    Calls Tryd.prog 11 #[.agg #[.slice la (j + 1) lc, .slice ea m ec], .int .i64 (k : Nat)] w (ReadOut w (j + 1) m k ⟨l.drop k :: r, edit⟩ (l.take k) 0) := by
  have hk0 : decide ((k : Int) < 1) = false := by simp; omega
  have hmin : min (k : Int) (y : Int) = (k : Int) := by omega
  have hlt : decide ((k : Int) < (y : Int)) = true := by simp; omega
  have hx := Lib.hid (bx_new w (.slice la (j + 1) lc) (.slice ea m ec))
  have h65 := Lib.hid (rgtQ_parts hr.out).2.2
  have hn0 : (((j + 1 : Nat) : Int) == 0) = false := by simp; omega
  go_enter Tryd.func11, Tryd.ntmps11
  go_upto_region 1 with fail
  generalize (w.alloc (.cells #[.slice la (j + 1) lc, .slice ea m ec] 25)).alloc (.cells #[.slice none 0 0, .slice none 0 0] 25) = X at hx ⊢
  have G0 := pair_at hx.out.d
  have l0 := heap_lt hx.out.d
  have HLX := Lib.hid (HL.out.step hx.out.b)
  go_upto_region 8 with (first
    | (go_at_call 13; (with_reducible refine (right_W _ HLX hn true hr).mono ?_); rintro e w1 ⟨rfl, hb⟩; have X1 := Lib.hid (hx.out.step hb); have G1 := pair_at X1.out.d; have l1 := heap_lt X1.out.d; have HL2 := Lib.hid (HL.out.step X1.out.b); have HE2 := Lib.hid (HE.out.step X1.out.b); clear hb)
    | (go_at_call 28; (with_reducible refine (copied_W _ HL2 hn HE2 hm hn4 hm6 h65).mono ?_); rintro e w3 ⟨hs3, a3, c3, b3, d3, rfl, t3⟩; have T3 := Lib.hid (t3.from X1.out.b); have X3 := Lib.hid (X1.out.step t3.b); have G3 := pair_at X3.out.d; have F3 := (fun i => frozen_of_row w3 w.heap.size i _ _ X3.out.d); have l3 := heap_lt X3.out.d; clear t3)
    | fail)
  obtain ⟨fa, fc, hr3, rfl, hfc⟩ := first_hd T3.out
  have HF2 := Lib.hid hy
  rw [hy] at hfc T3
  have R4 := Lib.hid (rs_begin T3.out X3.out.d X3.out.z)
  generalize (w3.setCell ⟨w.heap.size, 0, none⟩ (.slice a3 (j + 1) c3)).setCell ⟨w.heap.size, 1, none⟩ (.slice b3 m d3) = w4 at R4 ⊢
  clear T3 X3 G3 F3 l3 X1 G1 l1 HL2 HE2 HLX G0 l0 hx
  obtain ⟨lb, lo, rfl, hlb, hlc⟩ := at_hd (k := 0) (que_at R4.out.t.l) rfl
  rw [Nat.add_zero] at hlc
  have G4 := pair_at R4.out.d
  have l4 := heap_lt R4.out.d
  have hkc : decide (k = fc) = false := decide_eq_false (by omega)
  have hky2 : k ≤ y := by omega
  have hkc2 : k ≤ fc := by omega
  have h0 : ¬ ((k : Int) < 0) := by omega
  have f4 := que_froz R4.out.t.l lo
  obtain ⟨fb, fo, rfl, hfb, _⟩ := R4.out.first.2 (by rw [HF2.out]; omega)
  go_upto_region 11 with fail
  go_region
  have R5 := Lib.hid (R4.out.part hky hfc)
  generalize (w4.setCell ⟨lb, lo, none⟩ (.slice (some ⟨fb, fo + k, none⟩) (y - k) (fc - k))).drew = w5 at R5 ⊢
  clear R4 G4 l4 f4 hlc
  go_upto_region 13 with fail
  have P6 := pair_at R5.out.d
  have p6 := heap_lt R5.out.d
  have Z6 := pair_at R5.out.z
  have z6 := heap_lt R5.out.z
  have S6 := fun i => frozen_of_row w5 (w.heap.size + 1) i _ _ R5.out.z
  have A6 : Hid (shB.At w5.drew (some ⟨fb, fo, none⟩) fc (l.take k)) := Lib.hid ((R5.out.first.take k).step ((Below.refl _ _).drew))
  obtain ⟨v1, v2, v3⟩ := R5.out.res
  have A7 := Lib.hid ((v3.take k).step ((Below.refl _ _).drew))
  have HK : Hid ((l.take k).length = k) := Lib.hid (by rw [List.length_take, HF2.out]; omega)
  have R5d := Lib.hid (R5.out.step ((Below.refl _ _).drew))
  have T7 := Lib.hid (v1.step ((Below.refl _ _).drew))
  have D7 := Lib.hid (heap_step v2 ((Below.refl _ _).drew))
  clear v1 v2 v3
  go_region_law (first
    | (go_simp; go_at_call 31; (with_reducible refine (clone_B _ A6 HK (by omega)).mono ?_); rintro e w8 ⟨ra, rc, rfl, q8, b8⟩; have E8 := Lib.hid (rs_end1 R5d.out b8 q8); have R8 := Lib.hid (R5d.out.step b8); have P8 := pair_at R8.out.d; have p8 := heap_lt R8.out.d; have Z8 := pair_at R8.out.z; have z8 := heap_lt R8.out.z; have S8 := (fun i => frozen_of_row w8 (w.heap.size + 1) i _ _ R8.out.z); have Y8 := Lib.hid (two_set (x' := .slice (some ⟨lb, lo, none⟩) (j + 1) c3) (y' := .slice b3 m d3) R8.out.z); clear q8 b8)
    | (go_simp; go_at_call 31; (with_reducible refine (clone_B _ A7 HK (by omega)).mono ?_); rintro e w8 ⟨ra, rc, rfl, q8, b8⟩; have E8 := Lib.hid (And.intro (T7.out.step b8).atl (And.intro (T7.out.step b8).ate (And.intro (que_at q8) (T7.out.step b8).b))); have Y8 := Lib.hid (heap_step D7.out b8); clear q8 b8)
    | fail)
  all_goals go_wp2_with fail
  all_goals refine bodyPost_ret (results_row_tmp2 rfl _ _ (w.heap.size + 1) 25 #[.slice (some ⟨lb, lo, none⟩) (j + 1) c3, .slice b3 m d3] (0, 0) _ rfl Y8.out Tryd.underlying25 rfl size_tty) rfl ?_
  all_goals exact ⟨_, _, _, _, _, _, rfl, E8.out.1, E8.out.2.1, E8.out.2.2.1, E8.out.2.2.2⟩
/-- The first line is gone: the box is written. -/
theorem Rs.whole {w W : World} {hr : List Hd} {b off off' j lc lc' m c y : Nat} {a xb : Option Addr} {xm xc : Nat} {l : List UInt8} {r : List (List UInt8)} {edit : List UInt8} (h : Rs w W (((a, y, c) : Hd) :: hr) (.slice (some ⟨b, off, none⟩) (j + 1) lc) (.slice xb xm xc) (j + 1) m (l :: r) edit a c y l) (hq : Que shL W w.heap.size tL (.slice (some ⟨b, off', none⟩) j lc') j hr) :
    Rs w (W.setCell ⟨w.heap.size, 0, none⟩ (.slice (some ⟨b, off', none⟩) j lc')) hr (.slice (some ⟨b, off', none⟩) j lc') (.slice xb xm xc) j m r edit a c y l :=
  h.box0 (h.t.dropL hq (fun _ hg => hg)) h.p
set_option maxHeartbeats 4000000 in
set_option maxRecDepth 100000 in
theorem read_whole {la ea : Option Addr} {j lc m ec : Nat} {l : List UInt8} {r : List (List UInt8)} {edit : List UInt8} (w : World) (HL : Hid (LnsAt w la lc (l :: r))) (hn : Hid ((l :: r).length = j + 1)) (HE : Hid (shB.At w ea ec edit)) (hm : Hid (edit.length = m)) (hr : Hid (rgtQ (l :: r) (j + 1) m = true)) (hn4 : j + 1 ≤ 400) (hm6 : m ≤ 64) (y : Nat) (hy : l.length = y) (hy65 : y ≤ 65) (most : Int) (h1 : ¬ most < 1) (hym : (y : Int) ≤ most) :
    Calls Tryd.prog 11 #[.agg #[.slice la (j + 1) lc, .slice ea m ec], .int .i64 most] w (ReadOut w j m y ⟨r, edit⟩ (l.take y) 0) := by
  have hk0 : decide (most < 1) = false := decide_eq_false h1
  have hmin : min most (y : Int) = (y : Int) := by omega
  have hx := Lib.hid (bx_new w (.slice la (j + 1) lc) (.slice ea m ec))
  have h65 := Lib.hid (rgtQ_parts hr.out).2.2
  have hn0 : (((j + 1 : Nat) : Int) == 0) = false := by simp; omega
  go_enter Tryd.func11, Tryd.ntmps11
  go_upto_region 1 with fail
  generalize (w.alloc (.cells #[.slice la (j + 1) lc, .slice ea m ec] 25)).alloc (.cells #[.slice none 0 0, .slice none 0 0] 25) = X at hx ⊢
  have G0 := pair_at hx.out.d
  have l0 := heap_lt hx.out.d
  have HLX := Lib.hid (HL.out.step hx.out.b)
  go_upto_region 8 with (first
    | (go_at_call 13; (with_reducible refine (right_W _ HLX hn true hr).mono ?_); rintro e w1 ⟨rfl, hb⟩; have X1 := Lib.hid (hx.out.step hb); have G1 := pair_at X1.out.d; have l1 := heap_lt X1.out.d; have HL2 := Lib.hid (HL.out.step X1.out.b); have HE2 := Lib.hid (HE.out.step X1.out.b); clear hb)
    | (go_at_call 28; (with_reducible refine (copied_W _ HL2 hn HE2 hm hn4 hm6 h65).mono ?_); rintro e w3 ⟨hs3, a3, c3, b3, d3, rfl, t3⟩; have T3 := Lib.hid (t3.from X1.out.b); have X3 := Lib.hid (X1.out.step t3.b); have G3 := pair_at X3.out.d; have F3 := (fun i => frozen_of_row w3 w.heap.size i _ _ X3.out.d); have l3 := heap_lt X3.out.d; clear t3)
    | fail)
  obtain ⟨fa, fc, hr3, rfl, hfc⟩ := first_hd T3.out
  have HF2 := Lib.hid hy
  rw [hy] at hfc T3
  have R4 := Lib.hid (rs_begin T3.out X3.out.d X3.out.z)
  generalize (w3.setCell ⟨w.heap.size, 0, none⟩ (.slice a3 (j + 1) c3)).setCell ⟨w.heap.size, 1, none⟩ (.slice b3 m d3) = w4 at R4 ⊢
  clear T3 X3 G3 F3 l3 X1 G1 l1 HL2 HE2 HLX G0 l0 hx
  obtain ⟨lb, lo, rfl, hlb, hlc⟩ := at_hd (k := 0) (que_at R4.out.t.l) rfl
  rw [Nat.add_zero] at hlc
  have G4 := pair_at R4.out.d
  have l4 := heap_lt R4.out.d
  have hlo : shL.size = 1 := rfl
  obtain ⟨_, _, hv, hjc, _⟩ := R4.out.t.shapeL
  simp only [Value.slice.injEq, true_and] at hv
  obtain ⟨rfl, rfl⟩ := hv
  have HQ := Lib.hid R4.out.t.l
  have F4 := fun i => frozen_of_row w4 w.heap.size i _ _ R4.out.d
  have hyc : y ≤ fc := hfc
  have h0 : ¬ ((y : Int) < 0) := by omega
  by_cases hc1 : c3 = 1
  · subst hc1
    obtain rfl : j = 0 := by omega
    obtain rfl : hr3 = [] := by
      have := que_len HQ.out
      cases hr3 with
      | nil => rfl
      | cons x q => simp at this
    go_upto_region 13 with fail
    have R5 := Lib.hid (R4.out.whole (que_end HQ.out))
    generalize w4.setCell ⟨w.heap.size, 0, none⟩ (.slice (some ⟨lb, lo, none⟩) 0 0) = w5 at R5 ⊢
    clear R4 G4 l4 F4 hlc HQ
    have P6 := pair_at R5.out.d
    have p6 := heap_lt R5.out.d
    have Z6 := pair_at R5.out.z
    have z6 := heap_lt R5.out.z
    have S6 := fun i => frozen_of_row w5 (w.heap.size + 1) i _ _ R5.out.z
    have A6 : Hid (shB.At w5.drew fa fc (l.take y)) := Lib.hid ((R5.out.first.take y).step ((Below.refl _ _).drew))
    obtain ⟨v1, v2, v3⟩ := R5.out.res
    have A7 := Lib.hid ((v3.take y).step ((Below.refl _ _).drew))
    have HK : Hid ((l.take y).length = y) := Lib.hid (by rw [List.length_take, HF2.out]; omega)
    have R5d := Lib.hid (R5.out.step ((Below.refl _ _).drew))
    have T7 := Lib.hid (v1.step ((Below.refl _ _).drew))
    have D7 := Lib.hid (heap_step v2 ((Below.refl _ _).drew))
    clear v1 v2 v3
    go_region_law (first
      | (go_simp; go_at_call 31; (with_reducible refine (clone_B _ A6 HK (by omega)).mono ?_); rintro e w8 ⟨ra, rc, rfl, q8, b8⟩; have E8 := Lib.hid (rs_end1 R5d.out b8 q8); have R8 := Lib.hid (R5d.out.step b8); have P8 := pair_at R8.out.d; have p8 := heap_lt R8.out.d; have Z8 := pair_at R8.out.z; have z8 := heap_lt R8.out.z; have S8 := (fun i => frozen_of_row w8 (w.heap.size + 1) i _ _ R8.out.z); have Y8 := Lib.hid (two_set (x' := .slice (some ⟨lb, lo, none⟩) 0 (0)) (y' := .slice b3 m d3) R8.out.z); clear q8 b8)
      | (go_simp; go_at_call 31; (with_reducible refine (clone_B _ A7 HK (by omega)).mono ?_); rintro e w8 ⟨ra, rc, rfl, q8, b8⟩; have E8 := Lib.hid (And.intro (T7.out.step b8).atl (And.intro (T7.out.step b8).ate (And.intro (que_at q8) (T7.out.step b8).b))); have Y8 := Lib.hid (heap_step D7.out b8); clear q8 b8)
      | fail)
    all_goals go_wp2_with fail
    all_goals refine bodyPost_ret (results_row_tmp2 rfl _ _ (w.heap.size + 1) 25 #[.slice (some ⟨lb, lo, none⟩) 0 (0), .slice b3 m d3] (0, 0) _ rfl Y8.out Tryd.underlying25 rfl size_tty) rfl ?_
    all_goals exact ⟨_, _, _, _, _, _, rfl, E8.out.1, E8.out.2.1, E8.out.2.2.1, E8.out.2.2.2⟩
  · have hc2 : decide (1 = c3) = false := decide_eq_false (fun e => hc1 e.symm)
    have hc3 : 1 ≤ j + 1 := by omega
    go_upto_region 13 with fail
    have hq := que_drop HQ.out 1 hc3
    rw [hlo, Nat.mul_one, Nat.add_sub_cancel] at hq
    have R5 := Lib.hid (R4.out.whole (hr := hr3) hq)
    clear hq
    generalize w4.setCell ⟨w.heap.size, 0, none⟩ (.slice (some ⟨lb, lo + 1, none⟩) j (c3 - 1)) = w5 at R5 ⊢
    clear R4 G4 l4 F4 hlc HQ
    have P6 := pair_at R5.out.d
    have p6 := heap_lt R5.out.d
    have Z6 := pair_at R5.out.z
    have z6 := heap_lt R5.out.z
    have S6 := fun i => frozen_of_row w5 (w.heap.size + 1) i _ _ R5.out.z
    have A6 : Hid (shB.At w5.drew fa fc (l.take y)) := Lib.hid ((R5.out.first.take y).step ((Below.refl _ _).drew))
    obtain ⟨v1, v2, v3⟩ := R5.out.res
    have A7 := Lib.hid ((v3.take y).step ((Below.refl _ _).drew))
    have HK : Hid ((l.take y).length = y) := Lib.hid (by rw [List.length_take, HF2.out]; omega)
    have R5d := Lib.hid (R5.out.step ((Below.refl _ _).drew))
    have T7 := Lib.hid (v1.step ((Below.refl _ _).drew))
    have D7 := Lib.hid (heap_step v2 ((Below.refl _ _).drew))
    clear v1 v2 v3
    go_region_law (first
      | (go_simp; go_at_call 31; (with_reducible refine (clone_B _ A6 HK (by omega)).mono ?_); rintro e w8 ⟨ra, rc, rfl, q8, b8⟩; have E8 := Lib.hid (rs_end1 R5d.out b8 q8); have R8 := Lib.hid (R5d.out.step b8); have P8 := pair_at R8.out.d; have p8 := heap_lt R8.out.d; have Z8 := pair_at R8.out.z; have z8 := heap_lt R8.out.z; have S8 := (fun i => frozen_of_row w8 (w.heap.size + 1) i _ _ R8.out.z); have Y8 := Lib.hid (two_set (x' := .slice (some ⟨lb, lo + 1, none⟩) j (c3 - 1)) (y' := .slice b3 m d3) R8.out.z); clear q8 b8)
      | (go_simp; go_at_call 31; (with_reducible refine (clone_B _ A7 HK (by omega)).mono ?_); rintro e w8 ⟨ra, rc, rfl, q8, b8⟩; have E8 := Lib.hid (And.intro (T7.out.step b8).atl (And.intro (T7.out.step b8).ate (And.intro (que_at q8) (T7.out.step b8).b))); have Y8 := Lib.hid (heap_step D7.out b8); clear q8 b8)
      | fail)
    all_goals go_wp2_with fail
    all_goals refine bodyPost_ret (results_row_tmp2 rfl _ _ (w.heap.size + 1) 25 #[.slice (some ⟨lb, lo + 1, none⟩) j (c3 - 1), .slice b3 m d3] (0, 0) _ rfl Y8.out Tryd.underlying25 rfl size_tty) rfl ?_
    all_goals exact ⟨_, _, _, _, _, _, rfl, E8.out.1, E8.out.2.1, E8.out.2.2.1, E8.out.2.2.2⟩
/-- Read, at whatever terminal and number. -/
def ReadAll (w : World) (s : StQ) (most : Int) (e : Ending) (w' : World) : Prop := ReadOut w (resR s most).1.lines.length (resR s most).1.edit.length (resR s most).2.1.length (resR s most).1 (resR s most).2.1 (resR s most).2.2 e w'
theorem read_W {la ea : Option Addr} {n lc m ec : Nat} {s : StQ} (w : World) (HL : Hid (LnsAt w la lc s.lines)) (hn : Hid (s.lines.length = n)) (HE : Hid (shB.At w ea ec s.edit)) (hm : Hid (s.edit.length = m)) (most : Int) :
    Calls Tryd.prog 11 #[.agg #[.slice la n lc, .slice ea m ec], .int .i64 most] w (ReadAll w s most) := by
  unfold ReadAll resR
  cases hr : rgtQ s.lines s.lines.length s.edit.length with
  | false =>
    rw [hn.out, hm.out] at hr
    rw [if_neg (by simp)]
    exact read_bad w HL hn most false (Lib.hid hr) 1 (Or.inl ⟨rfl, rfl⟩)
  | true =>
    rw [hn.out, hm.out] at hr
    rw [if_pos rfl]
    obtain ⟨h1, h2, h3⟩ := rgtQ_parts hr
    by_cases hm1 : most < 1
    · rw [if_pos hm1]
      exact read_bad w HL hn most true (Lib.hid hr) 2 (Or.inr (Or.inl ⟨rfl, hm1, rfl⟩))
    · rw [if_neg hm1]
      obtain ⟨ls, ed⟩ := s
      simp only at HL hn HE hm hr h3 ⊢
      cases ls with
      | nil =>
        rw [if_pos rfl]
        exact read_bad w HL hn most true (Lib.hid hr) 7 (Or.inr (Or.inr ⟨rfl, hm1, hn.out.symm, rfl⟩))
      | cons l r =>
        rw [if_neg (by simp)]
        have hy65 := h3 l List.mem_cons_self
        obtain ⟨j, rfl⟩ : ∃ j, n = j + 1 := ⟨r.length, hn.out.symm⟩
        have hj : r.length = j := by have := hn.out; simp at this; exact this
        simp only [restQ, gotQ, List.head?_cons, Option.getD_some]
        by_cases hlt : most.toNat < l.length
        · rw [if_pos hlt]
          have e1 : most = ((most.toNat : Nat) : Int) := by omega
          have e2 : (l.take most.toNat).length = most.toNat := by rw [List.length_take]; omega
          have e3 : (l.drop most.toNat :: r).length = j + 1 := by rw [List.length_cons, hj]
          rw [e2, e3, hm.out]
          have := read_part w HL hn HE hm (Lib.hid hr) h2 h1 l.length rfl hy65 most.toNat (by omega) hlt
          rw [← e1] at this
          exact this
        · rw [if_neg hlt]
          have e2 : l.take most.toNat = l.take l.length := by rw [List.take_of_length_le (by omega), List.take_length]
          have e3 : (l.take l.length).length = l.length := by rw [List.take_length]
          rw [e2, e3, hj, hm.out]
          exact read_whole w HL hn HE hm (Lib.hid hr) h2 h1 l.length rfl hy65 most hm1 (by omega)
end Go.Proofs.YtomgifdnnfbpnaaDoor
