/- corebellref.QRead. -/
import Derived.Test.YtomgifdnnfbpnaaDoorTyK
import Derived.Test.YtomgifdnnfbpnaaDoorHldM
namespace Go.Proofs.YtomgifdnnfbpnaaDoor
open Go.RowKit

set_option maxHeartbeats 1000000 in
set_option maxRecDepth 100000 in
theorem qread_bad {la ea : Option Addr} {n lc m ec : Nat} {ls : List (List UInt8)} (w : World) (HL : Hid (LnsAt w la lc ls)) (hn : Hid (ls.length = n)) (hn63 : n ≤ 9223372036854775807) (most : Int) (r : Bool) (hr : Hid (rgtQ ls n m = r)) (x : Int) (hx : r = false ∧ x = 1 ∨ r = true ∧ most < 1 ∧ x = 2 ∨ r = true ∧ ¬ most < 1 ∧ n = 0 ∧ x = 7) :
    Calls Tryd.prog 12 #[.agg #[.slice la n lc, .slice ea m ec], .int .i64 most] w (ReadOut w 0 0 0 newQ [] x) := by
  have hb := Lib.hid (bx_new w (.slice la n lc) (.slice ea m ec))
  rcases hx with ⟨rfl, rfl⟩ | ⟨rfl, h1, rfl⟩ | ⟨rfl, h1, rfl, rfl⟩
  · go_enter Tryd.func12, Tryd.ntmps12
    go_upto_region 1 with fail
    generalize (w.alloc (.cells #[.slice la n lc, .slice ea m ec] 25)).alloc (.cells #[.slice none 0 0, .slice none 0 0] 25) = X at hb ⊢
    have G0 := pair_at hb.out.d
    have l0 := heap_lt hb.out.d
    have HLX := Lib.hid (HL.out.step hb.out.b)
    go_wp2_with (first
      | (go_at_call 14; (with_reducible refine (qright_W _ HLX hn hn63 _ hr).mono ?_); rintro e w1 ⟨rfl, hb1⟩; have X1 := Lib.hid (hb.out.step hb1); have Z1 := pair_at X1.out.z; have F1 := (fun i => frozen_of_row w1 (w.heap.size + 1) i _ _ X1.out.z); have z1 := heap_lt X1.out.z; clear hb1)
      | fail)
    refine bodyPost_ret (results_row_tmp2 rfl _ _ (w.heap.size + 1) 25 #[.slice none 0 0, .slice none 0 0] (0, 0) _ rfl (two_set X1.out.z) Tryd.underlying25 rfl size_tty) rfl ?_
    exact read_none rfl (two_below _ _ X1.out.b (by omega))
  · have h1' : decide (most < 1) = true := decide_eq_true h1
    go_enter Tryd.func12, Tryd.ntmps12
    go_upto_region 1 with fail
    generalize (w.alloc (.cells #[.slice la n lc, .slice ea m ec] 25)).alloc (.cells #[.slice none 0 0, .slice none 0 0] 25) = X at hb ⊢
    have G0 := pair_at hb.out.d
    have l0 := heap_lt hb.out.d
    have HLX := Lib.hid (HL.out.step hb.out.b)
    go_wp2_with (first
      | (go_at_call 14; (with_reducible refine (qright_W _ HLX hn hn63 _ hr).mono ?_); rintro e w1 ⟨rfl, hb1⟩; have X1 := Lib.hid (hb.out.step hb1); have Z1 := pair_at X1.out.z; have F1 := (fun i => frozen_of_row w1 (w.heap.size + 1) i _ _ X1.out.z); have z1 := heap_lt X1.out.z; clear hb1)
      | fail)
    refine bodyPost_ret (results_row_tmp2 rfl _ _ (w.heap.size + 1) 25 #[.slice none 0 0, .slice none 0 0] (0, 0) _ rfl (two_set X1.out.z) Tryd.underlying25 rfl size_tty) rfl ?_
    exact read_none rfl (two_below _ _ X1.out.b (by omega))
  · have h1' : decide (most < 1) = false := decide_eq_false h1
    go_enter Tryd.func12, Tryd.ntmps12
    go_upto_region 1 with fail
    generalize (w.alloc (.cells #[.slice la 0 lc, .slice ea m ec] 25)).alloc (.cells #[.slice none 0 0, .slice none 0 0] 25) = X at hb ⊢
    have G0 := pair_at hb.out.d
    have l0 := heap_lt hb.out.d
    have HLX := Lib.hid (HL.out.step hb.out.b)
    go_wp2_with (first
      | (go_at_call 14; (with_reducible refine (qright_W _ HLX hn hn63 _ hr).mono ?_); rintro e w1 ⟨rfl, hb1⟩; have X1 := Lib.hid (hb.out.step hb1); have G1 := pair_at X1.out.d; have l1 := heap_lt X1.out.d; have Z1 := pair_at X1.out.z; have F1 := (fun i => frozen_of_row w1 (w.heap.size + 1) i _ _ X1.out.z); have z1 := heap_lt X1.out.z; clear hb1)
      | fail)
    refine bodyPost_ret (results_row_tmp2 rfl _ _ (w.heap.size + 1) 25 #[.slice none 0 0, .slice none 0 0] (0, 0) _ rfl (two_set X1.out.z) Tryd.underlying25 rfl size_tty) rfl ?_
    exact read_none rfl (two_below _ _ X1.out.b (by omega))
theorem drew_heap (w : World) : w.drew.heap = w.heap := rfl
/-- What is in memory: the result's box, the box of what is left, the row of its heads. -/
structure Ro (w W : World) (B : Nat) (lv ev : Value) (n : Nat) (hs : List Hd) : Prop where
  b : Below w.heap.size w W
  z : W.heap[w.heap.size + 1]? = some (.cells #[.slice none 0 0, .slice none 0 0] tT (0, 0))
  o : W.heap[B]? = some (.cells #[lv, ev] tT (0, 0))
  q : Que shL W w.heap.size tL lv n hs
  lt : w.heap.size + 1 < B
section
variable {w W W' : World} {B n : Nat} {lv ev : Value} {hs : List Hd}
theorem Ro.step (h : Ro w W B lv ev n hs) (hb : Below W.heap.size W W') : Ro w W' B lv ev n hs := ⟨pstep h.b hb, heap_step h.z hb, heap_step h.o hb, que_step h.q hb, h.lt⟩
end
/-- The row of heads is another one. -/
theorem Ro.put {w W W' : World} {B n k k0 : Nat} {lv ev x v0 : Value} {hs hs' h0 : List Hd} (h : Ro w W B lv ev n hs) (hq : Que shL W w.heap.size tL v0 k0 h0) (hg : W.grownBy W' v0.ownBlock) (own : Que shL W' w.heap.size tL x k hs') {x0 y0 : Option Addr} {a0 a1 b0 b1 : Nat} (hl : lv = .slice x0 a0 a1 := by rfl) (he : ev = .slice y0 b0 b1 := by rfl) : Ro w (W'.setCell ⟨B, 0, none⟩ x) B x ev k hs' := by
  subst hl he
  have o1 := (hg.block _ (heap_lt h.o) (fun e => que_apart hq _ _ _ h.o (by decide) e.symm)).trans h.o
  have z1 := (hg.block _ (heap_lt h.z) (fun e => que_apart hq _ _ _ h.z (by decide) e.symm)).trans h.z
  have hlt := h.lt
  exact ⟨(h.b.grown hg h.b.size (fun k hk => (que_lt hq hk).1)).setCell (show w.heap.size ≤ B by omega) _, (Below.heap_setCell W' ⟨B, 0, none⟩ x _ (by simp; omega)).trans z1, two_set0 o1, que_set own (que_ne own o1 (by decide)) _, hlt⟩
/-- The boxes while the first statement is on its way. -/
structure Rp (w W : World) (lv ev : Value) : Prop where
  x : Bx w W lv ev
section
variable {w W W' : World} {la ea : Option Addr} {n lc m ec : Nat}
theorem Rp.step {lv ev : Value} (h : Rp w W lv ev) (hb : Below W.heap.size W W') : Rp w W' lv ev := ⟨h.x.step hb⟩
theorem Rp.all (h : Rp w W (.slice la n lc) (.slice ea m ec)) : Rp w W (.slice la n lc) (.slice ea m ec) ∧ W.cell? ⟨w.heap.size, 0, none⟩ = some (.slice la n lc) ∧ W.cell? ⟨w.heap.size, 1, none⟩ = some (.slice ea m ec) := ⟨h, pair_at h.x.d⟩
theorem Rp.grown {lv ev v : Value} {base k : Nat} {l : List Hd} (h : Rp w W lv ev) (hq : Que shL W base tL v k l) (hb : w.heap.size ≤ base) (hg : W.grownBy W' v.ownBlock) : Rp w W' lv ev :=
  ⟨⟨h.x.b.grown hg h.x.b.size (fun k hk => Nat.le_trans hb (que_lt hq hk).1), (hg.block _ (heap_lt h.x.d) (fun e => que_apart hq _ _ _ h.x.d (by decide) e.symm)).trans h.x.d, (hg.block _ (heap_lt h.x.z) (fun e => que_apart hq _ _ _ h.x.z (by decide) e.symm)).trans h.x.z⟩⟩
theorem Rp.two {lv ev x y : Value} {B : Nat} (h : Rp w W lv ev) (hB : w.heap.size + 1 < B) : Rp w ((W.setCell ⟨B, 0, none⟩ x).setCell ⟨B, 1, none⟩ y) lv ev :=
  ⟨⟨two_below _ _ h.x.b (by omega), (two_other W _ _ (by omega)).trans h.x.d, (two_other W _ _ (by omega)).trans h.x.z⟩⟩
/-- The box of what is left is stored. -/
theorem ro_new {lv ev x y x0 y0 : Value} {B k : Nat} {hs : List Hd} (h : Rp w W lv ev) (hB : w.heap.size + 1 < B) (ho : W.heap[B]? = some (.cells #[x0, y0] tT (0, 0))) (hq : Que shL W w.heap.size tL x k hs) : Ro w ((W.setCell ⟨B, 0, none⟩ x).setCell ⟨B, 1, none⟩ y) B x y k hs := by
  have q1 := que_set (a := ⟨B, 0, none⟩) hq (que_ne hq ho (by decide)) x
  have o1 := two_set0 (x' := x) ho
  exact ⟨two_below _ _ h.x.b (by omega), (two_other W _ _ (by omega)).trans h.x.z, two_set ho, que_set (a := ⟨B, 1, none⟩) q1 (que_ne q1 o1 (by decide)) y, hB⟩
theorem ro_at {lv ev x y : Value} {k : Nat} {hs : List Hd} (h : Rp w W lv ev) (hq : Que shL W w.heap.size tL x k hs) : Ro w (W.alloc (.cells #[x, y] tT)) W.heap.size x y k hs :=
  ⟨pstep h.x.b (below_alloc _ _), heap_step h.x.z (below_alloc _ _), heap_alloc_new W _, que_step hq (below_alloc _ _), heap_lt h.x.z⟩
end
theorem lit_own {w W : World} (hd : Hd) (hb : w.heap.size ≤ W.heap.size) : Que shL (W.alloc (.cells #[.slice hd.1 hd.2.1 hd.2.2] 23)) w.heap.size 23 (.slice (some ⟨W.heap.size, 0, none⟩) 1 1) 1 [hd] :=
  ⟨rfl, Or.inr ⟨W.heap.size, 0, 1, _, rfl, hb, heap_alloc_new W _, Nat.le_refl _, by decide, by simp [shL], fun i hi => by
    have : i = 0 := by have hs : shL.size = 1 := rfl; omega
    subst this
    rfl⟩⟩
/-- What was read, what is left: the answer stored. -/
theorem qr_end {w W : World} {B n m g c k : Nat} {hs : List Hd} {xa ea : Option Addr} {xc ec : Nat} {ls : List (List UInt8)} {edit got : List UInt8} (h : Ro w W B (.slice xa n xc) (.slice ea m ec) n hs) (hi : Lin W hs ls) (he : shB.At W ea ec edit) (hm : edit.length = m) (hg : shB.At W (some ⟨g, 0, none⟩) c got) (hk : got.length = k) :
    ReadOut w n m k ⟨ls, edit⟩ got 0 (.returned (.tuple #[.agg #[.slice xa n xc, .slice ea m ec], .slice (some ⟨g, 0, none⟩) k c, .int .i64 0])) ((W.setCell ⟨w.heap.size + 1, 0, none⟩ (.slice xa n xc)).setCell ⟨w.heap.size + 1, 1, none⟩ (.slice ea m ec)) := by
  have nz : ∀ {hs : List Hd} {ls : List (List UInt8)}, Lin W hs ls → Lin ((W.setCell ⟨w.heap.size + 1, 0, none⟩ (.slice xa n xc)).setCell ⟨w.heap.size + 1, 1, none⟩ (.slice ea m ec)) hs ls := fun q => by
    have hA := lin_ne q h.z (fun k e => by cases e) (fun k e => by cases e)
    exact lin_set (lin_set q hA _ _) hA _ _
  have q1 := que_set (a := ⟨w.heap.size + 1, 0, none⟩) h.q (que_ne h.q h.z (by decide)) (.slice xa n xc)
  have z1 := two_set0 (x' := .slice xa n xc) h.z
  have q2 := que_set (a := ⟨w.heap.size + 1, 1, none⟩) q1 (que_ne q1 z1 (by decide)) (.slice ea m ec)
  exact ⟨_, _, _, _, _, _, rfl, ⟨hs, que_at q2, nz hi⟩, ((nz (Lin.one (h := ((ea, m, ec) : Hd)) ⟨hm.symm, he⟩)).a 0 _ _ rfl rfl).a, ((nz (Lin.one (h := ((some ⟨g, 0, none⟩, k, c) : Hd)) ⟨hk.symm, hg⟩)).a 0 _ _ rfl rfl).a, two_below _ _ h.b (by omega)⟩
set_option maxHeartbeats 4000000 in
set_option maxRecDepth 100000 in
theorem qread_part {la ea : Option Addr} {j lc m ec : Nat} {l : List UInt8} {r : List (List UInt8)} {edit : List UInt8} (w : World) (HL : Hid (LnsAt w la lc (l :: r))) (hn : Hid ((l :: r).length = j + 1)) (HE : Hid (shB.At w ea ec edit)) (hm : Hid (edit.length = m)) (hr : Hid (rgtQ (l :: r) (j + 1) m = true)) (hn4 : j + 1 ≤ 400) (hlc : j + 1 ≤ lc) (y : Nat) (hy : l.length = y) (k : Nat) (hk1 : 1 ≤ k) (hky : k < y) :
    Calls Tryd.prog 12 #[.agg #[.slice la (j + 1) lc, .slice ea m ec], .int .i64 (k : Nat)] w (ReadOut w (j + 1) m k ⟨l.drop k :: r, edit⟩ (l.take k) 0) := by
  have hk0 : decide ((k : Int) < 1) = false := by simp; omega
  have hx := Lib.hid (bx_new w (.slice la (j + 1) lc) (.slice ea m ec))
  have hn0 : (((j + 1 : Nat) : Int) == 0) = false := by simp; omega
  obtain ⟨hs, ha, hl⟩ := HL.out
  have hnn := hl.n
  obtain ⟨h0, hr0, rfl⟩ : ∃ h0 hr0, hs = h0 :: hr0 := by
    cases hs with
    | nil => simp at hnn
    | cons a b => exact ⟨a, b, rfl⟩
  have HLN : Hid (hr0.length = j) := Lib.hid (by have h1 := hn.out; simp only [List.length_cons] at hnn h1; omega)
  have hq0 := hl.a 0 _ _ rfl rfl
  obtain ⟨fa, fy, fc⟩ := h0
  obtain rfl : y = fy := by rw [← hy]; exact hq0.n.symm
  have HF := Lib.hid hq0.a
  have HR0 := Lib.hid (hl.drop 1)
  obtain ⟨lb, lo, rfl, hlb, hlc0⟩ := at_hd (k := 0) ha rfl
  rw [Nat.add_zero] at hlc0
  have HHA := Lib.hid ha
  have HLL := Lib.hid hy
  clear ha hl hnn hq0 hy
  go_enter Tryd.func12, Tryd.ntmps12
  go_upto_region 1 with fail
  generalize (w.alloc (.cells #[.slice (some ⟨lb, lo, none⟩) (j + 1) lc, .slice ea m ec] 25)).alloc (.cells #[.slice none 0 0, .slice none 0 0] 25) = X at hx ⊢
  have G0 := pair_at hx.out.d
  have l0 := heap_lt hx.out.d
  have HLX := Lib.hid (HL.out.step hx.out.b)
  go_upto_region 8 with (first
    | (go_at_call 14; (with_reducible refine (qright_W _ HLX hn (by omega) true hr).mono ?_); rintro e w1 ⟨rfl, hb⟩; have X1 := Lib.hid (hx.out.step hb); have G1 := pair_at X1.out.d; have l1 := heap_lt X1.out.d; have z1 := heap_lt X1.out.z; have k1 := (X1.out.b.cell (p := ⟨lb, lo, none⟩) hlb).trans hlc0; have j1 := Nat.lt_of_lt_of_le hlb X1.out.b.size; have c1 := conv_at (HF.out.step X1.out.b) HLL.out; clear hb)
    | fail)
  clear G0 l0 HLX hx
  have RX : Hid (Rp w w1 (.slice (some ⟨lb, lo, none⟩) (j + 1) lc) (.slice ea m ec)) := Lib.hid ⟨X1.out⟩
  have hHB := RX.out.x.b
  go_cut [8] from 26 to 33 (fun v wy => ∃ B ra rc, v = .pointer (some ⟨B, 0, none⟩) ∧ Hid (Ro w wy B (.slice ra j rc) (.slice ea m ec) j hr0))
  case first =>
    obtain ⟨i0, hi, hz0, hz1, hz2⟩ := info_parts' info_bytes
    have h1j : 1 ≤ j + 1 := by omega
    have h1j' : (1 : Int) ≤ (j : Int) + 1 := by omega
    have h1c : 1 ≤ lc := by omega
    have h1c' : (1 : Int) ≤ (lc : Int) := by omega
    clear hlc0 k1 c1 hlb
    by_cases hc1 : lc = 1
    · subst hc1
      obtain rfl : j = 0 := by omega
      obtain rfl : hr0 = [] := List.eq_nil_of_length_eq_zero HLN.out
      have HSA : Hid (shL.At w1 (some ⟨lb, lo, none⟩) 0 ([] : List Hd)) := Lib.hid (at_void _ _ _)
      have RP1 : Hid (Rp w (w1.alloc (.cells #[] 23)).drew (.slice (some ⟨lb, lo, none⟩) (0 + 1) 1) (.slice ea m ec)) := Lib.hid (RX.out.step ((below_alloc _ _).drew))
      have HO1 : Hid (Que shL (w1.alloc (.cells #[] 23)).drew w.heap.size 23 (.slice (some ⟨w1.heap.size, 0, none⟩) 0 0) 0 []) := Lib.hid (by
        have h := que_step (w' := (w1.alloc (.cells #[] 23)).drew) (que_base (base' := w.heap.size) (que_own (S := shL) (l := []) (World.ownsRow_made (e := 23) (size := 1) w1 #[] 0 (Nat.le_refl _) (by decide) rfl) rfl) (by have := RX.out.x.b.size; simp; omega)) ((Below.refl _ _).drew)
        skip
        exact h)
      have HS1 : Hid (shL.At (w1.alloc (.cells #[] 23)).drew (some ⟨lb, lo, none⟩) 0 ([] : List Hd)) := Lib.hid (HSA.out.step ((below_alloc _ _).drew))
      have S1 : Hid (w.heap.size ≤ (w1.alloc (.cells #[] 23)).drew.heap.size) := Lib.hid RP1.out.x.b.size
      have PV1 := RP1.out
      have RP2 : Hid (Rp w ((w1.alloc (.cells #[] 23)).alloc (.cells #[.slice none 0 0, .slice none 0 0] 25)).drew (.slice (some ⟨lb, lo, none⟩) (0 + 1) 1) (.slice ea m ec)) := Lib.hid (RX.out.step ((below_two _ _ _).drew))
      have HO2 : Hid (Que shL ((w1.alloc (.cells #[] 23)).alloc (.cells #[.slice none 0 0, .slice none 0 0] 25)).drew w.heap.size 23 (.slice (some ⟨w1.heap.size, 0, none⟩) 0 0) 0 []) := Lib.hid (by
        have h := que_step (w' := ((w1.alloc (.cells #[] 23)).alloc (.cells #[.slice none 0 0, .slice none 0 0] 25)).drew) (que_base (base' := w.heap.size) (que_own (S := shL) (l := []) (World.ownsRow_made (e := 23) (size := 1) w1 #[] 0 (Nat.le_refl _) (by decide) rfl) rfl) (by have := RX.out.x.b.size; simp; omega)) ((below_alloc _ _).drew)
        skip
        exact h)
      have HS2 : Hid (shL.At ((w1.alloc (.cells #[] 23)).alloc (.cells #[.slice none 0 0, .slice none 0 0] 25)).drew (some ⟨lb, lo, none⟩) 0 ([] : List Hd)) := Lib.hid (HSA.out.step ((below_two _ _ _).drew))
      have S2 : Hid (w.heap.size ≤ ((w1.alloc (.cells #[] 23)).alloc (.cells #[.slice none 0 0, .slice none 0 0] 25)).drew.heap.size) := Lib.hid RP2.out.x.b.size
      have PV2 := RP2.out
      have OB2 : Hid (((w1.alloc (.cells #[] 23)).alloc (.cells #[.slice none 0 0, .slice none 0 0] 25)).drew.heap[w1.heap.size + 1]? = some (.cells #[.slice none 0 0, .slice none 0 0] tT (0, 0))) := Lib.hid (heap_alloc2_new w1 _ _)
      have RP3 : Hid (Rp w ((w1.alloc (.cells #[.slice none 0 0, .slice none 0 0] 25)).alloc (.cells #[] 23)).drew (.slice (some ⟨lb, lo, none⟩) (0 + 1) 1) (.slice ea m ec)) := Lib.hid (RX.out.step ((below_two _ _ _).drew))
      have HO3 : Hid (Que shL ((w1.alloc (.cells #[.slice none 0 0, .slice none 0 0] 25)).alloc (.cells #[] 23)).drew w.heap.size 23 (.slice (some ⟨w1.heap.size + 1, 0, none⟩) 0 0) 0 []) := Lib.hid (by
        have h := que_step (w' := ((w1.alloc (.cells #[.slice none 0 0, .slice none 0 0] 25)).alloc (.cells #[] 23)).drew) (que_base (base' := w.heap.size) (que_own (S := shL) (l := []) (World.ownsRow_made (e := 23) (size := 1) (w1.alloc (.cells #[.slice none 0 0, .slice none 0 0] 25)) #[] 0 (Nat.le_refl _) (by decide) rfl) rfl) (by have := RX.out.x.b.size; simp; omega)) ((Below.refl _ _).drew)
        simp only [World.size_alloc] at h
        exact h)
      have HS3 : Hid (shL.At ((w1.alloc (.cells #[.slice none 0 0, .slice none 0 0] 25)).alloc (.cells #[] 23)).drew (some ⟨lb, lo, none⟩) 0 ([] : List Hd)) := Lib.hid (HSA.out.step ((below_two _ _ _).drew))
      have S3 : Hid (w.heap.size ≤ ((w1.alloc (.cells #[.slice none 0 0, .slice none 0 0] 25)).alloc (.cells #[] 23)).drew.heap.size) := Lib.hid RP3.out.x.b.size
      have PV3 := RP3.out
      have OB3 : Hid (((w1.alloc (.cells #[.slice none 0 0, .slice none 0 0] 25)).alloc (.cells #[] 23)).drew.heap[w1.heap.size]? = some (.cells #[.slice none 0 0, .slice none 0 0] tT (0, 0))) := Lib.hid (heap_step (heap_alloc_new w1 _) ((below_alloc _ _).drew))
      have PV0 := RX.out.step ((Below.refl _ _).drew)
      have PVT := RX.out.step ((below_alloc w1 (.cells #[.slice none 0 0, .slice none 0 0] 25)).drew)
      go_region_held3 (fun W => Rp w W (.slice (some ⟨lb, lo, none⟩) (0 + 1) 1) (.slice ea m ec) ∧ W.cell? ⟨w.heap.size, 0, none⟩ = some (.slice (some ⟨lb, lo, none⟩) (0 + 1) 1) ∧ W.cell? ⟨w.heap.size, 1, none⟩ = some (.slice ea m ec))
        (first | (refine Rp.all ?_; with_reducible assumption) | (refine Rp.all (Rp.step ?_ (below_alloc _ _)); with_reducible assumption) | (refine Rp.all (Rp.two ?_ (by omega)); with_reducible assumption) | (refine Rp.all (Rp.two (Rp.step ?_ (below_alloc _ _)) (by omega)); with_reducible assumption))
        (first
        | (refine step_append_que shL rfl _ _ 22 rfl w.heap.size 23 i0 _ 24 Tryd.underlying22 hi hz0 hz1 hz2 rfl (.slice (some ⟨w1.heap.size, 0, none⟩) 0 0) 0 [] ([] : List Hd) rfl HO1.out (some ⟨lb, lo, none⟩) 0 0 rfl HLN HS1.out (by unfold maxLen; omega) (by omega) S1.out ?_; intro ra rc w4 own4 grow4 _; have R4 := Lib.hid (RP1.out.grown HO1.out (Nat.le_refl _) grow4); have PP := R4.out; rw [Nat.zero_add, List.nil_append] at own4; have Q4 := Lib.hid own4; have Z4 := Lib.hid grow4.size; clear own4 grow4)
        | (refine step_append_que shL rfl _ _ 22 rfl w.heap.size 23 i0 _ 24 Tryd.underlying22 hi hz0 hz1 hz2 rfl (.slice (some ⟨w1.heap.size, 0, none⟩) 0 0) 0 [] ([] : List Hd) rfl HO2.out (some ⟨lb, lo, none⟩) 0 0 rfl HLN HS2.out (by unfold maxLen; omega) (by omega) S2.out ?_; intro ra rc w4 own4 grow4 _; have R4 := Lib.hid (RP2.out.grown HO2.out (Nat.le_refl _) grow4); have PP := R4.out; rw [Nat.zero_add, List.nil_append] at own4; have Q4 := Lib.hid own4; have Z4 := Lib.hid grow4.size; have O4 := Lib.hid ((grow4.block _ (heap_lt OB2.out) (fun e => que_apart HO2.out _ _ _ OB2.out (by decide) e.symm)).trans OB2.out); have b4 := O4.out; have G4 := pair_at b4; have F4 := (fun i => frozen_of_row w4 (w1.heap.size + 1) i _ _ b4); have l4 := heap_lt b4; clear b4; clear own4 grow4)
        | (refine step_append_que shL rfl _ _ 22 rfl w.heap.size 23 i0 _ 24 Tryd.underlying22 hi hz0 hz1 hz2 rfl (.slice (some ⟨w1.heap.size + 1, 0, none⟩) 0 0) 0 [] ([] : List Hd) rfl HO3.out (some ⟨lb, lo, none⟩) 0 0 rfl HLN HS3.out (by unfold maxLen; omega) (by omega) S3.out ?_; intro ra rc w4 own4 grow4 _; have R4 := Lib.hid (RP3.out.grown HO3.out (Nat.le_refl _) grow4); have PP := R4.out; rw [Nat.zero_add, List.nil_append] at own4; have Q4 := Lib.hid own4; have Z4 := Lib.hid grow4.size; have O4 := Lib.hid ((grow4.block _ (heap_lt OB3.out) (fun e => que_apart HO3.out _ _ _ OB3.out (by decide) e.symm)).trans OB3.out); have b4 := O4.out; have G4 := pair_at b4; have F4 := (fun i => frozen_of_row w4 (w1.heap.size) i _ _ b4); have l4 := heap_lt b4; clear b4; clear own4 grow4)
        | fail)
      all_goals go_wp2_with fail
      all_goals go_meet
      all_goals first
        | exact ⟨_, ra, rc, rfl, Lib.hid (ro_new R4.out (by omega) O4.out Q4.out)⟩
        | exact ⟨_, ra, rc, rfl, Lib.hid (ro_at R4.out Q4.out)⟩
    · have hc2 : decide (1 = lc) = false := decide_eq_false (fun e => hc1 e.symm)
      have hdr := at_drop HHA.out 1 (lc - 1) (by simp)
      rw [show shL.size = 1 from rfl, Nat.mul_one, List.drop_succ_cons, List.drop_zero] at hdr
      have HSA : Hid (shL.At w1 (some ⟨lb, lo + 1, none⟩) (lc - 1) hr0) := Lib.hid (hdr.step RX.out.x.b)
      clear hdr
      have RP1 : Hid (Rp w (w1.alloc (.cells #[] 23)).drew (.slice (some ⟨lb, lo, none⟩) (j + 1) lc) (.slice ea m ec)) := Lib.hid (RX.out.step ((below_alloc _ _).drew))
      have HO1 : Hid (Que shL (w1.alloc (.cells #[] 23)).drew w.heap.size 23 (.slice (some ⟨w1.heap.size, 0, none⟩) 0 0) 0 []) := Lib.hid (by
        have h := que_step (w' := (w1.alloc (.cells #[] 23)).drew) (que_base (base' := w.heap.size) (que_own (S := shL) (l := []) (World.ownsRow_made (e := 23) (size := 1) w1 #[] 0 (Nat.le_refl _) (by decide) rfl) rfl) (by have := RX.out.x.b.size; simp; omega)) ((Below.refl _ _).drew)
        skip
        exact h)
      have HS1 : Hid (shL.At (w1.alloc (.cells #[] 23)).drew (some ⟨lb, lo + 1, none⟩) (lc - 1) hr0) := Lib.hid (HSA.out.step ((below_alloc _ _).drew))
      have S1 : Hid (w.heap.size ≤ (w1.alloc (.cells #[] 23)).drew.heap.size) := Lib.hid RP1.out.x.b.size
      have PV1 := RP1.out
      have RP2 : Hid (Rp w ((w1.alloc (.cells #[] 23)).alloc (.cells #[.slice none 0 0, .slice none 0 0] 25)).drew (.slice (some ⟨lb, lo, none⟩) (j + 1) lc) (.slice ea m ec)) := Lib.hid (RX.out.step ((below_two _ _ _).drew))
      have HO2 : Hid (Que shL ((w1.alloc (.cells #[] 23)).alloc (.cells #[.slice none 0 0, .slice none 0 0] 25)).drew w.heap.size 23 (.slice (some ⟨w1.heap.size, 0, none⟩) 0 0) 0 []) := Lib.hid (by
        have h := que_step (w' := ((w1.alloc (.cells #[] 23)).alloc (.cells #[.slice none 0 0, .slice none 0 0] 25)).drew) (que_base (base' := w.heap.size) (que_own (S := shL) (l := []) (World.ownsRow_made (e := 23) (size := 1) w1 #[] 0 (Nat.le_refl _) (by decide) rfl) rfl) (by have := RX.out.x.b.size; simp; omega)) ((below_alloc _ _).drew)
        skip
        exact h)
      have HS2 : Hid (shL.At ((w1.alloc (.cells #[] 23)).alloc (.cells #[.slice none 0 0, .slice none 0 0] 25)).drew (some ⟨lb, lo + 1, none⟩) (lc - 1) hr0) := Lib.hid (HSA.out.step ((below_two _ _ _).drew))
      have S2 : Hid (w.heap.size ≤ ((w1.alloc (.cells #[] 23)).alloc (.cells #[.slice none 0 0, .slice none 0 0] 25)).drew.heap.size) := Lib.hid RP2.out.x.b.size
      have PV2 := RP2.out
      have OB2 : Hid (((w1.alloc (.cells #[] 23)).alloc (.cells #[.slice none 0 0, .slice none 0 0] 25)).drew.heap[w1.heap.size + 1]? = some (.cells #[.slice none 0 0, .slice none 0 0] tT (0, 0))) := Lib.hid (heap_alloc2_new w1 _ _)
      have RP3 : Hid (Rp w ((w1.alloc (.cells #[.slice none 0 0, .slice none 0 0] 25)).alloc (.cells #[] 23)).drew (.slice (some ⟨lb, lo, none⟩) (j + 1) lc) (.slice ea m ec)) := Lib.hid (RX.out.step ((below_two _ _ _).drew))
      have HO3 : Hid (Que shL ((w1.alloc (.cells #[.slice none 0 0, .slice none 0 0] 25)).alloc (.cells #[] 23)).drew w.heap.size 23 (.slice (some ⟨w1.heap.size + 1, 0, none⟩) 0 0) 0 []) := Lib.hid (by
        have h := que_step (w' := ((w1.alloc (.cells #[.slice none 0 0, .slice none 0 0] 25)).alloc (.cells #[] 23)).drew) (que_base (base' := w.heap.size) (que_own (S := shL) (l := []) (World.ownsRow_made (e := 23) (size := 1) (w1.alloc (.cells #[.slice none 0 0, .slice none 0 0] 25)) #[] 0 (Nat.le_refl _) (by decide) rfl) rfl) (by have := RX.out.x.b.size; simp; omega)) ((Below.refl _ _).drew)
        simp only [World.size_alloc] at h
        exact h)
      have HS3 : Hid (shL.At ((w1.alloc (.cells #[.slice none 0 0, .slice none 0 0] 25)).alloc (.cells #[] 23)).drew (some ⟨lb, lo + 1, none⟩) (lc - 1) hr0) := Lib.hid (HSA.out.step ((below_two _ _ _).drew))
      have S3 : Hid (w.heap.size ≤ ((w1.alloc (.cells #[.slice none 0 0, .slice none 0 0] 25)).alloc (.cells #[] 23)).drew.heap.size) := Lib.hid RP3.out.x.b.size
      have PV3 := RP3.out
      have OB3 : Hid (((w1.alloc (.cells #[.slice none 0 0, .slice none 0 0] 25)).alloc (.cells #[] 23)).drew.heap[w1.heap.size]? = some (.cells #[.slice none 0 0, .slice none 0 0] tT (0, 0))) := Lib.hid (heap_step (heap_alloc_new w1 _) ((below_alloc _ _).drew))
      have PV0 := RX.out.step ((Below.refl _ _).drew)
      have PVT := RX.out.step ((below_alloc w1 (.cells #[.slice none 0 0, .slice none 0 0] 25)).drew)
      go_region_held3 (fun W => Rp w W (.slice (some ⟨lb, lo, none⟩) (j + 1) lc) (.slice ea m ec) ∧ W.cell? ⟨w.heap.size, 0, none⟩ = some (.slice (some ⟨lb, lo, none⟩) (j + 1) lc) ∧ W.cell? ⟨w.heap.size, 1, none⟩ = some (.slice ea m ec))
        (first | (refine Rp.all ?_; with_reducible assumption) | (refine Rp.all (Rp.step ?_ (below_alloc _ _)); with_reducible assumption) | (refine Rp.all (Rp.two ?_ (by omega)); with_reducible assumption) | (refine Rp.all (Rp.two (Rp.step ?_ (below_alloc _ _)) (by omega)); with_reducible assumption))
        (first
        | (refine step_append_que shL rfl _ _ 22 rfl w.heap.size 23 i0 _ 24 Tryd.underlying22 hi hz0 hz1 hz2 rfl (.slice (some ⟨w1.heap.size, 0, none⟩) 0 0) 0 [] hr0 rfl HO1.out (some ⟨lb, lo + 1, none⟩) j (lc - 1) rfl HLN HS1.out (by unfold maxLen; omega) (by omega) S1.out ?_; intro ra rc w4 own4 grow4 _; have R4 := Lib.hid (RP1.out.grown HO1.out (Nat.le_refl _) grow4); have PP := R4.out; rw [Nat.zero_add, List.nil_append] at own4; have Q4 := Lib.hid own4; have Z4 := Lib.hid grow4.size; clear own4 grow4)
        | (refine step_append_que shL rfl _ _ 22 rfl w.heap.size 23 i0 _ 24 Tryd.underlying22 hi hz0 hz1 hz2 rfl (.slice (some ⟨w1.heap.size, 0, none⟩) 0 0) 0 [] hr0 rfl HO2.out (some ⟨lb, lo + 1, none⟩) j (lc - 1) rfl HLN HS2.out (by unfold maxLen; omega) (by omega) S2.out ?_; intro ra rc w4 own4 grow4 _; have R4 := Lib.hid (RP2.out.grown HO2.out (Nat.le_refl _) grow4); have PP := R4.out; rw [Nat.zero_add, List.nil_append] at own4; have Q4 := Lib.hid own4; have Z4 := Lib.hid grow4.size; have O4 := Lib.hid ((grow4.block _ (heap_lt OB2.out) (fun e => que_apart HO2.out _ _ _ OB2.out (by decide) e.symm)).trans OB2.out); have b4 := O4.out; have G4 := pair_at b4; have F4 := (fun i => frozen_of_row w4 (w1.heap.size + 1) i _ _ b4); have l4 := heap_lt b4; clear b4; clear own4 grow4)
        | (refine step_append_que shL rfl _ _ 22 rfl w.heap.size 23 i0 _ 24 Tryd.underlying22 hi hz0 hz1 hz2 rfl (.slice (some ⟨w1.heap.size + 1, 0, none⟩) 0 0) 0 [] hr0 rfl HO3.out (some ⟨lb, lo + 1, none⟩) j (lc - 1) rfl HLN HS3.out (by unfold maxLen; omega) (by omega) S3.out ?_; intro ra rc w4 own4 grow4 _; have R4 := Lib.hid (RP3.out.grown HO3.out (Nat.le_refl _) grow4); have PP := R4.out; rw [Nat.zero_add, List.nil_append] at own4; have Q4 := Lib.hid own4; have Z4 := Lib.hid grow4.size; have O4 := Lib.hid ((grow4.block _ (heap_lt OB3.out) (fun e => que_apart HO3.out _ _ _ OB3.out (by decide) e.symm)).trans OB3.out); have b4 := O4.out; have G4 := pair_at b4; have F4 := (fun i => frozen_of_row w4 (w1.heap.size) i _ _ b4); have l4 := heap_lt b4; clear b4; clear own4 grow4)
        | fail)
      all_goals go_wp2_with fail
      all_goals go_meet
      all_goals first
        | exact ⟨_, ra, rc, rfl, Lib.hid (ro_new R4.out (by omega) O4.out Q4.out)⟩
        | exact ⟨_, ra, rc, rfl, Lib.hid (ro_at R4.out Q4.out)⟩
  case rest =>
    obtain ⟨B, ra, rc, rfl, HRO⟩ := hcut
    have HED := Lib.hid HE.out
    have sz : (strB l).size = y := (strB_size _).trans HLL.out
    have hgt : decide ((y : Int) > (k : Int)) = true := by simp; omega
    have se : (strB l).extract k y = strB (l.drop k) := by rw [← sz]; exact strB_drop l k
    have se2 : (strB l).extract 0 k = strB (l.take k) := strB_take l k
    have hky1 : (k : Int) ≤ (y : Int) := by omega
    have HK : Hid ((l.take k).length = k) := Lib.hid (by rw [List.length_take, HLL.out]; omega)
    have HD : Hid ((l.drop k).length = y - k) := Lib.hid (by rw [List.length_drop, HLL.out])
    obtain ⟨c3, w3, hr3, a3, b3, hz3⟩ := conv_back wc.drew (l.drop k)
    rw [HD.out, drew_heap] at hr3
    rw [drew_heap] at a3 b3 hz3
    have HW3 : Hid (Below wc.heap.size wc w3) := Lib.hid ((Below.refl _ _).drew.trans b3)
    have A3 := Lib.hid a3
    have R3 := Lib.hid (HRO.out.step HW3.out)
    have hwc3 : wc.heap.size < w3.heap.size := by rw [hz3]; exact Nat.lt_succ_self _
    clear a3 b3 hz3 hlc0 k1 c1 l1 z1 G1 j1
    have G1 := pair_at HRO.out.o
    have l1 := heap_lt HRO.out.o
    have G3 := pair_at R3.out.o
    have l3 := heap_lt R3.out.o
    have hwd : wc.drew.heap.size = wc.heap.size := rfl
    have HO4 : Hid (Que shL (w3.alloc (.cells #[.slice (some ⟨wc.heap.size, 0, none⟩) (y - k) c3] 23)) w.heap.size 23 (.slice (some ⟨w3.heap.size, 0, none⟩) 1 1) 1 [((some ⟨wc.heap.size, 0, none⟩, y - k, c3) : Hd)]) := Lib.hid (lit_own _ R3.out.b.size)
    have HS4 : Hid (shL.At (w3.alloc (.cells #[.slice (some ⟨wc.heap.size, 0, none⟩) (y - k) c3] 23)) ra rc hr0) := Lib.hid (que_at (R3.out.step (below_alloc _ _)).q)
    have R4 : Hid (Ro w (w3.alloc (.cells #[.slice (some ⟨wc.heap.size, 0, none⟩) (y - k) c3] 23)) B (.slice ra j rc) (.slice ea m ec) j hr0) := Lib.hid (R3.out.step (below_alloc _ _))
    have s4 := R4.out.b.size
    obtain ⟨i0, hi, hz0, hz1, hz2⟩ := info_parts' info_bytes
    go_upto_region 10 with fail
    go_region_law (first
      | (refine step_append_que shL rfl _ _ 22 rfl w.heap.size 23 i0 _ 24 Tryd.underlying22 hi hz0 hz1 hz2 rfl (.slice (some ⟨w3.heap.size, 0, none⟩) 1 1) 1 [((some ⟨wc.heap.size, 0, none⟩, y - k, c3) : Hd)] hr0 rfl HO4.out ra j rc rfl HLN HS4.out (by unfold maxLen; omega) (by omega) s4 ?_; intro rb rd w5 own5 grow5 _; have Q5 := Lib.hid own5; have E5 := Lib.hid grow5; have o5 := (grow5.block _ (heap_lt R4.out.o) (fun e => que_apart HO4.out _ _ _ R4.out.o (by decide) e.symm)).trans R4.out.o; have O5' := Lib.hid o5; have G5 := pair_at o5; have F5 := (fun i => frozen_of_row w5 B i _ _ o5); have l5 := heap_lt o5; clear own5 grow5 o5)
      | fail)
    all_goals have R5 := Lib.hid (R4.out.put HO4.out E5.out Q5.out)
    all_goals have LA : Hid (Lin (w5.setCell ⟨B, 0, none⟩ (.slice rb (1 + j) rd)) ([((some ⟨wc.heap.size, 0, none⟩, y - k, c3) : Hd)] ++ hr0) ([l.drop k] ++ r)) := Lib.hid (by
      have q1 : Lin (w3.alloc (.cells #[.slice (some ⟨wc.heap.size, 0, none⟩) (y - k) c3] 23)) [((some ⟨wc.heap.size, 0, none⟩, y - k, c3) : Hd)] [l.drop k] := Lin.one ⟨HD.out.symm, A3.out.step (below_alloc _ _)⟩
      have q2 := q1.grown E5.out (fun hd hmem _ a ha e => by
        rw [List.mem_singleton] at hmem
        subst hmem
        cases ha
        have e2 := Option.some.inj e
        have := hwc3
        simp only at e2
        omega)
      have q3 := lin_set q2 (lin_ne q2 O5'.out (fun k e => by cases e) (fun k e => by cases e)) 0 (.slice rb (1 + j) rd)
      exact q3.app (HR0.out.step R5.out.b))
    all_goals generalize w5.setCell ⟨B, 0, none⟩ (.slice rb (1 + j) rd) = w7 at R5 LA ⊢
    all_goals clear G5 F5 l5 O5' Q5 E5 HO4 HS4 R4 s4 hr3 G1 l1 G3 l3
    all_goals have O5 := pair_at R5.out.o
    all_goals have o5 := heap_lt R5.out.o
    all_goals go_wp2_with (first
      | (refine wpList_bytes rfl _ rfl (l.take k) k HK rfl ?_; intro c6 w6 a6 b6; have A6 := Lib.hid a6; have B6 := Lib.hid b6; have R6 := Lib.hid (R5.out.step b6); have Z6 := pair_at R6.out.z; have F6 := (fun i => frozen_of_row w6 (w.heap.size + 1) i _ _ R6.out.z); have z6 := heap_lt R6.out.z; have O6 := pair_at R6.out.o; have o6 := heap_lt R6.out.o; clear a6 b6)
      | fail)
    all_goals refine bodyPost_ret (results_row_tmp2 rfl _ _ (w.heap.size + 1) 25 #[.slice rb (1 + j) rd, .slice ea m ec] (0, 0) _ rfl (two_set R6.out.z) Tryd.underlying25 rfl size_tty) rfl ?_
    all_goals have hfin := qr_end R6.out (LA.out.step B6.out) (HED.out.step R6.out.b) hm.out A6.out HK.out
    all_goals rw [Nat.add_comm 1 j] at hfin ⊢
    all_goals exact hfin
set_option maxHeartbeats 4000000 in
set_option maxRecDepth 100000 in
theorem qread_whole {la ea : Option Addr} {j lc m ec : Nat} {l : List UInt8} {r : List (List UInt8)} {edit : List UInt8} (w : World) (HL : Hid (LnsAt w la lc (l :: r))) (hn : Hid ((l :: r).length = j + 1)) (HE : Hid (shB.At w ea ec edit)) (hm : Hid (edit.length = m)) (hr : Hid (rgtQ (l :: r) (j + 1) m = true)) (hn4 : j + 1 ≤ 400) (hlc : j + 1 ≤ lc) (y : Nat) (hy : l.length = y) (most : Int) (h1 : ¬ most < 1) (hym : (y : Int) ≤ most) :
    Calls Tryd.prog 12 #[.agg #[.slice la (j + 1) lc, .slice ea m ec], .int .i64 most] w (ReadOut w j m y ⟨r, edit⟩ l 0) := by
  have hk0 : decide (most < 1) = false := decide_eq_false h1
  have hx := Lib.hid (bx_new w (.slice la (j + 1) lc) (.slice ea m ec))
  have hn0 : (((j + 1 : Nat) : Int) == 0) = false := by simp; omega
  obtain ⟨hs, ha, hl⟩ := HL.out
  have hnn := hl.n
  obtain ⟨h0, hr0, rfl⟩ : ∃ h0 hr0, hs = h0 :: hr0 := by
    cases hs with
    | nil => simp at hnn
    | cons a b => exact ⟨a, b, rfl⟩
  have HLN : Hid (hr0.length = j) := Lib.hid (by have h1 := hn.out; simp only [List.length_cons] at hnn h1; omega)
  have hq0 := hl.a 0 _ _ rfl rfl
  obtain ⟨fa, fy, fc⟩ := h0
  obtain rfl : y = fy := by rw [← hy]; exact hq0.n.symm
  have HF := Lib.hid hq0.a
  have HR0 := Lib.hid (hl.drop 1)
  obtain ⟨lb, lo, rfl, hlb, hlc0⟩ := at_hd (k := 0) ha rfl
  rw [Nat.add_zero] at hlc0
  have HHA := Lib.hid ha
  have HLL := Lib.hid hy
  clear ha hl hnn hq0 hy
  go_enter Tryd.func12, Tryd.ntmps12
  go_upto_region 1 with fail
  generalize (w.alloc (.cells #[.slice (some ⟨lb, lo, none⟩) (j + 1) lc, .slice ea m ec] 25)).alloc (.cells #[.slice none 0 0, .slice none 0 0] 25) = X at hx ⊢
  have G0 := pair_at hx.out.d
  have l0 := heap_lt hx.out.d
  have HLX := Lib.hid (HL.out.step hx.out.b)
  go_upto_region 8 with (first
    | (go_at_call 14; (with_reducible refine (qright_W _ HLX hn (by omega) true hr).mono ?_); rintro e w1 ⟨rfl, hb⟩; have X1 := Lib.hid (hx.out.step hb); have G1 := pair_at X1.out.d; have l1 := heap_lt X1.out.d; have z1 := heap_lt X1.out.z; have k1 := (X1.out.b.cell (p := ⟨lb, lo, none⟩) hlb).trans hlc0; have j1 := Nat.lt_of_lt_of_le hlb X1.out.b.size; have c1 := conv_at (HF.out.step X1.out.b) HLL.out; clear hb)
    | fail)
  clear G0 l0 HLX hx
  have RX : Hid (Rp w w1 (.slice (some ⟨lb, lo, none⟩) (j + 1) lc) (.slice ea m ec)) := Lib.hid ⟨X1.out⟩
  have hHB := RX.out.x.b
  go_cut [8] from 26 to 33 (fun v wy => ∃ B ra rc, v = .pointer (some ⟨B, 0, none⟩) ∧ Hid (Ro w wy B (.slice ra j rc) (.slice ea m ec) j hr0))
  case first =>
    obtain ⟨i0, hi, hz0, hz1, hz2⟩ := info_parts' info_bytes
    have h1j : 1 ≤ j + 1 := by omega
    have h1j' : (1 : Int) ≤ (j : Int) + 1 := by omega
    have h1c : 1 ≤ lc := by omega
    have h1c' : (1 : Int) ≤ (lc : Int) := by omega
    clear hlc0 k1 c1 hlb
    by_cases hc1 : lc = 1
    · subst hc1
      obtain rfl : j = 0 := by omega
      obtain rfl : hr0 = [] := List.eq_nil_of_length_eq_zero HLN.out
      have HSA : Hid (shL.At w1 (some ⟨lb, lo, none⟩) 0 ([] : List Hd)) := Lib.hid (at_void _ _ _)
      have RP1 : Hid (Rp w (w1.alloc (.cells #[] 23)).drew (.slice (some ⟨lb, lo, none⟩) (0 + 1) 1) (.slice ea m ec)) := Lib.hid (RX.out.step ((below_alloc _ _).drew))
      have HO1 : Hid (Que shL (w1.alloc (.cells #[] 23)).drew w.heap.size 23 (.slice (some ⟨w1.heap.size, 0, none⟩) 0 0) 0 []) := Lib.hid (by
        have h := que_step (w' := (w1.alloc (.cells #[] 23)).drew) (que_base (base' := w.heap.size) (que_own (S := shL) (l := []) (World.ownsRow_made (e := 23) (size := 1) w1 #[] 0 (Nat.le_refl _) (by decide) rfl) rfl) (by have := RX.out.x.b.size; simp; omega)) ((Below.refl _ _).drew)
        skip
        exact h)
      have HS1 : Hid (shL.At (w1.alloc (.cells #[] 23)).drew (some ⟨lb, lo, none⟩) 0 ([] : List Hd)) := Lib.hid (HSA.out.step ((below_alloc _ _).drew))
      have S1 : Hid (w.heap.size ≤ (w1.alloc (.cells #[] 23)).drew.heap.size) := Lib.hid RP1.out.x.b.size
      have PV1 := RP1.out
      have RP2 : Hid (Rp w ((w1.alloc (.cells #[] 23)).alloc (.cells #[.slice none 0 0, .slice none 0 0] 25)).drew (.slice (some ⟨lb, lo, none⟩) (0 + 1) 1) (.slice ea m ec)) := Lib.hid (RX.out.step ((below_two _ _ _).drew))
      have HO2 : Hid (Que shL ((w1.alloc (.cells #[] 23)).alloc (.cells #[.slice none 0 0, .slice none 0 0] 25)).drew w.heap.size 23 (.slice (some ⟨w1.heap.size, 0, none⟩) 0 0) 0 []) := Lib.hid (by
        have h := que_step (w' := ((w1.alloc (.cells #[] 23)).alloc (.cells #[.slice none 0 0, .slice none 0 0] 25)).drew) (que_base (base' := w.heap.size) (que_own (S := shL) (l := []) (World.ownsRow_made (e := 23) (size := 1) w1 #[] 0 (Nat.le_refl _) (by decide) rfl) rfl) (by have := RX.out.x.b.size; simp; omega)) ((below_alloc _ _).drew)
        skip
        exact h)
      have HS2 : Hid (shL.At ((w1.alloc (.cells #[] 23)).alloc (.cells #[.slice none 0 0, .slice none 0 0] 25)).drew (some ⟨lb, lo, none⟩) 0 ([] : List Hd)) := Lib.hid (HSA.out.step ((below_two _ _ _).drew))
      have S2 : Hid (w.heap.size ≤ ((w1.alloc (.cells #[] 23)).alloc (.cells #[.slice none 0 0, .slice none 0 0] 25)).drew.heap.size) := Lib.hid RP2.out.x.b.size
      have PV2 := RP2.out
      have OB2 : Hid (((w1.alloc (.cells #[] 23)).alloc (.cells #[.slice none 0 0, .slice none 0 0] 25)).drew.heap[w1.heap.size + 1]? = some (.cells #[.slice none 0 0, .slice none 0 0] tT (0, 0))) := Lib.hid (heap_alloc2_new w1 _ _)
      have RP3 : Hid (Rp w ((w1.alloc (.cells #[.slice none 0 0, .slice none 0 0] 25)).alloc (.cells #[] 23)).drew (.slice (some ⟨lb, lo, none⟩) (0 + 1) 1) (.slice ea m ec)) := Lib.hid (RX.out.step ((below_two _ _ _).drew))
      have HO3 : Hid (Que shL ((w1.alloc (.cells #[.slice none 0 0, .slice none 0 0] 25)).alloc (.cells #[] 23)).drew w.heap.size 23 (.slice (some ⟨w1.heap.size + 1, 0, none⟩) 0 0) 0 []) := Lib.hid (by
        have h := que_step (w' := ((w1.alloc (.cells #[.slice none 0 0, .slice none 0 0] 25)).alloc (.cells #[] 23)).drew) (que_base (base' := w.heap.size) (que_own (S := shL) (l := []) (World.ownsRow_made (e := 23) (size := 1) (w1.alloc (.cells #[.slice none 0 0, .slice none 0 0] 25)) #[] 0 (Nat.le_refl _) (by decide) rfl) rfl) (by have := RX.out.x.b.size; simp; omega)) ((Below.refl _ _).drew)
        simp only [World.size_alloc] at h
        exact h)
      have HS3 : Hid (shL.At ((w1.alloc (.cells #[.slice none 0 0, .slice none 0 0] 25)).alloc (.cells #[] 23)).drew (some ⟨lb, lo, none⟩) 0 ([] : List Hd)) := Lib.hid (HSA.out.step ((below_two _ _ _).drew))
      have S3 : Hid (w.heap.size ≤ ((w1.alloc (.cells #[.slice none 0 0, .slice none 0 0] 25)).alloc (.cells #[] 23)).drew.heap.size) := Lib.hid RP3.out.x.b.size
      have PV3 := RP3.out
      have OB3 : Hid (((w1.alloc (.cells #[.slice none 0 0, .slice none 0 0] 25)).alloc (.cells #[] 23)).drew.heap[w1.heap.size]? = some (.cells #[.slice none 0 0, .slice none 0 0] tT (0, 0))) := Lib.hid (heap_step (heap_alloc_new w1 _) ((below_alloc _ _).drew))
      have PV0 := RX.out.step ((Below.refl _ _).drew)
      have PVT := RX.out.step ((below_alloc w1 (.cells #[.slice none 0 0, .slice none 0 0] 25)).drew)
      go_region_held3 (fun W => Rp w W (.slice (some ⟨lb, lo, none⟩) (0 + 1) 1) (.slice ea m ec) ∧ W.cell? ⟨w.heap.size, 0, none⟩ = some (.slice (some ⟨lb, lo, none⟩) (0 + 1) 1) ∧ W.cell? ⟨w.heap.size, 1, none⟩ = some (.slice ea m ec))
        (first | (refine Rp.all ?_; with_reducible assumption) | (refine Rp.all (Rp.step ?_ (below_alloc _ _)); with_reducible assumption) | (refine Rp.all (Rp.two ?_ (by omega)); with_reducible assumption) | (refine Rp.all (Rp.two (Rp.step ?_ (below_alloc _ _)) (by omega)); with_reducible assumption))
        (first
        | (refine step_append_que shL rfl _ _ 22 rfl w.heap.size 23 i0 _ 24 Tryd.underlying22 hi hz0 hz1 hz2 rfl (.slice (some ⟨w1.heap.size, 0, none⟩) 0 0) 0 [] ([] : List Hd) rfl HO1.out (some ⟨lb, lo, none⟩) 0 0 rfl HLN HS1.out (by unfold maxLen; omega) (by omega) S1.out ?_; intro ra rc w4 own4 grow4 _; have R4 := Lib.hid (RP1.out.grown HO1.out (Nat.le_refl _) grow4); have PP := R4.out; rw [Nat.zero_add, List.nil_append] at own4; have Q4 := Lib.hid own4; have Z4 := Lib.hid grow4.size; clear own4 grow4)
        | (refine step_append_que shL rfl _ _ 22 rfl w.heap.size 23 i0 _ 24 Tryd.underlying22 hi hz0 hz1 hz2 rfl (.slice (some ⟨w1.heap.size, 0, none⟩) 0 0) 0 [] ([] : List Hd) rfl HO2.out (some ⟨lb, lo, none⟩) 0 0 rfl HLN HS2.out (by unfold maxLen; omega) (by omega) S2.out ?_; intro ra rc w4 own4 grow4 _; have R4 := Lib.hid (RP2.out.grown HO2.out (Nat.le_refl _) grow4); have PP := R4.out; rw [Nat.zero_add, List.nil_append] at own4; have Q4 := Lib.hid own4; have Z4 := Lib.hid grow4.size; have O4 := Lib.hid ((grow4.block _ (heap_lt OB2.out) (fun e => que_apart HO2.out _ _ _ OB2.out (by decide) e.symm)).trans OB2.out); have b4 := O4.out; have G4 := pair_at b4; have F4 := (fun i => frozen_of_row w4 (w1.heap.size + 1) i _ _ b4); have l4 := heap_lt b4; clear b4; clear own4 grow4)
        | (refine step_append_que shL rfl _ _ 22 rfl w.heap.size 23 i0 _ 24 Tryd.underlying22 hi hz0 hz1 hz2 rfl (.slice (some ⟨w1.heap.size + 1, 0, none⟩) 0 0) 0 [] ([] : List Hd) rfl HO3.out (some ⟨lb, lo, none⟩) 0 0 rfl HLN HS3.out (by unfold maxLen; omega) (by omega) S3.out ?_; intro ra rc w4 own4 grow4 _; have R4 := Lib.hid (RP3.out.grown HO3.out (Nat.le_refl _) grow4); have PP := R4.out; rw [Nat.zero_add, List.nil_append] at own4; have Q4 := Lib.hid own4; have Z4 := Lib.hid grow4.size; have O4 := Lib.hid ((grow4.block _ (heap_lt OB3.out) (fun e => que_apart HO3.out _ _ _ OB3.out (by decide) e.symm)).trans OB3.out); have b4 := O4.out; have G4 := pair_at b4; have F4 := (fun i => frozen_of_row w4 (w1.heap.size) i _ _ b4); have l4 := heap_lt b4; clear b4; clear own4 grow4)
        | fail)
      all_goals go_wp2_with fail
      all_goals go_meet
      all_goals first
        | exact ⟨_, ra, rc, rfl, Lib.hid (ro_new R4.out (by omega) O4.out Q4.out)⟩
        | exact ⟨_, ra, rc, rfl, Lib.hid (ro_at R4.out Q4.out)⟩
    · have hc2 : decide (1 = lc) = false := decide_eq_false (fun e => hc1 e.symm)
      have hdr := at_drop HHA.out 1 (lc - 1) (by simp)
      rw [show shL.size = 1 from rfl, Nat.mul_one, List.drop_succ_cons, List.drop_zero] at hdr
      have HSA : Hid (shL.At w1 (some ⟨lb, lo + 1, none⟩) (lc - 1) hr0) := Lib.hid (hdr.step RX.out.x.b)
      clear hdr
      have RP1 : Hid (Rp w (w1.alloc (.cells #[] 23)).drew (.slice (some ⟨lb, lo, none⟩) (j + 1) lc) (.slice ea m ec)) := Lib.hid (RX.out.step ((below_alloc _ _).drew))
      have HO1 : Hid (Que shL (w1.alloc (.cells #[] 23)).drew w.heap.size 23 (.slice (some ⟨w1.heap.size, 0, none⟩) 0 0) 0 []) := Lib.hid (by
        have h := que_step (w' := (w1.alloc (.cells #[] 23)).drew) (que_base (base' := w.heap.size) (que_own (S := shL) (l := []) (World.ownsRow_made (e := 23) (size := 1) w1 #[] 0 (Nat.le_refl _) (by decide) rfl) rfl) (by have := RX.out.x.b.size; simp; omega)) ((Below.refl _ _).drew)
        skip
        exact h)
      have HS1 : Hid (shL.At (w1.alloc (.cells #[] 23)).drew (some ⟨lb, lo + 1, none⟩) (lc - 1) hr0) := Lib.hid (HSA.out.step ((below_alloc _ _).drew))
      have S1 : Hid (w.heap.size ≤ (w1.alloc (.cells #[] 23)).drew.heap.size) := Lib.hid RP1.out.x.b.size
      have PV1 := RP1.out
      have RP2 : Hid (Rp w ((w1.alloc (.cells #[] 23)).alloc (.cells #[.slice none 0 0, .slice none 0 0] 25)).drew (.slice (some ⟨lb, lo, none⟩) (j + 1) lc) (.slice ea m ec)) := Lib.hid (RX.out.step ((below_two _ _ _).drew))
      have HO2 : Hid (Que shL ((w1.alloc (.cells #[] 23)).alloc (.cells #[.slice none 0 0, .slice none 0 0] 25)).drew w.heap.size 23 (.slice (some ⟨w1.heap.size, 0, none⟩) 0 0) 0 []) := Lib.hid (by
        have h := que_step (w' := ((w1.alloc (.cells #[] 23)).alloc (.cells #[.slice none 0 0, .slice none 0 0] 25)).drew) (que_base (base' := w.heap.size) (que_own (S := shL) (l := []) (World.ownsRow_made (e := 23) (size := 1) w1 #[] 0 (Nat.le_refl _) (by decide) rfl) rfl) (by have := RX.out.x.b.size; simp; omega)) ((below_alloc _ _).drew)
        skip
        exact h)
      have HS2 : Hid (shL.At ((w1.alloc (.cells #[] 23)).alloc (.cells #[.slice none 0 0, .slice none 0 0] 25)).drew (some ⟨lb, lo + 1, none⟩) (lc - 1) hr0) := Lib.hid (HSA.out.step ((below_two _ _ _).drew))
      have S2 : Hid (w.heap.size ≤ ((w1.alloc (.cells #[] 23)).alloc (.cells #[.slice none 0 0, .slice none 0 0] 25)).drew.heap.size) := Lib.hid RP2.out.x.b.size
      have PV2 := RP2.out
      have OB2 : Hid (((w1.alloc (.cells #[] 23)).alloc (.cells #[.slice none 0 0, .slice none 0 0] 25)).drew.heap[w1.heap.size + 1]? = some (.cells #[.slice none 0 0, .slice none 0 0] tT (0, 0))) := Lib.hid (heap_alloc2_new w1 _ _)
      have RP3 : Hid (Rp w ((w1.alloc (.cells #[.slice none 0 0, .slice none 0 0] 25)).alloc (.cells #[] 23)).drew (.slice (some ⟨lb, lo, none⟩) (j + 1) lc) (.slice ea m ec)) := Lib.hid (RX.out.step ((below_two _ _ _).drew))
      have HO3 : Hid (Que shL ((w1.alloc (.cells #[.slice none 0 0, .slice none 0 0] 25)).alloc (.cells #[] 23)).drew w.heap.size 23 (.slice (some ⟨w1.heap.size + 1, 0, none⟩) 0 0) 0 []) := Lib.hid (by
        have h := que_step (w' := ((w1.alloc (.cells #[.slice none 0 0, .slice none 0 0] 25)).alloc (.cells #[] 23)).drew) (que_base (base' := w.heap.size) (que_own (S := shL) (l := []) (World.ownsRow_made (e := 23) (size := 1) (w1.alloc (.cells #[.slice none 0 0, .slice none 0 0] 25)) #[] 0 (Nat.le_refl _) (by decide) rfl) rfl) (by have := RX.out.x.b.size; simp; omega)) ((Below.refl _ _).drew)
        simp only [World.size_alloc] at h
        exact h)
      have HS3 : Hid (shL.At ((w1.alloc (.cells #[.slice none 0 0, .slice none 0 0] 25)).alloc (.cells #[] 23)).drew (some ⟨lb, lo + 1, none⟩) (lc - 1) hr0) := Lib.hid (HSA.out.step ((below_two _ _ _).drew))
      have S3 : Hid (w.heap.size ≤ ((w1.alloc (.cells #[.slice none 0 0, .slice none 0 0] 25)).alloc (.cells #[] 23)).drew.heap.size) := Lib.hid RP3.out.x.b.size
      have PV3 := RP3.out
      have OB3 : Hid (((w1.alloc (.cells #[.slice none 0 0, .slice none 0 0] 25)).alloc (.cells #[] 23)).drew.heap[w1.heap.size]? = some (.cells #[.slice none 0 0, .slice none 0 0] tT (0, 0))) := Lib.hid (heap_step (heap_alloc_new w1 _) ((below_alloc _ _).drew))
      have PV0 := RX.out.step ((Below.refl _ _).drew)
      have PVT := RX.out.step ((below_alloc w1 (.cells #[.slice none 0 0, .slice none 0 0] 25)).drew)
      go_region_held3 (fun W => Rp w W (.slice (some ⟨lb, lo, none⟩) (j + 1) lc) (.slice ea m ec) ∧ W.cell? ⟨w.heap.size, 0, none⟩ = some (.slice (some ⟨lb, lo, none⟩) (j + 1) lc) ∧ W.cell? ⟨w.heap.size, 1, none⟩ = some (.slice ea m ec))
        (first | (refine Rp.all ?_; with_reducible assumption) | (refine Rp.all (Rp.step ?_ (below_alloc _ _)); with_reducible assumption) | (refine Rp.all (Rp.two ?_ (by omega)); with_reducible assumption) | (refine Rp.all (Rp.two (Rp.step ?_ (below_alloc _ _)) (by omega)); with_reducible assumption))
        (first
        | (refine step_append_que shL rfl _ _ 22 rfl w.heap.size 23 i0 _ 24 Tryd.underlying22 hi hz0 hz1 hz2 rfl (.slice (some ⟨w1.heap.size, 0, none⟩) 0 0) 0 [] hr0 rfl HO1.out (some ⟨lb, lo + 1, none⟩) j (lc - 1) rfl HLN HS1.out (by unfold maxLen; omega) (by omega) S1.out ?_; intro ra rc w4 own4 grow4 _; have R4 := Lib.hid (RP1.out.grown HO1.out (Nat.le_refl _) grow4); have PP := R4.out; rw [Nat.zero_add, List.nil_append] at own4; have Q4 := Lib.hid own4; have Z4 := Lib.hid grow4.size; clear own4 grow4)
        | (refine step_append_que shL rfl _ _ 22 rfl w.heap.size 23 i0 _ 24 Tryd.underlying22 hi hz0 hz1 hz2 rfl (.slice (some ⟨w1.heap.size, 0, none⟩) 0 0) 0 [] hr0 rfl HO2.out (some ⟨lb, lo + 1, none⟩) j (lc - 1) rfl HLN HS2.out (by unfold maxLen; omega) (by omega) S2.out ?_; intro ra rc w4 own4 grow4 _; have R4 := Lib.hid (RP2.out.grown HO2.out (Nat.le_refl _) grow4); have PP := R4.out; rw [Nat.zero_add, List.nil_append] at own4; have Q4 := Lib.hid own4; have Z4 := Lib.hid grow4.size; have O4 := Lib.hid ((grow4.block _ (heap_lt OB2.out) (fun e => que_apart HO2.out _ _ _ OB2.out (by decide) e.symm)).trans OB2.out); have b4 := O4.out; have G4 := pair_at b4; have F4 := (fun i => frozen_of_row w4 (w1.heap.size + 1) i _ _ b4); have l4 := heap_lt b4; clear b4; clear own4 grow4)
        | (refine step_append_que shL rfl _ _ 22 rfl w.heap.size 23 i0 _ 24 Tryd.underlying22 hi hz0 hz1 hz2 rfl (.slice (some ⟨w1.heap.size + 1, 0, none⟩) 0 0) 0 [] hr0 rfl HO3.out (some ⟨lb, lo + 1, none⟩) j (lc - 1) rfl HLN HS3.out (by unfold maxLen; omega) (by omega) S3.out ?_; intro ra rc w4 own4 grow4 _; have R4 := Lib.hid (RP3.out.grown HO3.out (Nat.le_refl _) grow4); have PP := R4.out; rw [Nat.zero_add, List.nil_append] at own4; have Q4 := Lib.hid own4; have Z4 := Lib.hid grow4.size; have O4 := Lib.hid ((grow4.block _ (heap_lt OB3.out) (fun e => que_apart HO3.out _ _ _ OB3.out (by decide) e.symm)).trans OB3.out); have b4 := O4.out; have G4 := pair_at b4; have F4 := (fun i => frozen_of_row w4 (w1.heap.size) i _ _ b4); have l4 := heap_lt b4; clear b4; clear own4 grow4)
        | fail)
      all_goals go_wp2_with fail
      all_goals go_meet
      all_goals first
        | exact ⟨_, ra, rc, rfl, Lib.hid (ro_new R4.out (by omega) O4.out Q4.out)⟩
        | exact ⟨_, ra, rc, rfl, Lib.hid (ro_at R4.out Q4.out)⟩
  case rest =>
    obtain ⟨B, ra, rc, rfl, HRO⟩ := hcut
    have HED := Lib.hid HE.out
    have sz : (strB l).size = y := (strB_size _).trans HLL.out
    have hgt : decide ((y : Int) > most) = false := by simp; omega
    have HK : Hid (l.length = y) := HLL
    clear hlc0 k1 c1 l1 z1 G1 j1
    have R5 := HRO
    have O5 := pair_at R5.out.o
    have o5 := heap_lt R5.out.o
    go_wp2_with (first
      | (refine wpList_bytes rfl _ rfl (l) y HK rfl ?_; intro c6 w6 a6 b6; have A6 := Lib.hid a6; have B6 := Lib.hid b6; have R6 := Lib.hid (R5.out.step b6); have Z6 := pair_at R6.out.z; have F6 := (fun i => frozen_of_row w6 (w.heap.size + 1) i _ _ R6.out.z); have z6 := heap_lt R6.out.z; have O6 := pair_at R6.out.o; have o6 := heap_lt R6.out.o; clear a6 b6)
      | fail)
    refine bodyPost_ret (results_row_tmp2 rfl _ _ (w.heap.size + 1) 25 #[.slice ra (j) rc, .slice ea m ec] (0, 0) _ rfl (two_set R6.out.z) Tryd.underlying25 rfl size_tty) rfl ?_
    exact qr_end R6.out (HR0.out.step R6.out.b) (HED.out.step R6.out.b) hm.out A6.out HK.out
/-- Read, at whatever terminal and number. -/
theorem qread_W {la ea : Option Addr} {n lc m ec : Nat} {s : StQ} (w : World) (HL : Hid (LnsAt w la lc s.lines)) (hn : Hid (s.lines.length = n)) (HE : Hid (shB.At w ea ec s.edit)) (hm : Hid (s.edit.length = m)) (hn63 : n ≤ 9223372036854775807) (hlc : n ≤ lc) (most : Int) :
    Calls Tryd.prog 12 #[.agg #[.slice la n lc, .slice ea m ec], .int .i64 most] w (ReadAll w s most) := by
  unfold ReadAll resR
  cases hr : rgtQ s.lines s.lines.length s.edit.length with
  | false =>
    rw [hn.out, hm.out] at hr
    rw [if_neg (by simp)]
    exact qread_bad w HL hn hn63 most false (Lib.hid hr) 1 (Or.inl ⟨rfl, rfl⟩)
  | true =>
    rw [hn.out, hm.out] at hr
    rw [if_pos rfl]
    obtain ⟨h1, h2, h3⟩ := rgtQ_parts hr
    by_cases hm1 : most < 1
    · rw [if_pos hm1]
      exact qread_bad w HL hn hn63 most true (Lib.hid hr) 2 (Or.inr (Or.inl ⟨rfl, hm1, rfl⟩))
    · rw [if_neg hm1]
      obtain ⟨ls, ed⟩ := s
      simp only at HL hn HE hm hr h3 ⊢
      cases ls with
      | nil =>
        rw [if_pos rfl]
        exact qread_bad w HL hn hn63 most true (Lib.hid hr) 7 (Or.inr (Or.inr ⟨rfl, hm1, hn.out.symm, rfl⟩))
      | cons l r =>
        rw [if_neg (by simp)]
        obtain ⟨j, rfl⟩ : ∃ j, n = j + 1 := ⟨r.length, hn.out.symm⟩
        have hj : r.length = j := by have := hn.out; simp at this; exact this
        simp only [restQ, gotQ, List.head?_cons, Option.getD_some]
        by_cases hlt : most.toNat < l.length
        · rw [if_pos hlt]
          have e1 : most = ((most.toNat : Nat) : Int) := by omega
          have e2 : (l.take most.toNat).length = most.toNat := by rw [List.length_take]; omega
          have e3 : (l.drop most.toNat :: r).length = j + 1 := by rw [List.length_cons, hj]
          rw [e2, e3, hm.out]
          have := qread_part w HL hn HE hm (Lib.hid hr) h2 hlc l.length rfl most.toNat (by omega) hlt
          rw [← e1] at this
          exact this
        · rw [if_neg hlt]
          have e2 : l.take most.toNat = l := List.take_of_length_le (by omega)
          rw [e2, hj, hm.out]
          exact qread_whole w HL hn HE hm (Lib.hid hr) h2 hlc l.length rfl most hm1 (by omega)
end Go.Proofs.YtomgifdnnfbpnaaDoor
