/- Package tty: the walk of copied. -/
import Derived.Test.YtomgifdnnfbpnaaDoorTyD
import Derived.Deep.OwnRows
namespace Go.Proofs.YtomgifdnnfbpnaaDoor
open Go.RowKit

/-- One cell of one entry is written. -/
theorem que_entry {α : Type} {S : Shape α} {w : World} {base g off n cap k i : Nat} {e : TypeId} {l : List α} {a a' : α} {v : Value} (h : Que S w base e (.slice (some ⟨g, off, none⟩) n cap) n l) (hk : l[k]? = some a) (hi : i < S.size) (he : (S.enc a).set i v = S.enc a') :
    Que S (w.setCell ⟨g, off + (k * S.size + i), none⟩ v) base e (.slice (some ⟨g, off, none⟩) n cap) n (l.set k a') := by
  obtain ⟨h1, h2⟩ := h
  refine ⟨by rw [List.length_set]; exact h1, ?_⟩
  rcases h2 with ⟨h2, _⟩ | ⟨g', off', cap', cur, hv, hg, hh, hn, hc, hs, ht⟩
  · cases h2
  · simp only [Value.slice.injEq, Option.some.injEq, Addr.mk.injEq, and_true, true_and] at hv
    obtain ⟨⟨rfl, rfl⟩, rfl⟩ := hv
    refine Or.inr ⟨g, off, cap, _, rfl, hg, heap_setCell_same w g _ cur _ v hh, hn, hc, by simpa using hs, fun j hj => ?_⟩
    rw [flat_set S hi hk he, List.getElem?_set, Array.getElem?_setIfInBounds]
    have hl : k * S.size + i < (S.flat l).length := by
      rw [S.flat_len]
      have hkl := (List.getElem?_eq_some_iff.1 hk).1
      have : k * S.size + S.size ≤ l.length * S.size := by rw [← Nat.succ_mul]; exact Nat.mul_le_mul_right _ hkl
      omega
    rw [S.flat_len, h1] at hl
    have hnc : n * S.size ≤ cap * S.size := Nat.mul_le_mul_right _ hn
    by_cases e : k * S.size + i = j
    · rw [if_pos (by omega), if_pos (by omega), if_pos e, if_pos (by rw [S.flat_len, h1]; omega)]
    · rw [if_neg (by omega), if_neg e]
      exact ht j hj
theorem que_froz {α : Type} {S : Shape α} {w : World} {base g off n cap : Nat} {e : TypeId} {l : List α} (h : Que S w base e (.slice (some ⟨g, off, none⟩) n cap) n l) (i : Nat) : w.frozen? ⟨g, i, none⟩ = false := by
  obtain ⟨cs, hc⟩ := que_cells h (g := g) rfl
  exact frozen_of_row w g i _ _ hc
/-- No line. -/
abbrev hd0 : Hd := (none, 0, 0)
theorem que_made (w : World) (n : Nat) (hn : n ≤ 400) : Que shL (w.alloc (.cells (madeCells #[.slice none 0 0] n) 23)) w.heap.size tL (.slice (some ⟨w.heap.size, 0, none⟩) n n) n (List.replicate n hd0) := by
  refine ⟨List.length_replicate, Or.inr ⟨w.heap.size, 0, n, _, rfl, Nat.le_refl _, heap_alloc_new w _, Nat.le_refl _, by unfold maxLen; omega, ?_, fun i hi => ?_⟩⟩
  · have hs : shL.size = 1 := rfl
    simp [madeCells, hs]
  · have hs : shL.size = 1 := rfl
    rw [hs, Nat.mul_one] at hi
    have h0 := shL.flat_at (List.replicate n hd0) i 0 hd0 (by simp [hi]) (by decide)
    rw [hs, Nat.mul_one, Nat.add_zero] at h0
    rw [h0, Nat.zero_add]
    unfold madeCells
    rw [Array.getElem?_map, Array.getElem?_range, if_pos (by simpa using hi)]
    show some ((#[Value.slice none 0 0] : Array Value)[i % 1]!) = _
    rw [Nat.mod_one]
    rfl
theorem set_next (hs : List Hd) {k j : Nat} (hk : hs.length = k) (h : Hd) : (hs ++ List.replicate (j + 1) hd0).set k h = (hs ++ [h]) ++ List.replicate j hd0 := by
  rw [List.set_append_right _ _ (by omega), ← hk, Nat.sub_self, List.replicate_succ, List.set_cons_zero, List.append_assoc]
  rfl
/-- What is in memory while lines are copied. -/
structure LpC (w wx : World) (B L n k : Nat) (lv ev : Value) (hs : List Hd) (ls : List (List UInt8)) : Prop where
  b : Below w.heap.size w wx
  d : wx.heap[w.heap.size]? = some (.cells #[lv, ev] tT (0, 0))
  z : wx.heap[B]? = some (.cells #[.slice none 0 0, .slice none 0 0] tT (0, 0))
  q : Que shL wx w.heap.size tL (.slice (some ⟨L, 0, none⟩) n n) n (hs ++ List.replicate (n - k) hd0)
  i : Lin wx hs (ls.take k)
  a : ApL hs (some L)
  l : hs.length = k
  c : ∀ h ∈ hs, h.2.1 ≤ h.2.2
section
variable {w wx wy : World} {B L n k : Nat} {lv ev : Value} {hs : List Hd} {ls : List (List UInt8)}
theorem LpC.step (h : LpC w wx B L n k lv ev hs ls) (hb : Below wx.heap.size wx wy) : LpC w wy B L n k lv ev hs ls := ⟨pstep h.b hb, heap_step h.d hb, heap_step h.z hb, que_step h.q hb, h.i.step hb, h.a, h.l, h.c⟩
theorem LpC.cell (h : LpC w wx B L n k lv ev hs ls) (hk : k < n) : wx.cell? ⟨L, k, none⟩ = some (.slice none 0 0) := by
  obtain ⟨bb, oo, e0, _, hcell⟩ := at_hd (k := k) (h := hd0) (que_at h.q) (by rw [List.getElem?_append_right (by rw [h.l]; omega), h.l, Nat.sub_self, List.getElem?_replicate, if_pos (by omega)])
  cases e0
  rw [Nat.zero_add] at hcell
  exact hcell
theorem LpC.lt (h : LpC w wx B L n k lv ev hs ls) : w.heap.size ≤ L ∧ L < wx.heap.size := que_lt h.q (g := L) rfl
/-- One line more. -/
theorem LpC.put {ra : Option Addr} {rc y : Nat} {l : List UInt8} (h : LpC w wx B L n k lv ev hs ls) (hb : Below wx.heap.size wx wy) (hq : Que shB wy wx.heap.size tB (.slice ra y rc) y l) (hk : k < n) (hl : ls[k]? = some l) : LpC w (wy.setCell ⟨L, k, none⟩ (.slice ra y rc)) B L n (k + 1) lv ev (hs ++ [(ra, y, rc)]) ls := by
  have h' := h.step hb
  obtain ⟨cs, hcs⟩ := que_cells h'.q (g := L) rfl
  have hdL : ¬ w.heap.size = L := fun e => by
    have := h'.d
    rw [e, hcs] at this
    simp only [Option.some.injEq, Obj.cells.injEq] at this
    exact absurd this.2.1 (by decide)
  have hzL : ¬ B = L := fun e => by
    have := h'.z
    rw [e, hcs] at this
    simp only [Option.some.injEq, Obj.cells.injEq] at this
    exact absurd this.2.1 (by decide)
  have hap : ApL (hs ++ [(ra, y, rc)]) (some L) := fun hd hm => by
    rcases List.mem_append.1 hm with hm | hm
    · exact h.a hd hm
    · rw [List.mem_singleton] at hm
      subst hm
      intro _ a ha e
      simp only at ha
      subst ha
      cases e
      have := (que_lt hq (g := a.block) rfl).1
      have := h.lt.2
      omega
  have hlin : Lin wy (hs ++ [(ra, y, rc)]) (ls.take k ++ [l]) := h'.i.app (Lin.one ⟨(que_len hq).symm, que_at hq⟩)
  have ht : ls.take (k + 1) = ls.take k ++ [l] := by rw [List.take_add_one, hl]; rfl
  refine ⟨h'.b.setCell h.lt.1 _, (Below.heap_setCell wy ⟨L, k, none⟩ _ _ hdL).trans h'.d, (Below.heap_setCell wy ⟨L, k, none⟩ _ _ hzL).trans h'.z, ?_, by rw [ht]; exact lin_set hlin hap _ _, hap, by simp [h.l], fun hd hm => ?_⟩
  · have hj : n - k = (n - (k + 1)) + 1 := by omega
    have hq2 := h'.q
    rw [hj] at hq2
    have he := que_entry (i := 0) (v := .slice ra y rc) (a := hd0) (a' := (ra, y, rc)) hq2 (k := k) (by rw [List.getElem?_append_right (by rw [h.l]; omega), h.l, Nat.sub_self]; rfl) (by decide) rfl
    rw [set_next hs h.l] at he
    have hs1 : shL.size = 1 := rfl
    rw [hs1, Nat.mul_one, Nat.add_zero, Nat.zero_add] at he
    exact he
  · rcases List.mem_append.1 hm with hm | hm
    · exact h.c hd hm
    · rw [List.mem_singleton] at hm
      subst hm
      obtain ⟨_, _, hv, hmc, _⟩ := que_shape hq
      simp only [Value.slice.injEq, true_and] at hv
      obtain ⟨rfl, rfl⟩ := hv
      exact hmc
end
/-- What copied gives. -/
def CopOut (w : World) (n m : Nat) (ls : List (List UInt8)) (edit : List UInt8) (e : Ending) (w' : World) : Prop :=
  ∃ hs la lc ea ec, e = .returned (.agg #[.slice la n lc, .slice ea m ec]) ∧ TtyQ w w' hs (.slice la n lc) (.slice ea m ec) n m ls edit
set_option maxHeartbeats 2000000 in
set_option maxRecDepth 100000 in
theorem copied_W {la ea : Option Addr} {n lc m ec : Nat} {ls : List (List UInt8)} {edit : List UInt8} (w : World) (HL : Hid (LnsAt w la lc ls)) (hn : Hid (ls.length = n)) (HE : Hid (shB.At w ea ec edit)) (hm : Hid (edit.length = m)) (hn4 : n ≤ 400) (hm6 : m ≤ 64) (h65 : Hid (∀ l ∈ ls, l.length ≤ 65)) :
    Calls Tryd.prog 28 #[.agg #[.slice la n lc, .slice ea m ec]] w (CopOut w n m ls edit) := by
  have hx := Lib.hid (bx_new w (.slice la n lc) (.slice ea m ec))
  have hmk := run_make_row' (P := Tryd.prog) 22 23 (.slice none 0 0) 24 Tryd.underlying22 info_bytes rfl .i64 .i64 n (by omega) (by omega)
  go_enter Tryd.func28, Tryd.ntmps28
  go_upto_region 1 with fail
  generalize (w.alloc (.cells #[.slice la n lc, .slice ea m ec] 25)).alloc (.cells #[.slice none 0 0, .slice none 0 0] 25) = X at hx ⊢
  have G0 := pair_at hx.out.d
  have l0 := heap_lt hx.out.d
  go_upto_region 2 with fail
  have L0 : Hid (LpC w (X.alloc (.cells (madeCells #[.slice none 0 0] n) 23)) (w.heap.size + 1) X.heap.size n 0 (.slice la n lc) (.slice ea m ec) [] ls) := Lib.hid ⟨pstep hx.out.b (below_alloc X _), heap_step hx.out.d (below_alloc X _), heap_step hx.out.z (below_alloc X _), que_base (que_made X n hn4) hx.out.b.size, Lin.nil _, (fun h hm => by cases hm), rfl, (fun h hm => by cases hm)⟩
  generalize X.alloc (.cells (madeCells #[.slice none 0 0] n) 23) = wa at L0 ⊢
  generalize X.heap.size = L at L0 ⊢
  clear hmk G0 l0 hx
  have G0 := pair_at L0.out.d
  have l0 := heap_lt L0.out.d
  go_wp2_with fail
  go_loopw [13] (fun i wr => ∃ (k : Nat) (hs : List Hd), k ≤ n ∧ i = .int .i64 k ∧ Hid (LpC w wr (w.heap.size + 1) L n k (.slice la n lc) (.slice ea m ec) hs ls)) (fun i _ => n - (intOf i).toNat)
  case atStart => exact ⟨0, [], Nat.zero_le _, rfl, L0⟩
  case round =>
    obtain ⟨k, hs, hk, rfl, HC⟩ := hrel
    clear L0 G0 l0
    by_cases hlt : k < n
    · obtain ⟨l, hl⟩ : ∃ l, ls[k]? = some l := ⟨ls[k]'(by rw [hn.out]; exact hlt), List.getElem?_eq_getElem _⟩
      obtain ⟨b, off, a, c, rfl, hb, hc, ha⟩ := at_line (HL.out.step HC.out.b) hl
      have HAT := Lib.hid ha
      have HLL := Lib.hid hl
      have h6 := h65.out l (List.mem_of_getElem? hl)
      obtain ⟨y, hy⟩ : ∃ y, l.length = y := ⟨_, rfl⟩
      have HY := Lib.hid hy
      rw [hy] at hc h6
      clear hl hy ha
      have HLT := Lib.hid HC.out.lt
      go_upto_region 6 with (first
        | (go_at_call 31; (with_reducible refine (clone_B _ HAT HY (by omega)).mono ?_); rintro e w5 ⟨ra, rc, rfl, q5, b5⟩; have Q5 := Lib.hid q5; have B5 := Lib.hid b5; have C5 := Lib.hid (HC.out.step b5); have z5 := C5.out.cell hlt; have F5 := que_froz C5.out.q k; have l5 := C5.out.lt.2; clear q5 b5)
        | fail)
      have N5 := Lib.hid (HC.out.put B5.out Q5.out hlt HLL.out)
      generalize w5.setCell ⟨L, k, none⟩ (.slice ra y rc) = w6 at N5 ⊢
      clear z5 F5 l5 C5
      go_wp2_with fail
      go_roundw
      case rel => exact ⟨k + 1, _, by omega, by go_num, N5⟩
      case measure => simp [intOf]; omega
    · obtain rfl : k = n := by omega
      have G1 := pair_at HC.out.d
      have l1 := heap_lt HC.out.d
      have HE1 := Lib.hid (HE.out.step HC.out.b)
      go_wp2_with (first
        | (go_at_call 31; (with_reducible refine (clone_B _ HE1 hm (by omega)).mono ?_); rintro e w5 ⟨ra, rc, rfl, q5, b5⟩; have Q5 := Lib.hid q5; have B5 := Lib.hid b5; have C5 := Lib.hid (HC.out.step b5); have Z5 := pair_at C5.out.z; have F5 := (fun i => frozen_of_row w5 (w.heap.size + 1) i _ _ C5.out.z); have l5 := heap_lt C5.out.z; clear q5 b5)
        | fail)
      refine bodyPost_ret (results_row1 rfl _ _ (w.heap.size + 1) 25 #[.slice (some ⟨L, 0, none⟩) k k, .slice ra m rc] (0, 0) _ rfl (two_set C5.out.z) Tryd.underlying25 rfl size_tty) rfl ?_
      have e0 : hs ++ List.replicate (k - k) hd0 = hs := by rw [Nat.sub_self]; simp
      have et : ls.take k = ls := by rw [← hn.out, List.take_length]
      have hq := C5.out.q
      have hi := C5.out.i
      rw [e0] at hq
      rw [et] at hi
      have hsz := HC.out.b.size
      have T5 : TtyQ w w5 hs (.slice (some ⟨L, 0, none⟩) k k) (.slice ra m rc) k m ls edit := ⟨C5.out.b, que_base Q5.out hsz, hq, hi, fun h hmem h0 a ha e => by
        have h1 := HC.out.i.lt hmem h0 ha
        have h2 := (que_lt Q5.out e).1
        omega, C5.out.a, C5.out.c⟩
      exact ⟨hs, _, _, ra, rc, rfl, T5.two C5.out.z (by omega) _⟩
end Go.Proofs.YtomgifdnnfbpnaaDoor
