/- Package tty: what copied and Read give is new. -/
import Derived.Test.YtomgifdnnfbpnaaDoorTyG
namespace Go.Proofs.YtomgifdnnfbpnaaDoor
open Go.RowKit

/-- Heads whose bytes are new. -/
def FrL (w : World) (hs : List Hd) : Prop := ∀ h ∈ hs, 0 < h.2.1 → ∀ a, h.1 = some a → w.heap.size ≤ a.block
theorem FrL.from {w w1 : World} {hs : List Hd} (h : FrL w1 hs) (hb : w.heap.size ≤ w1.heap.size) : FrL w hs := fun x hx h0 a ha => Nat.le_trans hb (h x hx h0 a ha)
theorem FrL.app {w : World} {hs gs : List Hd} (h : FrL w hs) (g : FrL w gs) : FrL w (hs ++ gs) := fun x hx => (List.mem_append.1 hx).elim (h x) (g x)
theorem FrL.tail {w : World} {x : Hd} {hs : List Hd} (h : FrL w (x :: hs)) : FrL w hs := fun y hy => h y (List.mem_cons_of_mem _ hy)
theorem FrL.part {w : World} {hs : List Hd} {fb fo y c k : Nat} (h : FrL w (((some ⟨fb, fo, none⟩, y, c) : Hd) :: hs)) : FrL w (((some ⟨fb, fo + k, none⟩, y - k, c - k) : Hd) :: hs) := fun x hx h0 a ha => by
  rcases List.mem_cons.1 hx with rfl | hx
  · simp only [Option.some.injEq] at ha h0
    subst ha
    exact h _ List.mem_cons_self (by simp only; omega) ⟨fb, fo, none⟩ rfl
  · exact h x (List.mem_cons_of_mem _ hx) h0 a ha
/-- Lines, all new. -/
def LnsF (w0 W : World) (ad : Option Addr) (cap : Nat) (ls : List (List UInt8)) : Prop := ∃ hs, shL.At W ad cap hs ∧ Lin W hs ls ∧ FrL w0 hs ∧ ∀ a, ad = some a → w0.heap.size ≤ a.block
theorem TtyQ.atf {w0 w : World} {hs : List Hd} {ev : Value} {n m : Nat} {lines : List (List UInt8)} {edit : List UInt8} {ad : Option Addr} {cap : Nat} (h : TtyQ w0 w hs (.slice ad n cap) ev n m lines edit) (f : FrL w0 hs) : LnsF w0 w ad cap lines := ⟨hs, que_at h.l, h.i, f, fun a ha => (que_lt h.l (g := a.block) (by rw [ha]; rfl)).1⟩
def CopFr (w : World) (n m : Nat) (ls : List (List UInt8)) (edit : List UInt8) (e : Ending) (w' : World) : Prop :=
  ∃ hs la lc ea ec, e = .returned (.agg #[.slice la n lc, .slice ea m ec]) ∧ TtyQ w w' hs (.slice la n lc) (.slice ea m ec) n m ls edit ∧ FrL w hs
def ReadFr (w : World) (n m g : Nat) (s : StQ) (got : List UInt8) (x : Int) (e : Ending) (w' : World) : Prop :=
  ∃ la lc ea ec ra rc, e = .returned (.tuple #[.agg #[.slice la n lc, .slice ea m ec], .slice ra g rc, .int .i64 x]) ∧ LnsF w w' la lc s.lines ∧ shB.At w' ea ec s.edit ∧ shB.At w' ra rc got ∧ Below w.heap.size w w'
set_option maxHeartbeats 2000000 in
set_option maxRecDepth 100000 in
theorem copied_F {la ea : Option Addr} {n lc m ec : Nat} {ls : List (List UInt8)} {edit : List UInt8} (w : World) (HL : Hid (LnsAt w la lc ls)) (hn : Hid (ls.length = n)) (HE : Hid (shB.At w ea ec edit)) (hm : Hid (edit.length = m)) (hn4 : n ≤ 400) (hm6 : m ≤ 64) (h65 : Hid (∀ l ∈ ls, l.length ≤ 65)) :
    Calls Tryd.prog 28 #[.agg #[.slice la n lc, .slice ea m ec]] w (CopFr w n m ls edit) := by
  have hx := Lib.hid (bx_new w (.slice la n lc) (.slice ea m ec))
  have hmk := run_make_row' (P := Tryd.prog) 22 23 (.slice none 0 0) 24 Tryd.underlying22 info_bytes rfl .i64 .i64 n (by omega) (by omega)
  go_enter Tryd.func28, Tryd.ntmps28
  go_upto_region 1 with fail
  generalize (w.alloc (.cells #[.slice la n lc, .slice ea m ec] 25)).alloc (.cells #[.slice none 0 0, .slice none 0 0] 25) = X at hx ⊢
  have G0 := pair_at hx.out.d
  have l0 := heap_lt hx.out.d
  go_upto_region 2 with fail
  have L0 : Hid (LpC w (X.alloc (.cells (madeCells #[.slice none 0 0] n) 23)) (w.heap.size + 1) X.heap.size n 0 (.slice la n lc) (.slice ea m ec) [] ls) := Lib.hid ⟨pstep hx.out.b (below_alloc X _), heap_step hx.out.d (below_alloc X _), heap_step hx.out.z (below_alloc X _), que_base (que_made X n hn4) hx.out.b.size, Lin.nil _, (fun h hm => by cases hm), rfl, (fun h hm => by cases hm)⟩
  generalize X.alloc (.cells (madeCells #[.slice none 0 0] n) 23) = wa at L0 ⊢
  generalize X.heap.size = L at L0 ⊢
  clear hmk G0 l0 hx
  have G0 := pair_at L0.out.d
  have l0 := heap_lt L0.out.d
  go_wp2_with fail
  go_loopw [13] (fun i wr => ∃ (k : Nat) (hs : List Hd), k ≤ n ∧ i = .int .i64 k ∧ Hid (LpC w wr (w.heap.size + 1) L n k (.slice la n lc) (.slice ea m ec) hs ls) ∧ Hid (FrL w hs)) (fun i _ => n - (intOf i).toNat)
  case atStart => exact ⟨0, [], Nat.zero_le _, rfl, L0, Lib.hid (fun _ hx => by cases hx)⟩
  case round =>
    obtain ⟨k, hs, hk, rfl, HC, HF⟩ := hrel
    clear L0 G0 l0
    by_cases hlt : k < n
    · obtain ⟨l, hl⟩ : ∃ l, ls[k]? = some l := ⟨ls[k]'(by rw [hn.out]; exact hlt), List.getElem?_eq_getElem _⟩
      obtain ⟨b, off, a, c, rfl, hb, hc, ha⟩ := at_line (HL.out.step HC.out.b) hl
      have HAT := Lib.hid ha
      have HLL := Lib.hid hl
      have h6 := h65.out l (List.mem_of_getElem? hl)
      obtain ⟨y, hy⟩ : ∃ y, l.length = y := ⟨_, rfl⟩
      have HY := Lib.hid hy
      rw [hy] at hc h6
      clear hl hy ha
      have HLT := Lib.hid HC.out.lt
      go_upto_region 6 with (first
        | (go_at_call 31; (with_reducible refine (clone_B _ HAT HY (by omega)).mono ?_); rintro e w5 ⟨ra, rc, rfl, q5, b5⟩; have Q5 := Lib.hid q5; have B5 := Lib.hid b5; have C5 := Lib.hid (HC.out.step b5); have z5 := C5.out.cell hlt; have F5 := que_froz C5.out.q k; have l5 := C5.out.lt.2; clear q5 b5)
        | fail)
      have N5 := Lib.hid (HC.out.put B5.out Q5.out hlt HLL.out)
      have F6 : Hid (FrL w (hs ++ [(ra, y, rc)])) := Lib.hid (HF.out.app (fun x hx h0 a ha => by
        rw [List.mem_singleton] at hx
        subst hx
        have h1 := (que_lt Q5.out (g := a.block) (by simp only at ha; rw [ha]; rfl)).1
        have := HC.out.b.size
        omega))
      generalize w5.setCell ⟨L, k, none⟩ (.slice ra y rc) = w6 at N5 ⊢
      clear z5 F5 l5 C5
      go_wp2_with fail
      go_roundw
      case rel => exact ⟨k + 1, _, by omega, by go_num, N5, F6⟩
      case measure => simp [intOf]; omega
    · obtain rfl : k = n := by omega
      have G1 := pair_at HC.out.d
      have l1 := heap_lt HC.out.d
      have HE1 := Lib.hid (HE.out.step HC.out.b)
      go_wp2_with (first
        | (go_at_call 31; (with_reducible refine (clone_B _ HE1 hm (by omega)).mono ?_); rintro e w5 ⟨ra, rc, rfl, q5, b5⟩; have Q5 := Lib.hid q5; have B5 := Lib.hid b5; have C5 := Lib.hid (HC.out.step b5); have Z5 := pair_at C5.out.z; have F5 := (fun i => frozen_of_row w5 (w.heap.size + 1) i _ _ C5.out.z); have l5 := heap_lt C5.out.z; clear q5 b5)
        | fail)
      refine bodyPost_ret (results_row1 rfl _ _ (w.heap.size + 1) 25 #[.slice (some ⟨L, 0, none⟩) k k, .slice ra m rc] (0, 0) _ rfl (two_set C5.out.z) Tryd.underlying25 rfl size_tty) rfl ?_
      have e0 : hs ++ List.replicate (k - k) hd0 = hs := by rw [Nat.sub_self]; simp
      have et : ls.take k = ls := by rw [← hn.out, List.take_length]
      have hq := C5.out.q
      have hi := C5.out.i
      rw [e0] at hq
      rw [et] at hi
      have hsz := HC.out.b.size
      have T5 : TtyQ w w5 hs (.slice (some ⟨L, 0, none⟩) k k) (.slice ra m rc) k m ls edit := ⟨C5.out.b, que_base Q5.out hsz, hq, hi, fun h hmem h0 a ha e => by
        have h1 := HC.out.i.lt hmem h0 ha
        have h2 := (que_lt Q5.out e).1
        omega, C5.out.a, C5.out.c⟩
      exact ⟨hs, _, _, ra, rc, rfl, T5.two C5.out.z (by omega) _, HF.out⟩
section
variable {w W W' : World} {hs : List Hd} {lv ev : Value} {n m : Nat} {lines : List (List UInt8)} {edit : List UInt8} {a : Option Addr} {c y : Nat} {l : List UInt8}
/-- Copied first, then the result stored. -/
theorem rs_end1F {la ea ra : Option Addr} {lc ec rc k : Nat} (h : Rs w W hs (.slice la n lc) (.slice ea m ec) n m lines edit a c y l) (f : FrL w hs) (hb : Below W.heap.size W W') (hq : Que shB W' W.heap.size tB (.slice ra k rc) k (l.take k)) :
    LnsF w ((W'.setCell ⟨w.heap.size + 1, 0, none⟩ (.slice la n lc)).setCell ⟨w.heap.size + 1, 1, none⟩ (.slice ea m ec)) la lc lines ∧ shB.At ((W'.setCell ⟨w.heap.size + 1, 0, none⟩ (.slice la n lc)).setCell ⟨w.heap.size + 1, 1, none⟩ (.slice ea m ec)) ea ec edit ∧ shB.At ((W'.setCell ⟨w.heap.size + 1, 0, none⟩ (.slice la n lc)).setCell ⟨w.heap.size + 1, 1, none⟩ (.slice ea m ec)) ra rc (l.take k) ∧ Below w.heap.size w ((W'.setCell ⟨w.heap.size + 1, 0, none⟩ (.slice la n lc)).setCell ⟨w.heap.size + 1, 1, none⟩ (.slice ea m ec)) := by
  have h' := h.step hb
  have T := h'.t.two h'.z (by omega) (x2 := la) (n2 := n) (c2 := lc) (.slice ea m ec)
  have hg : Lin W' [((ra, k, rc) : Hd)] [l.take k] := Lin.one ⟨(que_len hq).symm, que_at hq⟩
  have hA := lin_ne hg h'.z (fun k e => by cases e) (fun k e => by cases e)
  exact ⟨T.atf f, T.ate, ((lin_set (lin_set hg hA _ _) hA _ _).a 0 _ _ rfl rfl).a, T.b⟩
end
set_option maxHeartbeats 4000000 in
set_option maxRecDepth 100000 in
theorem read_partF {la ea : Option Addr} {j lc m ec : Nat} {l : List UInt8} {r : List (List UInt8)} {edit : List UInt8} (w : World) (HL : Hid (LnsAt w la lc (l :: r))) (hn : Hid ((l :: r).length = j + 1)) (HE : Hid (shB.At w ea ec edit)) (hm : Hid (edit.length = m)) (hr : Hid (rgtQ (l :: r) (j + 1) m = true)) (hn4 : j + 1 ≤ 400) (hm6 : m ≤ 64) (y : Nat) (hy : l.length = y) (hy65 : y ≤ 65) (k : Nat) (hk1 : 1 ≤ k) (hky : k < y) :
    Calls Tryd.prog 11 #[.agg #[.slice la (j + 1) lc, .slice ea m ec], .int .i64 (k : Nat)] w (ReadFr w (j + 1) m k ⟨l.drop k :: r, edit⟩ (l.take k) 0) := by
  have hk0 : decide ((k : Int) < 1) = false := by simp; omega
  have hmin : min (k : Int) (y : Int) = (k : Int) := by omega
  have hlt : decide ((k : Int) < (y : Int)) = true := by simp; omega
  have hx := Lib.hid (bx_new w (.slice la (j + 1) lc) (.slice ea m ec))
  have h65 := Lib.hid (rgtQ_parts hr.out).2.2
  have hn0 : (((j + 1 : Nat) : Int) == 0) = false := by simp; omega
  go_enter Tryd.func11, Tryd.ntmps11
  go_upto_region 1 with fail
  generalize (w.alloc (.cells #[.slice la (j + 1) lc, .slice ea m ec] 25)).alloc (.cells #[.slice none 0 0, .slice none 0 0] 25) = X at hx ⊢
  have G0 := pair_at hx.out.d
  have l0 := heap_lt hx.out.d
  have HLX := Lib.hid (HL.out.step hx.out.b)
  go_upto_region 8 with (first
    | (go_at_call 13; (with_reducible refine (right_W _ HLX hn true hr).mono ?_); rintro e w1 ⟨rfl, hb⟩; have X1 := Lib.hid (hx.out.step hb); have G1 := pair_at X1.out.d; have l1 := heap_lt X1.out.d; have HL2 := Lib.hid (HL.out.step X1.out.b); have HE2 := Lib.hid (HE.out.step X1.out.b); clear hb)
    | (go_at_call 28; (with_reducible refine (copied_F _ HL2 hn HE2 hm hn4 hm6 h65).mono ?_); rintro e w3 ⟨hs3, a3, c3, b3, d3, rfl, t3, f3⟩; have FR3 := Lib.hid (f3.from X1.out.b.size); have T3 := Lib.hid (t3.from X1.out.b); have X3 := Lib.hid (X1.out.step t3.b); have G3 := pair_at X3.out.d; have F3 := (fun i => frozen_of_row w3 w.heap.size i _ _ X3.out.d); have l3 := heap_lt X3.out.d; clear t3 f3)
    | fail)
  obtain ⟨fa, fc, hr3, rfl, hfc⟩ := first_hd T3.out
  have HF2 := Lib.hid hy
  rw [hy] at hfc T3 FR3
  have R4 := Lib.hid (rs_begin T3.out X3.out.d X3.out.z)
  generalize (w3.setCell ⟨w.heap.size, 0, none⟩ (.slice a3 (j + 1) c3)).setCell ⟨w.heap.size, 1, none⟩ (.slice b3 m d3) = w4 at R4 ⊢
  clear T3 X3 G3 F3 l3 X1 G1 l1 HL2 HE2 HLX G0 l0 hx
  obtain ⟨lb, lo, rfl, hlb, hlc⟩ := at_hd (k := 0) (que_at R4.out.t.l) rfl
  rw [Nat.add_zero] at hlc
  have G4 := pair_at R4.out.d
  have l4 := heap_lt R4.out.d
  have hkc : decide (k = fc) = false := decide_eq_false (by omega)
  have hky2 : k ≤ y := by omega
  have hkc2 : k ≤ fc := by omega
  have h0 : ¬ ((k : Int) < 0) := by omega
  have f4 := que_froz R4.out.t.l lo
  obtain ⟨fb, fo, rfl, hfb, _⟩ := R4.out.first.2 (by rw [HF2.out]; omega)
  go_upto_region 11 with fail
  go_region
  have R5 := Lib.hid (R4.out.part hky hfc)
  have FR5 := Lib.hid (FR3.out.part (k := k))
  generalize (w4.setCell ⟨lb, lo, none⟩ (.slice (some ⟨fb, fo + k, none⟩) (y - k) (fc - k))).drew = w5 at R5 ⊢
  clear R4 G4 l4 f4 hlc
  go_upto_region 13 with fail
  have P6 := pair_at R5.out.d
  have p6 := heap_lt R5.out.d
  have Z6 := pair_at R5.out.z
  have z6 := heap_lt R5.out.z
  have S6 := fun i => frozen_of_row w5 (w.heap.size + 1) i _ _ R5.out.z
  have A6 : Hid (shB.At w5.drew (some ⟨fb, fo, none⟩) fc (l.take k)) := Lib.hid ((R5.out.first.take k).step ((Below.refl _ _).drew))
  obtain ⟨v1, v2, v3⟩ := R5.out.res
  have A7 := Lib.hid ((v3.take k).step ((Below.refl _ _).drew))
  have HK : Hid ((l.take k).length = k) := Lib.hid (by rw [List.length_take, HF2.out]; omega)
  have R5d := Lib.hid (R5.out.step ((Below.refl _ _).drew))
  have T7 := Lib.hid (v1.step ((Below.refl _ _).drew))
  have D7 := Lib.hid (heap_step v2 ((Below.refl _ _).drew))
  clear v1 v2 v3
  go_region_law (first
    | (go_simp; go_at_call 31; (with_reducible refine (clone_B _ A6 HK (by omega)).mono ?_); rintro e w8 ⟨ra, rc, rfl, q8, b8⟩; have E8 := Lib.hid (rs_end1F R5d.out FR5.out b8 q8); have R8 := Lib.hid (R5d.out.step b8); have P8 := pair_at R8.out.d; have p8 := heap_lt R8.out.d; have Z8 := pair_at R8.out.z; have z8 := heap_lt R8.out.z; have S8 := (fun i => frozen_of_row w8 (w.heap.size + 1) i _ _ R8.out.z); have Y8 := Lib.hid (two_set (x' := .slice (some ⟨lb, lo, none⟩) (j + 1) c3) (y' := .slice b3 m d3) R8.out.z); clear q8 b8)
    | (go_simp; go_at_call 31; (with_reducible refine (clone_B _ A7 HK (by omega)).mono ?_); rintro e w8 ⟨ra, rc, rfl, q8, b8⟩; have E8 := Lib.hid (And.intro ((T7.out.step b8).atf FR5.out) (And.intro (T7.out.step b8).ate (And.intro (que_at q8) (T7.out.step b8).b))); have Y8 := Lib.hid (heap_step D7.out b8); clear q8 b8)
    | fail)
  all_goals go_wp2_with fail
  all_goals refine bodyPost_ret (results_row_tmp2 rfl _ _ (w.heap.size + 1) 25 #[.slice (some ⟨lb, lo, none⟩) (j + 1) c3, .slice b3 m d3] (0, 0) _ rfl Y8.out Tryd.underlying25 rfl size_tty) rfl ?_
  all_goals exact ⟨_, _, _, _, _, _, rfl, E8.out.1, E8.out.2.1, E8.out.2.2.1, E8.out.2.2.2⟩
set_option maxHeartbeats 4000000 in
set_option maxRecDepth 100000 in
theorem read_wholeF {la ea : Option Addr} {j lc m ec : Nat} {l : List UInt8} {r : List (List UInt8)} {edit : List UInt8} (w : World) (HL : Hid (LnsAt w la lc (l :: r))) (hn : Hid ((l :: r).length = j + 1)) (HE : Hid (shB.At w ea ec edit)) (hm : Hid (edit.length = m)) (hr : Hid (rgtQ (l :: r) (j + 1) m = true)) (hn4 : j + 1 ≤ 400) (hm6 : m ≤ 64) (y : Nat) (hy : l.length = y) (hy65 : y ≤ 65) (most : Int) (h1 : ¬ most < 1) (hym : (y : Int) ≤ most) :
    Calls Tryd.prog 11 #[.agg #[.slice la (j + 1) lc, .slice ea m ec], .int .i64 most] w (ReadFr w j m y ⟨r, edit⟩ (l.take y) 0) := by
  have hk0 : decide (most < 1) = false := decide_eq_false h1
  have hmin : min most (y : Int) = (y : Int) := by omega
  have hx := Lib.hid (bx_new w (.slice la (j + 1) lc) (.slice ea m ec))
  have h65 := Lib.hid (rgtQ_parts hr.out).2.2
  have hn0 : (((j + 1 : Nat) : Int) == 0) = false := by simp; omega
  go_enter Tryd.func11, Tryd.ntmps11
  go_upto_region 1 with fail
  generalize (w.alloc (.cells #[.slice la (j + 1) lc, .slice ea m ec] 25)).alloc (.cells #[.slice none 0 0, .slice none 0 0] 25) = X at hx ⊢
  have G0 := pair_at hx.out.d
  have l0 := heap_lt hx.out.d
  have HLX := Lib.hid (HL.out.step hx.out.b)
  go_upto_region 8 with (first
    | (go_at_call 13; (with_reducible refine (right_W _ HLX hn true hr).mono ?_); rintro e w1 ⟨rfl, hb⟩; have X1 := Lib.hid (hx.out.step hb); have G1 := pair_at X1.out.d; have l1 := heap_lt X1.out.d; have HL2 := Lib.hid (HL.out.step X1.out.b); have HE2 := Lib.hid (HE.out.step X1.out.b); clear hb)
    | (go_at_call 28; (with_reducible refine (copied_F _ HL2 hn HE2 hm hn4 hm6 h65).mono ?_); rintro e w3 ⟨hs3, a3, c3, b3, d3, rfl, t3, f3⟩; have FR3 := Lib.hid (f3.from X1.out.b.size); have T3 := Lib.hid (t3.from X1.out.b); have X3 := Lib.hid (X1.out.step t3.b); have G3 := pair_at X3.out.d; have F3 := (fun i => frozen_of_row w3 w.heap.size i _ _ X3.out.d); have l3 := heap_lt X3.out.d; clear t3 f3)
    | fail)
  obtain ⟨fa, fc, hr3, rfl, hfc⟩ := first_hd T3.out
  have HF2 := Lib.hid hy
  rw [hy] at hfc T3 FR3
  have R4 := Lib.hid (rs_begin T3.out X3.out.d X3.out.z)
  generalize (w3.setCell ⟨w.heap.size, 0, none⟩ (.slice a3 (j + 1) c3)).setCell ⟨w.heap.size, 1, none⟩ (.slice b3 m d3) = w4 at R4 ⊢
  clear T3 X3 G3 F3 l3 X1 G1 l1 HL2 HE2 HLX G0 l0 hx
  obtain ⟨lb, lo, rfl, hlb, hlc⟩ := at_hd (k := 0) (que_at R4.out.t.l) rfl
  rw [Nat.add_zero] at hlc
  have G4 := pair_at R4.out.d
  have l4 := heap_lt R4.out.d
  have hlo : shL.size = 1 := rfl
  obtain ⟨_, _, hv, hjc, _⟩ := R4.out.t.shapeL
  simp only [Value.slice.injEq, true_and] at hv
  obtain ⟨rfl, rfl⟩ := hv
  have HQ := Lib.hid R4.out.t.l
  have F4 := fun i => frozen_of_row w4 w.heap.size i _ _ R4.out.d
  have hyc : y ≤ fc := hfc
  have h0 : ¬ ((y : Int) < 0) := by omega
  by_cases hc1 : c3 = 1
  · subst hc1
    obtain rfl : j = 0 := by omega
    obtain rfl : hr3 = [] := by
      have := que_len HQ.out
      cases hr3 with
      | nil => rfl
      | cons x q => simp at this
    go_upto_region 13 with fail
    have FR5 := Lib.hid FR3.out.tail
    have R5 := Lib.hid (R4.out.whole (que_end HQ.out))
    generalize w4.setCell ⟨w.heap.size, 0, none⟩ (.slice (some ⟨lb, lo, none⟩) 0 0) = w5 at R5 ⊢
    clear R4 G4 l4 F4 hlc HQ
    have P6 := pair_at R5.out.d
    have p6 := heap_lt R5.out.d
    have Z6 := pair_at R5.out.z
    have z6 := heap_lt R5.out.z
    have S6 := fun i => frozen_of_row w5 (w.heap.size + 1) i _ _ R5.out.z
    have A6 : Hid (shB.At w5.drew fa fc (l.take y)) := Lib.hid ((R5.out.first.take y).step ((Below.refl _ _).drew))
    obtain ⟨v1, v2, v3⟩ := R5.out.res
    have A7 := Lib.hid ((v3.take y).step ((Below.refl _ _).drew))
    have HK : Hid ((l.take y).length = y) := Lib.hid (by rw [List.length_take, HF2.out]; omega)
    have R5d := Lib.hid (R5.out.step ((Below.refl _ _).drew))
    have T7 := Lib.hid (v1.step ((Below.refl _ _).drew))
    have D7 := Lib.hid (heap_step v2 ((Below.refl _ _).drew))
    clear v1 v2 v3
    go_region_law (first
      | (go_simp; go_at_call 31; (with_reducible refine (clone_B _ A6 HK (by omega)).mono ?_); rintro e w8 ⟨ra, rc, rfl, q8, b8⟩; have E8 := Lib.hid (rs_end1F R5d.out FR5.out b8 q8); have R8 := Lib.hid (R5d.out.step b8); have P8 := pair_at R8.out.d; have p8 := heap_lt R8.out.d; have Z8 := pair_at R8.out.z; have z8 := heap_lt R8.out.z; have S8 := (fun i => frozen_of_row w8 (w.heap.size + 1) i _ _ R8.out.z); have Y8 := Lib.hid (two_set (x' := .slice (some ⟨lb, lo, none⟩) 0 (0)) (y' := .slice b3 m d3) R8.out.z); clear q8 b8)
      | (go_simp; go_at_call 31; (with_reducible refine (clone_B _ A7 HK (by omega)).mono ?_); rintro e w8 ⟨ra, rc, rfl, q8, b8⟩; have E8 := Lib.hid (And.intro ((T7.out.step b8).atf FR5.out) (And.intro (T7.out.step b8).ate (And.intro (que_at q8) (T7.out.step b8).b))); have Y8 := Lib.hid (heap_step D7.out b8); clear q8 b8)
      | fail)
    all_goals go_wp2_with fail
    all_goals refine bodyPost_ret (results_row_tmp2 rfl _ _ (w.heap.size + 1) 25 #[.slice (some ⟨lb, lo, none⟩) 0 (0), .slice b3 m d3] (0, 0) _ rfl Y8.out Tryd.underlying25 rfl size_tty) rfl ?_
    all_goals exact ⟨_, _, _, _, _, _, rfl, E8.out.1, E8.out.2.1, E8.out.2.2.1, E8.out.2.2.2⟩
  · have hc2 : decide (1 = c3) = false := decide_eq_false (fun e => hc1 e.symm)
    have hc3 : 1 ≤ j + 1 := by omega
    go_upto_region 13 with fail
    have hq := que_drop HQ.out 1 hc3
    rw [hlo, Nat.mul_one, Nat.add_sub_cancel] at hq
    have FR5 := Lib.hid FR3.out.tail
    have R5 := Lib.hid (R4.out.whole (hr := hr3) hq)
    clear hq
    generalize w4.setCell ⟨w.heap.size, 0, none⟩ (.slice (some ⟨lb, lo + 1, none⟩) j (c3 - 1)) = w5 at R5 ⊢
    clear R4 G4 l4 F4 hlc HQ
    have P6 := pair_at R5.out.d
    have p6 := heap_lt R5.out.d
    have Z6 := pair_at R5.out.z
    have z6 := heap_lt R5.out.z
    have S6 := fun i => frozen_of_row w5 (w.heap.size + 1) i _ _ R5.out.z
    have A6 : Hid (shB.At w5.drew fa fc (l.take y)) := Lib.hid ((R5.out.first.take y).step ((Below.refl _ _).drew))
    obtain ⟨v1, v2, v3⟩ := R5.out.res
    have A7 := Lib.hid ((v3.take y).step ((Below.refl _ _).drew))
    have HK : Hid ((l.take y).length = y) := Lib.hid (by rw [List.length_take, HF2.out]; omega)
    have R5d := Lib.hid (R5.out.step ((Below.refl _ _).drew))
    have T7 := Lib.hid (v1.step ((Below.refl _ _).drew))
    have D7 := Lib.hid (heap_step v2 ((Below.refl _ _).drew))
    clear v1 v2 v3
    go_region_law (first
      | (go_simp; go_at_call 31; (with_reducible refine (clone_B _ A6 HK (by omega)).mono ?_); rintro e w8 ⟨ra, rc, rfl, q8, b8⟩; have E8 := Lib.hid (rs_end1F R5d.out FR5.out b8 q8); have R8 := Lib.hid (R5d.out.step b8); have P8 := pair_at R8.out.d; have p8 := heap_lt R8.out.d; have Z8 := pair_at R8.out.z; have z8 := heap_lt R8.out.z; have S8 := (fun i => frozen_of_row w8 (w.heap.size + 1) i _ _ R8.out.z); have Y8 := Lib.hid (two_set (x' := .slice (some ⟨lb, lo + 1, none⟩) j (c3 - 1)) (y' := .slice b3 m d3) R8.out.z); clear q8 b8)
      | (go_simp; go_at_call 31; (with_reducible refine (clone_B _ A7 HK (by omega)).mono ?_); rintro e w8 ⟨ra, rc, rfl, q8, b8⟩; have E8 := Lib.hid (And.intro ((T7.out.step b8).atf FR5.out) (And.intro (T7.out.step b8).ate (And.intro (que_at q8) (T7.out.step b8).b))); have Y8 := Lib.hid (heap_step D7.out b8); clear q8 b8)
      | fail)
    all_goals go_wp2_with fail
    all_goals refine bodyPost_ret (results_row_tmp2 rfl _ _ (w.heap.size + 1) 25 #[.slice (some ⟨lb, lo + 1, none⟩) j (c3 - 1), .slice b3 m d3] (0, 0) _ rfl Y8.out Tryd.underlying25 rfl size_tty) rfl ?_
    all_goals exact ⟨_, _, _, _, _, _, rfl, E8.out.1, E8.out.2.1, E8.out.2.2.1, E8.out.2.2.2⟩
/-- Read, where there is something. -/
theorem read_F {la ea : Option Addr} {n lc m ec : Nat} {s : StQ} (w : World) (HL : Hid (LnsAt w la lc s.lines)) (hn : Hid (s.lines.length = n)) (HE : Hid (shB.At w ea ec s.edit)) (hm : Hid (s.edit.length = m)) (most : Int) (hr : rgtQ s.lines n m = true) (hm1 : ¬ most < 1) (hne : ¬ s.lines = []) :
    Calls Tryd.prog 11 #[.agg #[.slice la n lc, .slice ea m ec], .int .i64 most] w (ReadFr w (restQ s most.toNat).lines.length m (gotQ s most.toNat).length (restQ s most.toNat) (gotQ s most.toNat) 0) := by
  obtain ⟨h1, h2, h3⟩ := rgtQ_parts hr
  obtain ⟨ls, ed⟩ := s
  simp only at HL hn HE hm hr h3 hne ⊢
  cases ls with
  | nil => exact absurd rfl hne
  | cons l r =>
    have hy65 := h3 l List.mem_cons_self
    obtain ⟨j, rfl⟩ : ∃ j, n = j + 1 := ⟨r.length, hn.out.symm⟩
    have hj : r.length = j := by have := hn.out; simp at this; exact this
    simp only [restQ, gotQ, List.head?_cons, Option.getD_some]
    by_cases hlt : most.toNat < l.length
    · rw [if_pos hlt]
      have e1 : most = ((most.toNat : Nat) : Int) := by omega
      have e2 : (l.take most.toNat).length = most.toNat := by rw [List.length_take]; omega
      have e3 : (l.drop most.toNat :: r).length = j + 1 := by rw [List.length_cons, hj]
      rw [e2, e3]
      have := read_partF w HL hn HE hm (Lib.hid hr) h2 h1 l.length rfl hy65 most.toNat (by omega) hlt
      rw [← e1] at this
      exact this
    · rw [if_neg hlt]
      have e2 : l.take most.toNat = l.take l.length := by rw [List.take_of_length_le (by omega), List.take_length]
      have e3 : (l.take l.length).length = l.length := by rw [List.take_length]
      rw [e2, e3, hj]
      exact read_wholeF w HL hn HE hm (Lib.hid hr) h2 h1 l.length rfl hy65 most hm1 (by omega)
end Go.Proofs.YtomgifdnnfbpnaaDoor
