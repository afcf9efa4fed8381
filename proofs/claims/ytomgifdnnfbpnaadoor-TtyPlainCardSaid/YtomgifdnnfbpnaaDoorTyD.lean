/- Package tty: the walk of process. -/
import Derived.Test.YtomgifdnnfbpnaaDoorTyC
import Derived.Deep.RegionHeld3
import Derived.Deep.RegionLaw
namespace Go.Proofs.YtomgifdnnfbpnaaDoor
open Go.RowKit

/-- The boxes of process: the terminal, the result. -/
structure Bx (w X : World) (lv ev : Value) : Prop where
  b : Below w.heap.size w X
  d : X.heap[w.heap.size]? = some (.cells #[lv, ev] tT (0, 0))
  z : X.heap[w.heap.size + 1]? = some (.cells #[.slice none 0 0, .slice none 0 0] tT (0, 0))
section
variable {w X Y : World} {lv ev : Value}
theorem bx_new (w : World) (lv ev : Value) : Bx w ((w.alloc (.cells #[lv, ev] tT)).alloc (.cells #[.slice none 0 0, .slice none 0 0] tT)) lv ev :=
  ⟨below_two w _ _, heap_step (heap_alloc_new w _) (below_alloc _ _), heap_alloc2_new w _ _⟩
theorem Bx.step (h : Bx w X lv ev) (hb : Below X.heap.size X Y) : Bx w Y lv ev := ⟨pstep h.b hb, heap_step h.d hb, heap_step h.z hb⟩
end
/-- How process ends: the terminal that lies in the box is the result. -/
structure Fin (w0 w X : World) (hs : List Hd) (lv ev lv' ev' : Value) (n' m' : Nat) (lines' : List (List UInt8)) (edit' : List UInt8) : Prop where
  t : TtyQ w0 X hs lv' ev' n' m' lines' edit'
  k : Kp w X lv.ownBlock ev.ownBlock
  f : Fr w lv lv'
  g : Fr w ev ev'
  d : X.heap[w.heap.size]? = some (.cells #[lv', ev'] tT (0, 0))
  z : X.heap[w.heap.size + 1]? = some (.cells #[.slice none 0 0, .slice none 0 0] tT (0, 0))
theorem Fin.out {w0 w X : World} {hs : List Hd} {lv ev : Value} {la ea : Option Addr} {n' lc m' ec : Nat} {lines' : List (List UInt8)} {edit' : List UInt8} (h : Fin w0 w X hs lv ev (.slice la n' lc) (.slice ea m' ec) n' m' lines' edit') (hw : w0.heap.size ≤ w.heap.size) :
    TtyOut w0 w lv ev n' m' lines' edit' (.returned (.agg #[.slice la n' lc, .slice ea m' ec])) ((X.setCell ⟨w.heap.size + 1, 0, none⟩ (.slice la n' lc)).setCell ⟨w.heap.size + 1, 1, none⟩ (.slice ea m' ec)) :=
  ⟨hs, la, lc, ea, ec, rfl, h.t.two h.z (by omega) _, h.k.two (by omega) _ _, h.f, h.g⟩
theorem setE_other (X : World) (B : Nat) (u : Value) : (X.setCell ⟨B, 1, none⟩ u).heap[B + 1]? = X.heap[B + 1]? := Below.heap_setCell X ⟨B, 1, none⟩ u (B + 1) (by simp)
/-- The line that is being written is cut, or none: stored into the box. -/
theorem fin_cut {w0 w X : World} {hs : List Hd} {la ea : Option Addr} {n lc m ec : Nat} {lines : List (List UInt8)} {edit : List UInt8} (H : TtyQ w0 w hs (.slice la n lc) (.slice ea m ec) n m lines edit) (hx : Bx w X (.slice la n lc) (.slice ea m ec)) {k : Nat} (hk : k ≤ m) :
    Fin w0 w (X.setCell ⟨w.heap.size, 1, none⟩ (.slice ea k ec)) hs (.slice la n lc) (.slice ea m ec) (.slice la n lc) (.slice ea k ec) n k lines (edit.take k) :=
  ⟨((H.step hx.b).cutE hk).set0 hx.d H.b.size 1 _, (kp_below hx.b _ _).set (Nat.le_refl _) _, fr_refl _ _, fr_cut _ _ _ _ _ _, two_set1 hx.d, (setE_other _ _ _).trans hx.z⟩
theorem fin_no {w0 w X : World} {hs : List Hd} {la ea : Option Addr} {n lc m ec : Nat} {lines : List (List UInt8)} {edit : List UInt8} (H : TtyQ w0 w hs (.slice la n lc) (.slice ea m ec) n m lines edit) (hx : Bx w X (.slice la n lc) (.slice ea m ec)) :
    Fin w0 w (X.setCell ⟨w.heap.size, 1, none⟩ (.slice none 0 0)) hs (.slice la n lc) (.slice ea m ec) (.slice la n lc) (.slice none 0 0) n 0 lines [] :=
  ⟨((H.step hx.b).noE).set0 hx.d H.b.size 1 _, (kp_below hx.b _ _).set (Nat.le_refl _) _, fr_refl _ _, fr_nil _ _, two_set1 hx.d, (setE_other _ _ _).trans hx.z⟩
set_option maxHeartbeats 1000000 in
set_option maxRecDepth 100000 in
theorem proc_erase {w0 w : World} {hs : List Hd} {la ea : Option Addr} {n lc m ec : Nat} {lines : List (List UInt8)} {edit : List UInt8} (H : Hid (TtyQ w0 w hs (.slice la n lc) (.slice ea m ec) n m lines edit)) (hm : m ≤ 64) (k : Nat) (hk : m - 1 = k) :
    Calls Tryd.prog 27 #[.agg #[.slice la n lc, .slice ea m ec], .int .u8 8] w (TtyOut w0 w (.slice la n lc) (.slice ea m ec) n k lines (edit.take k)) := by
  have hx := Lib.hid (bx_new w (.slice la n lc) (.slice ea m ec))
  have hkm : k ≤ m := by omega
  obtain ⟨_, _, hv, hmc, _⟩ := H.out.shapeE
  simp only [Value.slice.injEq, true_and] at hv
  obtain ⟨rfl, rfl⟩ := hv
  have hkc : k ≤ ec := by omega
  have w1 : IntKind.i64.wrap ((m : Int) - 1) = (m : Int) - 1 := by rw [IntKind.wrap_i64]; omega
  have mx : max (0 : Int) ((m : Int) - 1) = (k : Int) := by omega
  have h0 : ¬ ((k : Int) < 0) := by omega
  go_enter Tryd.func27, Tryd.ntmps27
  go_upto_region 1 with fail
  generalize (w.alloc (.cells #[.slice la n lc, .slice ea m ec] 25)).alloc (.cells #[.slice none 0 0, .slice none 0 0] 25) = X at hx ⊢
  have G0 := pair_at hx.out.d
  have F0 := fun i => frozen_of_row X w.heap.size i _ _ hx.out.d
  have l0 := heap_lt hx.out.d
  clear hk
  go_upto_region 13 with fail
  have FN := Lib.hid (fin_cut H.out hx.out hkm)
  generalize X.setCell ⟨w.heap.size, 1, none⟩ (.slice ea k ec) = Y at FN ⊢
  clear G0 F0 l0 hx mx w1
  have G1 := pair_at FN.out.d
  have Z1 := pair_at FN.out.z
  have F1 := fun i => frozen_of_row Y (w.heap.size + 1) i _ _ FN.out.z
  have l1 := heap_lt FN.out.d
  have z1 := heap_lt FN.out.z
  go_wp2_with fail
  refine bodyPost_ret (results_row1 rfl _ _ (w.heap.size + 1) 25 #[.slice la n lc, .slice ea k ec] (0, 0) _ rfl (two_set FN.out.z) Tryd.underlying25 rfl size_tty) rfl ?_
  exact FN.out.out H.out.b.size
set_option maxHeartbeats 1000000 in
set_option maxRecDepth 100000 in
theorem proc_kill {w0 w : World} {hs : List Hd} {la ea : Option Addr} {n lc m ec : Nat} {lines : List (List UInt8)} {edit : List UInt8} (H : Hid (TtyQ w0 w hs (.slice la n lc) (.slice ea m ec) n m lines edit)) :
    Calls Tryd.prog 27 #[.agg #[.slice la n lc, .slice ea m ec], .int .u8 21] w (TtyOut w0 w (.slice la n lc) (.slice ea m ec) n 0 lines []) := by
  have hx := Lib.hid (bx_new w (.slice la n lc) (.slice ea m ec))
  go_enter Tryd.func27, Tryd.ntmps27
  go_upto_region 1 with fail
  generalize (w.alloc (.cells #[.slice la n lc, .slice ea m ec] 25)).alloc (.cells #[.slice none 0 0, .slice none 0 0] 25) = X at hx ⊢
  have G0 := pair_at hx.out.d
  have F0 := fun i => frozen_of_row X w.heap.size i _ _ hx.out.d
  have l0 := heap_lt hx.out.d
  go_upto_region 13 with fail
  have FN := Lib.hid (fin_no H.out hx.out)
  generalize X.setCell ⟨w.heap.size, 1, none⟩ (.slice none 0 0) = Y at FN ⊢
  clear G0 F0 l0 hx
  have G1 := pair_at FN.out.d
  have Z1 := pair_at FN.out.z
  have F1 := fun i => frozen_of_row Y (w.heap.size + 1) i _ _ FN.out.z
  have l1 := heap_lt FN.out.d
  have z1 := heap_lt FN.out.z
  go_wp2_with fail
  refine bodyPost_ret (results_row1 rfl _ _ (w.heap.size + 1) 25 #[.slice la n lc, .slice none 0 0] (0, 0) _ rfl (two_set FN.out.z) Tryd.underlying25 rfl size_tty) rfl ?_
  exact FN.out.out H.out.b.size
set_option maxHeartbeats 1000000 in
set_option maxRecDepth 100000 in
theorem proc_word {w0 w : World} {hs : List Hd} {la ea : Option Addr} {n lc m ec : Nat} {lines : List (List UInt8)} {edit : List UInt8} (H : Hid (TtyQ w0 w hs (.slice la n lc) (.slice ea m ec) n m lines edit)) (hm : m ≤ 64) (k : Nat) (hk : Hid (wordL edit = k)) :
    Calls Tryd.prog 27 #[.agg #[.slice la n lc, .slice ea m ec], .int .u8 23] w (TtyOut w0 w (.slice la n lc) (.slice ea m ec) n k lines (edit.take k)) := by
  have hx := Lib.hid (bx_new w (.slice la n lc) (.slice ea m ec))
  have hkm : k ≤ m := by
    have h1 := word_le edit
    rw [hk.out, que_len H.out.e] at h1
    exact h1
  obtain ⟨_, _, hv, hmc, _⟩ := H.out.shapeE
  simp only [Value.slice.injEq, true_and] at hv
  obtain ⟨rfl, rfl⟩ := hv
  have HW := Lib.hid (fun X (h : Hid (shB.At X ea ec edit)) => without_W (ad := ea) (cap := ec) X h (Lib.hid (que_len H.out.e)) hm hmc)
  rw [hk.out] at HW
  go_enter Tryd.func27, Tryd.ntmps27
  go_upto_region 1 with fail
  generalize (w.alloc (.cells #[.slice la n lc, .slice ea m ec] 25)).alloc (.cells #[.slice none 0 0, .slice none 0 0] 25) = X at hx ⊢
  have G0 := pair_at hx.out.d
  have F0 := fun i => frozen_of_row X w.heap.size i _ _ hx.out.d
  have l0 := heap_lt hx.out.d
  go_upto_region 13 with (first
    | (go_at_call 35; (with_reducible refine (HW.out _ (Lib.hid (H.out.step hx.out.b).ate)).mono ?_); rintro e w5 ⟨rfl, rfl⟩)
    | fail)
  have FN := Lib.hid (fin_cut H.out hx.out hkm)
  generalize w5.setCell ⟨w.heap.size, 1, none⟩ (.slice ea k ec) = Y at FN ⊢
  clear G0 F0 l0 hx
  have G1 := pair_at FN.out.d
  have Z1 := pair_at FN.out.z
  have F1 := fun i => frozen_of_row Y (w.heap.size + 1) i _ _ FN.out.z
  have l1 := heap_lt FN.out.d
  have z1 := heap_lt FN.out.z
  go_wp2_with fail
  refine bodyPost_ret (results_row1 rfl _ _ (w.heap.size + 1) 25 #[.slice la n lc, .slice ea k ec] (0, 0) _ rfl (two_set FN.out.z) Tryd.underlying25 rfl size_tty) rfl ?_
  exact FN.out.out H.out.b.size
/-- What complete gives back is stored into the box. -/
theorem fin_done {w0 w X Y : World} {hs hs' : List Hd} {lv ev ev1 lv' ev' : Value} {n m1 n' m' : Nat} {lines lines' : List (List UInt8)} {edit1 edit' : List UInt8} {xa ya : Option Addr} {xn xc yn yc : Nat} (HX : TtyQ w0 X hs lv ev1 n m1 lines edit1) (hw : w0.heap.size ≤ w.heap.size) (hK : Kp w X lv.ownBlock ev.ownBlock) (hF : Fr w ev ev1)
    (hd : X.heap[w.heap.size]? = some (.cells #[.slice xa xn xc, .slice ya yn yc] tT (0, 0))) (hz : X.heap[w.heap.size + 1]? = some (.cells #[.slice none 0 0, .slice none 0 0] tT (0, 0)))
    (T : TtyQ w0 Y hs' lv' ev' n' m' lines' edit') (K : Kp X Y lv.ownBlock ev1.ownBlock) (F1 : Fr X lv lv') (F2 : Fr X ev1 ev') {a2 : Option Addr} {n2 c2 : Nat} (e2 : lv' = .slice a2 n2 c2) :
    Fin w0 w ((Y.setCell ⟨w.heap.size, 0, none⟩ lv').setCell ⟨w.heap.size, 1, none⟩ ev') hs' lv ev lv' ev' n' m' lines' edit' := by
  subst e2
  have hdY := (K.blk _ (heap_lt hd) (que_apart HX.l _ _ _ hd (by decide)) (que_apart HX.e _ _ _ hd (by decide))).trans hd
  have hzY := (K.blk _ (heap_lt hz) (que_apart HX.l _ _ _ hz (by decide)) (que_apart HX.e _ _ _ hz (by decide))).trans hz
  exact ⟨T.two hdY hw _, (hK.fresh K hF).two (Nat.le_refl _) _ _, fr_le F1 hK.sz, fun g hg => by
    rcases F2 g hg with e | e
    · exact hF g e
    · exact Or.inr (Nat.le_trans hK.sz e), two_set hdY, (two_other Y _ _ (by omega)).trans hzY⟩
theorem kept_box {w0 X Y : World} {hs : List Hd} {lv ev1 : Value} {n m1 : Nat} {lines : List (List UInt8)} {edit1 : List UInt8} {B : Nat} {x y : Value} (HX : TtyQ w0 X hs lv ev1 n m1 lines edit1) (hd : X.heap[B]? = some (.cells #[x, y] tT (0, 0))) (K : Kp X Y lv.ownBlock ev1.ownBlock) : Y.heap[B]? = some (.cells #[x, y] tT (0, 0)) :=
  (K.blk _ (heap_lt hd) (que_apart HX.l _ _ _ hd (by decide)) (que_apart HX.e _ _ _ hd (by decide))).trans hd
set_option maxHeartbeats 1000000 in
set_option maxRecDepth 100000 in
theorem proc_end {w0 w : World} {hs : List Hd} {la ea : Option Addr} {n lc m ec : Nat} {lines : List (List UInt8)} {edit : List UInt8} (H : Hid (TtyQ w0 w hs (.slice la n lc) (.slice ea m ec) n m lines edit)) (hn : n ≤ 400) :
    Calls Tryd.prog 27 #[.agg #[.slice la n lc, .slice ea m ec], .int .u8 4] w (TtyOut w0 w (.slice la n lc) (.slice ea m ec) (n + 1) 0 (lines ++ [edit]) []) := by
  have hx := Lib.hid (bx_new w (.slice la n lc) (.slice ea m ec))
  go_enter Tryd.func27, Tryd.ntmps27
  go_upto_region 1 with fail
  generalize (w.alloc (.cells #[.slice la n lc, .slice ea m ec] 25)).alloc (.cells #[.slice none 0 0, .slice none 0 0] 25) = X at hx ⊢
  have G0 := pair_at hx.out.d
  have F0 := fun i => frozen_of_row X w.heap.size i _ _ hx.out.d
  have l0 := heap_lt hx.out.d
  have HC := Lib.hid (complete_W (xa := ea) (xm := m) (xc := ec) (Lib.hid (H.out.step hx.out.b)) hn)
  have HX := Lib.hid (H.out.step hx.out.b)
  go_upto_region 13 with (first
    | (go_at_call 36; (with_reducible refine HC.out.mono ?_); rintro e w5 ⟨hs5, a5, c5, b5, d5, rfl, t5, k5, f5, g5⟩; have FN := Lib.hid (fin_done HX.out H.out.b.size (kp_below hx.out.b _ _) (fr_refl _ _) hx.out.d hx.out.z t5 k5 f5 g5 rfl); have D5 := Lib.hid (kept_box HX.out hx.out.d k5); have G5 := pair_at D5.out; have F5 := (fun i => frozen_of_row w5 w.heap.size i _ _ D5.out); have l5 := heap_lt D5.out; clear t5 k5 f5 g5)
    | fail)
  generalize (w5.setCell ⟨w.heap.size, 0, none⟩ (.slice a5 (n + 1) c5)).setCell ⟨w.heap.size, 1, none⟩ (.slice b5 0 d5) = Y at FN ⊢
  clear G5 F5 l5 D5 HC HX
  clear G0 F0 l0 hx
  have G1 := pair_at FN.out.d
  have Z1 := pair_at FN.out.z
  have F1 := fun i => frozen_of_row Y (w.heap.size + 1) i _ _ FN.out.z
  have l1 := heap_lt FN.out.d
  have z1 := heap_lt FN.out.z
  go_wp2_with fail
  refine bodyPost_ret (results_row1 rfl _ _ (w.heap.size + 1) 25 #[.slice a5 (n + 1) c5, .slice b5 0 d5] (0, 0) _ rfl (two_set FN.out.z) Tryd.underlying25 rfl size_tty) rfl ?_
  exact FN.out.out H.out.b.size
set_option maxHeartbeats 1000000 in
set_option maxRecDepth 100000 in
theorem proc_plain {w0 w : World} {hs : List Hd} {la ea : Option Addr} {n lc m ec : Nat} {lines : List (List UInt8)} {edit : List UInt8} (H : Hid (TtyQ w0 w hs (.slice la n lc) (.slice ea m ec) n m lines edit)) (hm : m ≤ 64) (b : UInt8) (hp : plainQ b) :
    Calls Tryd.prog 27 #[.agg #[.slice la n lc, .slice ea m ec], .int .u8 (ub b)] w (TtyOut w0 w (.slice la n lc) (.slice ea m ec) n (m + 1) lines (edit ++ [b])) := by
  have hx := Lib.hid (bx_new w (.slice la n lc) (.slice ea m ec))
  obtain ⟨q1, q2, q3, q4, q5⟩ := plain_ne hp
  obtain ⟨i0, hi, hz0, hz1, hz2⟩ := info_parts' info_byte
  go_enter Tryd.func27, Tryd.ntmps27
  go_upto_region 1 with fail
  generalize (w.alloc (.cells #[.slice la n lc, .slice ea m ec] 25)).alloc (.cells #[.slice none 0 0, .slice none 0 0] 25) = X at hx ⊢
  have G0 := pair_at hx.out.d
  have F0 := fun i => frozen_of_row X w.heap.size i _ _ hx.out.d
  have l0 := heap_lt hx.out.d
  have HX := Lib.hid ((H.out.step hx.out.b).step (below_alloc X (.cells #[.int .u8 (ub b)] 5)))
  have X2 := Lib.hid (hx.out.step (below_alloc X (.cells #[.int .u8 (ub b)] 5)))
  have L2 := Lib.hid (byte_lit X b 1)
  have hs0 := HX.out.b.size
  clear hp
  go_upto_region 13 with (first
    | (at_builtin; refine wpList_append_que shB rfl _ _ 23 rfl w0.heap.size 5 i0 _ 1 Tryd.underlying23 hi hz0 hz1 hz2 rfl (.slice ea m ec) m edit [b] rfl HX.out.e (some ⟨X.heap.size, 0, none⟩) 1 1 rfl (Lib.hid rfl) L2.out (by unfold maxLen; omega) (by omega) hs0 ?_; intro ra rc w4 own4 grow4 new4; have hf4 : Fr (X.alloc (.cells #[.int .u8 (ub b)] 5)) (.slice ea m ec) (.slice ra (m + 1) rc) := (fun g hg => (new4 g hg).imp id (fun e => by rw [e]; exact Nat.le_refl _)); have T4 := Lib.hid (HX.out.putE own4 grow4 hf4); have K4 := Lib.hid ((kp_below X2.out.b (Value.slice la n lc).ownBlock (Value.slice ea m ec).ownBlock).trans (kp_right grow4 _)); have F4 := Lib.hid (fr_le hf4 X2.out.b.size); have d4 := Lib.hid ((grow4.block _ (heap_lt X2.out.d) (fun e => que_apart HX.out.e _ _ _ X2.out.d (by decide) e.symm)).trans X2.out.d); have z4 := Lib.hid ((grow4.block _ (heap_lt X2.out.z) (fun e => que_apart HX.out.e _ _ _ X2.out.z (by decide) e.symm)).trans X2.out.z); have G4 := pair_at d4.out; have R4 := (fun i => frozen_of_row w4 w.heap.size i _ _ d4.out); have l4 := heap_lt d4.out; clear own4 grow4 new4 hf4)
    | fail)
  have FN : Hid (Fin w0 w (w4.setCell ⟨w.heap.size, 1, none⟩ (.slice ra (m + 1) rc)) hs (.slice la n lc) (.slice ea m ec) (.slice la n lc) (.slice ra (m + 1) rc) n (m + 1) lines (edit ++ [b])) := Lib.hid ⟨T4.out.set0 d4.out H.out.b.size 1 _, K4.out.set (Nat.le_refl _) _, fr_refl _ _, F4.out, two_set1 d4.out, (setE_other _ _ _).trans z4.out⟩
  generalize w4.setCell ⟨w.heap.size, 1, none⟩ (.slice ra (m + 1) rc) = Y at FN ⊢
  clear T4 K4 F4 d4 z4 G4 R4 l4 HX X2 L2
  clear G0 F0 l0 hx
  have G1 := pair_at FN.out.d
  have Z1 := pair_at FN.out.z
  have F1 := fun i => frozen_of_row Y (w.heap.size + 1) i _ _ FN.out.z
  have l1 := heap_lt FN.out.d
  have z1 := heap_lt FN.out.z
  go_wp2_with fail
  refine bodyPost_ret (results_row1 rfl _ _ (w.heap.size + 1) 25 #[.slice la n lc, .slice ra (m + 1) rc] (0, 0) _ rfl (two_set FN.out.z) Tryd.underlying25 rfl size_tty) rfl ?_
  exact FN.out.out H.out.b.size
/-- The terminal and its boxes, while a statement is on its way. -/
structure P10 (w0 w : World) (hs : List Hd) (la ea : Option Addr) (n lc m ec : Nat) (lines : List (List UInt8)) (edit : List UInt8) (W : World) : Prop where
  t : TtyQ w0 W hs (.slice la n lc) (.slice ea m ec) n m lines edit
  x : Bx w W (.slice la n lc) (.slice ea m ec)
section
variable {w0 w W W' : World} {hs : List Hd} {la ea : Option Addr} {n lc m ec : Nat} {lines : List (List UInt8)} {edit : List UInt8}
theorem P10.step (h : P10 w0 w hs la ea n lc m ec lines edit W) (hb : Below W.heap.size W W') : P10 w0 w hs la ea n lc m ec lines edit W' := ⟨h.t.step hb, h.x.step hb⟩
theorem P10.all (h : P10 w0 w hs la ea n lc m ec lines edit W) : P10 w0 w hs la ea n lc m ec lines edit W ∧ W.cell? ⟨w.heap.size, 0, none⟩ = some (.slice la n lc) ∧ W.cell? ⟨w.heap.size, 1, none⟩ = some (.slice ea m ec) := ⟨h, pair_at h.x.d⟩
theorem P10.alloc (h : P10 w0 w hs la ea n lc m ec lines edit W) (A : Obj) : P10 w0 w hs la ea n lc m ec lines edit (W.alloc A) := h.step (below_alloc W A)
theorem P10.drew (h : P10 w0 w hs la ea n lc m ec lines edit W) : P10 w0 w hs la ea n lc m ec lines edit W.drew := h.step ((Below.refl _ _).drew)
/-- One byte more is being written. -/
theorem P10.put {b : UInt8} {w4 : World} {ra : Option Addr} {rc : Nat} (h : P10 w0 w hs la ea n lc m ec lines edit W) (own : Que shB w4 w0.heap.size tB (.slice ra (m + 1) rc) (m + 1) (edit ++ [b])) (grow : W.grownBy w4 (Value.slice ea m ec).ownBlock) (new : ∀ g, (Value.slice ra (m + 1) rc).ownBlock = some g → (Value.slice ea m ec).ownBlock = some g ∨ g = W.heap.size) :
    TtyQ w0 w4 hs (.slice la n lc) (.slice ra (m + 1) rc) n (m + 1) lines (edit ++ [b]) ∧ Kp w w4 (Value.slice la n lc).ownBlock (Value.slice ea m ec).ownBlock ∧ Fr w (.slice ea m ec) (.slice ra (m + 1) rc) ∧ w4.heap[w.heap.size]? = some (.cells #[.slice la n lc, .slice ea m ec] tT (0, 0)) ∧ w4.heap[w.heap.size + 1]? = some (.cells #[.slice none 0 0, .slice none 0 0] tT (0, 0)) := by
  have hf : Fr W (.slice ea m ec) (.slice ra (m + 1) rc) := fun g hg => (new g hg).imp id (fun e => by rw [e]; exact Nat.le_refl _)
  exact ⟨h.t.putE own grow hf, (kp_below h.x.b _ _).trans (kp_right grow _), fr_le hf h.x.b.size, (grow.block _ (heap_lt h.x.d) (fun e => que_apart h.t.e _ _ _ h.x.d (by decide) e.symm)).trans h.x.d, (grow.block _ (heap_lt h.x.z) (fun e => que_apart h.t.e _ _ _ h.x.z (by decide) e.symm)).trans h.x.z⟩
end
set_option maxHeartbeats 4000000 in
set_option maxRecDepth 100000 in
theorem proc_line {w0 w : World} {hs : List Hd} {la ea : Option Addr} {n lc m ec : Nat} {lines : List (List UInt8)} {edit : List UInt8} (H : Hid (TtyQ w0 w hs (.slice la n lc) (.slice ea m ec) n m lines edit)) (hn : n ≤ 400) (hm : m ≤ 64) :
    Calls Tryd.prog 27 #[.agg #[.slice la n lc, .slice ea m ec], .int .u8 10] w (TtyOut w0 w (.slice la n lc) (.slice ea m ec) (n + 1) 0 (lines ++ [edit ++ [10]]) []) := by
  have hx := Lib.hid (bx_new w (.slice la n lc) (.slice ea m ec))
  obtain ⟨i0, hi, hz0, hz1, hz2⟩ := info_parts' info_byte
  go_enter Tryd.func27, Tryd.ntmps27
  go_upto_region 1 with fail
  generalize (w.alloc (.cells #[.slice la n lc, .slice ea m ec] 25)).alloc (.cells #[.slice none 0 0, .slice none 0 0] 25) = X at hx ⊢
  have PX : P10 w0 w hs la ea n lc m ec lines edit X := ⟨H.out.step hx.out.b, hx.out⟩
  have hw0 : w0.heap.size ≤ w.heap.size := H.out.b.size
  clear H hx
  have l0 := heap_lt PX.x.d
  have G0 := pair_at PX.x.d
  go_upto_region 10 with fail
  have P1 := Lib.hid (PX.alloc (.cells #[.int .u8 10] 5))
  have P1d := Lib.hid ((PX.alloc (.cells #[.int .u8 10] 5)).drew)
  have L1 : Hid (shB.At (X.alloc (.cells #[.int .u8 10] 5)) (some ⟨X.heap.size, 0, none⟩) 1 [10]) := Lib.hid (byte_lit X 10 1)
  have L1d : Hid (shB.At (X.alloc (.cells #[.int .u8 10] 5)).drew (some ⟨X.heap.size, 0, none⟩) 1 [10]) := Lib.hid ((byte_lit X 10 1).step ((Below.refl _ _).drew))
  have PXd := PX.drew
  have s1 := P1.out.t.b.size
  have s1d := P1d.out.t.b.size
  go_region_law
    (first
    | (refine step_append_que shB rfl _ _ 23 rfl w0.heap.size 5 i0 _ 1 Tryd.underlying23 hi hz0 hz1 hz2 rfl (.slice ea m ec) m edit [10] rfl P1d.out.t.e (some ⟨X.heap.size, 0, none⟩) 1 1 rfl (Lib.hid rfl) L1d.out (by unfold maxLen; omega) (by omega) s1d ?_; intro ra rc w4 own4 grow4 new4; obtain ⟨t4, k4, f4, d4, z4⟩ := P1d.out.put own4 grow4 new4; have T4 := Lib.hid t4; have K4 := Lib.hid k4; have F4 := Lib.hid f4; have D4 := Lib.hid d4; have Z4 := Lib.hid z4; have HC := Lib.hid (complete_W (xa := ea) (xm := m) (xc := ec) T4 hn); have G4 := pair_at D4.out; have l4 := heap_lt D4.out; clear own4 grow4 new4 t4 k4 f4 d4 z4)
    | (go_simp; go_at_call 36; (with_reducible refine HC.out.mono ?_); rintro e w5 ⟨hs5, a5, c5, b5, d5, rfl, t5, k5, f5, g5⟩; have FN := Lib.hid (fin_done T4.out hw0 K4.out F4.out D4.out Z4.out t5 k5 f5 g5 rfl); have D5 := Lib.hid (kept_box T4.out D4.out k5); have G5 := pair_at D5.out; have F5 := (fun i => frozen_of_row w5 w.heap.size i _ _ D5.out); have l5 := heap_lt D5.out; clear t5 k5 f5 g5)
    | fail)
  all_goals go_upto_region 13 with fail
  all_goals generalize (w5.setCell ⟨w.heap.size, 0, none⟩ (.slice a5 (n + 1) c5)).setCell ⟨w.heap.size, 1, none⟩ (.slice b5 0 d5) = Y at FN ⊢
  all_goals clear G5 F5 l5 D5 HC G4 l4 D4 Z4 K4 F4 T4 G0 l0 PX PXd P1 P1d L1 L1d
  all_goals have G1 := pair_at FN.out.d
  all_goals have Z1 := pair_at FN.out.z
  all_goals have F1 := fun i => frozen_of_row Y (w.heap.size + 1) i _ _ FN.out.z
  all_goals have l1 := heap_lt FN.out.d
  all_goals have z1 := heap_lt FN.out.z
  all_goals go_wp2_with fail
  all_goals refine bodyPost_ret (results_row1 rfl _ _ (w.heap.size + 1) 25 #[.slice a5 (n + 1) c5, .slice b5 0 d5] (0, 0) _ rfl (two_set FN.out.z) Tryd.underlying25 rfl size_tty) rfl ?_
  all_goals exact FN.out.out hw0
/-- A key, at a terminal of the call's own. -/
theorem process_W {w0 w : World} {hs : List Hd} {la ea : Option Addr} {n lc m ec : Nat} {s : StQ} (H : Hid (TtyQ w0 w hs (.slice la n lc) (.slice ea m ec) n m s.lines s.edit)) (hn : n ≤ 400) (hm : m ≤ 64) (b : UInt8) (n' m' : Nat) (hn' : Hid ((doQ s b).lines.length = n')) (hm' : Hid ((doQ s b).edit.length = m')) :
    Calls Tryd.prog 27 #[.agg #[.slice la n lc, .slice ea m ec], .int .u8 (ub b)] w (TtyOut w0 w (.slice la n lc) (.slice ea m ec) n' m' (doQ s b).lines (doQ s b).edit) := by
  have h1 : s.lines.length = n := H.out.len
  have h2 : s.edit.length = m := que_len H.out.e
  rcases key_cases b with rfl | rfl | rfl | rfl | rfl | hp
  · have e : doQ s 8 = ⟨s.lines, s.edit.take (m - 1)⟩ := by rw [← h2, ← List.dropLast_eq_take]; rfl
    rw [e] at hn' hm' ⊢
    obtain rfl : n = n' := by rw [← hn'.out]; exact h1.symm
    obtain rfl : m - 1 = m' := by rw [← hm'.out]; simp; omega
    exact proc_erase H hm _ rfl
  · have e : doQ s 21 = ⟨s.lines, []⟩ := rfl
    rw [e] at hn' hm' ⊢
    obtain rfl : n = n' := by rw [← hn'.out]; exact h1.symm
    obtain rfl : 0 = m' := hm'.out
    exact proc_kill H
  · have e : doQ s 23 = ⟨s.lines, s.edit.take (wordL s.edit)⟩ := by rw [← word_take]; rfl
    rw [e] at hn' hm' ⊢
    obtain rfl : n = n' := by rw [← hn'.out]; exact h1.symm
    obtain rfl : wordL s.edit = m' := by
      rw [← hm'.out]
      have := word_le s.edit
      simp
      omega
    exact proc_word H hm _ (Lib.hid rfl)
  · have e : doQ s 10 = ⟨s.lines ++ [s.edit ++ [10]], []⟩ := rfl
    rw [e] at hn' hm' ⊢
    obtain rfl : n + 1 = n' := by rw [← hn'.out]; simp [h1]
    obtain rfl : 0 = m' := hm'.out
    exact proc_line H hn hm
  · have e : doQ s 4 = ⟨s.lines ++ [s.edit], []⟩ := rfl
    rw [e] at hn' hm' ⊢
    obtain rfl : n + 1 = n' := by rw [← hn'.out]; simp [h1]
    obtain rfl : 0 = m' := hm'.out
    exact proc_end H hn
  · have e : doQ s b = ⟨s.lines, s.edit ++ [b]⟩ := by
      obtain ⟨h8, h21, h4, h10, h23⟩ := hp
      unfold doQ
      rw [if_neg h10, if_neg h4, if_neg h8, if_neg h21, if_neg h23]
    rw [e] at hn' hm' ⊢
    obtain rfl : n = n' := by rw [← hn'.out]; exact h1.symm
    obtain rfl : m + 1 = m' := by rw [← hm'.out]; simp [h2]
    exact proc_plain H hm b hp
end Go.Proofs.YtomgifdnnfbpnaaDoor
