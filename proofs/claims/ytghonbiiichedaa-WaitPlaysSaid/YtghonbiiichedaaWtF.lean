/- Package wait: the walks of prepare, obtain. -/
import Derived.Test.YtghonbiiichedaaWtE
import Derived.Deep.LoopGhost
namespace Go.Proofs.Ytghonbiiichedaa
open Go.RowKit Go.Maps

theorem errW_step {s : StV} {o : WvT} (h : errV s o = 0) : stepV s o = doV s o := by unfold stepV; rw [if_pos h]
theorem put_out {l : List WtT} {t : Int} (h : stV l t = none) (y : Nat) : putV l t y = l := by
  unfold putV
  conv => rhs; rw [← List.map_id l]
  refine List.map_congr_left fun q hq => ?_
  rw [if_neg (stV_none.1 h q hq)]
  rfl
theorem filter_cutW {l : List WtT} (h : NodW l) {k : Nat} {q : WtT} (hk : l[k]? = some q) : l.take k ++ l.drop (k + 1) = outV l q.1 := by
  unfold outV
  induction l generalizing k with
  | nil => cases hk
  | cons a r ih =>
    unfold NodW at h
    rw [List.pairwise_cons] at h
    cases k with
    | zero =>
      simp only [List.getElem?_cons_zero, Option.some.injEq] at hk
      subst hk
      rw [List.filter_cons_of_neg (by simp), List.take_zero, List.nil_append, List.drop_succ_cons, List.drop_zero]
      exact (List.filter_eq_self.2 fun b hb => by simpa using fun e : b.1 = a.1 => h.1 b hb e.symm).symm
    | succ k =>
      rw [List.getElem?_cons_succ] at hk
      have hm := List.mem_of_getElem? hk
      rw [List.filter_cons_of_pos (by simpa using fun e : a.1 = q.1 => h.1 q hm e), List.take_succ_cons, List.cons_append, List.drop_succ_cons, ih h.2 hk]
theorem ptrs_out {P : Int → Nat} {l : List WtT} (h : NodW l) {k : Nat} {q : WtT} (hk : l[k]? = some q) : (ptrsV P l).take k ++ (ptrsV P l).drop (k + 1) = ptrsV P (outV l q.1) := by
  rw [← filter_cutW h hk]
  simp [ptrsV]
theorem ptr_lit (X : World) (x : Nat) (cap : Nat) : shP.At (X.alloc (.cells #[.pointer (some ⟨x, 0, none⟩)] 50)) (some ⟨X.heap.size, 0, none⟩) cap [x] :=
  Shape.At.lit (S := shP) [x] (heap_alloc_new X _)
theorem int_lit (X : World) (x : Int) (cap : Nat) : shI.At (X.alloc (.cells #[.int .i64 x] 3)) (some ⟨X.heap.size, 0, none⟩) cap [x] :=
  Shape.At.lit (S := shI) [x] (heap_alloc_new X _)
section
variable {w0 w : World} {B m L : Nat} {s : StV}
set_option maxHeartbeats 1000000 in
set_option maxRecDepth 100000 in
/-- Who waits already keeps its place. -/
theorem prepare_old (HS : Hid (QuV w0 w B m L s)) (HG : Hid (GoodV s)) (t : Int) {y : Nat} (ht : 0 ≤ t ∧ t ≤ 63) (hst : stV s.line t = some y) (hy : ¬ y = 1) :
    Calls Try.prog 21 #[.pointer (some ⟨B, 0, none⟩), .int .i64 t] w (StepV w0 w B m L ⟨putV s.line t 0, s.got, s.things⟩) := by
  obtain ⟨P, ov, gv, hM⟩ := HS.out
  have HM := Lib.hid hM
  have hwf := wfI_of ht
  have hmem := (stV_some HG.out.nod).1 hst
  have hBl := hM.lt
  obtain ⟨_, cm, _, _⟩ := hM.cells
  obtain ⟨D, O1, TD⟩ := hM.mp
  have hl := look_ok O1 TD hwf
  have hf : fnV P s.line t = some (P t) := by unfold fnV; rw [if_neg (by rw [hst]; simp)]
  rw [hf] at hl
  obtain ⟨_, e1, _, hpl, fz⟩ := hM.thrAt hmem
  have hth := (hM.thr _ hmem).1
  unfold ThrW at hth
  simp only at e1 hpl fz hth
  obtain ⟨p, hp⟩ : ∃ p, P t = p := ⟨_, rfl⟩
  rw [hp] at hl e1 hpl fz hth
  have hl2 : (Instr.lookup 37 (.map (some m)) (.int .i64 t) true).run Try.prog w = .ok (.tuple #[.pointer (some ⟨p, 0, none⟩), .bool true]) w := hl
  have hyb : (y == 1) = false := by simpa using hy
  rw [hyb] at hth
  have HTH := Lib.hid hth
  have HP := Lib.hid hp
  have HMM := Lib.hid hmem
  clear hM hl hf hst O1 TD D hth hp hmem hy hyb HS
  generalize (y == 2) = u at e1 HTH
  go_enter Try.func21, Try.ntmps21
  go_wp2_with fail
  go_end0
  have hn := heap_setCell_same w p 1 _ _ (.bool false) HTH.out
  have M2 := HM.out.setY (t := t) (y := 0) HMM.out (by rw [HP.out]; exact set_one w p 1 (.bool false)) (by rw [HP.out]; exact hn)
  refine ⟨rfl, ⟨P, ov, gv, ?_⟩, keep_thr HTH.out (set_one w p 1 (.bool false))⟩
  have en := put_names s.line t 0
  simp only
  rw [fn_names en, len_names en, ptrs_names en]
  exact M2
set_option maxHeartbeats 1000000 in
set_option maxRecDepth 100000 in
theorem prepare_new (HS : Hid (QuV w0 w B m L s)) (HG : Hid (GoodV s)) (t : Int) (ht : 0 ≤ t ∧ t ≤ 63) (hst : stV s.line t = none) (hL : L < maxLen) :
    Calls Try.prog 21 #[.pointer (some ⟨B, 0, none⟩), .int .i64 t] w (StepV w0 w B m (L + 1) ⟨s.line ++ [(t, 0)], s.got, s.things⟩) := by
  obtain ⟨i0, hi, hz0, hz1, hz2⟩ := info_parts' info_ptr
  obtain ⟨P, ov, gv, hM⟩ := HS.out
  have hlen := line_len HG.out
  have hwf := wfI_of ht
  have hBl := hM.lt
  obtain ⟨_, cm, _, _⟩ := hM.cells
  obtain ⟨D, O1, TD⟩ := hM.mp
  have hl := look_ok O1 TD hwf
  have hf : fnV P s.line t = none := by unfold fnV; rw [if_pos hst]
  rw [hf] at hl
  have hl2 : (Instr.lookup 37 (.map (some m)) (.int .i64 t) true).run Try.prog w = .ok (.tuple #[.pointer none, .bool false]) w := hl
  have M1 := hM.grow hst
  have HFI : Hid ((fnV P s.line t).isSome = false) := Lib.hid (by rw [hf]; rfl)
  have HN1 := heap_alloc_new w (.cells #[.int .i64 t, .bool false, .bool false] 52)
  have K1 := keep_below (below_alloc w (.cells #[.int .i64 t, .bool false, .bool false] 52))
  have H0 := Lib.hid hM
  clear hl hf O1 TD D hM
  go_enter Try.func21, Try.ntmps21
  go_upto_region 3 with fail
  have HST := Lib.hid hst
  clear hl2 cm hBl hst
  obtain ⟨p, hp⟩ : ∃ p, w.heap.size = p := ⟨_, rfl⟩
  rw [hp] at M1 HN1 ⊢
  generalize w.alloc (.cells #[.int .i64 t, .bool false, .bool false] 52) = w1 at M1 HN1 K1 ⊢
  have HM1 := Lib.hid M1
  have HNN := Lib.hid HN1
  have HK1 := Lib.hid K1
  have HPP := Lib.hid hp
  have cm := M1.cells.2.1
  have hBl := M1.lt
  obtain ⟨D, o1, TD⟩ := M1.mp
  have OO1 := Lib.hid o1
  have HTD := Lib.hid TD
  have WFi : (Lit.int .i64 t).wf = true := hwf
  clear M1 HN1 K1 hp o1 TD
  go_upto_region 4 with (first
    | (at_mapUpdate; refine wpList_mapUpdate_own _ rfl _ _ _ 37 rfl 3 50 lawI Try.underlying37 _ m L D rfl OO1.out hL _ _ (.int .i64 t) rfl rfl (keyOf_int_mk Try.underlying3 WFi) (.lit (.int .i64 (p : Int))) [] (rdP_mk p) ?_; intro w2 hown2 hg2; have K2 := Lib.hid (HK1.out.trans (keep_turn HM1.out.mp hg2)); have M2 := Lib.hid (HM1.out.turn hg2 ⟨_, hown2, HTD.out.put OO1.out.isMap (OO1.out.tidy lawI) HFI.out⟩); have N2 : Hid (w2.heap[p]? = some (.cells #[.int .i64 t, .bool false, .bool false] 52 (0, 0))) := Lib.hid ((hg2.block p (heap_lt HNN.out) (fun e => mapP_ne HM1.out.mp HNN.out (Option.some.inj e))).trans HNN.out); clear hown2 hg2)
    | fail)
  clear cm hBl
  obtain ⟨ad, cap, hov, hA⟩ := M2.out.rows
  obtain ⟨n, hn⟩ : ∃ n, s.line.length = n := ⟨_, rfl⟩
  rw [ptrs_len, hn] at hov
  subst hov
  have c0 := M2.out.cells.1
  have hB2 := M2.out.lt
  have BX := below_alloc w2 (.cells #[.pointer (some ⟨p, 0, none⟩)] 50)
  have M3 := Lib.hid (M2.out.step BX)
  have N3 := Lib.hid (heap_step N2.out BX)
  have K3 := Lib.hid (K2.out.trans (keep_below BX))
  have X3 := Lib.hid (ptr_lit w2 p 1)
  have hO3 := M3.out.ord
  rw [ptrs_len, hn] at hO3
  have O3 := Lib.hid hO3
  have hPL : Hid ((ptrsV P s.line).length = n) := Lib.hid (by rw [ptrs_len, hn])
  have HNL := Lib.hid hn
  have hbs := M3.out.b.size
  rw [hn] at hlen
  clear hA hO3 hn BX
  go_upto_region 5 with (first
    | (at_builtin; refine wpList_append_n shP rfl _ _ 38 rfl w0.heap.size 50 i0 _ 8 Try.underlying38 hi hz0 hz1 hz2 rfl (.slice ad n cap) n (ptrsV P s.line) [p] hPL rfl O3.out (some ⟨w2.heap.size, 0, none⟩) 1 1 rfl (Lib.hid rfl) X3.out (by unfold maxLen; omega) (by omega) hbs ?_; intro ra4 rc4 w4 own4 grow4 _; have O4 : Hid (w4.ownsRow w0.heap.size 50 1 (.slice ra4 (n + 1) rc4) (ptrsV P s.line ++ [p]).length (shP.flat (ptrsV P s.line ++ [p]))) := Lib.hid (by rw [List.length_append, hPL.out]; exact own4); have hp4 := M3.out.putO grow4 O4.out (fun q hq => hq); have M4 := Lib.hid hp4.2; have K4 := Lib.hid ((K3.out.trans (keep_row M3.out.ord (Or.inr rfl) grow4)).trans (keep_set hp4.1 (Or.inr rfl) (i := 0) (u := .slice ra4 (n + 1) rc4))); have N4 : Hid ((w4.setCell ⟨B, 0, none⟩ (.slice ra4 (n + 1) rc4)).heap[p]? = some (.cells #[.int .i64 t, .bool false, .bool false] 52 (0, 0))) := Lib.hid (by have h1 := (grow4.block p (heap_lt N3.out) (fun e => own_ne M3.out.ord N3.out (by decide) p e.symm rfl)).trans N3.out; exact (Below.heap_setCell w4 ⟨B, 0, none⟩ _ p (cells_ne h1 hp4.1 (by decide))).trans h1); have cc4 := four_at hp4.1; have hB4 := heap_lt hp4.1; have fz4 := fun i => frozen_of_row w4 B i _ _ hp4.1; clear own4 grow4 hp4)
    | fail)
  clear c0 hB2 cc4 hB4 fz4
  generalize w4.setCell ⟨B, 0, none⟩ (.slice ra4 (n + 1) rc4) = w5 at M4 K4 N4 ⊢
  obtain ⟨_, d1, _⟩ := trio_at N4.out
  have fz := fun i => frozen_of_row w5 p i _ _ N4.out
  have hpl := heap_lt N4.out
  go_wp2_with fail
  go_end0
  have hPt : upP P t p t = p := upP_same _ _ _
  have hn5 := heap_setCell_same w5 p 1 _ _ (.bool false) N4.out
  have M5 := M4.out.setY (t := t) (x := 0) (y := 0) (by simp) (by rw [hPt]; exact set_one w5 p 1 (.bool false)) (by rw [hPt]; exact hn5)
  have e1 : putV (s.line ++ [(t, 0)]) t 0 = s.line ++ [(t, 0)] := put_last (stV_none.1 HST.out) 0 0
  rw [e1] at M5
  refine ⟨rfl, ⟨upP P t p, .slice ra4 (n + 1) rc4, gv, ?_⟩, K4.out.trans (keep_thr N4.out (set_one w5 p 1 (.bool false)))⟩
  simp only
  have e2 : ptrsV (upP P t p) (s.line ++ [(t, 0)]) = ptrsV P s.line ++ [p] := by
    unfold ptrsV
    rw [List.map_append, List.map_cons, List.map_nil, upP_same]
    congr 1
    refine List.map_congr_left fun q hq => ?_
    exact upP_other (stV_none.1 HST.out q hq)
  rw [fn_add, e2, List.length_append]
  exact M5
end
end Go.Proofs.Ytghonbiiichedaa
