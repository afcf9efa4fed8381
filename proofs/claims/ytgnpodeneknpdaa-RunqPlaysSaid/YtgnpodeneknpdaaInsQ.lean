/- slices.Insert of one at []corebellref.one, into a row of the call's own that may have been cut in front. -/
import Derived.Test.YtgnpodeneknpdaaMpA
namespace Go.Proofs.Ytgnpodeneknpdaa
open Go.RowKit

set_option maxHeartbeats 4000000 in
set_option maxRecDepth 100000 in
theorem insq_end (xs : List EnT) (v0 : EnT) (n c k vb base : Nat) (w : World) (sa : Option Addr) (HV : Hid (w.heap[vb]? = some (.cells #[.int .i64 v0.1, .int .i64 v0.2] 60 (0, 0)))) (H1 : Hid (xs.length = n)) (hn : n ≤ 5864062014634) (hbase : base ≤ w.heap.size) (HO : Hid (Que shQ w base 60 (.slice sa n c) n xs)) (hk : k = n) :
    Calls Try.prog 30 #[.slice sa n c, .int .i64 (k : Int), .slice (some ⟨vb, 0, none⟩) 1 1] w fun e w' => InsQ shQ base 60 w (.slice sa n c) (xs.take k ++ [v0] ++ xs.drop k) (n + 1) e w' := by
  subst hk
  obtain ⟨i0, hi, hz0, hz1, hz2⟩ := info_parts info_one
  have HVS : Hid (w.heap[vb]? = some (.cells (shQ.flat [v0]).toArray 60 (0, 0))) := Lib.hid HV.out
  have HXE : Hid (xs.take k ++ [v0] ++ xs.drop k = xs ++ [v0]) := Lib.hid (by rw [← H1.out, List.take_length, List.drop_length, List.append_nil])
  obtain ⟨ad, cap, hv, hlk, hcm, hzz, hgg⟩ := que_shape HO.out
  simp only [Value.slice.injEq, true_and] at hv
  obtain ⟨rfl, rfl⟩ := hv
  have hcc : c ≤ 9223372036854775807 := by unfold maxLen at hcm; exact hcm
  cases sa with
  | none =>
    obtain ⟨rfl, rfl⟩ := hzz rfl
    obtain rfl : xs = [] := List.eq_nil_of_length_eq_zero H1.out
    go_enter Try.func30, Try.ntmps30
    go_wp2_with (first
      | (at_builtin; refine wpList_append_que shQ rfl _ _ 57 rfl base 60 i0 _ 16 Try.underlying57 hi hz0 hz1 hz2 rfl _ _ _ [v0] rfl HO.out (some ⟨vb, 0, none⟩) 1 1 rfl (Lib.hid rfl) (lit_at HVS.out) (by unfold maxLen; omega) (by omega) hbase ?_; intro ra rc w3 own3 grow3 new3; have O3 := Lib.hid own3; have G3 := Lib.hid grow3; have N3 := Lib.hid new3; clear own3 grow3 new3)
      | fail)
    go_ret
    refine ⟨ra, rc, rfl, ?_, G3.out, fun g hg => (N3.out g hg).imp id (fun e => Nat.le_of_eq e.symm)⟩
    first
      | (rw [HXE.out]; exact O3.out)
      | exact O3.out
  | some a =>
    obtain ⟨g, off, rfl, _, _⟩ := hgg a rfl
    clear hzz hgg
    by_cases hck : c = k
    · subst hck
      go_enter Try.func30, Try.ntmps30
      go_wp2_with (first
        | (at_builtin; refine wpList_append_que shQ rfl _ _ 57 rfl base 60 i0 _ 16 Try.underlying57 hi hz0 hz1 hz2 rfl _ _ _ [v0] rfl HO.out (some ⟨vb, 0, none⟩) 1 1 rfl (Lib.hid rfl) (lit_at HVS.out) (by unfold maxLen; omega) (by omega) hbase ?_; intro ra rc w3 own3 grow3 new3; have O3 := Lib.hid own3; have G3 := Lib.hid grow3; have N3 := Lib.hid new3; clear own3 grow3 new3)
        | fail)
      go_ret
      refine ⟨ra, rc, rfl, ?_, G3.out, fun g hg => (N3.out g hg).imp id (fun e => Nat.le_of_eq e.symm)⟩
      first
        | (rw [HXE.out]; exact O3.out)
        | exact O3.out
    · skip
      go_enter Try.func30, Try.ntmps30
      go_wp2_with (first
        | (at_builtin; refine wpList_append_que shQ rfl _ _ 57 rfl base 60 i0 _ 16 Try.underlying57 hi hz0 hz1 hz2 rfl _ _ _ [v0] rfl HO.out (some ⟨vb, 0, none⟩) 1 1 rfl (Lib.hid rfl) (lit_at HVS.out) (by unfold maxLen; omega) (by omega) hbase ?_; intro ra rc w3 own3 grow3 new3; have O3 := Lib.hid own3; have G3 := Lib.hid grow3; have N3 := Lib.hid new3; clear own3 grow3 new3)
        | fail)
      go_ret
      refine ⟨ra, rc, rfl, ?_, G3.out, fun g hg => (N3.out g hg).imp id (fun e => Nat.le_of_eq e.symm)⟩
      first
        | (rw [HXE.out]; exact O3.out)
        | exact O3.out
set_option maxHeartbeats 4000000 in
set_option maxRecDepth 100000 in
theorem insq_room (xs : List EnT) (v0 : EnT) (n c k vb base : Nat) (w : World) (HV : Hid (w.heap[vb]? = some (.cells #[.int .i64 v0.1, .int .i64 v0.2] 60 (0, 0)))) (H1 : Hid (xs.length = n)) (hn : n ≤ 5864062014634) (_ : base ≤ w.heap.size) (g off : Nat) (HO : Hid (Que shQ w base 60 (.slice (some ⟨g, off, none⟩) n c) n xs)) (hk : k < n) (hroom : n + 1 ≤ c) (hvb : vb ≠ g) :
    Calls Try.prog 30 #[.slice (some ⟨g, off, none⟩) n c, .int .i64 (k : Int), .slice (some ⟨vb, 0, none⟩) 1 1] w fun e w' => InsQ shQ base 60 w (.slice (some ⟨g, off, none⟩) n c) (xs.take k ++ [v0] ++ xs.drop k) (n + 1) e w' := by
  obtain ⟨i0, hi, hz0, hz1, hz2⟩ := info_parts info_one
  have hs2 : shQ.size = 2 := rfl
  obtain ⟨cur, hg, hWg, hnc, hcm, hcs, htk⟩ : ∃ cur : Array Value, w.heap[g]? = some (.cells cur 60 (0, 0)) ∧ base ≤ g ∧ n ≤ c ∧ c ≤ maxLen ∧ off + c * 2 ≤ cur.size ∧ ∀ i, i < n * 2 → cur[off + i]? = (shQ.flat xs)[i]? := by
    rcases HO.out.2 with ⟨e, h0⟩ | ⟨g', off', cap, cur, e, h1, h2, h3, h4, h5, h6⟩
    · simp at e
    · simp only [Value.slice.injEq, Option.some.injEq, Addr.mk.injEq, and_true, true_and] at e
      obtain ⟨⟨rfl, rfl⟩, rfl⟩ := e
      exact ⟨cur, h2, h1, h3, h4, h5, h6⟩
  have hc63 : c ≤ 9223372036854775807 := by unfold maxLen at hcm; omega
  have hgl : g < w.heap.size := (Array.getElem?_eq_some_iff.1 hg).1
  have hvl : vb < w.heap.size := (Array.getElem?_eq_some_iff.1 HV.out).1
  obtain ⟨T, hT⟩ : ∃ T, T = shQ.flat (xs.take k) := ⟨_, rfl⟩
  obtain ⟨D, hD⟩ : ∃ D, D = shQ.flat (xs.drop k) := ⟨_, rfl⟩
  obtain ⟨V, hV⟩ : ∃ V, V = shQ.flat [v0] := ⟨_, rfl⟩
  have hxl := H1.out
  have hTl : T.length = k * 2 := by rw [hT, shQ.flat_len, List.length_take, hxl, Nat.min_eq_left (by omega)]; rfl
  have hDl : D.length = (n - k) * 2 := by rw [hD, shQ.flat_len, List.length_drop, hxl]; rfl
  have hVl : V.length = 1 * 2 := by rw [hV]; rfl
  have hTD : shQ.flat xs = T ++ D := by rw [hT, hD, ← shQ.flat_app, List.take_append_drop]
  have hV1 : ∀ u ∈ V, u.oneCell' = true := by rw [hV]; exact shQ.flat_one _
  have hD1 : ∀ u ∈ D, u.oneCell' = true := by rw [hD]; exact shQ.flat_one _
  have hfin : ∀ R, (T ++ V ++ D) ++ R = shQ.flat (xs.take k ++ [v0] ++ xs.drop k) ++ R := fun R => by rw [flat_cut, hT, hV, hD]
  have hflen : (xs.take k ++ [v0] ++ xs.drop k).length = n + 1 := by
    rw [List.length_append, List.length_append, List.length_take, List.length_drop, hxl, Nat.min_eq_left (by omega)]
    simp
    omega
  have HFL := Lib.hid hflen
  clear hflen
  have hVc : ∀ j v, V[j]? = some v → w.cell? ⟨vb, j, none⟩ = some v := fun j v h => by
    rw [cell_of_row w vb _ _ _ _ HV.out, ← h, hV, ← Array.getElem?_toList]
    rfl
  have hgc : ∀ j v, (T ++ D)[j]? = some v → w.cell? ⟨g, off + j, none⟩ = some v := fun j v h => by
    have hj := (List.getElem?_eq_some_iff.1 h).1
    have hj2 : j < n * 2 := by rw [← hTD, shQ.flat_len, hxl, hs2] at hj; exact hj
    rw [cell_of_row w g _ _ _ _ hg, htk j hj2, hTD, h]
  have hTc : ∀ j v, T[j]? = some v → w.cell? ⟨g, off + j, none⟩ = some v := fun j v h => hgc j v (by rw [List.getElem?_append_left (List.getElem?_eq_some_iff.1 h).1]; exact h)
  have hDc : ∀ j v, D[j]? = some v → w.cell? ⟨g, off + k * 2 + j, none⟩ = some v := fun j v h => by
    rw [Nat.add_assoc]
    exact hgc _ v (by rw [← hTl, List.getElem?_append_right (by omega), Nat.add_sub_cancel_left]; exact h)
  have hw1 : IntKind.i64.wrap ((k : Int) + 1) = (k : Int) + 1 := by rw [IntKind.wrap_i64]; omega
  have hb1 : (0 : Int) ≤ (k : Int) + 1 := by omega
  have htn : ((k : Int) + 1).toNat = k + 1 := by omega
  have hb3 : (k : Int) ≤ (n : Int) + 1 := by omega
  have hb5 : (k : Int) + 1 ≤ (n : Int) + 1 := by omega
  have hci : ¬ (c = k) := by omega
  have hkn : ¬ ((k : Int) = (n : Int)) := by omega
  have hkn2 : ((k : Int) == (n : Int)) = false := by simp; omega
  have hkn3 : (k == n) = false := by simp; omega
  have hc2 : ¬ (c = k + 1) := by omega
  have hd1 : decide (c < n + 1) = false := by simp; omega
  have hd2 : decide ((c : Int) < (n : Int) + 1) = false := by simp; omega
  have hov : ∀ la ca lb cb ob, (callFunc 45 #[.slice (some ⟨vb, 0, none⟩) la ca, .slice (some ⟨g, ob, none⟩) lb cb]).run Try.prog w = .ok (.value (.bool false)) w := fun la ca lb cb ob => by
    rw [run_callFunc_extern Try.func45 (by kernel_rfl) (by kernel_rfl) (by kernel_rfl) (e := Extern.SlicesOverlaps.overlaps #[57, 57] #[4]) (by kernel_rfl),
      Lib.run_overlaps_apart w 57 4 60 Try.underlying57 2 (fun w => by simp [Go.sizeOf, typeInfo, hi, hz1]) ⟨vb, 0, none⟩ ⟨g, ob, none⟩ la ca lb cb hvb 60 60 2 cur.size (by unfold World.shape?; rw [HV.out]; rfl) (by unfold World.shape?; rw [hg]) (by omega) (frozen_of_row w vb 0 _ _ HV.out) (frozen_of_row w vb 2 _ _ HV.out)]
    rfl
  obtain ⟨pr, hpr⟩ : ∃ pr, cur.toList.take off = pr := ⟨_, rfl⟩
  obtain ⟨rs, hrs⟩ : ∃ rs, cur.toList.drop off = rs := ⟨_, rfl⟩
  have hcl : cur.toList.length = cur.size := Array.length_toList
  have hprl : pr.length = off := by rw [← hpr, List.length_take, hcl]; omega
  have hrsl : off + rs.length = cur.size := by rw [← hrs, List.length_drop, hcl]; omega
  have hcut : cur.toList = pr ++ rs := by rw [← hpr, ← hrs, List.take_append_drop]
  have HTK : Hid (rs.take T.length = T) := Lib.hid (by
    apply List.ext_getElem?
    intro j
    by_cases hj : j < T.length
    · have h1 := htk j (by omega)
      rw [hTD, List.getElem?_append_left hj] at h1
      rw [List.getElem?_take_of_lt hj, ← hrs, List.getElem?_drop, Array.getElem?_toList, h1]
    · rw [List.getElem?_eq_none (by rw [List.length_take]; omega), List.getElem?_eq_none (by omega)])
  have HT := Lib.hid hT
  have HFIN := Lib.hid hfin
  have HHG : Hid (w.heap[g]? = some (.cells (pr ++ rs).toArray 60 (0, 0))) := Lib.hid (by rw [← hcut]; exact hg)
  have HVC := Lib.hid hVc
  have HDC := Lib.hid hDc
  have HPL := Lib.hid hprl
  have HRL : Hid (c * 2 ≤ rs.length) := Lib.hid (by omega)
  have HTL := Lib.hid hTl
  have HDL := Lib.hid hDl
  have HVL := Lib.hid hVl
  clear hT hD hV hxl hTl hDl hVl hTD hfin hVc hgc hTc hDc htk hcs hg hpr hrs hcl hprl hrsl hcut
  go_enter Try.func30, Try.ntmps30
  go_wp2_with (simp only [hov])
  go_region_law (refine step_copy_rowN rfl _ _ 57 57 rfl 60 i0 2 Try.underlying57 hi hz1 g (off + (k + 1) * 2) (n - k) (c - (k + 1)) ⟨g, off + k * 2, none⟩ (n + 1 - k) (c - k) (by simp [Act.eval, Act.put]) (by simp [Act.eval, Act.put]) (pr ++ rs) 60 HHG.out D (n - k) (Nat.min_eq_right (by omega)) HDL.out (fun j v h => by rw [Go.WideShapes.add_plain]; exact HDC.out j v h) (by rw [HDL.out, List.length_append, HPL.out]; have := HRL.out; omega) hD1 g w (Below.refl g w).drew (Nat.le_refl g) ?_; intro w4 hg4 hb4 ho4)
  go_wp2_with (first
    | (with_reducible refine wpList_copy_rowN (o := ⟨some 82, _, _, _, _, _⟩) rfl (.tmp 80) (.tmp 81) 57 57 rfl 60 i0 2 Try.underlying57 hi hz1 g (off + k * 2) (n + 1 - k) (c - k) ⟨vb, 0, none⟩ 1 1 ?d1 ?d2 _ 60 hg4.out V 1 ?d3 HVL.out ?d4 ?d5 hV1 g w hb4 (Nat.le_refl g) ?_)
    | fail)
  case d1 => first | rfl | simp [Act.eval, Act.put]
  case d2 => rfl
  case d3 => exact Nat.min_eq_left (by omega)
  case d4 =>
    intro j v h
    rw [Go.WideShapes.add_plain, Nat.zero_add, World.cell?_of_block (w := w) (ho4.out vb hvb)]
    exact HVC.out j v h
  case d5 =>
    rw [splice_len _ _ _ (by rw [HDL.out, List.length_append, HPL.out]; have := HRL.out; omega), HVL.out, List.length_append, HPL.out]
    have := HRL.out
    omega
  intro w5 hg5 hb5 ho5
  go_wp2_with fail
  go_ret
  obtain ⟨R, hR⟩ := splice_shift T V D rs HTK.out ((k + 1) * 2) (by have a1 := HTL.out; have a2 := HVL.out; omega) (by rw [HDL.out]; have := HRL.out; omega)
  have e5 : splice (splice (pr ++ rs) (off + (k + 1) * 2) D) (off + k * 2) V = pr ++ (shQ.flat (xs.take k ++ [v0] ++ xs.drop k) ++ R) := by
    have h1 := splice_off pr rs D ((k + 1) * 2)
    rw [HPL.out] at h1
    have h2 := splice_off pr (splice rs ((k + 1) * 2) D) V (k * 2)
    rw [HPL.out] at h2
    rw [h1, h2, ← HFIN.out, ← hR, HTL.out]
  refine ⟨_, _, rfl, que_cells HFL.out hWg hg5.out hroom hcm ?_ pr R HPL.out e5, ⟨hb5.os, hb5.tape, hb5.output, hb5.size, fun b _ hne => (ho5.out b (fun e => hne (by rw [e]; rfl))).trans (ho4.out b (fun e => hne (by rw [e]; rfl)))⟩, fun g' hg' => Or.inl hg'⟩
  have q : (splice (pr ++ rs) (off + (k + 1) * 2) D).length = off + rs.length := by rw [splice_len _ _ _ (by rw [HDL.out, List.length_append, HPL.out]; have := HRL.out; omega), List.length_append, HPL.out]
  rw [splice_len _ _ _ (by rw [q, HVL.out]; have := HRL.out; omega), q]
  have := HRL.out
  show off + c * 2 ≤ _
  omega
set_option maxHeartbeats 4000000 in
set_option maxRecDepth 100000 in
theorem insq_grow (xs : List EnT) (v0 : EnT) (n c k vb base : Nat) (w : World) (HV : Hid (w.heap[vb]? = some (.cells #[.int .i64 v0.1, .int .i64 v0.2] 60 (0, 0)))) (H1 : Hid (xs.length = n)) (hn : n ≤ 5864062014634) (hbase : base ≤ w.heap.size) (g off : Nat) (HO : Hid (Que shQ w base 60 (.slice (some ⟨g, off, none⟩) n c) n xs)) (hk : k < n) (hroom : c < n + 1) :
    Calls Try.prog 30 #[.slice (some ⟨g, off, none⟩) n c, .int .i64 (k : Int), .slice (some ⟨vb, 0, none⟩) 1 1] w fun e w' => InsQ shQ base 60 w (.slice (some ⟨g, off, none⟩) n c) (xs.take k ++ [v0] ++ xs.drop k) (n + 1) e w' := by
  obtain ⟨i0, hi, hz0, hz1, hz2⟩ := info_parts info_one
  have hs2 : shQ.size = 2 := rfl
  obtain ⟨cur, hg, hWg, hnc, hcm, hcs, htk⟩ : ∃ cur : Array Value, w.heap[g]? = some (.cells cur 60 (0, 0)) ∧ base ≤ g ∧ n ≤ c ∧ c ≤ maxLen ∧ off + c * 2 ≤ cur.size ∧ ∀ i, i < n * 2 → cur[off + i]? = (shQ.flat xs)[i]? := by
    rcases HO.out.2 with ⟨e, h0⟩ | ⟨g', off', cap, cur, e, h1, h2, h3, h4, h5, h6⟩
    · simp at e
    · simp only [Value.slice.injEq, Option.some.injEq, Addr.mk.injEq, and_true, true_and] at e
      obtain ⟨⟨rfl, rfl⟩, rfl⟩ := e
      exact ⟨cur, h2, h1, h3, h4, h5, h6⟩
  have hc63 : c ≤ 9223372036854775807 := by unfold maxLen at hcm; omega
  have hgl : g < w.heap.size := (Array.getElem?_eq_some_iff.1 hg).1
  have hvl : vb < w.heap.size := (Array.getElem?_eq_some_iff.1 HV.out).1
  obtain ⟨T, hT⟩ : ∃ T, T = shQ.flat (xs.take k) := ⟨_, rfl⟩
  obtain ⟨D, hD⟩ : ∃ D, D = shQ.flat (xs.drop k) := ⟨_, rfl⟩
  obtain ⟨V, hV⟩ : ∃ V, V = shQ.flat [v0] := ⟨_, rfl⟩
  have hxl := H1.out
  have hTl : T.length = k * 2 := by rw [hT, shQ.flat_len, List.length_take, hxl, Nat.min_eq_left (by omega)]; rfl
  have hDl : D.length = (n - k) * 2 := by rw [hD, shQ.flat_len, List.length_drop, hxl]; rfl
  have hVl : V.length = 1 * 2 := by rw [hV]; rfl
  have hTD : shQ.flat xs = T ++ D := by rw [hT, hD, ← shQ.flat_app, List.take_append_drop]
  have hV1 : ∀ u ∈ V, u.oneCell' = true := by rw [hV]; exact shQ.flat_one _
  have hD1 : ∀ u ∈ D, u.oneCell' = true := by rw [hD]; exact shQ.flat_one _
  have hfin : ∀ R, (T ++ V ++ D) ++ R = shQ.flat (xs.take k ++ [v0] ++ xs.drop k) ++ R := fun R => by rw [flat_cut, hT, hV, hD]
  have hflen : (xs.take k ++ [v0] ++ xs.drop k).length = n + 1 := by
    rw [List.length_append, List.length_append, List.length_take, List.length_drop, hxl, Nat.min_eq_left (by omega)]
    simp
    omega
  have HFL := Lib.hid hflen
  clear hflen
  have hVc : ∀ j v, V[j]? = some v → w.cell? ⟨vb, j, none⟩ = some v := fun j v h => by
    rw [cell_of_row w vb _ _ _ _ HV.out, ← h, hV, ← Array.getElem?_toList]
    rfl
  have hgc : ∀ j v, (T ++ D)[j]? = some v → w.cell? ⟨g, off + j, none⟩ = some v := fun j v h => by
    have hj := (List.getElem?_eq_some_iff.1 h).1
    have hj2 : j < n * 2 := by rw [← hTD, shQ.flat_len, hxl, hs2] at hj; exact hj
    rw [cell_of_row w g _ _ _ _ hg, htk j hj2, hTD, h]
  have hTc : ∀ j v, T[j]? = some v → w.cell? ⟨g, off + j, none⟩ = some v := fun j v h => hgc j v (by rw [List.getElem?_append_left (List.getElem?_eq_some_iff.1 h).1]; exact h)
  have hDc : ∀ j v, D[j]? = some v → w.cell? ⟨g, off + k * 2 + j, none⟩ = some v := fun j v h => by
    rw [Nat.add_assoc]
    exact hgc _ v (by rw [← hTl, List.getElem?_append_right (by omega), Nat.add_sub_cancel_left]; exact h)
  have hw1 : IntKind.i64.wrap ((k : Int) + 1) = (k : Int) + 1 := by rw [IntKind.wrap_i64]; omega
  have hb1 : (0 : Int) ≤ (k : Int) + 1 := by omega
  have htn : ((k : Int) + 1).toNat = k + 1 := by omega
  have hb3 : (k : Int) ≤ (n : Int) + 1 := by omega
  have hb5 : (k : Int) + 1 ≤ (n : Int) + 1 := by omega
  have hci : ¬ (c = k) := by omega
  have hkn : ¬ ((k : Int) = (n : Int)) := by omega
  have hkn2 : ((k : Int) == (n : Int)) = false := by simp; omega
  have hkn3 : (k == n) = false := by simp; omega
  have hg2 : g ≠ w.heap.size := by omega
  have hvg : vb ≠ w.heap.size := by omega
  have hd1 : decide (c < n + 1) = true := by simp; omega
  have hd2 : decide ((c : Int) < (n : Int) + 1) = true := by simp; omega
  have hold : (Builtin.firstCells i0.size k (.slice (some ⟨g, off, none⟩) k c)).run Try.prog w.drew = .ok T.toArray w.drew := by
    rw [hz1]
    exact run_firstCells_some w.drew 2 k ⟨g, off, none⟩ k c T (by have a1 := hTl; omega) (fun j v hj => by
      rw [Go.WideShapes.add_plain]
      exact hTc j v hj)
  obtain ⟨G, hG⟩ : ∃ G, G = grownCap w (n + 1) c 60 := ⟨_, rfl⟩
  have hGn : n + 1 ≤ G := by rw [hG]; exact grownCap_ge w _ _ _
  have hGm : G ≤ maxLen := by rw [hG]; exact grownCap_le_maxLen w (n + 1) c 60 (by unfold maxLen; omega)
  have hG63 : G ≤ 9223372036854775807 := by unfold maxLen at hGm; exact hGm
  obtain ⟨Z, hZ, hZl⟩ : ∃ Z : List Value, Z = (Builtin.zeroCells (Value.agg #[.int .i64 0, .int .i64 0]).cells (n + 1 - k) ++ Builtin.zeroCells (Value.agg #[.int .i64 0, .int .i64 0]).cells (G - (n + 1))).toList ∧ Z.length = (G - k) * 2 := by
    refine ⟨_, rfl, ?_⟩
    simp [Builtin.zeroCells, Value.cells]
    omega
  have hrz : ∀ ty, (Builtin.append_ #[57, 3] ty #[.slice (some ⟨g, off, none⟩) k c, .int .i64 ((n : Int) + 1 - (k : Int))]).run Try.prog w =
      .ok (.slice (some ⟨w.heap.size, 0, none⟩) (n + 1) G) (w.drew.alloc (.cells (T ++ Z).toArray 60)) := fun ty => by
    have h := Lib.run_append_grow_zeros w 57 3 ty 60 i0 _ .i64 .i64 Try.underlying57 Try.underlying3 hi hz0 (some ⟨g, off, none⟩) k c T hold (n + 1 - k) (by omega) (by omega) (by omega) (by omega) (by rw [hz2]; omega)
      (by rw [hz2, show k + (n + 1 - k) = n + 1 by omega]; exact growslice_fits (by omega) (by omega))
    rw [show k + (n + 1 - k) = n + 1 by omega, ← hG] at h
    rw [show (n : Int) + 1 - (k : Int) = ((n + 1 - k : Nat) : Int) by omega, h, hZ]
    congr 2
    simp
  have hGi : ¬ (G = k) := by omega
  have hGim : ¬ (G = k + 1) := by omega
  have hb6 : (k : Int) ≤ (n : Int) := by omega
  have hb7 : (0 : Int) ≤ (n : Int) + 1 - (k : Int) := by omega
  have HT := Lib.hid hT
  have HFIN := Lib.hid hfin
  have HVC := Lib.hid hVc
  have HDC := Lib.hid hDc
  have HTL := Lib.hid hTl
  have HDL := Lib.hid hDl
  have HVL := Lib.hid hVl
  have HZL := Lib.hid hZl
  obtain ⟨W1, hW1⟩ : ∃ W1, W1 = w.drew.alloc (.cells (T ++ Z).toArray 60) := ⟨_, rfl⟩
  have HN : Hid (W1.heap[w.heap.size]? = some (.cells (T ++ Z).toArray 60 (0, 0))) := Lib.hid (by rw [hW1]; exact heap_alloc_new w.drew _)
  have HOLD : Hid (∀ b, b < w.heap.size → W1.heap[b]? = w.heap[b]?) := Lib.hid fun b hb => by rw [hW1]; exact Below.heap_alloc _ _ _ hb
  have HB1 : Hid (Below w.heap.size w W1) := Lib.hid (by rw [hW1]; exact ((Below.refl w.heap.size w).drew).alloc (Nat.le_refl _) _)
  rw [← hW1] at hrz
  clear hT hD hV hxl hTl hDl hVl hTD hfin hVc hgc hTc hDc htk hcs hg hold hG hZ hZl hW1
  go_enter Try.func30, Try.ntmps30
  go_wp2_with (first
    | (at_builtin; refine Lib.wpList_append_run _ rfl _ _ _ _ rfl _ _ rfl rfl _ _ (hrz _) ?_)
    | (with_reducible refine wpList_copy_rowN (o := ⟨some 45, _, _, _, _, _⟩) rfl (.tmp 43) (.tmp 44) 57 57 rfl 60 i0 2 Try.underlying57 hi hz1 w.heap.size (k * 2) (n + 1 - k) (G - k) ⟨vb, 0, none⟩ 1 1 ?d1 ?d2 (T ++ Z) 60 HN.out V 1 ?d3 HVL.out ?d4 ?d5 hV1 w.heap.size w HB1.out (Nat.le_refl _) ?_)
    | fail)
  case d1 => first | rfl | simp [Act.eval, Act.put]
  case d2 => rfl
  case d3 => exact Nat.min_eq_left (by omega)
  case d4 =>
    intro j v h
    rw [Go.WideShapes.add_plain, Nat.zero_add, World.cell?_of_block (w := w) (HOLD.out vb hvl)]
    exact HVC.out j v h
  case d5 =>
    rw [List.length_append, HVL.out, HTL.out, HZL.out]
    omega
  intro w4 hg4 hb4 ho4
  have HSL : Hid ((splice (T ++ Z) (k * 2) V).length = G * 2) := Lib.hid (by
    rw [splice_len _ _ _ (by rw [List.length_append, HVL.out, HTL.out, HZL.out]; omega), List.length_append, HTL.out, HZL.out]
    omega)
  go_wp2_with fail
  go_region_law (refine step_copy_rowN rfl _ _ 57 57 rfl 60 i0 2 Try.underlying57 hi hz1 w.heap.size ((k + 1) * 2) (n + 1 - (k + 1)) (G - (k + 1)) ⟨g, off + k * 2, none⟩ (n - k) (c - k) (by simp [Act.eval, Act.put]) (by simp [Act.eval, Act.put]) (splice (T ++ Z) (k * 2) V) 60 hg4.out D (n - k) (Nat.min_eq_left (by omega)) HDL.out (fun j v h => by rw [Go.WideShapes.add_plain]; exact (World.cell?_of_block (w := w) (a := ⟨g, off + k * 2 + j, none⟩) ((ho4.out g hg2).trans (HOLD.out g hgl))).trans (HDC.out j v h)) (by rw [HDL.out, HSL.out]; omega) hD1 w.heap.size w hb4.drew (Nat.le_refl _) ?_; intro w5 hg5 hb5 ho5; clear ho5)
  go_wp2_with fail
  go_ret
  obtain ⟨R, hR⟩ := splice_two T V D Z
  refine ⟨_, _, rfl, que_cells HFL.out hbase hg5.out hGn hGm ?_ [] R rfl ?_, below_row hb5 _, fun g' hg' => Or.inr (by simp [Value.ownBlock] at hg'; omega)⟩
  · rw [splice_len _ _ _ (by rw [HDL.out, HSL.out]; omega), HSL.out]
    show 0 + G * 2 ≤ _
    omega
  · rw [List.nil_append, ← HFIN.out, ← hR, HTL.out, HVL.out, show k * 2 + 1 * 2 = (k + 1) * 2 by omega]
theorem insq_any (xs : List EnT) (v0 : EnT) (n c k vb base : Nat) (w : World) (sa : Option Addr) (HV : Hid (w.heap[vb]? = some (.cells #[.int .i64 v0.1, .int .i64 v0.2] 60 (0, 0)))) (H1 : Hid (xs.length = n)) (hn : n ≤ 5864062014634) (hbase : base ≤ w.heap.size) (HO : Hid (Que shQ w base 60 (.slice sa n c) n xs)) (hk : k ≤ n) (hvb : ∀ g, (Value.slice sa n c).ownBlock = some g → vb ≠ g) :
    Calls Try.prog 30 #[.slice sa n c, .int .i64 (k : Int), .slice (some ⟨vb, 0, none⟩) 1 1] w fun e w' => InsQ shQ base 60 w (.slice sa n c) (xs.take k ++ [v0] ++ xs.drop k) (n + 1) e w' := by
  by_cases h : k = n
  · exact insq_end xs v0 n c k vb base w sa HV H1 hn hbase HO h
  · obtain ⟨g, off, rfl⟩ : ∃ g off, sa = some ⟨g, off, none⟩ := by
      rcases HO.out.2 with ⟨e, h0⟩ | ⟨g, off, cap, cur, e, _⟩
      · omega
      · simp only [Value.slice.injEq] at e
        exact ⟨g, off, e.1⟩
    by_cases hr : n + 1 ≤ c
    · exact insq_room xs v0 n c k vb base w HV H1 hn hbase g off HO (by omega) hr (hvb g rfl)
    · exact insq_grow xs v0 n c k vb base w HV H1 hn hbase g off HO (by omega) (by omega)
end Go.Proofs.Ytgnpodeneknpdaa
