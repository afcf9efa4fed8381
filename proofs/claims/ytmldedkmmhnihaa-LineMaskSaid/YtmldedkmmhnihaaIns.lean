/- slices.Clone, slices.Insert of two values at operations. -/
import Derived.Test.YtmldedkmmhnihaaConc
import Derived.Test.YtmldedkmmhnihaaCopy
import Derived.Lib.SliceRun
import Derived.Lib.Overlaps
import Derived.Deep.RegionLaw
namespace Go.Proofs.Ytmldedkmmhnihaa
open Go.RowKit

set_option maxHeartbeats 4000000 in
set_option maxRecDepth 100000 in
theorem clone_ops (xs : List (Int × Int)) (sa : Option Addr) (n c : Nat) (w : World) (H1 : Hid (xs.length = n)) (HA : Hid (opShape.At w sa c xs)) (hn : n ≤ 8796093021952) :
    Calls Try.prog 15 #[.slice sa n c] w fun e w' => ∃ ra rc, e = .returned (.slice ra n rc) ∧ w'.ownsRow w.heap.size 41 2 (.slice ra n rc) n (opShape.flat xs) ∧ Below w.heap.size w w' := by
  obtain ⟨i0, hi, hz0, hz1, hz2⟩ := info_parts info_PinOp
  have qn : ∀ (w : World) (a : Option Addr) (n c n' c' : Nat), (binOp .eql 23 (.slice a n c) (.slice none n' c')).run Try.prog w = .ok (.bool a.isNone) w := fun w a n c n' c' => Lib.run_eql_slice_nil w _ _ a n c n' c' Try.underlying23
  cases sa with
  | none =>
    obtain ⟨rfl, hx⟩ := HA.out.1 rfl
    have hn0 : n = 0 := by rw [← H1.out, hx]; rfl
    subst hn0 hx
    clear HA H1
    go_enter Try.func15, Try.ntmps15
    go_wp2_with fail
    go_ret
    exact ⟨none, 0, rfl, World.ownsRow_nil _ _ _ _, Below.refl _ _⟩
  | some a =>
    have hown : (w.alloc (.cells #[] 41)).ownsRow w.heap.size 41 2 (.slice (some ⟨w.heap.size, 0, none⟩) 0 0) 0 [] := World.ownsRow_made w #[] 0 (Nat.le_refl _) (by decide) rfl
    have HO := Lib.hid hown
    have HA2 := Lib.hid (HA.out.step (below_alloc w (.cells #[] 41)))
    clear hown
    go_enter Try.func15, Try.ntmps15
    go_wp2_with (first
      | (at_builtin; refine wpList_append_at opShape rfl _ _ 23 rfl w.heap.size 41 i0 _ 16 Try.underlying23 hi hz0 hz1 hz2 rfl (.slice (some ⟨w.heap.size, 0, none⟩) 0 0) [] xs rfl HO.out (some a) n c rfl H1 HA2.out ?h63 ?hby ?hba ?_)
      | fail)
    case h63 => simp; unfold maxLen; omega
    case hby => simp; omega
    case hba => simp
    intro ra rc w3 own3 grow3 _
    have B3 : Below w.heap.size w w3 := (below_alloc w _).grown grow3 (by simp) (fun k hk => by simp [Value.ownBlock] at hk; omega)
    have O3 := Lib.hid own3
    clear own3 grow3
    go_wp2_with fail
    go_ret
    exact ⟨ra, rc, rfl, O3.out, B3⟩
theorem two_at {w : World} {vb : Nat} {v0 v1 : Int × Int} {T : TypeId} (h : w.heap[vb]? = some (.cells #[.int .i64 v0.1, .int .i64 v0.2, .int .i64 v1.1, .int .i64 v1.2] T (0, 0))) : opShape.At w (some ⟨vb, 0, none⟩) 2 [v0, v1] :=
  ⟨fun e => (nomatch e), fun _ => ⟨vb, 0, rfl, (Array.getElem?_eq_some_iff.1 h).1, fun k hk => by
    rw [cell_of_row w vb _ _ _ _ h, Nat.zero_add]
    rw [show opShape.flat [v0, v1] = [.int .i64 v0.1, .int .i64 v0.2, .int .i64 v1.1, .int .i64 v1.2] from rfl, ← Array.getElem?_toList]⟩⟩
set_option maxHeartbeats 4000000 in
set_option maxRecDepth 100000 in
theorem insert_end (xs : List (Int × Int)) (v0 v1 : Int × Int) (n c k vb : Nat) (W w : World) (sa : Option Addr) (HB : Hid (Below W.heap.size W w)) (HV : Hid (w.heap[vb]? = some (.cells #[.int .i64 v0.1, .int .i64 v0.2, .int .i64 v1.1, .int .i64 v1.2] 41 (0, 0)))) (H1 : Hid (xs.length = n)) (hn : n ≤ 8796093021952) (HO : Hid (w.ownsRow W.heap.size 41 2 (.slice sa n c) n (opShape.flat xs))) (hk : k = n) :
    Calls Try.prog 14 #[.slice sa n c, .int .i64 (n : Int), .slice (some ⟨vb, 0, none⟩) 2 2] w fun e w' => ∃ ra rc, e = .returned (.slice ra (n + 2) rc) ∧ opShape.At w' ra rc (xs.take k ++ [v0, v1] ++ xs.drop k) ∧ Below W.heap.size W w' := by
  subst hk
  obtain ⟨i0, hi, hz0, hz1, hz2⟩ := info_parts info_PinOp
  have hso : w.ownsRow W.heap.size 41 opShape.size (.slice sa k c) xs.length (opShape.flat xs) := by rw [H1.out]; exact HO.out
  have HSO := Lib.hid hso
  have HXE : Hid (xs.take k ++ [v0, v1] ++ xs.drop k = xs ++ [v0, v1]) := Lib.hid (by rw [← H1.out, List.take_length, List.drop_length, List.append_nil])
  have HE : Hid (xs.length + 2 = k + 2) := Lib.hid (by rw [H1.out])
  have hxl : xs.length ≤ 8796093021952 := by rw [H1.out]; exact hn
  obtain ⟨hlk, hcc⟩ : k ≤ c ∧ c ≤ 9223372036854775807 := by
    rcases HO.out.2 with ⟨e, h0⟩ | ⟨g, cap, cur, e, _, _, h3, h4, _⟩
    · simp only [Value.slice.injEq] at e
      omega
    · simp only [Value.slice.injEq] at e
      unfold maxLen at h4
      omega
  clear hso
  cases sa with
  | none =>
    obtain ⟨rfl, rfl⟩ : k = 0 ∧ c = 0 := by
      rcases HO.out.2 with ⟨e, h0⟩ | ⟨g, cap, cur, e, _⟩
      · simp only [Value.slice.injEq] at e
        omega
      · simp at e
    go_enter Try.func14, Try.ntmps14
    go_wp2_with (first
      | (at_builtin; refine wpList_append_at opShape rfl _ _ 23 rfl W.heap.size 41 i0 _ 16 Try.underlying23 hi hz0 hz1 hz2 rfl _ xs [v0, v1] rfl HSO.out (some ⟨vb, 0, none⟩) 2 2 rfl (Lib.hid rfl) (two_at HV.out) ?h63 ?hby HB.out.size ?_)
      | fail)
    case h63 => unfold maxLen; omega
    case hby => omega
    intro ra rc w3 own3 grow3 _
    have B3 : Below W.heap.size W w3 := HB.out.grown grow3 HB.out.size (fun j hj => (HSO.out.lt j hj).1)
    have own3' : w3.ownsRow W.heap.size 41 opShape.size (.slice ra (xs.length + 2) rc) (xs ++ [v0, v1]).length (opShape.flat (xs ++ [v0, v1])) := by rw [List.length_append]; exact own3
    have O3 := Lib.hid own3'
    clear own3 grow3 own3'
    rw [HE.out] at O3 ⊢
    go_wp2_with fail
    go_ret
    obtain ⟨ra3, rc3, hv, hat⟩ := Shape.At.of_row O3.out
    simp only [Value.slice.injEq] at hv
    obtain ⟨rfl, _, rfl⟩ := hv
    rw [HXE.out]
    exact ⟨_, _, rfl, hat, B3⟩
  | some a =>
    obtain ⟨g, rfl⟩ : ∃ g, a = ⟨g, 0, none⟩ := by
      rcases HO.out.2 with ⟨e, h0⟩ | ⟨g, cap, cur, e, _⟩
      · simp at e
      · simp only [Value.slice.injEq, Option.some.injEq] at e
        exact ⟨g, e.1⟩
    by_cases hck : c = k
    · subst hck
      go_enter Try.func14, Try.ntmps14
      go_wp2_with (first
        | (at_builtin; refine wpList_append_at opShape rfl _ _ 23 rfl W.heap.size 41 i0 _ 16 Try.underlying23 hi hz0 hz1 hz2 rfl _ xs [v0, v1] rfl HSO.out (some ⟨vb, 0, none⟩) 2 2 rfl (Lib.hid rfl) (two_at HV.out) ?h63 ?hby HB.out.size ?_)
        | fail)
      case h63 => unfold maxLen; omega
      case hby => omega
      intro ra rc w3 own3 grow3 _
      have B3 : Below W.heap.size W w3 := HB.out.grown grow3 HB.out.size (fun j hj => (HSO.out.lt j hj).1)
      have own3' : w3.ownsRow W.heap.size 41 opShape.size (.slice ra (xs.length + 2) rc) (xs ++ [v0, v1]).length (opShape.flat (xs ++ [v0, v1])) := by rw [List.length_append]; exact own3
      have O3 := Lib.hid own3'
      clear own3 grow3 own3'
      rw [HE.out] at O3 ⊢
      go_wp2_with fail
      go_ret
      obtain ⟨ra3, rc3, hv, hat⟩ := Shape.At.of_row O3.out
      simp only [Value.slice.injEq] at hv
      obtain ⟨rfl, _, rfl⟩ := hv
      rw [HXE.out]
      exact ⟨_, _, rfl, hat, B3⟩
    · skip
      go_enter Try.func14, Try.ntmps14
      go_wp2_with (first
        | (at_builtin; refine wpList_append_at opShape rfl _ _ 23 rfl W.heap.size 41 i0 _ 16 Try.underlying23 hi hz0 hz1 hz2 rfl _ xs [v0, v1] rfl HSO.out (some ⟨vb, 0, none⟩) 2 2 rfl (Lib.hid rfl) (two_at HV.out) ?h63 ?hby HB.out.size ?_)
        | fail)
      case h63 => unfold maxLen; omega
      case hby => omega
      intro ra rc w3 own3 grow3 _
      have B3 : Below W.heap.size W w3 := HB.out.grown grow3 HB.out.size (fun j hj => (HSO.out.lt j hj).1)
      have own3' : w3.ownsRow W.heap.size 41 opShape.size (.slice ra (xs.length + 2) rc) (xs ++ [v0, v1]).length (opShape.flat (xs ++ [v0, v1])) := by rw [List.length_append]; exact own3
      have O3 := Lib.hid own3'
      clear own3 grow3 own3'
      rw [HE.out] at O3 ⊢
      go_wp2_with fail
      go_ret
      obtain ⟨ra3, rc3, hv, hat⟩ := Shape.At.of_row O3.out
      simp only [Value.slice.injEq] at hv
      obtain ⟨rfl, _, rfl⟩ := hv
      rw [HXE.out]
      exact ⟨_, _, rfl, hat, B3⟩
theorem at_prefix {w : World} {g cap : Nat} {T : TypeId} (l : List (Int × Int)) (C R : List Value) (h : w.heap[g]? = some (.cells C.toArray T (0, 0))) (e : C = opShape.flat l ++ R) : opShape.At w (some ⟨g, 0, none⟩) cap l :=
  ⟨fun e => (nomatch e), fun _ => ⟨g, 0, rfl, (Array.getElem?_eq_some_iff.1 h).1, fun k hk => by
    rw [cell_of_row w g _ _ _ _ h, Nat.zero_add, List.getElem?_toArray, e, List.getElem?_append_left (by rw [opShape.flat_len]; exact hk)]⟩⟩
theorem flat_cut (xs : List (Int × Int)) (v0 v1 : Int × Int) (k : Nat) : opShape.flat (xs.take k ++ [v0, v1] ++ xs.drop k) = opShape.flat (xs.take k) ++ opShape.flat [v0, v1] ++ opShape.flat (xs.drop k) := by
  rw [opShape.flat_app, opShape.flat_app]
set_option maxHeartbeats 4000000 in
set_option maxRecDepth 100000 in
theorem insert_room (xs : List (Int × Int)) (v0 v1 : Int × Int) (n c k vb : Nat) (W w : World) (HB : Hid (Below W.heap.size W w)) (HV : Hid (w.heap[vb]? = some (.cells #[.int .i64 v0.1, .int .i64 v0.2, .int .i64 v1.1, .int .i64 v1.2] 41 (0, 0)))) (H1 : Hid (xs.length = n)) (hn : n ≤ 8796093021952) (g : Nat) (HO : Hid (w.ownsRow W.heap.size 41 2 (.slice (some ⟨g, 0, none⟩) n c) n (opShape.flat xs))) (hk : k < n) (hroom : n + 2 ≤ c) (hvb : vb ≠ g) :
    Calls Try.prog 14 #[.slice (some ⟨g, 0, none⟩) n c, .int .i64 (k : Int), .slice (some ⟨vb, 0, none⟩) 2 2] w fun e w' => ∃ ra rc, e = .returned (.slice ra (n + 2) rc) ∧ opShape.At w' ra rc (xs.take k ++ [v0, v1] ++ xs.drop k) ∧ Below W.heap.size W w' := by
  obtain ⟨i0, hi, hz0, hz1, hz2⟩ := info_parts info_PinOp
  obtain ⟨cur, hg, hWg, hnc, hcm, hcs, htk⟩ : ∃ cur : Array Value, w.heap[g]? = some (.cells cur 41 (0, 0)) ∧ W.heap.size ≤ g ∧ n ≤ c ∧ c ≤ maxLen ∧ cur.size = c * 2 ∧ cur.toList.take (n * 2) = opShape.flat xs := by
    rcases HO.out.2 with ⟨e, h0⟩ | ⟨g', cap, cur, e, h1, h2, h3, h4, h5, h6⟩
    · simp at e
    · simp only [Value.slice.injEq, Option.some.injEq, Addr.mk.injEq, and_true, true_and] at e
      obtain ⟨rfl, rfl⟩ := e
      exact ⟨cur, h2, h1, h3, h4, h5, h6⟩
  have hc63 : c ≤ 9223372036854775807 := by unfold maxLen at hcm; omega
  have hgl : g < w.heap.size := (Array.getElem?_eq_some_iff.1 hg).1
  have hvl : vb < w.heap.size := (Array.getElem?_eq_some_iff.1 HV.out).1
  obtain ⟨T, hT⟩ : ∃ T, T = opShape.flat (xs.take k) := ⟨_, rfl⟩
  obtain ⟨D, hD⟩ : ∃ D, D = opShape.flat (xs.drop k) := ⟨_, rfl⟩
  obtain ⟨V, hV⟩ : ∃ V, V = opShape.flat [v0, v1] := ⟨_, rfl⟩
  have hxl := H1.out
  have hTl : T.length = k * 2 := by rw [hT, opShape.flat_len, List.length_take, hxl, Nat.min_eq_left (by omega)]; rfl
  have hDl : D.length = (n - k) * 2 := by rw [hD, opShape.flat_len, List.length_drop, hxl]; rfl
  have hVl : V.length = 2 * 2 := by rw [hV]; rfl
  have hTD : opShape.flat xs = T ++ D := by rw [hT, hD, ← opShape.flat_app, List.take_append_drop]
  have hV1 : ∀ u ∈ V, u.oneCell' = true := by rw [hV]; exact opShape.flat_one _
  have hD1 : ∀ u ∈ D, u.oneCell' = true := by rw [hD]; exact opShape.flat_one _
  have hfin : ∀ R, (T ++ V ++ D) ++ R = opShape.flat (xs.take k ++ [v0, v1] ++ xs.drop k) ++ R := fun R => by rw [flat_cut, hT, hV, hD]
  have hVc : ∀ j v, V[j]? = some v → w.cell? ⟨vb, j, none⟩ = some v := fun j v h => by
    rw [cell_of_row w vb _ _ _ _ HV.out, ← h, hV, ← Array.getElem?_toList]
    rfl
  have hgc : ∀ j v, (T ++ D)[j]? = some v → w.cell? ⟨g, j, none⟩ = some v := fun j v h => by
    have hj := (List.getElem?_eq_some_iff.1 h).1
    have hj2 : j < n * 2 := by rw [← hTD, opShape.flat_len, hxl] at hj; exact hj
    rw [cell_of_row w g _ _ _ _ hg, ← Array.getElem?_toList, ← h, ← hTD, ← htk, List.getElem?_take_of_lt hj2]
  have hTc : ∀ j v, T[j]? = some v → w.cell? ⟨g, j, none⟩ = some v := fun j v h => hgc j v (by rw [List.getElem?_append_left (List.getElem?_eq_some_iff.1 h).1]; exact h)
  have hDc : ∀ j v, D[j]? = some v → w.cell? ⟨g, k * 2 + j, none⟩ = some v := fun j v h => hgc _ v (by rw [← hTl, List.getElem?_append_right (by omega), Nat.add_sub_cancel_left]; exact h)
  have hw1 : IntKind.i64.wrap ((k : Int) + 2) = (k : Int) + 2 := by rw [IntKind.wrap_i64]; omega
  have hb1 : (0 : Int) ≤ (k : Int) + 2 := by omega
  have htn : ((k : Int) + 2).toNat = k + 2 := by omega
  have hb3 : (k : Int) ≤ (n : Int) + 2 := by omega
  have hb5 : (k : Int) + 2 ≤ (n : Int) + 2 := by omega
  have hci : ¬ (c = k) := by omega
  have hkn : ¬ ((k : Int) = (n : Int)) := by omega
  have hkn2 : ((k : Int) == (n : Int)) = false := by simp; omega
  have hkn3 : (k == n) = false := by simp; omega
  have hc2 : ¬ (c = k + 2) := by omega
  have hd1 : decide (c < n + 2) = false := by simp; omega
  have hd2 : decide ((c : Int) < (n : Int) + 2) = false := by simp; omega
  have hov : ∀ la ca lb cb ob, (callFunc 29 #[.slice (some ⟨vb, 0, none⟩) la ca, .slice (some ⟨g, ob, none⟩) lb cb]).run Try.prog w = .ok (.value (.bool false)) w := fun la ca lb cb ob => by
    rw [run_callFunc_extern Try.func29 (by kernel_rfl) (by kernel_rfl) (by kernel_rfl) (e := Extern.SlicesOverlaps.overlaps #[23, 23] #[4]) (by kernel_rfl),
      Lib.run_overlaps_apart w 23 4 41 Try.underlying23 2 (fun w => by simp [Go.sizeOf, typeInfo, hi, hz1]) ⟨vb, 0, none⟩ ⟨g, ob, none⟩ la ca lb cb hvb 41 41 4 (c * 2) (by unfold World.shape?; rw [HV.out]; rfl) (by unfold World.shape?; rw [hg]; simp [hcs]) (by omega) (frozen_of_row w vb 0 _ _ HV.out) (frozen_of_row w vb 4 _ _ HV.out)]
    rfl
  have HT := Lib.hid hT
  have HFIN := Lib.hid hfin
  have HHG : Hid (w.heap[g]? = some (.cells cur.toList.toArray 41 (0, 0))) := Lib.hid hg
  have HTK : Hid (cur.toList.take T.length = T) := Lib.hid (by
    have e : (cur.toList.take (n * 2)).take T.length = T := by rw [htk, hTD, List.take_left' rfl]
    rw [List.take_take, Nat.min_eq_left (by omega)] at e
    exact e)
  have HVC := Lib.hid hVc
  have HDC := Lib.hid hDc
  have HCS : Hid (cur.toList.length = c * 2) := Lib.hid (by simpa using hcs)
  have HTL := Lib.hid hTl
  have HDL := Lib.hid hDl
  have HVL := Lib.hid hVl
  clear hT hD hV hxl hTl hDl hVl hTD hfin hVc hgc hTc hDc htk hcs hg
  go_enter Try.func14, Try.ntmps14
  go_wp2_with (simp only [hov])
  go_region_law (refine step_copy_rowN rfl _ _ 23 23 rfl 41 i0 2 Try.underlying23 hi hz1 g ((k + 2) * 2) (n - k) (c - (k + 2)) ⟨g, k * 2, none⟩ (n + 2 - k) (c - k) (by simp [Act.eval, Act.put]) (by simp [Act.eval, Act.put]) cur.toList 41 HHG.out D (n - k) (Nat.min_eq_right (by omega)) HDL.out (fun j v h => by rw [Go.WideShapes.add_plain]; exact HDC.out j v h) (by rw [HDL.out, HCS.out]; omega) hD1 W.heap.size W HB.out.drew hWg ?_; intro w4 hg4 hb4 ho4)
  go_wp2_with (first
    | (with_reducible refine wpList_copy_rowN (o := ⟨some 82, _, _, _, _, _⟩) rfl (.tmp 80) (.tmp 81) 23 23 rfl 41 i0 2 Try.underlying23 hi hz1 g (k * 2) (n + 2 - k) (c - k) ⟨vb, 0, none⟩ 2 2 ?d1 ?d2 _ 41 hg4.out V 2 ?d3 HVL.out ?d4 ?d5 hV1 W.heap.size W hb4 hWg ?_)
    | fail)
  case d1 => rfl
  case d2 => rfl
  case d3 => exact Nat.min_eq_left (by omega)
  case d4 =>
    intro j v h
    rw [Go.WideShapes.add_plain, Nat.zero_add, World.cell?_of_block (w := w) (ho4.out vb hvb)]
    exact HVC.out j v h
  case d5 =>
    unfold splice
    simp
    rw [HVL.out, HDL.out]
    have e := HCS.out
    simp at e
    omega
  intro w5 hg5 hb5 _
  go_wp2_with fail
  go_ret
  obtain ⟨R, hR⟩ := splice_shift T V D cur.toList HTK.out ((k + 2) * 2) (by rw [HTL.out, HVL.out]; omega) (by rw [HDL.out, HCS.out]; omega)
  exact ⟨_, _, rfl, at_prefix _ _ R hg5.out (by rw [← HFIN.out, ← hR, HTL.out]), hb5⟩
set_option maxHeartbeats 4000000 in
set_option maxRecDepth 100000 in
theorem insert_grow (xs : List (Int × Int)) (v0 v1 : Int × Int) (n c k vb : Nat) (W w : World) (HB : Hid (Below W.heap.size W w)) (HV : Hid (w.heap[vb]? = some (.cells #[.int .i64 v0.1, .int .i64 v0.2, .int .i64 v1.1, .int .i64 v1.2] 41 (0, 0)))) (H1 : Hid (xs.length = n)) (hn : n ≤ 8796093021952) (g : Nat) (HO : Hid (w.ownsRow W.heap.size 41 2 (.slice (some ⟨g, 0, none⟩) n c) n (opShape.flat xs))) (hk : k < n) (hroom : c < n + 2) :
    Calls Try.prog 14 #[.slice (some ⟨g, 0, none⟩) n c, .int .i64 (k : Int), .slice (some ⟨vb, 0, none⟩) 2 2] w fun e w' => ∃ ra rc, e = .returned (.slice ra (n + 2) rc) ∧ opShape.At w' ra rc (xs.take k ++ [v0, v1] ++ xs.drop k) ∧ Below W.heap.size W w' := by
  obtain ⟨i0, hi, hz0, hz1, hz2⟩ := info_parts info_PinOp
  obtain ⟨cur, hg, hWg, hnc, hcm, hcs, htk⟩ : ∃ cur : Array Value, w.heap[g]? = some (.cells cur 41 (0, 0)) ∧ W.heap.size ≤ g ∧ n ≤ c ∧ c ≤ maxLen ∧ cur.size = c * 2 ∧ cur.toList.take (n * 2) = opShape.flat xs := by
    rcases HO.out.2 with ⟨e, h0⟩ | ⟨g', cap, cur, e, h1, h2, h3, h4, h5, h6⟩
    · simp at e
    · simp only [Value.slice.injEq, Option.some.injEq, Addr.mk.injEq, and_true, true_and] at e
      obtain ⟨rfl, rfl⟩ := e
      exact ⟨cur, h2, h1, h3, h4, h5, h6⟩
  have hc63 : c ≤ 9223372036854775807 := by unfold maxLen at hcm; omega
  have hgl : g < w.heap.size := (Array.getElem?_eq_some_iff.1 hg).1
  have hvl : vb < w.heap.size := (Array.getElem?_eq_some_iff.1 HV.out).1
  obtain ⟨T, hT⟩ : ∃ T, T = opShape.flat (xs.take k) := ⟨_, rfl⟩
  obtain ⟨D, hD⟩ : ∃ D, D = opShape.flat (xs.drop k) := ⟨_, rfl⟩
  obtain ⟨V, hV⟩ : ∃ V, V = opShape.flat [v0, v1] := ⟨_, rfl⟩
  have hxl := H1.out
  have hTl : T.length = k * 2 := by rw [hT, opShape.flat_len, List.length_take, hxl, Nat.min_eq_left (by omega)]; rfl
  have hDl : D.length = (n - k) * 2 := by rw [hD, opShape.flat_len, List.length_drop, hxl]; rfl
  have hVl : V.length = 2 * 2 := by rw [hV]; rfl
  have hTD : opShape.flat xs = T ++ D := by rw [hT, hD, ← opShape.flat_app, List.take_append_drop]
  have hV1 : ∀ u ∈ V, u.oneCell' = true := by rw [hV]; exact opShape.flat_one _
  have hD1 : ∀ u ∈ D, u.oneCell' = true := by rw [hD]; exact opShape.flat_one _
  have hfin : ∀ R, (T ++ V ++ D) ++ R = opShape.flat (xs.take k ++ [v0, v1] ++ xs.drop k) ++ R := fun R => by rw [flat_cut, hT, hV, hD]
  have hVc : ∀ j v, V[j]? = some v → w.cell? ⟨vb, j, none⟩ = some v := fun j v h => by
    rw [cell_of_row w vb _ _ _ _ HV.out, ← h, hV, ← Array.getElem?_toList]
    rfl
  have hgc : ∀ j v, (T ++ D)[j]? = some v → w.cell? ⟨g, j, none⟩ = some v := fun j v h => by
    have hj := (List.getElem?_eq_some_iff.1 h).1
    have hj2 : j < n * 2 := by rw [← hTD, opShape.flat_len, hxl] at hj; exact hj
    rw [cell_of_row w g _ _ _ _ hg, ← Array.getElem?_toList, ← h, ← hTD, ← htk, List.getElem?_take_of_lt hj2]
  have hTc : ∀ j v, T[j]? = some v → w.cell? ⟨g, j, none⟩ = some v := fun j v h => hgc j v (by rw [List.getElem?_append_left (List.getElem?_eq_some_iff.1 h).1]; exact h)
  have hDc : ∀ j v, D[j]? = some v → w.cell? ⟨g, k * 2 + j, none⟩ = some v := fun j v h => hgc _ v (by rw [← hTl, List.getElem?_append_right (by omega), Nat.add_sub_cancel_left]; exact h)
  have hw1 : IntKind.i64.wrap ((k : Int) + 2) = (k : Int) + 2 := by rw [IntKind.wrap_i64]; omega
  have hb1 : (0 : Int) ≤ (k : Int) + 2 := by omega
  have htn : ((k : Int) + 2).toNat = k + 2 := by omega
  have hb3 : (k : Int) ≤ (n : Int) + 2 := by omega
  have hb5 : (k : Int) + 2 ≤ (n : Int) + 2 := by omega
  have hci : ¬ (c = k) := by omega
  have hkn : ¬ ((k : Int) = (n : Int)) := by omega
  have hkn2 : ((k : Int) == (n : Int)) = false := by simp; omega
  have hkn3 : (k == n) = false := by simp; omega
  have hg2 : g ≠ w.heap.size := by omega
  have hvg : vb ≠ w.heap.size := by omega
  have hd1 : decide (c < n + 2) = true := by simp; omega
  have hd2 : decide ((c : Int) < (n : Int) + 2) = true := by simp; omega
  have hold : (Builtin.firstCells i0.size k (.slice (some ⟨g, 0, none⟩) k c)).run Try.prog w.drew = .ok T.toArray w.drew := by
    rw [hz1]
    exact run_firstCells_some w.drew 2 k ⟨g, 0, none⟩ k c T hTl (fun j v hj => by
      rw [Go.WideShapes.add_plain, Nat.zero_add]
      exact hTc j v hj)
  obtain ⟨G, hG⟩ : ∃ G, G = grownCap w (n + 2) c 41 := ⟨_, rfl⟩
  have hGn : n + 2 ≤ G := by rw [hG]; exact grownCap_ge w _ _ _
  have hG63 : G ≤ 9223372036854775807 := by
    have := grownCap_le_maxLen w (n + 2) c 41 (by unfold maxLen; omega)
    rw [← hG] at this
    unfold maxLen at this
    omega
  obtain ⟨Z, hZ, hZl⟩ : ∃ Z : List Value, Z = (Builtin.zeroCells (Value.agg #[.int .i64 0, .int .i64 0]).cells (n + 2 - k) ++ Builtin.zeroCells (Value.agg #[.int .i64 0, .int .i64 0]).cells (G - (n + 2))).toList ∧ Z.length = (G - k) * 2 := by
    refine ⟨_, rfl, ?_⟩
    simp [Builtin.zeroCells, Value.cells]
    omega
  have hrz : ∀ ty, (Builtin.append_ #[23, 3] ty #[.slice (some ⟨g, 0, none⟩) k c, .int .i64 ((n : Int) + 2 - (k : Int))]).run Try.prog w =
      .ok (.slice (some ⟨w.heap.size, 0, none⟩) (n + 2) G) (w.drew.alloc (.cells (T ++ Z).toArray 41)) := fun ty => by
    have h := Lib.run_append_grow_zeros w 23 3 ty 41 i0 _ .i64 .i64 Try.underlying23 Try.underlying3 hi hz0 (some ⟨g, 0, none⟩) k c T hold (n + 2 - k) (by omega) (by omega) (by omega) (by omega) (by rw [hz2]; omega)
      (by rw [hz2, show k + (n + 2 - k) = n + 2 by omega]; exact growslice_fits (by omega) (by omega))
    rw [show k + (n + 2 - k) = n + 2 by omega, ← hG] at h
    rw [show (n : Int) + 2 - (k : Int) = ((n + 2 - k : Nat) : Int) by omega, h, hZ]
    congr 2
    simp
  have hGi : ¬ (G = k) := by omega
  have hGim : ¬ (G = k + 2) := by omega
  have hb6 : (k : Int) ≤ (n : Int) := by omega
  have hb7 : (0 : Int) ≤ (n : Int) + 2 - (k : Int) := by omega
  have HT := Lib.hid hT
  have HFIN := Lib.hid hfin
  have HVC := Lib.hid hVc
  have HDC := Lib.hid hDc
  have HTL := Lib.hid hTl
  have HDL := Lib.hid hDl
  have HVL := Lib.hid hVl
  have HZL := Lib.hid hZl
  obtain ⟨W1, hW1⟩ : ∃ W1, W1 = w.drew.alloc (.cells (T ++ Z).toArray 41) := ⟨_, rfl⟩
  have HN : Hid (W1.heap[w.heap.size]? = some (.cells (T ++ Z).toArray 41 (0, 0))) := Lib.hid (by rw [hW1]; exact heap_alloc_new w.drew _)
  have HOLD : Hid (∀ b, b < w.heap.size → W1.heap[b]? = w.heap[b]?) := Lib.hid fun b hb => by rw [hW1]; exact Below.heap_alloc _ _ _ hb
  have HB1 : Hid (Below W.heap.size W W1) := Lib.hid (by rw [hW1]; exact HB.out.drew.alloc HB.out.size _)
  have hWs : W.heap.size ≤ w.heap.size := HB.out.size
  rw [← hW1] at hrz
  clear hT hD hV hxl hTl hDl hVl hTD hfin hVc hgc hTc hDc htk hcs hg hold hG hZ hZl hW1
  go_enter Try.func14, Try.ntmps14
  go_wp2_with (first
    | (at_builtin; refine Lib.wpList_append_run _ rfl _ _ _ _ rfl _ _ rfl rfl _ _ (hrz _) ?_)
    | (with_reducible refine wpList_copy_rowN (o := ⟨some 45, _, _, _, _, _⟩) rfl (.tmp 43) (.tmp 44) 23 23 rfl 41 i0 2 Try.underlying23 hi hz1 w.heap.size (k * 2) (n + 2 - k) (G - k) ⟨vb, 0, none⟩ 2 2 ?d1 ?d2 (T ++ Z) 41 HN.out V 2 ?d3 HVL.out ?d4 ?d5 hV1 W.heap.size W HB1.out hWs ?_)
    | fail)
  case d1 => rfl
  case d2 => rfl
  case d3 => exact Nat.min_eq_left (by omega)
  case d4 =>
    intro j v h
    rw [Go.WideShapes.add_plain, Nat.zero_add, World.cell?_of_block (w := w) (HOLD.out vb hvl)]
    exact HVC.out j v h
  case d5 =>
    rw [List.length_append, HVL.out, HTL.out, HZL.out]
    omega
  intro w4 hg4 hb4 ho4
  have HSL : Hid ((splice (T ++ Z) (k * 2) V).length = G * 2) := Lib.hid (by
    unfold splice
    simp
    rw [HVL.out, HTL.out, HZL.out]
    omega)
  go_wp2_with fail
  go_region_law (refine step_copy_rowN rfl _ _ 23 23 rfl 41 i0 2 Try.underlying23 hi hz1 w.heap.size ((k + 2) * 2) (n + 2 - (k + 2)) (G - (k + 2)) ⟨g, k * 2, none⟩ (n - k) (c - k) (by simp [Act.eval, Act.put]) (by simp [Act.eval, Act.put]) (splice (T ++ Z) (k * 2) V) 41 hg4.out D (n - k) (Nat.min_eq_left (by omega)) HDL.out (fun j v h => by rw [Go.WideShapes.add_plain]; exact (World.cell?_of_block (w := w) (a := ⟨g, k * 2 + j, none⟩) ((ho4.out g hg2).trans (HOLD.out g hgl))).trans (HDC.out j v h)) (by rw [HDL.out, HSL.out]; omega) hD1 W.heap.size W hb4.drew hWs ?_; intro w5 hg5 hb5 ho5; clear ho5)
  go_wp2_with fail
  go_ret
  obtain ⟨R, hR⟩ := splice_two T V D Z
  exact ⟨_, _, rfl, at_prefix _ _ R hg5.out (by rw [← HFIN.out, ← hR, HTL.out, HVL.out, show k * 2 + 2 * 2 = (k + 2) * 2 by omega]), hb5⟩
theorem insert_ops (xs : List (Int × Int)) (v0 v1 : Int × Int) (n c k vb : Nat) (W w : World) (sa : Option Addr) (HB : Hid (Below W.heap.size W w)) (HV : Hid (w.heap[vb]? = some (.cells #[.int .i64 v0.1, .int .i64 v0.2, .int .i64 v1.1, .int .i64 v1.2] 41 (0, 0)))) (H1 : Hid (xs.length = n)) (hn : n ≤ 8796093021952) (HO : Hid (w.ownsRow W.heap.size 41 2 (.slice sa n c) n (opShape.flat xs))) (hk : k ≤ n) (hvb : ∀ g, (Value.slice sa n c).ownBlock = some g → vb ≠ g) :
    Calls Try.prog 14 #[.slice sa n c, .int .i64 (k : Int), .slice (some ⟨vb, 0, none⟩) 2 2] w fun e w' => ∃ ra rc, e = .returned (.slice ra (n + 2) rc) ∧ opShape.At w' ra rc (xs.take k ++ [v0, v1] ++ xs.drop k) ∧ Below W.heap.size W w' := by
  by_cases h : k = n
  · subst h
    exact insert_end xs v0 v1 k c k vb W w sa HB HV H1 hn HO rfl
  · obtain ⟨g, rfl⟩ : ∃ g, sa = some ⟨g, 0, none⟩ := by
      rcases HO.out.2 with ⟨e, h0⟩ | ⟨g, cap, cur, e, _⟩
      · omega
      · simp only [Value.slice.injEq] at e
        exact ⟨g, e.1⟩
    by_cases hr : n + 2 ≤ c
    · exact insert_room xs v0 v1 n c k vb W w HB HV H1 hn g HO (by omega) hr (hvb g rfl)
    · exact insert_grow xs v0 v1 n c k vb W w HB HV H1 hn g HO (by omega) (by omega)
end Go.Proofs.Ytmldedkmmhnihaa
