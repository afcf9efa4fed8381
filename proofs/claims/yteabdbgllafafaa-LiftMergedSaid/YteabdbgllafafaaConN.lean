/- slices.Concat at two rows of numbers. -/
import Derived.Test.YteabdbgllafafaaGen
import Derived.Test.YteabdbgllafafaaNum
import Derived.Deep.AppendLies
namespace Go.Proofs.Yteabdbgllafafaa
open Go.RowKit

theorem pstep' {W w w' : World} (h : Below W.heap.size W w) (hb : Below w.heap.size w w') : Below W.heap.size W w' := h.trans (hb.mono h.size)
theorem bat2 {w w1 : World} (hb : Below w.heap.size w w1) (b : Nat) (h : b < w.heap.size) : (∀ o, w1.cell? ⟨b, o, none⟩ = w.cell? ⟨b, o, none⟩) ∧ b < w1.heap.size :=
  ⟨fun o => hb.cell (p := ⟨b, o, none⟩) h, Nat.lt_of_lt_of_le h hb.size⟩
theorem info_Int : (Try.prog.info? 3).map (fun i => (i.zero, i.size, i.bytes)) = some (some (.int .i64 0), 1, 8) := by kernel_rfl
set_option maxHeartbeats 4000000 in
set_option maxRecDepth 100000 in
theorem grow_Int (n : Nat) (x : Int) (HX : Hid (x = n)) (w : World) (hn0 : 0 < n) (hn : n ≤ 2097152) :
    Calls Try.prog 38 #[.slice none 0 0, .int .i64 x] w fun e w' => ∃ cap, e = .returned (.slice (some ⟨w.heap.size, 0, none⟩) 0 cap) ∧ w'.ownsRow w.heap.size 3 1 (.slice (some ⟨w.heap.size, 0, none⟩) 0 cap) 0 [] ∧ Below w.heap.size w w' := by
  have ex := HX.out
  subst ex
  obtain ⟨i0, hi, hz0, hz1, hz2⟩ := info_parts info_Int
  obtain ⟨cap, w2, hc1, hc2, hr, hown, hbl⟩ := run_grow_nil (P := Try.prog) (w := w) shI 22 3 22 3 i0 _ 8 Try.underlying22 Try.underlying3 hi hz0 hz1 hz2 rfl n hn0 (by unfold maxLen; omega) (by omega)
  have hc63 : cap ≤ 9223372036854775807 := by unfold maxLen at hc2; omega
  have h1 : ¬ ((n : Int) < 0) := by omega
  have h4 : (n : Int) > 0 := by omega
  have HO := Lib.hid hown
  have HB := Lib.hid hbl
  clear hown hbl HX
  go_enter Try.func38, Try.ntmps38
  go_wp2_with (at_builtin; refine Lib.wpList_append_run _ rfl _ _ _ _ rfl _ _ rfl rfl _ _ hr ?_)
  go_ret
  exact ⟨cap, rfl, HO.out, HB.out⟩
theorem grow0_Int (w : World) : Calls Try.prog 38 #[.slice none 0 0, .int .i64 0] w fun e w' => e = .returned (.slice none 0 0) ∧ w = w' := by
  go_enter Try.func38, Try.ntmps38
  go_wp2
  go_ret
  exact ⟨rfl, rfl⟩
set_option maxHeartbeats 4000000 in
set_option maxRecDepth 100000 in
theorem concat_Int_pos (xs ys : List (Int)) (sa1 sa2 : Option Addr) (n1 n2 c1 c2 q : Nat) (w : World) (HQ : Hid (w.heap[q]? = some (.cells #[.slice sa1 n1 c1, .slice sa2 n2 c2] 22 (0, 0)))) (H1 : Hid (xs.length = n1)) (H2 : Hid (ys.length = n2)) (HA : Hid (shI.At w sa1 c1 xs)) (HB : Hid (shI.At w sa2 c2 ys)) (h1 : n1 ≤ 1048576) (h2 : n2 ≤ 1048576) (h0 : 0 < n1 + n2) :
    Calls Try.prog 16 #[.slice (some ⟨q, 0, none⟩) 2 2] w fun e w' => ∃ ra rc, e = .returned (.slice ra (n1 + n2) rc) ∧ shI.At w' ra rc (xs ++ ys) ∧ Below w.heap.size w w' := by
  obtain ⟨i0, hi, hz0, hz1, hz2⟩ := info_parts info_Int
  have hql : q < w.heap.size := (Array.getElem?_eq_some_iff.1 HQ.out).1
  have q0 : w.cell? ⟨q, 0, none⟩ = some (.slice sa1 n1 c1) := by rw [cell_of_row w q _ _ _ _ HQ.out]; rfl
  have q1 : w.cell? ⟨q, 1, none⟩ = some (.slice sa2 n2 c2) := by rw [cell_of_row w q _ _ _ _ HQ.out]; rfl
  have HX : Hid ((n1 : Int) + (n2 : Int) = ((n1 + n2 : Nat) : Int)) := Lib.hid (by omega)
  have hx1 : decide ((n1 : Int) + (n2 : Int) < 0) = false := by simp; omega
  go_enter Try.func16, Try.ntmps16
  go_wp2_with fail
  refine wp_loop_rounds 3 ?_
  rw [rounds_succ]
  go_wp2_with fail
  rw [rounds_succ]
  go_wp2_with fail
  rw [rounds_succ]
  go_wp2_with (first
    | (go_at_call 38; (with_reducible refine (grow_Int (n1 + n2) _ HX _ h0 (by omega)).mono ?_); rintro e wg ⟨cap, rfl, own, hb⟩; have OWN := Lib.hid own; have BB := pstep' (Below.refl _ _) hb; have G1 := bat2 hb q hql; clear own hb)
    | fail)
  refine wp_loop_rounds 3 ?_
  rw [rounds_succ]
  go_wp2_with (first
    | (at_builtin; refine wpList_append_at shI rfl _ _ 22 rfl w.heap.size 3 i0 _ 8 Try.underlying22 hi hz0 hz1 hz2 rfl (.slice (some ⟨w.heap.size, 0, none⟩) 0 cap) [] xs rfl OWN.out sa1 n1 c1 rfl H1 (HA.out.step BB) ?h63 ?hby BB.size ?_)
    | fail)
  case h63 => simp; unfold maxLen; omega
  case hby => simp; omega
  intro ra rc w3 own3 grow3 hfresh3
  have B3 : Below w.heap.size w w3 := BB.grown grow3 BB.size (fun k hk => by simp [Value.ownBlock] at hk; omega)
  have q1' : w3.cell? ⟨q, 1, none⟩ = some (.slice sa2 n2 c2) := (B3.cell (p := ⟨q, 1, none⟩) hql).trans q1
  have own3' : w3.ownsRow w.heap.size 3 shI.size (.slice ra n1 rc) xs.length (shI.flat xs) := by rw [H1.out]; exact own3
  have OB3 : ∀ k, (Value.slice ra n1 rc).ownBlock = some k → w.heap.size ≤ k := fun k hk => (own3'.lt k hk).1
  have O3 := Lib.hid own3'
  have OB3' := Lib.hid OB3
  have hxl : xs.length ≤ 1048576 := by rw [H1.out]; omega
  clear grow3 hfresh3 own3 own3' OB3 OWN
  go_wp2_with fail
  rw [rounds_succ]
  go_wp2_with (first
    | (at_builtin; refine wpList_append_at shI rfl _ _ 22 rfl w.heap.size 3 i0 _ 8 Try.underlying22 hi hz0 hz1 hz2 rfl _ xs ys rfl O3.out sa2 n2 c2 rfl H2 (HB.out.step B3) (by unfold maxLen; omega) (by omega) B3.size ?_)
    | fail)
  intro ra2 rc2 w4 own4 grow4 hfresh4
  have B4 : Below w.heap.size w w4 := B3.grown grow4 B3.size OB3'.out
  have own4' : w4.ownsRow w.heap.size 3 shI.size (.slice ra2 (xs.length + n2) rc2) (xs ++ ys).length (shI.flat (xs ++ ys)) := by rw [List.length_append, H2.out]; exact own4
  have O4 := Lib.hid own4'
  have HE : Hid (xs.length + n2 = n1 + n2) := Lib.hid (by rw [H1.out])
  clear grow4 hfresh4 own4 own4' O3 OB3'
  rw [HE.out] at O4 ⊢
  go_wp2_with fail
  rw [rounds_succ]
  go_wp2_with fail
  go_ret
  obtain ⟨ra3, rc3, hv, hat⟩ := Shape.At.of_row O4.out
  simp only [Value.slice.injEq] at hv
  obtain ⟨rfl, _, rfl⟩ := hv
  exact ⟨_, _, rfl, hat, B4⟩
set_option maxHeartbeats 4000000 in
set_option maxRecDepth 100000 in
theorem concat_Int_zero (xs ys : List (Int)) (sa1 sa2 : Option Addr) ( c1 c2 q : Nat) (w : World) (HQ : Hid (w.heap[q]? = some (.cells #[.slice sa1 0 c1, .slice sa2 0 c2] 22 (0, 0)))) (H1 : Hid (xs.length = 0)) (H2 : Hid (ys.length = 0)) (HA : Hid (shI.At w sa1 c1 xs)) (HB : Hid (shI.At w sa2 c2 ys)) :
    Calls Try.prog 16 #[.slice (some ⟨q, 0, none⟩) 2 2] w fun e w' => ∃ ra rc, e = .returned (.slice ra 0 rc) ∧ shI.At w' ra rc (xs ++ ys) ∧ Below w.heap.size w w' := by
  obtain ⟨i0, hi, hz0, hz1, hz2⟩ := info_parts info_Int
  have hxs : xs = [] := List.eq_nil_of_length_eq_zero H1.out
  have hys : ys = [] := List.eq_nil_of_length_eq_zero H2.out
  have HXS : Hid (xs ++ ys = []) := Lib.hid (by rw [hxs, hys]; rfl)
  clear hxs hys
  have hql : q < w.heap.size := (Array.getElem?_eq_some_iff.1 HQ.out).1
  have q0 : w.cell? ⟨q, 0, none⟩ = some (.slice sa1 0 c1) := by rw [cell_of_row w q _ _ _ _ HQ.out]; rfl
  have q1 : w.cell? ⟨q, 1, none⟩ = some (.slice sa2 0 c2) := by rw [cell_of_row w q _ _ _ _ HQ.out]; rfl
  go_enter Try.func16, Try.ntmps16
  go_wp2_with fail
  refine wp_loop_rounds 3 ?_
  rw [rounds_succ]
  go_wp2_with fail
  rw [rounds_succ]
  go_wp2_with fail
  rw [rounds_succ]
  go_wp2_with (first
    | (go_at_call 38; (with_reducible refine (grow0_Int _).mono ?_); rintro e wg ⟨rfl, rfl⟩)
    | fail)
  refine wp_loop_rounds 3 ?_
  rw [rounds_succ]
  go_wp2_with (first
    | (at_builtin; refine wpList_append_at shI rfl _ _ 22 rfl w.heap.size 3 i0 _ 8 Try.underlying22 hi hz0 hz1 hz2 rfl (.slice none 0 0) [] xs rfl (World.ownsRow_nil w _ _ _) sa1 0 c1 rfl H1 HA.out (by decide) (by decide) (Nat.le_refl _) ?_)
    | fail)
  intro ra rc w3 own3 grow3 hfresh3
  have B3 : Below w.heap.size w w3 := (Below.refl _ _).grown grow3 (Nat.le_refl _) (fun k hk => by simp [Value.ownBlock] at hk)
  have q1' : w3.cell? ⟨q, 1, none⟩ = some (.slice sa2 0 c2) := (B3.cell (p := ⟨q, 1, none⟩) hql).trans q1
  have own3' : w3.ownsRow w.heap.size 3 shI.size (.slice ra 0 rc) xs.length (shI.flat xs) := by rw [H1.out]; exact own3
  have OB3 : ∀ k, (Value.slice ra 0 rc).ownBlock = some k → w.heap.size ≤ k := fun k hk => (own3'.lt k hk).1
  have O3 := Lib.hid own3'
  have OB3' := Lib.hid OB3
  have hxl : xs.length ≤ 1048576 := by rw [H1.out]; omega
  clear grow3 hfresh3 own3 own3' OB3
  go_wp2_with fail
  rw [rounds_succ]
  go_wp2_with (first
    | (at_builtin; refine wpList_append_at shI rfl _ _ 22 rfl w.heap.size 3 i0 _ 8 Try.underlying22 hi hz0 hz1 hz2 rfl _ xs ys rfl O3.out sa2 0 c2 rfl H2 (HB.out.step B3) (by unfold maxLen; omega) (by omega) B3.size ?_)
    | fail)
  intro ra2 rc2 w4 own4 grow4 hfresh4
  have B4 : Below w.heap.size w w4 := B3.grown grow4 B3.size OB3'.out
  have own4' : w4.ownsRow w.heap.size 3 shI.size (.slice ra2 xs.length rc2) (xs ++ ys).length (shI.flat (xs ++ ys)) := by rw [List.length_append, H2.out]; exact own4
  have O4 := Lib.hid own4'
  have HE : Hid (xs.length = 0) := H1
  clear grow4 hfresh4 own4 own4' O3 OB3'
  rw [HE.out] at O4 ⊢
  go_wp2_with fail
  rw [rounds_succ]
  go_wp2_with fail
  go_ret
  obtain ⟨ra3, rc3, hv, hat⟩ := Shape.At.of_row O4.out
  simp only [Value.slice.injEq] at hv
  obtain ⟨rfl, _, rfl⟩ := hv
  exact ⟨_, _, rfl, hat, B4⟩
theorem concat_Int (xs ys : List (Int)) (sa1 sa2 : Option Addr) (n1 n2 c1 c2 q : Nat) (w : World) (HQ : Hid (w.heap[q]? = some (.cells #[.slice sa1 n1 c1, .slice sa2 n2 c2] 22 (0, 0)))) (H1 : Hid (xs.length = n1)) (H2 : Hid (ys.length = n2)) (HA : Hid (shI.At w sa1 c1 xs)) (HB : Hid (shI.At w sa2 c2 ys)) (h1 : n1 ≤ 1048576) (h2 : n2 ≤ 1048576) (m : Nat) (hm : Hid (m = n1 + n2)) :
    Calls Try.prog 16 #[.slice (some ⟨q, 0, none⟩) 2 2] w fun e w' => ∃ ra rc, e = .returned (.slice ra m rc) ∧ shI.At w' ra rc (xs ++ ys) ∧ Below w.heap.size w w' := by
  have em := hm.out
  subst em
  by_cases h0 : 0 < n1 + n2
  · exact concat_Int_pos xs ys sa1 sa2 n1 n2 c1 c2 q w HQ H1 H2 HA HB h1 h2 h0
  · obtain rfl : n1 = 0 := by omega
    obtain rfl : n2 = 0 := by omega
    exact concat_Int_zero xs ys sa1 sa2 c1 c2 q w HQ H1 H2 HA HB
end Go.Proofs.Yteabdbgllafafaa
