/- slices.Values, Collect, Sorted and Compact of numbers, as contracts for a caller. -/
import Derived.Test.YtgnpodeneknpdaaSofV
import Derived.Test.YtgnpodeneknpdaaLaid
import Derived.Sort.OwnSortedInts
namespace Go.Proofs.Ytgnpodeneknpdaa
open Go.RowKit Go.Sort

theorem enc_one (zs : List Int) : zs.map (Value.int .i64) = shI.flat zs := (flat_map zs).symm
set_option maxHeartbeats 1000000 in
set_option maxRecDepth 100000 in
theorem values_N (a : Option Addr) (n c : Nat) (w : World) :
    Calls Try.prog 21 #[.slice a n c] w fun e w' => e = .returned (.func (.func 39) #[] #[.pointer (some ⟨w.heap.size, 0, none⟩)]) ∧ w' = w.alloc (.cells #[.slice a n c] 24) := by
  go_enter Try.func21, Try.ntmps21
  go_wp2_with fail
  go_ret
  exact ⟨rfl, rfl⟩
section
variable {ad : Option Addr} {cap n : Nat} {zs : List Int}
theorem appendSeq_N (Bs : Nat) (w0 w : World) (HA : Hid (shI.At w0 ad cap zs)) (hn : Hid (zs.length = n)) (HB : Hid (Below w0.heap.size w0 w)) (hz : n * 8 ≤ 140737488355328) (hBs : Bs < w.heap.size) (hc : w.cell? ⟨Bs, 0, none⟩ = some (.slice ad n cap)) :
    Calls Try.prog 48 #[.slice none 0 0, .func (.func 39) #[] #[.pointer (some ⟨Bs, 0, none⟩)]] w fun e w' =>
      ∃ v, e = .returned v ∧ w'.ownsRow w.heap.size 3 1 v n (shI.flat zs) ∧ (v = .slice none 0 0 ↔ zs = []) ∧ Below w.heap.size w w' := by
  have e := hn.out
  subst e
  refine (callsIn_wide.1 (appendSeq_come Fence.wide 3 trivial trivial rfl (by omega) Bs w0 w HA HB hz hBs hc)).mono ?_
  rintro e w' ⟨v, rfl, h1, h2, h3⟩
  exact ⟨v, rfl, by rw [← enc_one]; exact h1, h2, h3⟩
set_option maxHeartbeats 1000000 in
set_option maxRecDepth 100000 in
theorem collect_N (Bs : Nat) (w0 w : World) (HA : Hid (shI.At w0 ad cap zs)) (hn : Hid (zs.length = n)) (HB : Hid (Below w0.heap.size w0 w)) (hz : n * 8 ≤ 140737488355328) (hBs : Bs < w.heap.size) (hc : w.cell? ⟨Bs, 0, none⟩ = some (.slice ad n cap)) :
    Calls Try.prog 37 #[.func (.func 39) #[] #[.pointer (some ⟨Bs, 0, none⟩)]] w fun e w' =>
      ∃ v, e = .returned v ∧ w'.ownsRow w.heap.size 3 1 v n (shI.flat zs) ∧ (v = .slice none 0 0 ↔ zs = []) ∧ Below w.heap.size w w' := by
  go_enter Try.func37, Try.ntmps37
  go_wp2_with (first
    | (go_at_call 48; (with_reducible refine (appendSeq_N Bs w0 _ HA hn HB hz hBs hc).mono ?_); rintro e w1 ⟨v, rfl, h1, h2, h3⟩; have H1 := Lib.hid h1; have H2 := Lib.hid h2; have H3 := Lib.hid h3; clear h1 h2 h3)
    | fail)
  go_ret
  exact ⟨v, rfl, H1.out, H2.out, H3.out⟩
/-- The row in order. -/
abbrev sortI (zs : List Int) : List Int := zs.mergeSort fun x y => decide (x ≤ y)
theorem sortI_len (zs : List Int) : (sortI zs).length = zs.length := by simp [sortI]
set_option maxHeartbeats 1000000 in
set_option maxRecDepth 100000 in
theorem sorted_0 (Bs : Nat) (w0 w : World) (HA : Hid (shI.At w0 ad cap zs)) (hn : Hid (zs.length = 0)) (HB : Hid (Below w0.heap.size w0 w)) (hBs : Bs < w.heap.size) (hc : w.cell? ⟨Bs, 0, none⟩ = some (.slice ad 0 cap)) :
    Calls Try.prog 20 #[.func (.func 39) #[] #[.pointer (some ⟨Bs, 0, none⟩)]] w fun e w' => e = .returned (.slice none 0 0) ∧ Below w.heap.size w w' := by
  have hz : 0 * 8 ≤ 140737488355328 := by omega
  go_enter Try.func20, Try.ntmps20
  go_wp2_with (first
    | (go_at_call 37; (with_reducible refine (collect_N Bs w0 _ HA hn HB hz hBs hc).mono ?_); rintro e w1 ⟨v, rfl, h1, h2, h3⟩; obtain rfl := h2.2 (List.eq_nil_of_length_eq_zero hn.out); have H3 := Lib.hid h3; clear h1 h2 h3)
    | (go_at_call 38; (with_reducible refine (sort_nil _ _ _).mono ?_); rintro e w2 ⟨rfl, rfl⟩)
    | fail)
  go_ret
  exact ⟨rfl, H3.out⟩
set_option maxHeartbeats 1000000 in
set_option maxRecDepth 100000 in
theorem sorted_N (Bs : Nat) (w0 w : World) (HA : Hid (shI.At w0 ad cap zs)) (hn : Hid (zs.length = n)) (h0 : 0 < n) (HB : Hid (Below w0.heap.size w0 w)) (hz : n * 8 ≤ 140737488355328) (hBs : Bs < w.heap.size) (hc : w.cell? ⟨Bs, 0, none⟩ = some (.slice ad n cap)) :
    Calls Try.prog 20 #[.func (.func 39) #[] #[.pointer (some ⟨Bs, 0, none⟩)]] w fun e w' =>
      ∃ g c, e = .returned (.slice (some ⟨g, 0, none⟩) n c) ∧ w'.ownsRow w.heap.size 3 1 (.slice (some ⟨g, 0, none⟩) n c) n (shI.flat (sortI zs)) ∧ Below w.heap.size w w' := by
  have e := hn.out
  subst e
  go_enter Try.func20, Try.ntmps20
  go_wp2_with (first
    | (go_at_call 37; (with_reducible refine (collect_N Bs w0 _ HA hn HB hz hBs hc).mono ?_); rintro e w1 ⟨v, rfl, h1, h2, h3⟩; have H1 := Lib.hid h1; have H3 := Lib.hid h3; clear h1 h2 h3)
    | fail)
  rcases H1.out.2 with ⟨_, hzz⟩ | ⟨gb, c, cur, rfl, hbase, hgb, r1, r2, r3, r4⟩
  · omega
  · have hH : Holds (Value.int .i64) w1 gb 0 zs.toArray := holds_of_blockI hgb (by rw [enc_one]; simpa using r4)
    have hgl : gb < w1.heap.size := (Array.getElem?_eq_some_iff.1 hgb).1
    have hsz : zs.length < 4611686018427387904 := by omega
    have HG := Lib.hid (fun (nn : Nat) (os : Array Obj) => (⟨ownsRow_sortedI (n := nn) (os := os) (ts := sortI zs) (sortI_len zs) hbase hgb r1 r2 r3, H3.out.grown (grownBy_sortedI (n := nn) (os := os) (sortI zs).toArray) H3.out.size (fun j hj => by cases hj; exact hbase)⟩ : (grow (putRow (Value.int .i64) (Sort.ahead w1 nn) gb 0 (sortI zs).toArray) os).ownsRow w.heap.size 3 1 (.slice (some ⟨gb, 0, none⟩) zs.length c) zs.length ((sortI zs).map (Value.int .i64)) ∧ Below w.heap.size w (grow (putRow (Value.int .i64) (Sort.ahead w1 nn) gb 0 (sortI zs).toArray) os)))
    have HH := Lib.hid hH
    clear hH r4 r3 H1
    go_wp2_with (first
      | (go_at_call 38; (with_reducible refine (sort_any gb 0 c zs _ HH.out hgl hsz).mono ?_); rintro e w2 ⟨rfl, nn, os, rfl⟩; have G2 := Lib.hid (HG.out nn os))
      | fail)
    go_ret
    exact ⟨gb, c, rfl, by rw [← enc_one]; exact G2.out.1, G2.out.2⟩
theorem comp_len (zs : List Int) : (Lib.compact zs).length ≤ zs.length := by
  unfold Lib.compact Lib.compactUpTo
  rw [List.length_map]
  exact Nat.le_trans (List.length_filter_le _ _) (by simp)
/-- Compact of a row of the call's own. -/
theorem compact_N {base g c : Nat} (w : World) (hn : Hid (zs.length = n)) (h : Hid (w.ownsRow base 3 1 (.slice (some ⟨g, 0, none⟩) n c) n (shI.flat zs))) :
    Calls Try.prog 19 #[.slice (some ⟨g, 0, none⟩) n c] w fun e w' =>
      e = .returned (.slice (some ⟨g, 0, none⟩) (Lib.compact zs).length c) ∧ shI.At w' (some ⟨g, 0, none⟩) c (Lib.compact zs) ∧ w.grownBy w' (some g) ∧ base ≤ g := by
  have e := hn.out
  subst e
  rcases h.out.2 with ⟨he, _⟩ | ⟨gb, c', cur, hv, hbase, hgb, r1, r2, r3, r4⟩
  · cases he
  · simp only [Value.slice.injEq, Option.some.injEq, Addr.mk.injEq, and_true, true_and] at hv
    obtain ⟨rfl, rfl⟩ := hv
    have hH : Holds (Value.int .i64) w g 0 zs.toArray := holds_of_blockI hgb (by rw [enc_one]; simpa using r4)
    refine (compact_any g 0 c zs w hH (by have := r2; unfold maxLen at this; omega) r1).mono ?_
    rintro e w' ⟨rfl, q, rfl⟩
    have hl : (Lib.compact zs ++ List.replicate (zs.length - (Lib.compact zs).length) 0).length = zs.length := by
      have := comp_len zs
      simp
      omega
    have o := ownsRow_sortedI (n := q) (os := #[]) (ts := Lib.compact zs ++ List.replicate (zs.length - (Lib.compact zs).length) 0) hl hbase hgb r1 r2 r3
    have gg := grownBy_sortedI (w := w) (g := g) (n := q) (os := #[]) (Lib.compact zs ++ List.replicate (zs.length - (Lib.compact zs).length) 0).toArray
    rw [grow_empty] at o gg
    rw [enc_one] at o
    have a := (Shape.At.own (S := shI) o hl).take (Lib.compact zs).length
    rw [List.take_left' rfl] at a
    exact ⟨rfl, a, gg, hbase⟩
end
end Go.Proofs.Ytgnpodeneknpdaa
