/- slices.Values, Collect and Sorted of numbers, as contracts for a caller (XSofW without Compact). -/
import Derived.Test.YteabdbgllafafaaSofV
import Derived.Test.YteabdbgllafafaaSrtI
import Derived.Sort.OwnSortedInts
namespace Go.Proofs.Yteabdbgllafafaa
open Go.RowKit Go.Sort

theorem enc_one (zs : List Int) : zs.map (Value.int .i64) = shI.flat zs := (flat_map zs).symm
set_option maxHeartbeats 1000000 in
set_option maxRecDepth 100000 in
theorem values_N (a : Option Addr) (n c : Nat) (w : World) :
    Calls Try.prog 25 #[.slice a n c] w fun e w' => e = .returned (.func (.func 45) #[] #[.pointer (some ⟨w.heap.size, 0, none⟩)]) ∧ w' = w.alloc (.cells #[.slice a n c] 22) := by
  go_enter Try.func25, Try.ntmps25
  go_wp2_with fail
  go_ret
  exact ⟨rfl, rfl⟩
section
variable {ad : Option Addr} {cap n : Nat} {zs : List Int}
theorem appendSeq_N (Bs : Nat) (w0 w : World) (HA : Hid (shI.At w0 ad cap zs)) (hn : Hid (zs.length = n)) (HB : Hid (Below w0.heap.size w0 w)) (hz : n * 8 ≤ 140737488355328) (hBs : Bs < w.heap.size) (hc : w.cell? ⟨Bs, 0, none⟩ = some (.slice ad n cap)) :
    Calls Try.prog 52 #[.slice none 0 0, .func (.func 45) #[] #[.pointer (some ⟨Bs, 0, none⟩)]] w fun e w' =>
      ∃ v, e = .returned v ∧ w'.ownsRow w.heap.size 3 1 v n (shI.flat zs) ∧ (v = .slice none 0 0 ↔ zs = []) ∧ Below w.heap.size w w' := by
  have e := hn.out
  subst e
  refine (callsIn_wide.1 (appendSeq_come Fence.wide 3 trivial trivial rfl (by omega) Bs w0 w HA HB hz hBs hc)).mono ?_
  rintro e w' ⟨v, rfl, h1, h2, h3⟩
  exact ⟨v, rfl, by rw [← enc_one]; exact h1, h2, h3⟩
set_option maxHeartbeats 1000000 in
set_option maxRecDepth 100000 in
theorem collect_N (Bs : Nat) (w0 w : World) (HA : Hid (shI.At w0 ad cap zs)) (hn : Hid (zs.length = n)) (HB : Hid (Below w0.heap.size w0 w)) (hz : n * 8 ≤ 140737488355328) (hBs : Bs < w.heap.size) (hc : w.cell? ⟨Bs, 0, none⟩ = some (.slice ad n cap)) :
    Calls Try.prog 44 #[.func (.func 45) #[] #[.pointer (some ⟨Bs, 0, none⟩)]] w fun e w' =>
      ∃ v, e = .returned v ∧ w'.ownsRow w.heap.size 3 1 v n (shI.flat zs) ∧ (v = .slice none 0 0 ↔ zs = []) ∧ Below w.heap.size w w' := by
  go_enter Try.func44, Try.ntmps44
  go_wp2_with (first
    | (go_at_call 52; (with_reducible refine (appendSeq_N Bs w0 _ HA hn HB hz hBs hc).mono ?_); rintro e w1 ⟨v, rfl, h1, h2, h3⟩; have H1 := Lib.hid h1; have H2 := Lib.hid h2; have H3 := Lib.hid h3; clear h1 h2 h3)
    | fail)
  go_ret
  exact ⟨v, rfl, H1.out, H2.out, H3.out⟩
set_option maxHeartbeats 1000000 in
set_option maxRecDepth 100000 in
theorem sorted_0 (Bs : Nat) (w0 w : World) (HA : Hid (shI.At w0 ad cap zs)) (hn : Hid (zs.length = 0)) (HB : Hid (Below w0.heap.size w0 w)) (hBs : Bs < w.heap.size) (hc : w.cell? ⟨Bs, 0, none⟩ = some (.slice ad 0 cap)) :
    Calls Try.prog 24 #[.func (.func 45) #[] #[.pointer (some ⟨Bs, 0, none⟩)]] w fun e w' => e = .returned (.slice none 0 0) ∧ Below w.heap.size w w' := by
  have hz : 0 * 8 ≤ 140737488355328 := by omega
  go_enter Try.func24, Try.ntmps24
  go_wp2_with (first
    | (go_at_call 44; (with_reducible refine (collect_N Bs w0 _ HA hn HB hz hBs hc).mono ?_); rintro e w1 ⟨v, rfl, h1, h2, h3⟩; obtain rfl := h2.2 (List.eq_nil_of_length_eq_zero hn.out); have H3 := Lib.hid h3; clear h1 h2 h3)
    | (go_at_call 37; (with_reducible refine (sort_nil _ _ _).mono ?_); rintro e w2 ⟨rfl, rfl⟩)
    | fail)
  go_ret
  exact ⟨rfl, H3.out⟩
set_option maxHeartbeats 1000000 in
set_option maxRecDepth 100000 in
theorem sorted_N (Bs : Nat) (w0 w : World) (HA : Hid (shI.At w0 ad cap zs)) (hn : Hid (zs.length = n)) (h0 : 0 < n) (HB : Hid (Below w0.heap.size w0 w)) (hz : n * 8 ≤ 140737488355328) (hBs : Bs < w.heap.size) (hc : w.cell? ⟨Bs, 0, none⟩ = some (.slice ad n cap)) :
    Calls Try.prog 24 #[.func (.func 45) #[] #[.pointer (some ⟨Bs, 0, none⟩)]] w fun e w' =>
      ∃ g c, e = .returned (.slice (some ⟨g, 0, none⟩) n c) ∧ w'.ownsRow w.heap.size 3 1 (.slice (some ⟨g, 0, none⟩) n c) n (shI.flat (sortI zs)) ∧ Below w.heap.size w w' := by
  have e := hn.out
  subst e
  go_enter Try.func24, Try.ntmps24
  go_wp2_with (first
    | (go_at_call 44; (with_reducible refine (collect_N Bs w0 _ HA hn HB hz hBs hc).mono ?_); rintro e w1 ⟨v, rfl, h1, h2, h3⟩; have H1 := Lib.hid h1; have H3 := Lib.hid h3; clear h1 h2 h3)
    | fail)
  rcases H1.out.2 with ⟨_, hzz⟩ | ⟨gb, c, cur, rfl, hbase, hgb, r1, r2, r3, r4⟩
  · omega
  · have hH : Holds (Value.int .i64) w1 gb 0 zs.toArray := holds_of_blockI hgb (by rw [enc_one]; simpa using r4)
    have hgl : gb < w1.heap.size := (Array.getElem?_eq_some_iff.1 hgb).1
    have hsz : zs.length < 4611686018427387904 := by omega
    have HG := Lib.hid (fun (nn : Nat) (os : Array Obj) => (⟨ownsRow_sortedI (n := nn) (os := os) (ts := sortI zs) (sortI_len zs) hbase hgb r1 r2 r3, H3.out.grown (grownBy_sortedI (n := nn) (os := os) (sortI zs).toArray) H3.out.size (fun j hj => by cases hj; exact hbase)⟩ : (grow (putRow (Value.int .i64) (Sort.ahead w1 nn) gb 0 (sortI zs).toArray) os).ownsRow w.heap.size 3 1 (.slice (some ⟨gb, 0, none⟩) zs.length c) zs.length ((sortI zs).map (Value.int .i64)) ∧ Below w.heap.size w (grow (putRow (Value.int .i64) (Sort.ahead w1 nn) gb 0 (sortI zs).toArray) os)))
    have HH := Lib.hid hH
    clear hH r4 r3 H1
    go_wp2_with (first
      | (go_at_call 37; (with_reducible refine (sort_any gb 0 c zs _ HH.out hgl hsz).mono ?_); rintro e w2 ⟨rfl, nn, os, rfl⟩; have G2 := Lib.hid (HG.out nn os))
      | fail)
    go_ret
    exact ⟨gb, c, rfl, by rw [← enc_one]; exact G2.out.1, G2.out.2⟩
theorem sorted_all (Bs : Nat) (w0 w : World) (HA : Hid (shI.At w0 ad cap zs)) (hn : Hid (zs.length = n)) (HB : Hid (Below w0.heap.size w0 w)) (hz : n * 8 ≤ 140737488355328) (hBs : Bs < w.heap.size) (hc : w.cell? ⟨Bs, 0, none⟩ = some (.slice ad n cap)) :
    Calls Try.prog 24 #[.func (.func 45) #[] #[.pointer (some ⟨Bs, 0, none⟩)]] w fun e w' => ∃ ra rc, e = .returned (.slice ra n rc) ∧ shI.At w' ra rc (sortI zs) ∧ Below w.heap.size w w' := by
  by_cases h0 : 0 < n
  · refine (sorted_N Bs w0 w HA hn h0 HB hz hBs hc).mono ?_
    rintro e w' ⟨g, c, rfl, o, b⟩
    exact ⟨_, _, rfl, Shape.At.own (S := shI) o (by rw [sortI_len]; exact hn.out), b⟩
  · obtain rfl : n = 0 := by omega
    refine (sorted_0 Bs w0 w HA hn HB hBs hc).mono ?_
    rintro e w' ⟨rfl, b⟩
    refine ⟨none, 0, rfl, ?_, b⟩
    rw [List.eq_nil_of_length_eq_zero ((sortI_len zs).trans hn.out)]
    exact Shape.At.nil _
end
end Go.Proofs.Yteabdbgllafafaa
