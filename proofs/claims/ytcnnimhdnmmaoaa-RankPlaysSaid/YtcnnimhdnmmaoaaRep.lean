/- slices.Repeat of one number, and math/bits.Mul under it. -/
import Derived.Test.YtcnnimhdnmmaoaaNum
import Derived.Test.YtcnnimhdnmmaoaaCopy
import Derived.Deep.RegionLaw
namespace Go.Proofs.Ytcnnimhdnmmaoaa
open Go.RowKit

set_option maxHeartbeats 1000000 in
theorem mul64_1 (n : Nat) (hn : n ≤ 16) (w : World) : Calls Try.prog 33 #[.int .u64 1, .int .u64 n] w fun e w' => e = .returned (.tuple #[.int .u64 0, .int .u64 n]) ∧ w = w' := by
  obtain h | h | h | h | h | h | h | h | h | h | h | h | h | h | h | h | h : n = 0 ∨ n = 1 ∨ n = 2 ∨ n = 3 ∨ n = 4 ∨ n = 5 ∨ n = 6 ∨ n = 7 ∨ n = 8 ∨ n = 9 ∨ n = 10 ∨ n = 11 ∨ n = 12 ∨ n = 13 ∨ n = 14 ∨ n = 15 ∨ n = 16 := by omega
  all_goals subst h
  all_goals go_enter Try.func33, Try.ntmps33
  all_goals go_wp2_with fail
  all_goals go_ret2
  all_goals exact ⟨rfl, rfl⟩
set_option maxHeartbeats 1000000 in
theorem mul_1 (n : Nat) (hn : n ≤ 16) (w : World) : Calls Try.prog 26 #[.int .u64 1, .int .u64 n] w fun e w' => e = .returned (.tuple #[.int .u64 0, .int .u64 n]) ∧ w = w' := by
  go_enter Try.func26, Try.ntmps26
  go_wp2_with (first
    | (go_at_call 33; (with_reducible refine (mul64_1 n hn _).mono ?_); rintro e w1 ⟨rfl, rfl⟩)
    | fail)
  go_ret2
  exact ⟨rfl, rfl⟩
/-- m numbers v, then nothing yet. -/
def repL (v : Int) (m n : Nat) : List Value := List.replicate m (.int .i64 v) ++ List.replicate (n - m) (.int .i64 0)
theorem repL_len (v : Int) {m n : Nat} (h : m ≤ n) : (repL v m n).length = n := by simp [repL]; omega
theorem repL_splice (v : Int) {m k n : Nat} (h : m + k ≤ n) : splice (repL v m n) m (List.replicate k (.int .i64 v)) = repL v (m + k) n := by
  unfold splice repL
  rw [List.take_left' (by simp), List.length_replicate, List.drop_append, List.drop_eq_nil_of_le (by simp), List.nil_append, List.length_replicate, List.drop_replicate, ← List.replicate_append_replicate, List.append_assoc]
  congr 3
  omega
theorem repL_at (v : Int) {m n i : Nat} (hi : i < m) : (repL v m n)[i]? = some (.int .i64 v) := by
  unfold repL
  rw [List.getElem?_append_left (by simpa using hi)]
  simp [hi]
theorem made_int (n : Nat) : (madeCells #[Value.int .i64 0] n).toList = List.replicate n (.int .i64 0) := by
  refine List.ext_getElem? fun i => ?_
  unfold madeCells
  rw [Array.getElem?_toList, Array.getElem?_map]
  by_cases h : i < n
  · rw [Array.getElem?_range, if_pos (by omega), List.getElem?_replicate, if_pos h]
    show some ((#[Value.int .i64 0] : Array Value)[i % 1]!) = _
    rw [Nat.mod_one]
    rfl
  · rw [Array.getElem?_range, if_neg (by omega), List.getElem?_replicate, if_neg h]
    rfl
theorem made_row {w : World} {base B n cap : Nat} (h : w.ownsRow base 3 1 (.slice (some ⟨B, 0, none⟩) n n) n (madeCells #[Value.int .i64 0] n).toList) (v : Int) (_ : cap = n) : w.heap[B]? = some (.cells (repL v 0 n).toArray 3 (0, 0)) := by
  obtain ⟨h1, h2⟩ := h
  rcases h2 with ⟨h2, _⟩ | ⟨g, cp, cur, e, _, hc, _, _, hsz, ht⟩
  · cases h2
  · simp only [Value.slice.injEq, Option.some.injEq, Addr.mk.injEq, and_true, true_and] at e
    obtain ⟨rfl, rfl⟩ := e
    rw [made_int, List.take_of_length_le (by simp; omega)] at ht
    rw [hc, ← Array.toArray_toList (xs := cur), ht]
    simp [repL]
set_option maxHeartbeats 2000000 in
set_option maxRecDepth 100000 in
theorem repeat_N (v : Int) (n : Nat) (h1 : 1 ≤ n) (hn : n ≤ 16) {b : Nat} (w : World) (hx : Hid (w.cell? ⟨b, 0, none⟩ = some (.int .i64 v))) (hb : b < w.heap.size) :
    Calls Try.prog 18 #[.slice (some ⟨b, 0, none⟩) 1 1, .int .i64 n] w fun e w' => ∃ H, e = .returned (.slice (some ⟨H, 0, none⟩) n n) ∧ w.heap.size ≤ H ∧ RowZ w' H n (fun _ => v) ∧ Below w.heap.size w w' := by
  obtain ⟨i0, hi, hz0, hz1, hz2⟩ := info_parts' info_int
  have hwu : IntKind.u64.wrap (n : Int) = (n : Int) := by rw [IntKind.wrap_u64]; omega
  have hwi : IntKind.i64.wrap (n : Int) = (n : Int) := by rw [IntKind.wrap_i64]; omega
  have c1 : i0.bytes * n ≤ 281474976710656 := by rw [hz2]; omega
  have hd1 : decide ((n : Int) < 0) = false := decide_eq_false (by omega)
  have hd2 : decide ((9223372036854775807 : Int) < (n : Int)) = false := decide_eq_false (by omega)
  have c2 : n ≤ maxLen := by unfold maxLen; omega
  have hV1 : ∀ x ∈ [Value.int .i64 v], x.oneCell' = true := fun x hx => by simp at hx; subst hx; rfl
  go_enter Try.func18, Try.ntmps18
  go_wp2_with (first
    | (go_at_call 26; (with_reducible refine (mul_1 n hn _).mono ?_); rintro e w1 ⟨rfl, rfl⟩)
    | (at_make; refine wpList_make_full _ rfl _ _ 24 rfl w.heap.size 3 i0 _ 1 Try.underlying24 hi hz0 hz1 .i64 .i64 _ _ n rfl rfl rfl rfl c1 c2 (Nat.le_refl _) ?_)
    | fail)
  intro w1 hown hgrow
  have HB1 := Lib.hid ((Below.refl w.heap.size w).grown hgrow (Nat.le_refl _) (fun k hk => by cases hk))
  have HG := Lib.hid (made_row (cap := n) hown v rfl)
  have HX1 := Lib.hid ((HB1.out.cell (p := ⟨b, 0, none⟩) hb).trans hx.out)
  have hsrc : ∀ j x, [Value.int .i64 v][j]? = some x → w1.cell? (Addr.add ⟨b, 0, none⟩ j) = some x := fun j x hj => by
    obtain rfl : j = 0 := by
      by_cases h : j = 0
      · exact h
      · rw [List.getElem?_singleton, if_neg h] at hj; cases hj
    rw [Go.WideShapes.add_plain]
    simp at hj
    subst hj
    exact HX1.out
  have HS := Lib.hid hsrc
  have hbl : b < w1.heap.size := Nat.lt_of_lt_of_le hb HB1.out.size
  clear hown hgrow hsrc
  go_wp2_with (first
    | (with_reducible refine wpList_copy_rowN (o := ⟨some 33, _, _, _, _, _⟩) rfl (.tmp 31) (.tmp 32) 24 24 rfl 3 i0 1 Try.underlying24 hi hz1 w.heap.size 0 n n ⟨b, 0, none⟩ 1 1 ?d1 ?d2 (repL v 0 n) 3 HG.out [.int .i64 v] 1 ?d3 ?d4 HS.out ?d5 hV1 w.heap.size w HB1.out ?d6 ?_)
    | fail)
  case d1 => rfl
  case d2 => rfl
  case d3 => exact Nat.min_eq_left h1
  case d4 => rfl
  case d5 => rw [repL_len _ (Nat.zero_le _)]; simpa using h1
  case d6 => exact Nat.le_refl _
  intro w2 hg2 hb2 _
  have hg2' := hg2.out
  rw [show [Value.int .i64 v] = List.replicate 1 (Value.int .i64 v) from rfl, repL_splice v (by omega)] at hg2'
  have H2 := Lib.hid hg2'
  have B2 := Lib.hid hb2
  clear hg2 hg2' hb2 HG HX1 HS hx
  go_wp2_with fail
  go_loopw [8] (fun i wr => ∃ m : Nat, 1 ≤ m ∧ m ≤ n ∧ i = .int .i64 m ∧ Hid (wr.heap[w.heap.size]? = some (.cells (repL v m n).toArray 3 (0, 0))) ∧ Hid (Below w.heap.size w wr)) (fun i _ => n - (intOf i).toNat)
  case atStart => exact ⟨1, Nat.le_refl _, h1, rfl, H2, B2⟩
  case round =>
    clear H2 B2 HB1
    obtain ⟨m, hm1, hm, rfl, HG, HB⟩ := hrel
    by_cases hlt : m < n
    · have hwm : IntKind.i64.wrap (m : Int) = (m : Int) := by rw [IntKind.wrap_i64]; omega
      have hnm : ¬ n = m := by omega
      obtain ⟨k, hk⟩ : ∃ k, Nat.min m (n - m) = k := ⟨_, rfl⟩
      have hk1 : 1 ≤ k ∧ m + k ≤ n ∧ k ≤ m := by rw [← hk]; simp only [Nat.min_def]; split <;> omega
      obtain ⟨hk1, hk2, hk3⟩ := hk1
      have hwk : IntKind.i64.wrap ((m : Int) + (k : Int)) = (m : Int) + (k : Int) := by rw [IntKind.wrap_i64]; omega
      have hg0 : wr.heap[w.heap.size]? = some (.cells (repL v m n).toArray 3 (0, 0)) := HG.out
      have hsrc : ∀ j x, (List.replicate k (Value.int .i64 v))[j]? = some x → wr.drew.cell? (Addr.add ⟨w.heap.size, 0, none⟩ j) = some x := fun j x hj => by
        have hjk : j < k := by have := (List.getElem?_eq_some_iff.1 hj).1; simpa using this
        rw [List.getElem?_replicate, if_pos hjk] at hj
        rw [Go.WideShapes.add_plain, Nat.zero_add]
        refine (cell_of_row (w := wr.drew) _ _ _ _ _ hg0).trans ?_
        rw [List.getElem?_toArray, repL_at v (by omega)]
        exact hj
      have HS := Lib.hid hsrc
      have hVk : ∀ x ∈ List.replicate k (Value.int .i64 v), x.oneCell' = true := fun x hx => by rw [List.eq_of_mem_replicate hx]; rfl
      clear hsrc hg0
      go_wp2_with fail
      go_region_law (refine step_copy_rowN rfl _ _ 24 24 rfl 3 i0 1 Try.underlying24 hi hz1 w.heap.size m (n - m) (n - m) ⟨w.heap.size, 0, none⟩ m n (by simp [Act.eval, Act.put]) (by simp [Act.eval, Act.put]) (repL v m n) 3 HG.out (List.replicate k (.int .i64 v)) k hk (by simp) HS.out (by rw [repL_len v hm]; simpa using hk2) hVk w.heap.size w HB.out.drew (Nat.le_refl _) ?_; intro w4 hg4 hb4 ho4; clear ho4)
      have hg4' := hg4.out
      rw [repL_splice v hk2] at hg4'
      have H4 := Lib.hid hg4'
      have B4 := Lib.hid hb4
      clear hg4 hg4' hb4
      go_wp2_with fail
      simp only [List.getElem_toArray, List.getElem_cons_succ, List.getElem_cons_zero, Act.put, List.setIfInBounds_toArray, List.set_cons_succ, List.set_cons_zero]
      go_roundw
      case rel => exact ⟨m + k, by omega, hk2, by go_num, H4, B4⟩
      case measure => simp [intOf]; omega
    · obtain rfl : m = n := by omega
      have hrow : RowZ wr w.heap.size m (fun _ => v) := ⟨_, HG.out, fun i hi => by rw [List.getElem?_toArray]; exact repL_at v hi⟩
      have HR := Lib.hid hrow
      clear hrow
      go_wp2_with fail
      go_ret
      exact ⟨_, rfl, Nat.le_refl _, HR.out, HB.out⟩
end Go.Proofs.Ytcnnimhdnmmaoaa
