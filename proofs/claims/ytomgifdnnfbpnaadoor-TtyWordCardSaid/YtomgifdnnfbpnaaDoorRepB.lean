/- slices.Repeat of one byte, at most nine times; math/bits.Mul under it. -/
import Derived.Test.YtomgifdnnfbpnaaDoorConX
import Derived.Test.YtomgifdnnfbpnaaDoorCopy
import Derived.Deep.RegionLaw
namespace Go.Proofs.YtomgifdnnfbpnaaDoor
open Go.RowKit

set_option maxHeartbeats 4000000 in
theorem mul64_1 (n : Nat) (hn : n ≤ 9) (w : World) : Calls Tryd.prog 40 #[.int .u64 1, .int .u64 n] w fun e w' => e = .returned (.tuple #[.int .u64 0, .int .u64 n]) ∧ w = w' := by
  obtain h | h | h | h | h | h | h | h | h | h : n = 0 ∨ n = 1 ∨ n = 2 ∨ n = 3 ∨ n = 4 ∨ n = 5 ∨ n = 6 ∨ n = 7 ∨ n = 8 ∨ n = 9 := by omega
  all_goals subst h
  all_goals go_enter Tryd.func40, Tryd.ntmps40
  all_goals go_wp2_with fail
  all_goals go_ret2
  all_goals exact ⟨rfl, rfl⟩
set_option maxHeartbeats 1000000 in
theorem mul_1 (n : Nat) (hn : n ≤ 9) (w : World) : Calls Tryd.prog 34 #[.int .u64 1, .int .u64 n] w fun e w' => e = .returned (.tuple #[.int .u64 0, .int .u64 n]) ∧ w = w' := by
  go_enter Tryd.func34, Tryd.ntmps34
  go_wp2_with (first
    | (go_at_call 40; (with_reducible refine (mul64_1 n hn _).mono ?_); rintro e w1 ⟨rfl, rfl⟩)
    | fail)
  go_ret2
  exact ⟨rfl, rfl⟩
/-- m bytes v, then nothing yet. -/
def repB (v : UInt8) (m n : Nat) : List Value := shB.flat (List.replicate m v ++ List.replicate (n - m) 0)
theorem repB_len (v : UInt8) {m n : Nat} (h : m ≤ n) : (repB v m n).length = n := by
  unfold repB
  rw [Shape.flat_len, List.length_append, List.length_replicate, List.length_replicate]
  show (m + (n - m)) * 1 = n
  omega
theorem repB_splice (v : UInt8) {m k n : Nat} (h : m + k ≤ n) : splice (repB v m n) m (shB.flat (List.replicate k v)) = repB v (m + k) n := by
  have hl : ∀ (j : Nat) (u : UInt8), (shB.flat (List.replicate j u)).length = j := fun j u => by rw [Shape.flat_len, List.length_replicate]; exact Nat.mul_one j
  unfold splice repB
  rw [Shape.flat_app, List.take_left' (hl m v), hl, List.drop_append, List.drop_eq_nil_of_le (by rw [hl]; omega), List.nil_append, hl, ← List.replicate_append_replicate, Shape.flat_app, Shape.flat_app, List.append_assoc]
  congr 2
  have e : List.replicate (n - m) (0 : UInt8) = List.replicate k 0 ++ List.replicate (n - (m + k)) 0 := by
    rw [List.replicate_append_replicate]
    congr 1
    omega
  rw [e, Shape.flat_app, List.drop_append, List.drop_eq_nil_of_le (by rw [hl]; omega), List.nil_append, hl, show m + k - m - k = 0 by omega, List.drop_zero]
theorem flat_zeroB : ∀ n, shB.flat (List.replicate n 0) = List.replicate n (.int .u8 0)
  | 0 => rfl
  | n + 1 => by
    rw [List.replicate_succ, show shB.flat (0 :: List.replicate n 0) = shB.enc 0 ++ shB.flat (List.replicate n 0) from rfl, flat_zeroB n, List.replicate_succ]
    rfl
theorem made_b (n : Nat) : (madeCells #[Value.int .u8 0] n).toList = List.replicate n (.int .u8 0) := by
  refine List.ext_getElem? fun i => ?_
  unfold madeCells
  rw [Array.getElem?_toList, Array.getElem?_map]
  by_cases h : i < n
  · rw [Array.getElem?_range, if_pos (by omega), List.getElem?_replicate, if_pos h]
    show some ((#[Value.int .u8 0] : Array Value)[i % 1]!) = _
    rw [Nat.mod_one]
    rfl
  · rw [Array.getElem?_range, if_neg (by omega), List.getElem?_replicate, if_neg h]
    rfl
theorem made_rowB {w : World} {base B n : Nat} (h : w.ownsRow base 5 1 (.slice (some ⟨B, 0, none⟩) n n) n (madeCells #[Value.int .u8 0] n).toList) (v : UInt8) : w.heap[B]? = some (.cells (repB v 0 n).toArray 5 (0, 0)) := by
  obtain ⟨h1, h2⟩ := h
  rcases h2 with ⟨h2, _⟩ | ⟨g, cp, cur, e, _, hc, _, _, hsz, ht⟩
  · cases h2
  · simp only [Value.slice.injEq, Option.some.injEq, Addr.mk.injEq, and_true, true_and] at e
    obtain ⟨rfl, rfl⟩ := e
    rw [made_b, List.take_of_length_le (by simp; omega)] at ht
    rw [hc, ← Array.toArray_toList (xs := cur), ht]
    simp [repB, flat_zeroB]
set_option maxHeartbeats 2000000 in
set_option maxRecDepth 100000 in
theorem repeat_B (v : UInt8) (n : Nat) (hn : n ≤ 9) {b : Nat} (w : World) (hx : Hid (shB.At w (some ⟨b, 0, none⟩) 1 [v])) :
    Calls Tryd.prog 25 #[.slice (some ⟨b, 0, none⟩) 1 1, .int .i64 n] w fun e w' => ∃ H, e = .returned (.slice (some ⟨H, 0, none⟩) n n) ∧ shB.At w' (some ⟨H, 0, none⟩) n (List.replicate n v) ∧ Below w.heap.size w w' := by
  obtain ⟨i0, hi, hz0, hz1, hz2⟩ := info_parts' info_byte
  have hwu : IntKind.u64.wrap (n : Int) = (n : Int) := by rw [IntKind.wrap_u64]; omega
  have hwi : IntKind.i64.wrap (n : Int) = (n : Int) := by rw [IntKind.wrap_i64]; omega
  have c1 : i0.bytes * n ≤ 281474976710656 := by rw [hz2]; omega
  have hd1 : decide ((n : Int) < 0) = false := decide_eq_false (by omega)
  have hd2 : decide ((9223372036854775807 : Int) < (n : Int)) = false := decide_eq_false (by omega)
  have c2 : n ≤ maxLen := by unfold maxLen; omega
  obtain ⟨k0, hk0⟩ : ∃ k, Nat.min 1 n = k := ⟨_, rfl⟩
  have hk0' : k0 ≤ n ∧ k0 ≤ 1 ∧ (0 < n → 1 ≤ k0) := by rw [← hk0]; simp only [Nat.min_def]; split <;> omega
  obtain ⟨hk1, hk2, hk3⟩ := hk0'
  have hV1 : ∀ x ∈ shB.flat (List.replicate k0 v), x.oneCell' = true := shB.flat_one _
  have hkl0 : (shB.flat (List.replicate k0 v)).length = k0 * 1 := by rw [Shape.flat_len, List.length_replicate]; rfl
  go_enter Tryd.func25, Tryd.ntmps25
  go_wp2_with (first
    | (go_at_call 34; (with_reducible refine (mul_1 n hn _).mono ?_); rintro e w1 ⟨rfl, rfl⟩)
    | (at_make; refine wpList_make_full _ rfl _ _ 23 rfl w.heap.size 5 i0 _ 1 Tryd.underlying23 hi hz0 hz1 .i64 .i64 _ _ n rfl rfl rfl rfl c1 c2 (Nat.le_refl _) ?_)
    | fail)
  intro w1 hown hgrow
  have HB1 := Lib.hid ((Below.refl w.heap.size w).grown hgrow (Nat.le_refl _) (fun k hk => by cases hk))
  have HG := Lib.hid (made_rowB hown v)
  have HX1 := Lib.hid (hx.out.step HB1.out)
  have hsrc : ∀ j x, (shB.flat (List.replicate k0 v))[j]? = some x → w1.cell? (Addr.add ⟨b, 0, none⟩ j) = some x := fun j x hj => by
    obtain ⟨b', off, e, _, hl⟩ := HX1.out.2 (Nat.zero_lt_one)
    cases e
    have hj3 := (List.getElem?_eq_some_iff.1 hj).1
    rw [hkl0] at hj3
    obtain rfl : j = 0 := by omega
    obtain rfl : k0 = 1 := by omega
    rw [Go.WideShapes.add_plain, hl 0 Nat.zero_lt_one]
    exact hj
  have HS := Lib.hid hsrc
  clear hown hgrow hsrc
  go_wp2_with (first
    | (with_reducible refine wpList_copy_rowN (o := ⟨some 33, _, _, _, _, _⟩) rfl (.tmp 31) (.tmp 32) 23 23 rfl 5 i0 1 Tryd.underlying23 hi hz1 w.heap.size 0 n n ⟨b, 0, none⟩ 1 1 ?d1 ?d2 (repB v 0 n) 5 HG.out (shB.flat (List.replicate k0 v)) k0 ?d3 ?d4 HS.out ?d5 hV1 w.heap.size w HB1.out ?d6 ?_)
    | fail)
  case d1 => rfl
  case d2 => rfl
  case d3 => exact hk0
  case d4 => exact hkl0
  case d5 => rw [repB_len _ (Nat.zero_le _), hkl0]; omega
  case d6 => exact Nat.le_refl _
  intro w2 hg2 hb2 _
  have hg2' := hg2.out
  rw [show splice (repB v 0 n) 0 (shB.flat (List.replicate k0 v)) = repB v k0 n from by
    have := repB_splice v (m := 0) (k := k0) (n := n) (by omega)
    simpa using this] at hg2'
  have H2 := Lib.hid hg2'
  have B2 := Lib.hid hb2
  clear hg2 hg2' hb2 HG HX1 HS hx
  go_wp2_with fail
  go_loopw [8] (fun i wr => ∃ m : Nat, (0 < n → 1 ≤ m) ∧ m ≤ n ∧ i = .int .i64 m ∧ Hid (wr.heap[w.heap.size]? = some (.cells (repB v m n).toArray 5 (0, 0))) ∧ Hid (Below w.heap.size w wr)) (fun i _ => n - (intOf i).toNat)
  case atStart => exact ⟨k0, hk3, hk1, rfl, H2, B2⟩
  case round =>
    clear H2 B2 HB1 hk0 hk1 hk2 hk3 hV1 hkl0
    obtain ⟨m, hm0, hm, rfl, HG, HB⟩ := hrel
    by_cases hlt : m < n
    · have hm1 : 1 ≤ m := hm0 (by omega)
      clear hm0
      have hwm : IntKind.i64.wrap (m : Int) = (m : Int) := by rw [IntKind.wrap_i64]; omega
      have hnm : ¬ n = m := by omega
      obtain ⟨k, hk⟩ : ∃ k, Nat.min m (n - m) = k := ⟨_, rfl⟩
      have hk1 : 1 ≤ k ∧ m + k ≤ n ∧ k ≤ m := by rw [← hk]; simp only [Nat.min_def]; split <;> omega
      obtain ⟨hk1, hk2, hk3⟩ := hk1
      have hwk : IntKind.i64.wrap ((m : Int) + (k : Int)) = (m : Int) + (k : Int) := by rw [IntKind.wrap_i64]; omega
      have hg0 : wr.heap[w.heap.size]? = some (.cells (repB v m n).toArray 5 (0, 0)) := HG.out
      have hkl : (shB.flat (List.replicate k v)).length = k * 1 := by rw [Shape.flat_len, List.length_replicate]; rfl
      have hsrc : ∀ j x, (shB.flat (List.replicate k v))[j]? = some x → wr.drew.cell? (Addr.add ⟨w.heap.size, 0, none⟩ j) = some x := fun j x hj => by
        have hjk : j < k := by have := (List.getElem?_eq_some_iff.1 hj).1; omega
        rw [Go.WideShapes.add_plain, Nat.zero_add]
        refine (cell_of_row (w := wr.drew) _ _ _ _ _ hg0).trans ?_
        rw [List.getElem?_toArray, ← hj]
        unfold repB
        rw [show List.replicate m v = List.replicate k v ++ List.replicate (m - k) v by rw [List.replicate_append_replicate]; congr 1; omega, List.append_assoc, Shape.flat_app, List.getElem?_append_left (by omega)]
      have HS := Lib.hid hsrc
      have hVk : ∀ x ∈ shB.flat (List.replicate k v), x.oneCell' = true := shB.flat_one _
      clear hsrc hg0
      go_wp2_with fail
      go_region_law (refine step_copy_rowN rfl _ _ 23 23 rfl 5 i0 1 Tryd.underlying23 hi hz1 w.heap.size m (n - m) (n - m) ⟨w.heap.size, 0, none⟩ m n (by simp [Act.eval, Act.put]) (by simp [Act.eval, Act.put]) (repB v m n) 5 HG.out (shB.flat (List.replicate k v)) k hk hkl HS.out (by rw [repB_len v hm, hkl]; omega) hVk w.heap.size w HB.out.drew (Nat.le_refl _) ?_; intro w4 hg4 hb4 ho4; clear ho4)
      have hg4' := hg4.out
      rw [repB_splice v hk2] at hg4'
      have H4 := Lib.hid hg4'
      have B4 := Lib.hid hb4
      clear hg4 hg4' hb4
      go_wp2_with fail
      simp only [List.getElem_toArray, List.getElem_cons_succ, List.getElem_cons_zero, Act.put, List.setIfInBounds_toArray, List.set_cons_succ, List.set_cons_zero]
      go_roundw
      case rel => exact ⟨m + k, by omega, hk2, by go_num, H4, B4⟩
      case measure => simp [intOf]; omega
    · obtain rfl : m = n := by omega
      have hrow : shB.At wr (some ⟨w.heap.size, 0, none⟩) m (List.replicate m v) := Shape.At.lit (S := shB) (T := 5) (List.replicate m v) (by
        have := HG.out
        unfold repB at this
        rw [Nat.sub_self, List.replicate_zero, List.append_nil] at this
        exact this)
      have HR := Lib.hid hrow
      clear hrow
      go_wp2_with fail
      go_ret
      exact ⟨_, rfl, HR.out, HB.out⟩
end Go.Proofs.YtomgifdnnfbpnaaDoor
