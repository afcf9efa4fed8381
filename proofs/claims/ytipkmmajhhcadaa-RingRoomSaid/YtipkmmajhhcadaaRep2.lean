/- slices.Repeat of one operation, and math/bits.Mul under it. -/
import Derived.Test.YtipkmmajhhcadaaRngE
import Derived.Test.YtipkmmajhhcadaaCopy
import Derived.Deep.RegionLaw
namespace Go.Proofs.Ytipkmmajhhcadaa
open Go.RowKit

set_option maxHeartbeats 4000000 in
theorem mul64_1 (n : Nat) (hn : n ≤ 64) (w : World) : Calls Try.prog 28 #[.int .u64 1, .int .u64 n] w fun e w' => e = .returned (.tuple #[.int .u64 0, .int .u64 n]) ∧ w = w' := by
  obtain h | h | h | h | h | h | h | h | h | h | h | h | h | h | h | h | h | h | h | h | h | h | h | h | h | h | h | h | h | h | h | h | h | h | h | h | h | h | h | h | h | h | h | h | h | h | h | h | h | h | h | h | h | h | h | h | h | h | h | h | h | h | h | h | h : n = 0 ∨ n = 1 ∨ n = 2 ∨ n = 3 ∨ n = 4 ∨ n = 5 ∨ n = 6 ∨ n = 7 ∨ n = 8 ∨ n = 9 ∨ n = 10 ∨ n = 11 ∨ n = 12 ∨ n = 13 ∨ n = 14 ∨ n = 15 ∨ n = 16 ∨ n = 17 ∨ n = 18 ∨ n = 19 ∨ n = 20 ∨ n = 21 ∨ n = 22 ∨ n = 23 ∨ n = 24 ∨ n = 25 ∨ n = 26 ∨ n = 27 ∨ n = 28 ∨ n = 29 ∨ n = 30 ∨ n = 31 ∨ n = 32 ∨ n = 33 ∨ n = 34 ∨ n = 35 ∨ n = 36 ∨ n = 37 ∨ n = 38 ∨ n = 39 ∨ n = 40 ∨ n = 41 ∨ n = 42 ∨ n = 43 ∨ n = 44 ∨ n = 45 ∨ n = 46 ∨ n = 47 ∨ n = 48 ∨ n = 49 ∨ n = 50 ∨ n = 51 ∨ n = 52 ∨ n = 53 ∨ n = 54 ∨ n = 55 ∨ n = 56 ∨ n = 57 ∨ n = 58 ∨ n = 59 ∨ n = 60 ∨ n = 61 ∨ n = 62 ∨ n = 63 ∨ n = 64 := by omega
  all_goals subst h
  all_goals go_enter Try.func28, Try.ntmps28
  all_goals go_wp2_with fail
  all_goals go_ret2
  all_goals exact ⟨rfl, rfl⟩
set_option maxHeartbeats 1000000 in
theorem mul_1 (n : Nat) (hn : n ≤ 64) (w : World) : Calls Try.prog 25 #[.int .u64 1, .int .u64 n] w fun e w' => e = .returned (.tuple #[.int .u64 0, .int .u64 n]) ∧ w = w' := by
  go_enter Try.func25, Try.ntmps25
  go_wp2_with (first
    | (go_at_call 28; (with_reducible refine (mul64_1 n hn _).mono ?_); rintro e w1 ⟨rfl, rfl⟩)
    | fail)
  go_ret2
  exact ⟨rfl, rfl⟩
/-- m operations v, then nothing yet. -/
def repO (v : RoT) (m n : Nat) : List Value := shRo.flat (List.replicate m v ++ List.replicate (n - m) ⟨0, 0⟩)
theorem repO_len (v : RoT) {m n : Nat} (h : m ≤ n) : (repO v m n).length = n * 2 := by
  unfold repO
  rw [Shape.flat_len, List.length_append, List.length_replicate, List.length_replicate]
  show (m + (n - m)) * 2 = n * 2
  congr 1
  omega
theorem repO_splice (v : RoT) {m k n : Nat} (h : m + k ≤ n) : splice (repO v m n) (m * 2) (shRo.flat (List.replicate k v)) = repO v (m + k) n := by
  have hl : ∀ (j : Nat) (u : RoT), (shRo.flat (List.replicate j u)).length = j * 2 := fun j u => by rw [Shape.flat_len, List.length_replicate]; rfl
  unfold splice repO
  rw [Shape.flat_app, List.take_left' (hl m v), hl, List.drop_append, List.drop_eq_nil_of_le (by rw [hl]; omega), List.nil_append, hl, ← List.replicate_append_replicate, Shape.flat_app, Shape.flat_app, List.append_assoc]
  congr 2
  have e : List.replicate (n - m) (⟨0, 0⟩ : RoT) = List.replicate k ⟨0, 0⟩ ++ List.replicate (n - (m + k)) ⟨0, 0⟩ := by
    rw [List.replicate_append_replicate]
    congr 1
    omega
  rw [e, Shape.flat_app, List.drop_append, List.drop_eq_nil_of_le (by rw [hl]; omega), List.nil_append, hl, show (m * 2 + k * 2 - m * 2) - k * 2 = 0 by omega, List.drop_zero]
theorem flat_zeroO : ∀ n, shRo.flat (List.replicate n ⟨0, 0⟩) = List.replicate (n * 2) (.int .i64 0)
  | 0 => rfl
  | n + 1 => by
    rw [List.replicate_succ, show shRo.flat (⟨0, 0⟩ :: List.replicate n ⟨0, 0⟩) = shRo.enc ⟨0, 0⟩ ++ shRo.flat (List.replicate n ⟨0, 0⟩) from rfl, flat_zeroO n, Nat.add_mul, show n * 2 + 1 * 2 = 2 + n * 2 by omega, ← List.replicate_append_replicate]
    rfl
theorem made_op (n : Nat) : (madeCells (Value.agg #[.int .i64 0, .int .i64 0]).cells (n * 2)).toList = List.replicate (n * 2) (.int .i64 0) := by
  refine List.ext_getElem? fun i => ?_
  unfold madeCells
  rw [Array.getElem?_toList, Array.getElem?_map]
  by_cases h : i < n * 2
  · rw [Array.getElem?_range, if_pos (by omega), List.getElem?_replicate, if_pos h]
    show some ((#[Value.int .i64 0, Value.int .i64 0] : Array Value)[i % 2]!) = _
    have : i % 2 = 0 ∨ i % 2 = 1 := by omega
    rcases this with e | e <;> (rw [e]; rfl)
  · rw [Array.getElem?_range, if_neg (by omega), List.getElem?_replicate, if_neg h]
    rfl
theorem made_rowO {w : World} {base B n : Nat} (h : w.ownsRow base 26 2 (.slice (some ⟨B, 0, none⟩) n n) n (madeCells (Value.agg #[.int .i64 0, .int .i64 0]).cells (n * 2)).toList) (v : RoT) : w.heap[B]? = some (.cells (repO v 0 n).toArray 26 (0, 0)) := by
  obtain ⟨h1, h2⟩ := h
  rcases h2 with ⟨h2, _⟩ | ⟨g, cp, cur, e, _, hc, _, _, hsz, ht⟩
  · cases h2
  · simp only [Value.slice.injEq, Option.some.injEq, Addr.mk.injEq, and_true, true_and] at e
    obtain ⟨rfl, rfl⟩ := e
    rw [made_op, List.take_of_length_le (by simp; omega)] at ht
    rw [hc, ← Array.toArray_toList (xs := cur), ht]
    simp [repO, flat_zeroO]
set_option maxHeartbeats 2000000 in
set_option maxRecDepth 100000 in
theorem repeat_O (v : RoT) (n : Nat) (h1 : 1 ≤ n) (hn : n ≤ 64) {b : Nat} (w : World) (hx : Hid (shRo.At w (some ⟨b, 0, none⟩) 1 [v])) :
    Calls Try.prog 19 #[.slice (some ⟨b, 0, none⟩) 1 1, .int .i64 n] w fun e w' => ∃ H, e = .returned (.slice (some ⟨H, 0, none⟩) n n) ∧ Que shRo w' w.heap.size tP (.slice (some ⟨H, 0, none⟩) n n) n (List.replicate n v) ∧ Below w.heap.size w w' := by
  obtain ⟨i0, hi, hz0, hz1, hz2⟩ := info_parts' info_rop
  have hwu : IntKind.u64.wrap (n : Int) = (n : Int) := by rw [IntKind.wrap_u64]; omega
  have hwi : IntKind.i64.wrap (n : Int) = (n : Int) := by rw [IntKind.wrap_i64]; omega
  have c1 : i0.bytes * n ≤ 281474976710656 := by rw [hz2]; omega
  have hd1 : decide ((n : Int) < 0) = false := decide_eq_false (by omega)
  have hd2 : decide ((9223372036854775807 : Int) < (n : Int)) = false := decide_eq_false (by omega)
  have c2 : n ≤ maxLen := by unfold maxLen; omega
  have hV1 : ∀ x ∈ shRo.flat [v], x.oneCell' = true := shRo.flat_one _
  go_enter Try.func19, Try.ntmps19
  go_wp2_with (first
    | (go_at_call 25; (with_reducible refine (mul_1 n hn _).mono ?_); rintro e w1 ⟨rfl, rfl⟩)
    | (at_make; refine wpList_make_full _ rfl _ _ 41 rfl w.heap.size 26 i0 _ 2 Try.underlying41 hi hz0 hz1 .i64 .i64 _ _ n rfl rfl rfl rfl c1 c2 (Nat.le_refl _) ?_)
    | fail)
  intro w1 hown hgrow
  have HB1 := Lib.hid ((Below.refl w.heap.size w).grown hgrow (Nat.le_refl _) (fun k hk => by cases hk))
  have HG := Lib.hid (made_rowO hown v)
  have HX1 := Lib.hid (hx.out.step HB1.out)
  have hsrc : ∀ j x, (shRo.flat [v])[j]? = some x → w1.cell? (Addr.add ⟨b, 0, none⟩ j) = some x := fun j x hj => by
    obtain ⟨b', off, e, _, hl⟩ := HX1.out.2 (Nat.zero_lt_one)
    cases e
    have hj3 := (List.getElem?_eq_some_iff.1 hj).1
    rw [Shape.flat_len] at hj3
    rw [Go.WideShapes.add_plain, hl j hj3]
    exact hj
  have HS := Lib.hid hsrc
  clear hown hgrow hsrc
  go_wp2_with (first
    | (with_reducible refine wpList_copy_rowN (o := ⟨some 33, _, _, _, _, _⟩) rfl (.tmp 31) (.tmp 32) 41 41 rfl 26 i0 2 Try.underlying41 hi hz1 w.heap.size 0 n n ⟨b, 0, none⟩ 1 1 ?d1 ?d2 (repO v 0 n) 26 HG.out (shRo.flat [v]) 1 ?d3 ?d4 HS.out ?d5 hV1 w.heap.size w HB1.out ?d6 ?_)
    | fail)
  case d1 => rfl
  case d2 => rfl
  case d3 => exact Nat.min_eq_left h1
  case d4 => rfl
  case d5 => rw [repO_len _ (Nat.zero_le _)]; show 0 + 2 ≤ n * 2; omega
  case d6 => exact Nat.le_refl _
  intro w2 hg2 hb2 _
  have hg2' := hg2.out
  rw [show splice (repO v 0 n) 0 (shRo.flat [v]) = repO v 1 n from by
    have := repO_splice v (m := 0) (k := 1) (n := n) (by omega)
    simpa using this] at hg2'
  have H2 := Lib.hid hg2'
  have B2 := Lib.hid hb2
  clear hg2 hg2' hb2 HG HX1 HS hx
  go_wp2_with fail
  go_loopw [8] (fun i wr => ∃ m : Nat, 1 ≤ m ∧ m ≤ n ∧ i = .int .i64 m ∧ Hid (wr.heap[w.heap.size]? = some (.cells (repO v m n).toArray 26 (0, 0))) ∧ Hid (Below w.heap.size w wr)) (fun i _ => n - (intOf i).toNat)
  case atStart => exact ⟨1, Nat.le_refl _, h1, rfl, H2, B2⟩
  case round =>
    clear H2 B2 HB1
    obtain ⟨m, hm1, hm, rfl, HG, HB⟩ := hrel
    by_cases hlt : m < n
    · have hwm : IntKind.i64.wrap (m : Int) = (m : Int) := by rw [IntKind.wrap_i64]; omega
      have hnm : ¬ n = m := by omega
      obtain ⟨k, hk⟩ : ∃ k, Nat.min m (n - m) = k := ⟨_, rfl⟩
      have hk1 : 1 ≤ k ∧ m + k ≤ n ∧ k ≤ m := by rw [← hk]; simp only [Nat.min_def]; split <;> omega
      obtain ⟨hk1, hk2, hk3⟩ := hk1
      have hwk : IntKind.i64.wrap ((m : Int) + (k : Int)) = (m : Int) + (k : Int) := by rw [IntKind.wrap_i64]; omega
      have hg0 : wr.heap[w.heap.size]? = some (.cells (repO v m n).toArray 26 (0, 0)) := HG.out
      have hkl : (shRo.flat (List.replicate k v)).length = k * 2 := by rw [Shape.flat_len, List.length_replicate]; rfl
      have hsrc : ∀ j x, (shRo.flat (List.replicate k v))[j]? = some x → wr.drew.cell? (Addr.add ⟨w.heap.size, 0, none⟩ j) = some x := fun j x hj => by
        have hjk : j < k * 2 := by have := (List.getElem?_eq_some_iff.1 hj).1; omega
        rw [Go.WideShapes.add_plain, Nat.zero_add]
        refine (cell_of_row (w := wr.drew) _ _ _ _ _ hg0).trans ?_
        rw [List.getElem?_toArray, ← hj]
        unfold repO
        rw [show List.replicate m v = List.replicate k v ++ List.replicate (m - k) v by rw [List.replicate_append_replicate]; congr 1; omega, List.append_assoc, Shape.flat_app, List.getElem?_append_left (by omega)]
      have HS := Lib.hid hsrc
      have hVk : ∀ x ∈ shRo.flat (List.replicate k v), x.oneCell' = true := shRo.flat_one _
      clear hsrc hg0
      go_wp2_with fail
      go_region_law (refine step_copy_rowN rfl _ _ 41 41 rfl 26 i0 2 Try.underlying41 hi hz1 w.heap.size (m * 2) (n - m) (n - m) ⟨w.heap.size, 0, none⟩ m n (by simp [Act.eval, Act.put]) (by simp [Act.eval, Act.put]) (repO v m n) 26 HG.out (shRo.flat (List.replicate k v)) k hk hkl HS.out (by rw [repO_len v hm, hkl]; omega) hVk w.heap.size w HB.out.drew (Nat.le_refl _) ?_; intro w4 hg4 hb4 ho4; clear ho4)
      have hg4' := hg4.out
      rw [repO_splice v hk2] at hg4'
      have H4 := Lib.hid hg4'
      have B4 := Lib.hid hb4
      clear hg4 hg4' hb4
      go_wp2_with fail
      simp only [List.getElem_toArray, List.getElem_cons_succ, List.getElem_cons_zero, Act.put, List.setIfInBounds_toArray, List.set_cons_succ, List.set_cons_zero]
      go_roundw
      case rel => exact ⟨m + k, by omega, hk2, by go_num, H4, B4⟩
      case measure => simp [intOf]; omega
    · obtain rfl : m = n := by omega
      have hrow : Que shRo wr w.heap.size tP (.slice (some ⟨w.heap.size, 0, none⟩) m m) m (List.replicate m v) := by
        have h := HG.out
        unfold repO at h
        rw [Nat.sub_self, List.replicate_zero, List.append_nil] at h
        have hs : shRo.size = 2 := rfl
        refine ⟨List.length_replicate, Or.inr ⟨w.heap.size, 0, m, _, rfl, Nat.le_refl _, h, Nat.le_refl _, c2, by rw [List.size_toArray, Shape.flat_len, List.length_replicate, Nat.zero_add]; exact Nat.le_refl _, fun i hi => ?_⟩⟩
        rw [Nat.zero_add, List.getElem?_toArray]
      have HR := Lib.hid hrow
      clear hrow
      go_wp2_with fail
      go_ret
      exact ⟨_, rfl, HR.out, HB.out⟩
end Go.Proofs.Ytipkmmajhhcadaa
