/- LiftAll: the walk. -/
import Derived.Test.YteabdbgllafafaaLftJ
import Derived.Test.YteabdbgllafafaaLftH
import Derived.Test.YteabdbgllafafaaLftO
import Derived.Test.YteabdbgllafafaaSofS
namespace Go.Proofs.Yteabdbgllafafaa
open Go.RowKit

set_option maxHeartbeats 4000000 in
set_option maxRecDepth 100000 in
theorem all_no {ad : Option Addr} {cap n : Nat} {l : List Int} (head : Int) (w : World) (HA : Hid (shI.At w ad cap l)) (hn : Hid (l.length = n)) (QN : Hid (¬ (okH head ∧ okL l))) :
    Calls Try.prog 6 #[.int .i64 head, .slice ad n cap] w fun e w' => e = .returned (.bool true) ∧ Below w.heap.size w w' := by
  go_enter Try.func6, Try.ntmps6
  go_wp2_with (first
    | (go_at_call 21; (with_reducible refine (alive19_N _).mono ?_); rintro e w1 ⟨rfl, b1⟩; have B1 := Lib.hid b1; have H1 := Lib.hid (HA.out.step b1); clear b1)
    | (go_at_call 10; (with_reducible refine (sweep_X head _ H1 hn QN).mono ?_); rintro e w2 ⟨a2, c2, rfl, r2, b2⟩; have B2 := Lib.hid (pstep B1.out b2); have H2 := Lib.hid (H1.out.step b2); clear r2 b2)
    | (go_at_call 11; (with_reducible refine (short_X head _ H2 hn QN).mono ?_); rintro e w3 ⟨a3, c3, rfl, r3, b3⟩; have B3 := Lib.hid (pstep B2.out b3); clear r3 b3)
    | fail)
  go_ret
  exact ⟨rfl, B3.out⟩
theorem fall_take1 (l : List Int) : fallS (l.take 1) = 0 := by
  cases l with
  | nil => rfl
  | cons a r => rfl
set_option maxHeartbeats 4000000 in
set_option maxRecDepth 100000 in
theorem all_ok {ad : Option Addr} {cap n : Nat} {l : List Int} (head : Int) (w : World) (HA : Hid (shI.At w ad cap l)) (hn : Hid (l.length = n)) (QH : Hid (okH head)) (QL : Hid (okL l)) :
    Calls Try.prog 6 #[.int .i64 head, .slice ad n cap] w fun e w' => e = .returned (.bool true) ∧ Below w.heap.size w w' := by
  have h4 : n ≤ 400 := by rw [← hn.out]; exact QL.out.1
  have hn63 : n ≤ 9223372036854775807 := by omega
  have hz : n * 8 ≤ 140737488355328 := by omega
  have HWN : Hid ((upR head l ++ dnR head l).length = n) := Lib.hid ((sweep_len head l).trans hn.out)
  have HSN : Hid ((shortL head l).length = n) := Lib.hid ((short_len head l).trans hn.out)
  have HTN : Hid ((sortI l).length = n) := Lib.hid ((sortI_len l).trans hn.out)
  have HE1 : Hid (sortI (upR head l ++ dnR head l) = sortI l) := Lib.hid (srt_eq (sweep_perm head l))
  have HE2 : Hid (sortI (shortL head l) = sortI l) := Lib.hid (srt_eq (short_is_perm head l))
  have HFL : Hid (fallS (upR head l ++ dnR head l) ≤ 1) := Lib.hid (sweep_falls head l)
  obtain ⟨L, hL⟩ : ∃ L, upR head l ++ dnR head l = L := ⟨_, rfl⟩
  go_enter Try.func6, Try.ntmps6
  go_wp2_with (first
    | (go_at_call 21; (with_reducible refine (alive19_N _).mono ?_); rintro e w1 ⟨rfl, b1⟩; have B1 := Lib.hid b1; have H1 := Lib.hid (HA.out.step b1); clear b1)
    | (go_at_call 10; (with_reducible refine (sweep_N head _ H1 hn QH QL).mono ?_); rintro e w2 ⟨a2, c2, rfl, r2, b2⟩; rw [hL] at r2; have R2 := Lib.hid r2; have B2 := Lib.hid (pstep B1.out b2); have H2 := Lib.hid (H1.out.step b2); clear r2 b2)
    | (go_at_call 11; (with_reducible refine (short_N head _ H2 hn QH QL).mono ?_); rintro e w3 ⟨a3, c3, rfl, r3, b3⟩; have S3 := Lib.hid r3; have R3 := Lib.hid (R2.out.step b3); have B3 := Lib.hid (pstep B2.out b3); have H3 := Lib.hid (H2.out.step b3); clear r3 b3)
    | (go_at_call 25; (with_reducible refine (values_N _ _ _ _).mono ?_); rintro e wv ⟨rfl, rfl⟩; have bv := Lib.hid (below_alloc w3 (.cells #[.slice ad n cap] 22)); have cv := one_at (heap_alloc_new w3 (.cells #[.slice ad n cap] 22)); have lv := heap_lt (heap_alloc_new w3 (.cells #[.slice ad n cap] 22)))
    | (go_at_call 24; (with_reducible refine (sorted_all w3.heap.size w3 _ H3 hn bv hz lv cv).mono ?_); rintro e w4 ⟨a4, c4, rfl, r4, b4⟩; have T4 := Lib.hid r4; have R4 := Lib.hid ((R3.out.step bv.out).step b4); have S4 := Lib.hid ((S3.out.step bv.out).step b4); have B4 := Lib.hid (pstep (pstep B3.out bv.out) b4); clear r4 b4 bv cv lv)
    | fail)
  rw [hL] at HWN HE1 HFL
  have B0 := Lib.hid (Below.refl w4.heap.size w4)
  clear hL
  go_loopw [10, 36] (fun fv iv wr => ∃ (i c : Nat), i ≤ n ∧ iv = .int .i64 i ∧ fv = .int .i64 c ∧ c ≤ i ∧ Hid (fallS (L.take i) = c) ∧ Hid (Below w4.heap.size w4 wr)) (fun _ iv _ => n - (intOf iv).toNat)
  case atStart => exact ⟨0, 0, Nat.zero_le _, rfl, rfl, Nat.le_refl _, Lib.hid rfl, B0⟩
  case round =>
    clear B0
    obtain ⟨i, c, hin, rfl, rfl, hci, HC, HB⟩ := hrel
    by_cases hlt : i < n
    · by_cases h0 : i = 0
      · subst h0
        obtain rfl : c = 0 := by omega
        have HN2 : Hid (fallS (L.take (0 + 1)) = 0) := Lib.hid (fall_take1 L)
        go_wp2_with fail
        go_quiet (fail)
        go_wp2_with fail
        go_roundw
        case rel => exact ⟨1, 0, by omega, by go_num, rfl, by omega, HN2, Lib.hid (below_drewN HB.out _)⟩
        case measure => simp [intOf]; omega
      · obtain ⟨j, rfl⟩ : ∃ j, i = j + 1 := ⟨i - 1, by omega⟩
        have hjn : j < n := by omega
        have hi0 : decide (((j + 1 : Nat) : Int) > 0) = true := decide_eq_true (by omega)
        have hj1 : IntKind.i64.wrap (((j + 1 : Nat) : Int) - 1) = (j : Int) := by rw [IntKind.wrap_i64]; omega
        obtain ⟨x, hx⟩ : ∃ x, L[j + 1]? = some x := ⟨L[j + 1]'(by rw [HWN.out]; exact hlt), List.getElem?_eq_getElem _⟩
        obtain ⟨y, hy⟩ : ∃ y, L[j]? = some y := ⟨L[j]'(by rw [HWN.out]; exact hjn), List.getElem?_eq_getElem _⟩
        have HF1 := Lib.hid (fall_one hy hx)
        obtain ⟨b, off, rfl, hb, e0⟩ := at_int R4.out hx
        obtain ⟨b', off', e', _, e1⟩ := at_int R4.out hy
        cases e'
        have g0 := (HB.out.cell (p := ⟨b, off + (j + 1), none⟩) hb).trans e0
        have g1 := (HB.out.cell (p := ⟨b, off + j, none⟩) hb).trans e1
        have hbr : b < wr.heap.size := Nat.lt_of_lt_of_le hb HB.out.size
        clear hx hy e0 e1
        by_cases hg : x < y
        · have hgd : decide (x < y) = true := decide_eq_true hg
          have HN2 : Hid (fallS (L.take (j + 1 + 1)) = c + 1) := Lib.hid (by rw [HF1.out, HC.out, if_pos hg])
          clear hg
          go_wp2_with fail
          go_quiet (fail)
          go_wp2_with fail
          go_roundw
          case rel => exact ⟨j + 1 + 1, c + 1, by omega, by go_num, by go_num, by omega, HN2, Lib.hid (below_drewN HB.out _)⟩
          case measure => simp [intOf]; omega
        · have hgd : decide (x < y) = false := decide_eq_false hg
          have HN2 : Hid (fallS (L.take (j + 1 + 1)) = c) := Lib.hid (by rw [HF1.out, HC.out, if_neg hg]; rfl)
          clear hg
          go_wp2_with fail
          go_quiet (fail)
          go_wp2_with fail
          go_roundw
          case rel => exact ⟨j + 1 + 1, c, by omega, by go_num, rfl, by omega, HN2, Lib.hid (below_drewN HB.out _)⟩
          case measure => simp [intOf]; omega
    · have e : L.take i = L := by rw [show i = n by omega, ← HWN.out, List.take_length]
      rw [e] at HC
      have hc1 : decide ((c : Int) ≤ 1) = true := decide_eq_true (by have := HFL.out; rw [HC.out] at this; omega)
      have R5 := Lib.hid (R4.out.step HB.out)
      have S5 := Lib.hid (S4.out.step HB.out)
      have T5 := Lib.hid (T4.out.step HB.out)
      have B5 := Lib.hid (pstep B4.out HB.out)
      clear e
      go_wp2_with (first
        | (go_at_call 25; (with_reducible refine (values_N a3 n c3 _).mono ?_); rintro e wv ⟨rfl, rfl⟩; have bv := Lib.hid (below_alloc w7 (.cells #[.slice a3 n c3] 22)); have cv := one_at (heap_alloc_new w7 (.cells #[.slice a3 n c3] 22)); have lv := heap_lt (heap_alloc_new w7 (.cells #[.slice a3 n c3] 22)))
        | (go_at_call 25; (with_reducible refine (values_N a2 n c2 _).mono ?_); rintro e wv ⟨rfl, rfl⟩; have bv := Lib.hid (below_alloc wr (.cells #[.slice a2 n c2] 22)); have cv := one_at (heap_alloc_new wr (.cells #[.slice a2 n c2] 22)); have lv := heap_lt (heap_alloc_new wr (.cells #[.slice a2 n c2] 22)))
        | (go_at_call 24; (with_reducible refine (sorted_all w7.heap.size w7 _ S7 HSN bv hz lv cv).mono ?_); rintro e w8 ⟨a8, c8, rfl, r8, b8⟩; rw [HE2.out] at r8; have P8 := Lib.hid r8; have T8 := Lib.hid ((T7.out.step bv.out).step b8); have B8 := Lib.hid (pstep (pstep B7.out bv.out) b8); clear r8 b8 bv cv lv)
        | (go_at_call 24; (with_reducible refine (sorted_all wr.heap.size wr _ R5 HWN bv hz lv cv).mono ?_); rintro e w6 ⟨a6, c6, rfl, r6, b6⟩; rw [HE1.out] at r6; have P6 := Lib.hid r6; have S6 := Lib.hid ((S5.out.step bv.out).step b6); have T6 := Lib.hid ((T5.out.step bv.out).step b6); have B6 := Lib.hid (pstep (pstep B5.out bv.out) b6); clear r6 b6 bv cv lv)
        | (go_at_call 15; (with_reducible refine (equalI _ HTN P8 T8 hn63).mono ?_); rintro e w9 ⟨rfl, b9⟩; have B9 := Lib.hid (pstep B8.out b9); clear b9)
        | (go_at_call 15; (with_reducible refine (equalI _ HTN P6 T6 hn63).mono ?_); rintro e w7 ⟨rfl, b7⟩; have S7 := Lib.hid (S6.out.step b7); have T7 := Lib.hid (T6.out.step b7); have B7 := Lib.hid (pstep B6.out b7); clear b7)
        | fail)
      go_ret
      exact ⟨rfl, B9.out⟩
theorem liftAll_walk (v0 v1 : Value) (w : World) (g0 : ArgInt w v0) (g1 : ArgNums w v1) :
    Calls Try.prog 6 #[v0, v1] w fun e w' => e = .returned (.bool true) ∧ Below w.heap.size w w' := by
  obtain ⟨head, rfl⟩ := g0
  obtain ⟨ad, cap, l, rfl, h1, _⟩ := g1
  by_cases q : okH head ∧ okL l
  · exact all_ok head w (Lib.hid h1) (Lib.hid rfl) (Lib.hid q.1) (Lib.hid q.2)
  · exact all_no head w (Lib.hid h1) (Lib.hid rfl) (Lib.hid q)
end Go.Proofs.Yteabdbgllafafaa
