/- Package soft: raises in memory; the walks of within, rightRaises, Right and corebellref.JRight. -/
import Derived.Test.YtnaplbkigebdiaaProg
import Derived.Test.YtnaplbkigebdiaaSofQ
import Derived.Test.YtnaplbkigebdiaaNum
import Derived.StillTailTactics
namespace Go.Proofs.Ytnaplbkigebdiaa
open Go.RowKit

def shR : Shape RaT := ⟨2, fun r => [.int .i64 r.at_, .int .i64 r.soft], fun _ => rfl, fun _ u hu => by simp at hu; rcases hu with rfl | rfl <;> rfl, by decide⟩
theorem info_raise : (Try.prog.info? 35).map (fun i => (i.zero, i.size, i.bytes)) = some (some (.agg #[.int .i64 0, .int .i64 0]), 2, 16) := by kernel_rfl
theorem at_ra {w : World} {ad : Option Addr} {cap k : Nat} {l : List RaT} {f : RaT} (h : shR.At w ad cap l) (hk : l[k]? = some f) : ∃ b off, ad = some ⟨b, off, none⟩ ∧ b < w.heap.size ∧ w.cell? ⟨b, off + k * 2, none⟩ = some (.int .i64 f.at_) ∧ w.cell? ⟨b, off + k * 2 + 1, none⟩ = some (.int .i64 f.soft) := by
  have hkl := (List.getElem?_eq_some_iff.1 hk).1
  obtain ⟨b, off, e, hb, hl⟩ := h.2 (by omega)
  have h0 := shR.flat_at l k 0 f hk (by decide)
  have h1 := shR.flat_at l k 1 f hk (by decide)
  have hs : shR.size = 2 := rfl
  rw [hs] at h0 h1 hl
  refine ⟨b, off, e, hb, ?_, ?_⟩
  · rw [show off + k * 2 = off + (k * 2 + 0) from rfl, hl _ (by omega), h0]; rfl
  · rw [Nat.add_assoc, hl _ (by omega), h1]; rfl
/-- Up to k. -/
def UpK (rs : List RaT) (k : Nat) : Prop := ∀ j r, j < k → rs[j]? = some r → RaOk (prevAt 0 rs j) r
theorem up_next {rs : List RaT} {k : Nat} {r : RaT} (hr : rs[k]? = some r) (h : UpK rs k) (hk : RaOk (prevAt 0 rs k) r) : UpK rs (k + 1) := fun j g hj hg => by
  by_cases e : j = k
  · subst e; rw [hr] at hg; cases hg; exact hk
  · exact h j g (by omega) hg
theorem up_all {rs : List RaT} {n : Nat} (hm : rs.length = n) (h : UpK rs n) : RaUp 0 rs := fun j r hr => h j r (by rw [← hm]; exact (List.getElem?_eq_some_iff.1 hr).1) hr
theorem up_zero (rs : List RaT) : UpK rs 0 := fun j r hj => by omega
theorem retB_eq {P : Prop} {b : Bool} {e : Ending} (h : RetB P e) (hb : b = true ↔ P) : e = .returned (.bool b) := by
  obtain ⟨b', rfl, h'⟩ := h
  have : b' = b := by rw [Bool.eq_iff_iff, h', hb]
  rw [this]
theorem retB_dec {P : Prop} [Decidable P] {b : Bool} {e : Ending} (h : RetB P e) (hb : decide P = b) : e = .returned (.bool b) := retB_eq h (by rw [← hb]; exact decide_eq_true_iff)
theorem retB_mono {P Q : Prop} {e : Ending} (h : RetB P e) (hb : P ↔ Q) : RetB Q e := by
  obtain ⟨b, h1, h2⟩ := h
  exact ⟨b, h1, h2.trans hb⟩
set_option maxHeartbeats 1000000 in
set_option maxRecDepth 100000 in
theorem within_C (n first last : Int) (w : World) (b : Bool) (hb : Hid (decide (first ≤ n ∧ n ≤ last) = b)) :
    Calls Try.prog 19 #[.int .i64 n, .int .i64 first, .int .i64 last] w fun e w' => e = .returned (.bool b) ∧ w = w' := by
  by_cases h0 : first ≤ n
  · have g0 : decide (first ≤ n) = true := decide_eq_true h0
    have HE : Hid (decide (n ≤ last) = b) := Lib.hid (by rw [← hb.out]; simp [h0])
    go_enter Try.func19, Try.ntmps19
    go_wp2_with fail
    go_ret
    exact ⟨by rw [← HE.out]; simp, rfl⟩
  · have g0 : decide (first ≤ n) = false := decide_eq_false h0
    have HE : Hid (false = b) := Lib.hid (by rw [← hb.out]; simp [h0])
    go_enter Try.func19, Try.ntmps19
    go_wp2_with fail
    go_ret
    exact ⟨by rw [← HE.out]; simp, rfl⟩
set_option maxHeartbeats 2000000 in
set_option maxRecDepth 100000 in
theorem rightRaises_N {ad : Option Addr} {cap n : Nat} {l : List RaT} (w : World) (HA : Hid (shR.At w ad cap l)) (hm : Hid (l.length = n)) (hn : n ≤ 9223372036854775807) :
    Calls Try.prog 23 #[.slice ad n cap] w fun e w' => RetB (RaUp 0 l) e ∧ Below w.heap.size w w' := by
  go_enter Try.func23, Try.ntmps23
  go_wp2_with fail
  go_loopw [3, 8] (fun p i wr => ∃ (k : Nat) (v : Int), k ≤ n ∧ i = .int .i64 k ∧ p = .int .i64 v ∧ Hid (prevAt 0 l k = v) ∧ Hid (UpK l k) ∧ Hid (Below w.heap.size w wr)) (fun _ i _ => n - (intOf i).toNat)
  case atStart => exact ⟨0, 0, Nat.zero_le _, rfl, rfl, Lib.hid (prev_zero _ _), Lib.hid (up_zero _), Lib.hid (Below.refl _ _)⟩
  case round =>
    obtain ⟨k, v, hk, rfl, rfl, HV, HI, HB⟩ := hrel
    by_cases hlt : k < n
    · obtain ⟨f, hf⟩ : ∃ f, l[k]? = some f := ⟨l[k]'(by rw [hm.out]; exact hlt), List.getElem?_eq_getElem _⟩
      obtain ⟨b, off, rfl, hb, c0, c1⟩ := at_ra (HA.out.step HB.out) hf
      have HF := Lib.hid hf
      have HP := Lib.hid (prev_succ 0 l k f hf)
      obtain ⟨x, y⟩ := f
      simp only at c0 c1
      have BN := Lib.hid (pstep HB.out (below_alloc wr (.cells #[.int .i64 x, .int .i64 y] 35)))
      clear hf
      cases HW : decide (0 ≤ y ∧ y ≤ 7) with
      | false =>
        have HW' := Lib.hid HW
        go_wp2_with (first
          | (go_at_call 19; (with_reducible refine (within_C y 0 7 _ false HW').mono ?_); rintro e w1 ⟨rfl, rfl⟩)
          | fail)
        go_ret
        exact ⟨RetB.no fun h => by have := (h k _ HF.out).1; simp only [decide_eq_false_iff_not] at HW; exact HW this, BN.out⟩
      | true =>
        have HW' := Lib.hid HW
        cases HU : decide (v ≤ x ∧ x ≤ 400) with
        | false =>
          have HU' := Lib.hid HU
          go_wp2_with (first
            | (go_at_call 19; (with_reducible refine (within_C y 0 7 _ true HW').mono ?_); rintro e w1 ⟨rfl, rfl⟩)
            | (go_at_call 19; (with_reducible refine (within_C x v 400 _ false HU').mono ?_); rintro e w1 ⟨rfl, rfl⟩)
            | fail)
          go_ret
          exact ⟨RetB.no fun h => by have := (h k _ HF.out).2; rw [HV.out] at this; simp only [decide_eq_false_iff_not] at HU; exact HU this, BN.out⟩
        | true =>
          have HU' := Lib.hid HU
          go_wp2_with (first
            | (go_at_call 19; (with_reducible refine (within_C y 0 7 _ true HW').mono ?_); rintro e w1 ⟨rfl, rfl⟩)
            | (go_at_call 19; (with_reducible refine (within_C x v 400 _ true HU').mono ?_); rintro e w1 ⟨rfl, rfl⟩)
            | fail)
          go_roundw
          case rel => exact ⟨k + 1, x, by omega, by go_num, rfl, HP, Lib.hid (up_next HF.out HI.out ⟨of_decide_eq_true HW, by rw [HV.out]; exact of_decide_eq_true HU⟩), BN⟩
          case measure => simp [intOf]; omega
    · obtain rfl : k = n := by omega
      go_wp2_with fail
      go_ret
      exact ⟨RetB.yes (up_all hm.out HI.out), HB.out⟩
/-- Up to k all numbers are right. -/
def In7K (l : List Int) (k : Nat) : Prop := ∀ j x, j < k → l[j]? = some x → 0 ≤ x ∧ x ≤ 7
theorem in7_next {l : List Int} {k : Nat} {x : Int} (hx : l[k]? = some x) (h : In7K l k) (hk : 0 ≤ x ∧ x ≤ 7) : In7K l (k + 1) := fun j g hj hg => by
  by_cases e : j = k
  · subst e; rw [hx] at hg; cases hg; exact hk
  · exact h j g (by omega) hg
theorem in7_all {l : List Int} {n : Nat} (hm : l.length = n) (h : In7K l n) : In7 l := fun x hx => by
  obtain ⟨j, hj⟩ := List.mem_iff_getElem?.1 hx
  exact h j x (by rw [← hm]; exact (List.getElem?_eq_some_iff.1 hj).1) hj
theorem in7_at {l : List Int} {k : Nat} {x : Int} (h : In7 l) (hx : l[k]? = some x) : 0 ≤ x ∧ x ≤ 7 := h x (List.mem_of_getElem? hx)
set_option maxHeartbeats 2000000 in
set_option maxRecDepth 100000 in
theorem right_N {a1 a2 : Option Addr} {c1 c2 n m : Nat} {pd : List Int} {rs : List RaT} (w : World) (HA : Hid (shI.At w a1 c1 pd)) (hm : Hid (pd.length = n)) (hn : n ≤ 9223372036854775807) (HR : Hid (shR.At w a2 c2 rs)) (hm2 : Hid (rs.length = m)) (hn2 : m ≤ 9223372036854775807) :
    Calls Try.prog 10 #[.slice a1 n c1, .slice a2 m c2] w fun e w' => RetB (RtJ pd rs) e ∧ Below w.heap.size w w' := by
  go_enter Try.func10, Try.ntmps10
  go_wp2_with fail
  go_loop [9] (fun i => ∃ k : Nat, k ≤ n ∧ i = .int .i64 k ∧ Hid (In7K pd k)) (fun i => n - (intOf i).toNat)
  case atStart => exact ⟨0, Nat.zero_le _, rfl, Lib.hid fun j x hj => by omega⟩
  case round =>
    obtain ⟨k, hk, rfl, HI⟩ := hrel
    by_cases hlt : k < n
    · obtain ⟨x, hx⟩ : ∃ x, pd[k]? = some x := ⟨pd[k]'(by rw [hm.out]; exact hlt), List.getElem?_eq_getElem _⟩
      obtain ⟨b, off, rfl, hb, c0⟩ := at_int HA.out hx
      have HX := Lib.hid hx
      clear hx
      cases HW : decide (0 ≤ x ∧ x ≤ 7) with
      | false =>
        have HW' := Lib.hid HW
        go_wp2_with (first
          | (go_at_call 19; (with_reducible refine (within_C x 0 7 _ false HW').mono ?_); rintro e w1 ⟨rfl, rfl⟩)
          | fail)
        go_ret
        exact ⟨RetB.no fun h => by have := in7_at h.1 HX.out; simp only [decide_eq_false_iff_not] at HW; exact HW this, Below.refl _ _⟩
      | true =>
        have HW' := Lib.hid HW
        go_wp2_with (first
          | (go_at_call 19; (with_reducible refine (within_C x 0 7 _ true HW').mono ?_); rintro e w1 ⟨rfl, rfl⟩)
          | fail)
        go_round
        case rel => exact ⟨k + 1, by omega, by go_num, Lib.hid (in7_next HX.out HI.out (of_decide_eq_true HW))⟩
        case measure => simp [intOf]; omega
    · obtain rfl : k = n := by omega
      by_cases h4 : m ≤ 400
      · go_wp2_with (first
          | (go_at_call 23; (with_reducible refine (rightRaises_N _ HR hm2 hn2).mono ?_); rintro e w1 ⟨⟨bb, rfl, hbb⟩, hb1⟩; have HBB := Lib.hid hbb; clear hbb)
          | fail)
        go_ret
        refine ⟨⟨bb, rfl, ?_⟩, hb1⟩
        rw [HBB.out]
        exact ⟨fun h => ⟨in7_all hm.out HI.out, by rw [hm2.out]; exact h4, h⟩, fun h => h.2.2⟩
      · go_wp2_with fail
        go_ret
        exact ⟨RetB.no fun h => by have := h.2.1; rw [hm2.out] at this; exact h4 this, Below.refl _ _⟩
theorem in7_ok {l : List Int} {k m : Nat} {x : Int} {b b' : Bool} (hx : l[k]? = some x) (h : b = true ↔ m ≤ 400 ∧ In7K l k) (hb : b' = true ↔ b = true ∧ (0 ≤ x ∧ x ≤ 7)) : b' = true ↔ m ≤ 400 ∧ In7K l (k + 1) := by
  rw [hb, h]
  exact ⟨fun ⟨⟨h1, h2⟩, h3⟩ => ⟨h1, in7_next hx h2 h3⟩, fun ⟨h1, h2⟩ => ⟨⟨h1, fun j g hj => h2 j g (by omega)⟩, h2 k x (by omega) hx⟩⟩
theorem up_ok {l : List RaT} {pd : List Int} {k m : Nat} {r : RaT} {b b' : Bool} (hr : l[k]? = some r) (h : b = true ↔ m ≤ 400 ∧ In7 pd ∧ UpK l k) (hb : b' = true ↔ b = true ∧ RaOk (prevAt 0 l k) r) : b' = true ↔ m ≤ 400 ∧ In7 pd ∧ UpK l (k + 1) := by
  rw [hb, h]
  exact ⟨fun ⟨⟨h1, h0, h2⟩, h3⟩ => ⟨h1, h0, up_next hr h2 h3⟩, fun ⟨h1, h0, h2⟩ => ⟨⟨h1, h0, fun j g hj => h2 j g (by omega)⟩, h2 k r (by omega) hr⟩⟩
set_option maxHeartbeats 2000000 in
set_option maxRecDepth 100000 in
theorem jright_N {a1 a2 : Option Addr} {c1 c2 n m : Nat} {pd : List Int} {rs : List RaT} (w : World) (HA : Hid (shI.At w a1 c1 pd)) (hm : Hid (pd.length = n)) (hn : n ≤ 9223372036854775807) (HR : Hid (shR.At w a2 c2 rs)) (hm2 : Hid (rs.length = m)) (hn2 : m ≤ 9223372036854775807) :
    Calls Try.prog 9 #[.slice a1 n c1, .slice a2 m c2] w fun e w' => RetB (RtJ pd rs) e ∧ Below w.heap.size w w' := by
  go_enter Try.func9, Try.ntmps9
  go_wp2_with fail
  go_loop [5, 16] (fun o i => ∃ (k : Nat) (b : Bool), k ≤ n ∧ i = .int .i64 k ∧ o = .bool b ∧ Hid (b = true ↔ m ≤ 400 ∧ In7K pd k)) (fun _ i => n - (intOf i).toNat)
  case atStart => exact ⟨0, _, Nat.zero_le _, rfl, rfl, Lib.hid ⟨fun h => ⟨by have := of_decide_eq_true h; omega, fun j x hj => by omega⟩, fun h => decide_eq_true (by have := h.1; omega)⟩⟩
  case round =>
    obtain ⟨k, b, hk, rfl, rfl, HI⟩ := hrel
    by_cases hlt : k < n
    · obtain ⟨x, hx⟩ : ∃ x, pd[k]? = some x := ⟨pd[k]'(by rw [hm.out]; exact hlt), List.getElem?_eq_getElem _⟩
      obtain ⟨bk, off, rfl, hb, c0⟩ := at_int HA.out hx
      have HX := Lib.hid hx
      clear hx
      cases b with
      | false =>
        go_wp2_with fail
        go_round
        case rel => exact ⟨k + 1, _, by omega, by go_num, rfl, Lib.hid (in7_ok HX.out HI.out (by simp))⟩
        case measure => simp [intOf]; omega
      | true =>
        have hy : decide (0 ≤ x) = false ∨ (decide (0 ≤ x) = true ∧ decide (x < 8) = false) ∨ (decide (0 ≤ x) = true ∧ decide (x < 8) = true) := by
          simp only [decide_eq_true_eq, decide_eq_false_iff_not]; omega
        rcases hy with g3 | ⟨g3, g4⟩ | ⟨g3, g4⟩
        all_goals go_wp2_with fail
        all_goals go_round
        all_goals first
          | (refine ⟨k + 1, _, by omega, by go_num, rfl, Lib.hid (in7_ok HX.out HI.out ?_)⟩; simp only [decide_eq_true_eq, decide_eq_false_iff_not] at *; simp; try omega)
          | (simp [intOf]; omega)
    · obtain rfl : k = n := by omega
      have HI2 : Hid (b = true ↔ m ≤ 400 ∧ In7 pd ∧ UpK rs 0) := Lib.hid (by
        rw [HI.out]
        exact ⟨fun h => ⟨h.1, in7_all hm.out h.2, up_zero _⟩, fun h => ⟨h.1, fun j x _ hx => in7_at h.2.1 hx⟩⟩)
      clear HI hlt hk
      go_wp2_with fail
      go_loopw [5, 8, 32] (fun o p i wr => ∃ (k : Nat) (b : Bool) (v : Int), k ≤ m ∧ i = .int .i64 k ∧ o = .bool b ∧ p = .int .i64 v ∧ Hid (prevAt 0 rs k = v) ∧ Hid (b = true ↔ m ≤ 400 ∧ In7 pd ∧ UpK rs k) ∧ Hid (Below w.heap.size w wr)) (fun _ _ i _ => m - (intOf i).toNat)
      case atStart => exact ⟨0, b, 0, Nat.zero_le _, rfl, rfl, rfl, Lib.hid (prev_zero _ _), HI2, Lib.hid (Below.refl _ _)⟩
      case round =>
        clear HI2
        obtain ⟨q, b, v, hk, rfl, rfl, rfl, HV, HI, HB⟩ := hrel
        by_cases hlt : q < m
        · obtain ⟨f, hf⟩ : ∃ f, rs[q]? = some f := ⟨rs[q]'(by rw [hm2.out]; exact hlt), List.getElem?_eq_getElem _⟩
          obtain ⟨bk, off, rfl, hb, c0, c1⟩ := at_ra (HR.out.step HB.out) hf
          have HF := Lib.hid hf
          have HP := Lib.hid (prev_succ 0 rs q f hf)
          obtain ⟨x, y⟩ := f
          simp only at c0 c1
          have BN := Lib.hid (pstep HB.out (below_alloc wr (.cells #[.int .i64 x, .int .i64 y] 35)))
          clear hf
          cases b with
          | false =>
            go_wp2_with fail
            go_roundw
            case rel => exact ⟨q + 1, _, x, by omega, by go_num, rfl, rfl, HP, Lib.hid (up_ok HF.out HI.out (by simp)), BN⟩
            case measure => simp [intOf]; omega
          | true =>
            have hy : decide (0 ≤ y) = false ∨ (decide (0 ≤ y) = true ∧ (decide (y < 8) = false ∨ (decide (y < 8) = true ∧ (decide (v ≤ x) = false ∨ (decide (v ≤ x) = true ∧ (decide (x ≤ 400) = false ∨ decide (x ≤ 400) = true)))))) := by
              simp only [decide_eq_true_eq, decide_eq_false_iff_not]; omega
            rcases hy with g3 | ⟨g3, g4 | ⟨g4, g5 | ⟨g5, g6 | g6⟩⟩⟩
            all_goals go_wp2_with fail
            all_goals go_roundw
            all_goals first
              | (refine ⟨q + 1, _, x, by omega, by go_num, rfl, rfl, HP, Lib.hid (up_ok HF.out HI.out ?_), BN⟩; rw [HV.out]; simp only [decide_eq_true_eq, decide_eq_false_iff_not] at *; simp [RaOk]; try omega)
              | (simp [intOf]; omega)
        · obtain rfl : q = m := by omega
          go_wp2_with fail
          go_ret
          refine ⟨⟨b, rfl, ?_⟩, HB.out⟩
          rw [HI.out]
          exact ⟨fun h => ⟨h.2.1, by rw [hm2.out]; exact h.1, up_all hm2.out h.2.2⟩, fun h => ⟨by have := h.2.1; rw [hm2.out] at this; exact this, h.1, fun j r _ hr => h.2.2 j r hr⟩⟩
end Go.Proofs.Ytnaplbkigebdiaa
