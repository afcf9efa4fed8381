/- slices.SortStableFunc over the order of pieces: stretches change places. -/
import Derived.Test.YtningajaimbncaaCrsT
namespace Go.Proofs.Ytningajaimbncaa
open Go.RowKit

/-- What a step of sorting leaves. -/
def SortOut (W : World) (P : Nat → Nat) (B cp n : Nat) (OO : Nat → Nat) (a b : Nat) (R : (Nat → Nat) → Prop) (e : Ending) (w' : World) : Prop :=
  e = .returned (.tuple #[]) ∧ ∃ O, SS W P B cp n O w' ∧ Seg OO O a b n ∧ R O
theorem seg_xch_step (O : Nat → Nat) {a b k n : Nat} {lo hi : Nat} (h : Seg O (xch O a b k) lo hi n) (h1 : lo ≤ a) (h2 : a + k < b) (h3 : b + k < hi) (h4 : hi ≤ n) : Seg O (xch O a b (k + 1)) lo hi n := by
  rw [← xch_succ O h2]
  exact h.trans (Seg.swap _ ⟨by omega, by omega⟩ ⟨by omega, h3⟩ h4)
set_option maxHeartbeats 1000000 in
set_option maxRecDepth 100000 in
theorem xch_R {W : World} {B cp n : Nat} {P : Nat → Nat} {O : Nat → Nat} (hn : n ≤ 400) (a b k : Nat) (hab : a + k ≤ b) (hbn : b + k ≤ n) (w : World) (HS : Hid (SS W P B cp n O w)) (A C K : Int) (hA : Hid (A = (a : Int))) (hC : Hid (C = (b : Int))) (hK : Hid (K = (k : Int))) :
    Calls Try.prog 68 #[.slice (some ⟨B, 0, none⟩) n cp, .int .i64 A, .int .i64 C, .int .i64 K, .func (.func 43) #[] #[]] w (SortOut W P B cp n O a (b + k) (· = xch O a b k)) := by
  obtain rfl := hA.out
  obtain rfl := hC.out
  obtain rfl := hK.out
  clear hA hC hK
  go_enter Try.func68, Try.ntmps68
  go_wp2_with fail
  go_loopw [10] (fun i wr => ∃ j : Nat, j ≤ k ∧ i = .int .i64 j ∧ SS W P B cp n (xch O a b j) wr ∧ Seg O (xch O a b j) a (b + k) n) (fun i _ => k - (intOf i).toNat)
  case atStart => exact ⟨0, Nat.zero_le _, rfl, by rw [xch_zero]; exact ⟨HS.out, Seg.refl _ _ _ _⟩⟩
  case round =>
    obtain ⟨j, hj, rfl, hs, hg⟩ := hrel
    have S := Lib.hid hs
    have G := Lib.hid hg
    by_cases hlt : j < k
    · have h1 : a + j < n := by omega
      have h2 : b + j < n := by omega
      have c0 := hs.2.2.2.cell h1
      have f0 := hs.2.2.2.frozen (a + j)
      have c1 := hs.2.2.2.cell h2
      have f1 := hs.2.2.2.frozen (b + j)
      obtain ⟨x, hxe⟩ : ∃ x, xch O a b j (a + j) = x := ⟨_, rfl⟩
      obtain ⟨y, hye⟩ : ∃ y, xch O a b j (b + j) = y := ⟨_, rfl⟩
      rw [hxe] at c0
      rw [hye] at c1
      have HX := Lib.hid hxe
      have HY := Lib.hid hye
      clear hs hg hxe hye
      have hne : ¬ a + j = b + j := by omega
      have hne2 : ¬ b + j = a + j := by omega
      have p1 : (a : Int) + (j : Int) < (n : Int) := by omega
      have p2 : (b : Int) + (j : Int) < (n : Int) := by omega
      go_wp2_with fail
      go_region
      all_goals go_wp2_with fail
      go_roundw
      case rel => exact ⟨j + 1, by omega, by go_num, by rw [← xch_succ O (show a + j < b by omega)]; exact (S.out.swap h1 h2 HX.out HY.out).drew, seg_xch_step O G.out (Nat.le_refl _) (by omega) (by omega) hbn⟩
      case measure => simp [intOf]; omega
    · obtain rfl : j = k := by omega
      clear hs hg
      go_wp2_with fail
      go_end0
      exact ⟨rfl, _, S.out, G.out, rfl⟩
set_option maxHeartbeats 2000000 in
set_option maxRecDepth 100000 in
theorem rot_R {W : World} {B cp n : Nat} {P : Nat → Nat} {O : Nat → Nat} (hn : n ≤ 400) (a m b : Nat) (ham : a < m) (hmb : m < b) (hbn : b ≤ n) (w : World) (HS : Hid (SS W P B cp n O w)) (A M C : Int) (hA : Hid (A = (a : Int))) (hM : Hid (M = (m : Int))) (hC : Hid (C = (b : Int))) :
    Calls Try.prog 67 #[.slice (some ⟨B, 0, none⟩) n cp, .int .i64 A, .int .i64 M, .int .i64 C, .func (.func 43) #[] #[]] w (SortOut W P B cp n O a b (· = rot O a m b)) := by
  obtain rfl := hA.out
  obtain rfl := hM.out
  obtain rfl := hC.out
  clear hA hM hC
  go_enter Try.func67, Try.ntmps67
  go_wp2_with fail
  go_loopw [10, 11] (fun x y wr => ∃ (i j : Nat) (O2 : Nat → Nat), 0 < i ∧ i ≤ m - a ∧ 0 < j ∧ j ≤ b - m ∧ x = .int .i64 i ∧ y = .int .i64 j ∧ SS W P B cp n O2 wr ∧ Seg O O2 a b n ∧ rot O2 (m - i) m (m + j) = rot O a m b) (fun x y _ => (intOf x).toNat + (intOf y).toNat)
  case atStart => exact ⟨m - a, b - m, O, by omega, by omega, by omega, by omega, by congr 1; omega, by congr 1; omega, HS.out, Seg.refl _ _ _ _, by rw [show m - (m - a) = a by omega, show m + (b - m) = b by omega]⟩
  case round =>
    obtain ⟨i, j, O2, hi0, hi, hj0, hj, rfl, rfl, hs, hg, hr⟩ := hrel
    have S := Lib.hid hs
    have G := Lib.hid hg
    have R := Lib.hid hr
    clear hs hg hr
    have a1 : Hid ((m : Int) - (i : Int) = ((m - i : Nat) : Int)) := Lib.hid (by omega)
    have am : Hid ((m : Int) = ((m : Nat) : Int)) := Lib.hid rfl
    have ai : Hid ((i : Int) = ((i : Nat) : Int)) := Lib.hid rfl
    have aj : Hid ((j : Int) = ((j : Nat) : Int)) := Lib.hid rfl
    by_cases hij : i = j
    · subst hij
      have l1 : m - i + i ≤ m := by omega
      have l2 : m + i ≤ n := by omega
      go_wp2_with (first
        | (go_at_call 68; (with_reducible refine (xch_R hn (m - i) m i l1 l2 _ S _ _ _ a1 am ai).mono ?_); rintro e w1 ⟨rfl, O3, hs3, hg3, ho3⟩)
        | fail)
      go_end0
      subst ho3
      exact ⟨rfl, _, hs3, G.out.trans (hg3.mono (by omega) (by omega)), by rw [rot_eq O2 (by omega)]; exact R.out⟩
    · by_cases hlt : j < i
      · have l1 : m - i + j ≤ m := by omega
        have l2 : m + j ≤ n := by omega
        have a2 : Hid ((i : Int) - (j : Int) = ((i - j : Nat) : Int)) := Lib.hid (by omega)
        have t1 : ¬ (i : Int) = (j : Int) := by omega
        go_wp2_with (first
          | (go_at_call 68; (with_reducible refine (xch_R hn (m - i) m j l1 l2 _ S _ _ _ a1 am aj).mono ?_); rintro e w1 ⟨rfl, O3, hs3, hg3, ho3⟩; have S3 := Lib.hid hs3; have G3 := Lib.hid hg3; have HO3 := Lib.hid ho3; clear hs3 hg3 ho3)
          | fail)
        go_roundw
        case rel => exact ⟨i - j, j, O3, by omega, by omega, by omega, by omega, by rw [a2.out], rfl, S3.out, G.out.trans (G3.out.mono (by omega) (by omega)), by rw [HO3.out, rot_left O2 (by omega) hlt]; exact R.out⟩
        case measure => simp [intOf]; omega
      · have l1 : m - i + i ≤ m + j - i := by omega
        have l2 : m + j - i + i ≤ n := by omega
        have a2 : Hid ((j : Int) - (i : Int) = ((j - i : Nat) : Int)) := Lib.hid (by omega)
        have a3 : Hid ((m : Int) + (j : Int) - (i : Int) = ((m + j - i : Nat) : Int)) := Lib.hid (by omega)
        have t1 : ¬ (i : Int) = (j : Int) := by omega
        go_wp2_with (first
          | (go_at_call 68; (with_reducible refine (xch_R hn (m - i) (m + j - i) i l1 l2 _ S _ _ _ a1 a3 ai).mono ?_); rintro e w1 ⟨rfl, O3, hs3, hg3, ho3⟩; have S3 := Lib.hid hs3; have G3 := Lib.hid hg3; have HO3 := Lib.hid ho3; clear hs3 hg3 ho3)
          | fail)
        go_roundw
        case rel => exact ⟨i, j - i, O3, by omega, by omega, by omega, by omega, rfl, by rw [a2.out], S3.out, G.out.trans (G3.out.mono (by omega) (by omega)), by rw [HO3.out, rot_right O2 (by omega) (by omega)]; exact R.out⟩
        case measure => simp [intOf]; omega
end Go.Proofs.Ytningajaimbncaa
