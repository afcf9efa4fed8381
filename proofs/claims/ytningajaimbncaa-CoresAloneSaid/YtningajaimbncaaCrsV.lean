/- slices.SortStableFunc over the order of pieces: a merge in place, one element on a side. -/
import Derived.Test.YtningajaimbncaaCrsU
namespace Go.Proofs.Ytningajaimbncaa
open Go.RowKit

set_option maxHeartbeats 2000000 in
set_option maxRecDepth 100000 in
theorem one_R {W : World} {B cp n : Nat} {P : Nat → Nat} {O ws : Nat → Nat} (HW : Hid (LevAt W P n ws)) (hn : n ≤ 400) (a b : Nat) (hmb : a + 1 < b) (hbn : b ≤ n) (w : World) (HS : Hid (SS W P B cp n O w)) (HP : Hid (Perm O n)) (HM : Hid (Mrg ws O a (a + 1) b)) (A M C : Int) (hA : Hid (A = (a : Int))) (hM : Hid (M = (a : Int) + 1)) (hC : Hid (C = (b : Int))) :
    Calls Try.prog 65 #[.slice (some ⟨B, 0, none⟩) n cp, .int .i64 A, .int .i64 M, .int .i64 C, .func (.func 43) #[] #[]] w (SortOut W P B cp n O a b (fun O2 => Srt ws O2 a b)) := by
  obtain rfl := hA.out
  obtain rfl := hM.out
  obtain rfl := hC.out
  clear hA hM hC
  have an : a < n := by omega
  have d1 : (a : Int) + 1 - (a : Int) = 1 := by omega
  go_enter Try.func65, Try.ntmps65
  go_wp2_with fail
  go_loopw [10, 11] (fun x y wr => ∃ i j : Nat, x = .int .i64 i ∧ y = .int .i64 j ∧ SS W P B cp n O wr ∧ Hlv (fun i => ws (O a) < ws (O i)) (a + 1) b i j) (fun x y _ => (intOf y).toNat - (intOf x).toNat)
  case atStart => exact ⟨a + 1, b, by go_num, rfl, HS.out, Hlv.start (by omega)⟩
  case round =>
    clear d1
    obtain ⟨i, j, rfl, rfl, hs, hh⟩ := hrel
    obtain ⟨l1, l2, l3⟩ := hh.1
    have S := Lib.hid hs
    have HH := Lib.hid hh
    by_cases hij : i < j
    · obtain ⟨h, hh2⟩ : ∃ h, (i + j) / 2 = h := ⟨_, rfl⟩
      have g1 : i ≤ h := by omega
      have g2 : h < j := by omega
      have hin : h < n := by omega
      have c0 := hs.2.2.2.cell hin
      have c1 := hs.2.2.2.cell an
      have hx := HP.out.1 _ hin
      have hy := HP.out.1 _ an
      obtain ⟨x, hxe⟩ : ∃ x, O h = x := ⟨_, rfl⟩
      obtain ⟨y, hye⟩ : ∃ y, O a = y := ⟨_, rfl⟩
      rw [hxe] at c0 hx
      rw [hye] at c1 hy
      obtain ⟨c, hce⟩ : ∃ c, cmpI (ws y) (ws x) = c := ⟨_, rfl⟩
      have hlt0 := cmpI_neg (ws y) (ws x)
      rw [hce] at hlt0
      have HX := Lib.hid hxe
      have HY := Lib.hid hye
      have HC := Lib.hid hce
      have HLT := Lib.hid hlt0
      have hdiv : ((i : Int) + (j : Int)) / 2 = (h : Int) := by omega
      clear hs hh hxe hye hce hlt0 hh2
      have p0 : 0 ≤ (i : Int) + (j : Int) := by omega
      have p1 : (i : Int) + (j : Int) ≤ 800 := by omega
      by_cases hc0 : c < 0
      · have t1 : decide (c < 0) = true := decide_eq_true hc0
        have HN := Lib.hid (HH.out.right g1 g2 (show ws (O a) < ws (O h) by rw [HX.out, HY.out]; exact HLT.out.1 hc0))
        go_wp2_with fail
        go_quiet ((go_at_call 43; exact Calls.quiet_of (cmp_R HW x y hx hy _ (Lib.hid (S.out.drewN _)) hn c HC)))
        go_wp2_with fail
        go_roundw
        case rel => exact ⟨h + 1, j, by go_num, rfl, S.out.drewN _, HN.out⟩
        case measure => simp [intOf]; omega
      · have t1 : decide (c < 0) = false := decide_eq_false hc0
        have HN := Lib.hid (HH.out.left g1 g2 (show ¬ ws (O a) < ws (O h) by rw [HX.out, HY.out]; exact fun h => hc0 (HLT.out.2 h)))
        go_wp2_with fail
        go_quiet ((go_at_call 43; exact Calls.quiet_of (cmp_R HW x y hx hy _ (Lib.hid (S.out.drewN _)) hn c HC)))
        go_wp2_with fail
        go_roundw
        case rel => exact ⟨i, h, rfl, rfl, S.out.drewN _, HN.out⟩
        case measure => simp [intOf]; omega
    · obtain rfl : i = j := by omega
      have HR := Lib.hid (hlv_one HM.out HH.out)
      clear hs hh l2
      go_wp2_with fail
      go_loopw [13] (fun x wr => ∃ k : Nat, a ≤ k ∧ k ≤ i - 1 ∧ x = .int .i64 k ∧ SS W P B cp n (shl O a k) wr ∧ Seg O (shl O a k) a b n) (fun x _ => i - (intOf x).toNat)
      case atStart => exact ⟨a, Nat.le_refl _, by omega, rfl, by rw [shl_zero]; exact ⟨S.out, Seg.refl _ _ _ _⟩⟩
      case round =>
        obtain ⟨k, k1, k2, rfl, hs, hg⟩ := hrel
        have S2 := Lib.hid hs
        have G2 := Lib.hid hg
        by_cases hk : k < i - 1
        · have h1 : k < n := by omega
          have h2 : k + 1 < n := by omega
          have c0 := hs.2.2.2.cell h1
          have f0 := hs.2.2.2.frozen k
          have c1 := hs.2.2.2.cell h2
          have f1 := hs.2.2.2.frozen (k + 1)
          obtain ⟨x, hxe⟩ : ∃ x, shl O a k k = x := ⟨_, rfl⟩
          obtain ⟨y, hye⟩ : ∃ y, shl O a k (k + 1) = y := ⟨_, rfl⟩
          rw [hxe] at c0
          rw [hye] at c1
          have HX := Lib.hid hxe
          have HY := Lib.hid hye
          clear hs hg hxe hye
          have hne : ¬ k = k + 1 := by omega
          have hne2 : ¬ k + 1 = k := by omega
          have p1 : (k : Int) + 1 < (n : Int) := by omega
          have p2 : (k : Int) < (i : Int) - 1 := by omega
          go_wp2_with fail
          go_region
          all_goals go_wp2_with fail
          go_roundw
          case rel => exact ⟨k + 1, by omega, by omega, by go_num, by rw [← shl_succ O k1]; exact ⟨(S2.out.swap h1 h2 HX.out HY.out).drew, G2.out.trans (Seg.swap _ ⟨k1, by omega⟩ ⟨by omega, by omega⟩ hbn)⟩⟩
          case measure => simp [intOf]; omega
        · obtain rfl : k = i - 1 := by omega
          have p2 : ¬ ((i - 1 : Nat) : Int) < (i : Int) - 1 := by omega
          clear hs hg
          go_wp2_with fail
          refine bodyPost_ret (results_none rfl _ _ _) rfl ?_
          exact ⟨rfl, _, S2.out, G2.out, HR.out⟩
theorem shr_pred (O : Nat → Nat) {m k : Nat} (h0 : 0 < k) (h : k ≤ m) : upd (upd (shr O m k) k (shr O m k (k - 1))) (k - 1) (shr O m k k) = shr O m (k - 1) := by
  obtain ⟨j, rfl⟩ : ∃ j, k = j + 1 := ⟨k - 1, by omega⟩
  rw [Nat.add_sub_cancel]
  exact shr_succ O h
set_option maxHeartbeats 2000000 in
set_option maxRecDepth 100000 in
theorem last_R {W : World} {B cp n : Nat} {P : Nat → Nat} {O ws : Nat → Nat} (HW : Hid (LevAt W P n ws)) (hn : n ≤ 400) (a m : Nat) (ham : a + 1 < m) (hbn : m + 1 ≤ n) (w : World) (HS : Hid (SS W P B cp n O w)) (HP : Hid (Perm O n)) (HM : Hid (Mrg ws O a m (m + 1))) (A M C : Int) (hA : Hid (A = (a : Int))) (hM : Hid (M = (m : Int))) (hC : Hid (C = (m : Int) + 1)) :
    Calls Try.prog 65 #[.slice (some ⟨B, 0, none⟩) n cp, .int .i64 A, .int .i64 M, .int .i64 C, .func (.func 43) #[] #[]] w (SortOut W P B cp n O a (m + 1) (fun O2 => Srt ws O2 a (m + 1))) := by
  obtain rfl := hA.out
  obtain rfl := hM.out
  obtain rfl := hC.out
  clear hA hM hC
  have mn : m < n := by omega
  have d1 : ((m : Int) - (a : Int) == 1) = false := beq_eq_false_iff_ne.2 (by omega)
  have d2 : (m : Int) + 1 - (m : Int) = 1 := by omega
  go_enter Try.func65, Try.ntmps65
  go_wp2_with fail
  go_loopw [14, 15] (fun x y wr => ∃ i j : Nat, x = .int .i64 i ∧ y = .int .i64 j ∧ SS W P B cp n O wr ∧ Hlv (fun i => ¬ ws (O i) < ws (O m)) a m i j) (fun x y _ => (intOf y).toNat - (intOf x).toNat)
  case atStart => exact ⟨a, m, rfl, rfl, HS.out, Hlv.start (by omega)⟩
  case round =>
    clear d1 d2
    obtain ⟨i, j, rfl, rfl, hs, hh⟩ := hrel
    obtain ⟨l1, l2, l3⟩ := hh.1
    have S := Lib.hid hs
    have HH := Lib.hid hh
    by_cases hij : i < j
    · obtain ⟨h, hh2⟩ : ∃ h, (i + j) / 2 = h := ⟨_, rfl⟩
      have g1 : i ≤ h := by omega
      have g2 : h < j := by omega
      have hin : h < n := by omega
      have c0 := hs.2.2.2.cell hin
      have c1 := hs.2.2.2.cell mn
      have hx := HP.out.1 _ hin
      have hy := HP.out.1 _ mn
      obtain ⟨x, hxe⟩ : ∃ x, O h = x := ⟨_, rfl⟩
      obtain ⟨y, hye⟩ : ∃ y, O m = y := ⟨_, rfl⟩
      rw [hxe] at c0 hx
      rw [hye] at c1 hy
      obtain ⟨c, hce⟩ : ∃ c, cmpI (ws x) (ws y) = c := ⟨_, rfl⟩
      have hlt0 := cmpI_neg (ws x) (ws y)
      rw [hce] at hlt0
      have HX := Lib.hid hxe
      have HY := Lib.hid hye
      have HC := Lib.hid hce
      have HLT := Lib.hid hlt0
      have hdiv : ((i : Int) + (j : Int)) / 2 = (h : Int) := by omega
      clear hs hh hxe hye hce hlt0 hh2
      have p0 : 0 ≤ (i : Int) + (j : Int) := by omega
      have p1 : (i : Int) + (j : Int) ≤ 800 := by omega
      by_cases hc0 : c < 0
      · have t1 : decide (c < 0) = true := decide_eq_true hc0
        have HN := Lib.hid (HH.out.left g1 g2 (show ¬ ¬ ws (O h) < ws (O m) by rw [HX.out, HY.out]; exact fun h => h (HLT.out.1 hc0)))
        go_wp2_with fail
        go_quiet ((go_at_call 43; exact Calls.quiet_of (cmp_R HW y x hy hx _ (Lib.hid (S.out.drewN _)) hn c HC)))
        go_wp2_with fail
        go_roundw
        case rel => exact ⟨i, h, rfl, rfl, S.out.drewN _, HN.out⟩
        case measure => simp [intOf]; omega
      · have t1 : decide (c < 0) = false := decide_eq_false hc0
        have HN := Lib.hid (HH.out.right g1 g2 (show ¬ ws (O h) < ws (O m) by rw [HX.out, HY.out]; exact fun h => hc0 (HLT.out.2 h)))
        go_wp2_with fail
        go_quiet ((go_at_call 43; exact Calls.quiet_of (cmp_R HW y x hy hx _ (Lib.hid (S.out.drewN _)) hn c HC)))
        go_wp2_with fail
        go_roundw
        case rel => exact ⟨h + 1, j, by go_num, rfl, S.out.drewN _, HN.out⟩
        case measure => simp [intOf]; omega
    · obtain rfl : i = j := by omega
      have HR := Lib.hid (hlv_last HM.out HH.out)
      clear hs hh l2
      go_wp2_with fail
      go_loopw [17] (fun x wr => ∃ k : Nat, i ≤ k ∧ k ≤ m ∧ x = .int .i64 k ∧ SS W P B cp n (shr O m k) wr ∧ Seg O (shr O m k) a (m + 1) n) (fun x _ => (intOf x).toNat)
      case atStart => exact ⟨m, by omega, Nat.le_refl _, rfl, by rw [shr_zero]; exact ⟨S.out, Seg.refl _ _ _ _⟩⟩
      case round =>
        obtain ⟨k, k1, k2, rfl, hs, hg⟩ := hrel
        have S2 := Lib.hid hs
        have G2 := Lib.hid hg
        by_cases hk : i < k
        · have h1 : k < n := by omega
          have h2 : k - 1 < n := by omega
          have c0 := hs.2.2.2.cell h1
          have f0 := hs.2.2.2.frozen k
          have c1 := hs.2.2.2.cell h2
          have f1 := hs.2.2.2.frozen (k - 1)
          obtain ⟨x, hxe⟩ : ∃ x, shr O m k k = x := ⟨_, rfl⟩
          obtain ⟨y, hye⟩ : ∃ y, shr O m k (k - 1) = y := ⟨_, rfl⟩
          rw [hxe] at c0
          rw [hye] at c1
          have HX := Lib.hid hxe
          have HY := Lib.hid hye
          clear hs hg hxe hye
          have hne : ¬ k = k - 1 := by omega
          have hne2 : ¬ k - 1 = k := by omega
          have p1 : (1 : Int) ≤ (k : Int) := by omega
          have p3 : (k : Int) - 1 < (n : Int) := by omega
          have e1 : Hid ((k : Int) - 1 = ((k - 1 : Nat) : Int)) := Lib.hid (by omega)
          go_wp2_with fail
          go_region
          all_goals go_wp2_with fail
          go_roundw
          case rel => exact ⟨k - 1, by omega, by omega, by rw [e1.out], by rw [← shr_pred O (show 0 < k by omega) k2]; exact ⟨(S2.out.swap h1 h2 HX.out HY.out).drew, G2.out.trans (Seg.swap _ ⟨by omega, by omega⟩ ⟨by omega, by omega⟩ hbn)⟩⟩
          case measure => simp [intOf]; omega
        · obtain rfl : k = i := by omega
          clear hs hg
          go_wp2_with fail
          refine bodyPost_ret (results_none rfl _ _ _) rfl ?_
          exact ⟨rfl, _, S2.out, G2.out, HR.out⟩
end Go.Proofs.Ytningajaimbncaa
