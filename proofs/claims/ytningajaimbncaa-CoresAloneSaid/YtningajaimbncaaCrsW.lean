/- slices.SortStableFunc over the order of pieces: a merge in place. -/
import Derived.Test.YtningajaimbncaaCrsV
namespace Go.Proofs.Ytningajaimbncaa
open Go.RowKit

/-- What a merge promises, for all stretches of at most d. -/
def MergeOk (W : World) (P : Nat → Nat) (B cp n : Nat) (ws : Nat → Nat) (d : Nat) : Prop :=
  ∀ (a m b : Nat) (O : Nat → Nat) (w : World) (A M C : Int), b - a ≤ d → a < m → m < b → b ≤ n → Hid (SS W P B cp n O w) → Hid (Perm O n) → Hid (Mrg ws O a m b) → Hid (A = (a : Int)) → Hid (M = (m : Int)) → Hid (C = (b : Int)) →
    Calls Try.prog 65 #[.slice (some ⟨B, 0, none⟩) n cp, .int .i64 A, .int .i64 M, .int .i64 C, .func (.func 43) #[] #[]] w (SortOut W P B cp n O a b (fun O2 => Srt ws O2 a b))
theorem rot_none (O : Nat → Nat) {s m e : Nat} (h : s = m ∨ e = m) (h1 : s ≤ m) (h2 : m ≤ e) : rot O s m e = O := funext fun t => by
  unfold rot
  rcases h with h | h
  · subst h
    by_cases g : s ≤ t ∧ t < s + (e - s)
    · rw [if_pos g]; congr 1; omega
    · rw [if_neg g, if_neg (by omega)]
  · subst h
    by_cases g : s + (e - e) ≤ t ∧ t < e
    · rw [if_neg (by omega), if_pos g]; congr 1; omega
    · rw [if_neg (by omega), if_neg g]
theorem Mrg.same {ws O O2 : Nat → Nat} {a k m b n : Nat} (h : Mrg ws O k m b) (hk : k ≤ m) (g : Seg O O2 a k n) : Mrg ws O2 k m b :=
  ⟨h.1.same fun i h1 h2 => g.1 i (by omega), h.2.1.same fun i h1 h2 => g.1 i (by omega), fun p q h1 h2 h3 h4 => by rw [g.1 p (by omega), g.1 q (by omega)]; exact h.2.2 p q h1 h2 h3 h4⟩
theorem Srt.same1 {ws O : Nat → Nat} {a a' b : Nat} (h : Srt ws O a' b) (e : a' ≤ a) : Srt ws O a b := fun i j h1 h2 h3 => h i j (by omega) h2 h3
theorem Srt.same2 {ws O : Nat → Nat} {a b b' : Nat} (h : Srt ws O a b') (e : b ≤ b') : Srt ws O a b := fun i j h1 h2 h3 => h i j h1 h2 (by omega)
set_option maxHeartbeats 4000000 in
set_option maxRecDepth 100000 in
theorem merge_hi {W : World} {B cp n : Nat} {P : Nat → Nat} {O ws : Nat → Nat} (HW : Hid (LevAt W P n ws)) (hn : n ≤ 400) (d : Nat) (IH : Hid (MergeOk W P B cp n ws d)) (a m b : Nat) (had : b - a ≤ d + 1) (ham : a + 1 < m) (hmb : m + 1 < b) (hbn : b ≤ n) (hmid : (a + b) / 2 < m) (w : World) (HS : Hid (SS W P B cp n O w)) (HP : Hid (Perm O n)) (HM : Hid (Mrg ws O a m b)) :
    Calls Try.prog 65 #[.slice (some ⟨B, 0, none⟩) n cp, .int .i64 (a : Int), .int .i64 (m : Int), .int .i64 (b : Int), .func (.func 43) #[] #[]] w (SortOut W P B cp n O a b (fun O2 => Srt ws O2 a b)) := by
  have ihf := IH.out
  unfold MergeOk at ihf
  have HIH := Lib.hid ihf
  clear ihf IH
  obtain ⟨mid, hme⟩ : ∃ mid, (a + b) / 2 = mid := ⟨_, rfl⟩
  rw [hme] at hmid
  have HME := Lib.hid hme
  have m1 : a < mid := by omega
  have m2 : mid < b := by omega
  have hmn : mid ≤ n := by omega
  obtain ⟨pp, hpp⟩ : ∃ pp, mid + m - 1 = pp := ⟨_, rfl⟩
  have HPP := Lib.hid hpp
  have b1 : pp < n + n := by omega
  have d1 : ((m : Int) - (a : Int) == 1) = false := beq_eq_false_iff_ne.2 (by omega)
  have d2 : ((b : Int) - (m : Int) == 1) = false := beq_eq_false_iff_ne.2 (by omega)
  have d3 : ((a : Int) + (b : Int)) / 2 = (mid : Int) := by omega
  have d4 : (mid : Int) + (m : Int) - 1 = (pp : Int) := by omega
  have p0 : 0 ≤ (a : Int) + (b : Int) := by omega
  have p1 : (a : Int) + (b : Int) ≤ 800 := by omega
  clear hme hpp
  go_enter Try.func65, Try.ntmps65
  go_wp2_with fail
  clear d1 d2 d3 d4
  go_loopw [20, 21] (fun x y wr => ∃ i j : Nat, x = .int .i64 i ∧ y = .int .i64 j ∧ SS W P B cp n O wr ∧ Hlv (fun i => ¬ ws (O i) < ws (O (mid + m - 1 - i))) (mid + m - b) mid i j) (fun x y _ => (intOf y).toNat - (intOf x).toNat)
  case atStart => exact ⟨(mid + m - b), mid, by congr 1; have := HME.out; omega, rfl, HS.out, Hlv.start (by have := HME.out; omega)⟩
  case round =>
    obtain ⟨i, j, rfl, rfl, hs, hh⟩ := hrel
    obtain ⟨l1, l2, l3⟩ := hh.1
    have S := Lib.hid hs
    have HH := Lib.hid hh
    by_cases hij : i < j
    · obtain ⟨h, hh2⟩ : ∃ h, (i + j) / 2 = h := ⟨_, rfl⟩
      have g1 : i ≤ h := by omega
      have g2 : h < j := by omega
      have hin : h < n := by omega
      obtain ⟨q, hq⟩ : ∃ q, pp - h = q := ⟨_, rfl⟩
      have hpp := HPP.out
      have hqn : q < n := by have := HME.out; omega
      have HQ : Hid (mid + m - 1 - h = q) := Lib.hid (by rw [hpp]; exact hq)
      have c0 := hs.2.2.2.cell hin
      have c1 := hs.2.2.2.cell hqn
      have hx := HP.out.1 _ hin
      have hy := HP.out.1 _ hqn
      obtain ⟨x, hxe⟩ : ∃ x, O h = x := ⟨_, rfl⟩
      obtain ⟨y, hye⟩ : ∃ y, O q = y := ⟨_, rfl⟩
      rw [hxe] at c0 hx
      rw [hye] at c1 hy
      obtain ⟨c, hce⟩ : ∃ c, cmpI (ws x) (ws y) = c := ⟨_, rfl⟩
      have hlt0 := cmpI_neg (ws x) (ws y)
      rw [hce] at hlt0
      have HXE := Lib.hid hxe
      have HYE := Lib.hid hye
      have HC := Lib.hid hce
      have HLT := Lib.hid hlt0
      have hdiv : ((i : Int) + (j : Int)) / 2 = (h : Int) := by omega
      have hsub : (pp : Int) - (h : Int) = (q : Int) := by have := HME.out; omega
      clear hs hh hxe hye hce hlt0 hh2 hq hpp
      have p2 : 0 ≤ (i : Int) + (j : Int) := by omega
      have p3 : (i : Int) + (j : Int) ≤ 800 := by omega
      by_cases hc0 : c < 0
      · have t1 : decide (c < 0) = true := decide_eq_true hc0
        have HN := Lib.hid (HH.out.left g1 g2 (show ¬ ¬ ws (O h) < ws (O (mid + m - 1 - h)) by rw [HQ.out, HXE.out, HYE.out]; exact fun h => h (HLT.out.1 hc0)))
        go_wp2_with fail
        go_quiet ((go_at_call 43; exact Calls.quiet_of (cmp_R HW y x hy hx _ (Lib.hid (S.out.drewN _)) hn c HC)))
        go_wp2_with fail
        go_roundw
        case rel => exact ⟨i, h, rfl, rfl, S.out.drewN _, HN.out⟩
        case measure => simp [intOf]; omega
      · have t1 : decide (c < 0) = false := decide_eq_false hc0
        have HN := Lib.hid (HH.out.right g1 g2 (show ¬ ws (O h) < ws (O (mid + m - 1 - h)) by rw [HQ.out, HXE.out, HYE.out]; exact fun h => hc0 (HLT.out.2 h)))
        go_wp2_with fail
        go_quiet ((go_at_call 43; exact Calls.quiet_of (cmp_R HW y x hy hx _ (Lib.hid (S.out.drewN _)) hn c HC)))
        go_wp2_with fail
        go_roundw
        case rel => exact ⟨h + 1, j, by go_num, rfl, S.out.drewN _, HN.out⟩
        case measure => simp [intOf]; omega
    · obtain ⟨s, hse⟩ : ∃ s, s = i := ⟨_, rfl⟩
      obtain rfl : i = j := by omega
      subst hse
      have CUT : Hid (Cut ws O a m b s (mid + m - s)) := Lib.hid (hlv_cut HM.out HME.out.symm (by omega) (by omega) (by rw [if_pos hmid]) (by rw [if_pos hmid]) HH.out)
      obtain ⟨e, hee⟩ : ∃ e, mid + m - s = e := ⟨_, rfl⟩
      rw [hee] at CUT
      have hsm : s ≤ mid := by omega
      have hmd : s + (e - m) = mid := by have := CUT.out.1; omega
      obtain ⟨hh1, hh2, hh3⟩ := CUT.out.halves HM.out
      rw [hmd] at hh1 hh2 hh3
      have H1 := Lib.hid hh1
      have H2 := Lib.hid hh2
      have HX := Lib.hid hh3
      obtain ⟨v1, v2, v3, v4⟩ := CUT.out.1
      have hen : e ≤ n := by omega
      have d5 : (mid : Int) + (m : Int) - (s : Int) = (e : Int) := by omega
      have hms : mid + m = s + e := by omega
      clear hs hh hh1 hh2 hh3 hee hmd l2 HH CUT
      by_cases r1 : s = mid
      · by_cases r2 : s < m
        · have q0 : s < m := by omega
          have q1 : ¬ m < e := by omega
          have q2 : a < s := by omega
          have q3 : ¬ s < mid := by omega
          have q4 : mid < e := by omega
          have q5 : e < b := by omega
          clear r1
          have HO1 : Hid (rot O s m e = O) := Lib.hid (rot_none O (by omega) (by omega) (by omega))
          have S1 : Hid (SS W P B cp n (rot O s m e) wr) := Lib.hid (by rw [HO1.out]; exact S.out)
          have G1 : Hid (Seg O (rot O s m e) a b n) := Lib.hid (by rw [HO1.out]; exact Seg.refl _ _ _ _)
          go_wp2_with fail
          have HP1 := Lib.hid (G1.out.2.2 HP.out)
          obtain ⟨O2, HO2⟩ : ∃ O2, O2 = rot O s m e := ⟨_, rfl⟩
          have S2 := S1
          rw [← HO2] at S2
          have G2 : Hid (Seg (rot O s m e) O2 a mid n) := Lib.hid (by rw [HO2]; exact Seg.refl _ _ _ _)
          have R2 : Hid (Srt ws O2 a mid) := Lib.hid (by rw [HO2]; exact H1.out.1.same2 (by omega))
          clear HO2 S1
          have H3 := Lib.hid (H2.out.same (by omega) G2.out)
          have HP2 := Lib.hid (G2.out.2.2 HP1.out)
          go_at_call 65
          have k4 : b - mid ≤ d := by omega
          have k5 : mid < e := by omega
          have k6 : e < b := by omega
          (with_reducible refine (HIH.out mid e b _ _ _ _ _ k4 k5 k6 hbn S2 HP2 H3 (Lib.hid rfl) (Lib.hid rfl) (Lib.hid rfl)).mono ?_)
          rintro x3 w3 ⟨rfl, O3, hs3, hg3, ho3⟩
          have S3 := Lib.hid hs3
          have G3 := Lib.hid hg3
          have R3 := Lib.hid ho3
          clear hs3 hg3 ho3 S2
          go_wp2_with fail
          go_end0
          exact ⟨rfl, O3, S3.out, (G1.out.trans (G2.out.mono (by omega) (by omega))).trans (G3.out.mono (by omega) (by omega)), halves_join HX.out G2.out R2.out G3.out R3.out⟩
        · exfalso
          omega
      · by_cases r2 : s < m
        · by_cases r3 : a < s
          · by_cases r4 : e < b
            · have q0 : s < m := by omega
              have q1 : m < e := by omega
              have q2 : a < s := by omega
              have q3 : s < mid := by omega
              have q4 : mid < e := by omega
              have q5 : e < b := by omega
              go_wp2_with fail
              go_at_call 67
              (with_reducible refine (rot_R hn s m e q0 q1 hen _ S _ _ _ (Lib.hid rfl) (Lib.hid rfl) (Lib.hid rfl)).mono ?_)
              rintro x1 w1 ⟨rfl, O1, hs1, hg1, ho1⟩
              subst ho1
              have S1 := Lib.hid hs1
              have G1 := Lib.hid (hg1.mono (a' := a) (b' := b) (by omega) (by omega))
              clear hs1 hg1 S
              go_wp2_with fail
              have HP1 := Lib.hid (G1.out.2.2 HP.out)
              go_at_call 65
              have k1 : mid - a ≤ d := by omega
              have k2 : a < s := by omega
              have k3 : s < mid := by omega
              (with_reducible refine (HIH.out a s mid _ _ _ _ _ k1 k2 k3 hmn S1 HP1 H1 (Lib.hid rfl) (Lib.hid rfl) (Lib.hid rfl)).mono ?_)
              rintro x2 w2 ⟨rfl, O2, hs2, hg2, ho2⟩
              have S2 := Lib.hid hs2
              have G2 := Lib.hid hg2
              have R2 := Lib.hid ho2
              clear hs2 hg2 ho2 S1
              go_wp2_with fail
              have H3 := Lib.hid (H2.out.same (by omega) G2.out)
              have HP2 := Lib.hid (G2.out.2.2 HP1.out)
              go_at_call 65
              have k4 : b - mid ≤ d := by omega
              have k5 : mid < e := by omega
              have k6 : e < b := by omega
              (with_reducible refine (HIH.out mid e b _ _ _ _ _ k4 k5 k6 hbn S2 HP2 H3 (Lib.hid rfl) (Lib.hid rfl) (Lib.hid rfl)).mono ?_)
              rintro x3 w3 ⟨rfl, O3, hs3, hg3, ho3⟩
              have S3 := Lib.hid hs3
              have G3 := Lib.hid hg3
              have R3 := Lib.hid ho3
              clear hs3 hg3 ho3 S2
              go_wp2_with fail
              go_end0
              exact ⟨rfl, O3, S3.out, (G1.out.trans (G2.out.mono (by omega) (by omega))).trans (G3.out.mono (by omega) (by omega)), halves_join HX.out G2.out R2.out G3.out R3.out⟩
            · have q0 : s < m := by omega
              have q1 : m < e := by omega
              have q2 : a < s := by omega
              have q3 : s < mid := by omega
              have q4 : mid < e := by omega
              have q5 : ¬ e < b := by omega
              go_wp2_with fail
              go_at_call 67
              (with_reducible refine (rot_R hn s m e q0 q1 hen _ S _ _ _ (Lib.hid rfl) (Lib.hid rfl) (Lib.hid rfl)).mono ?_)
              rintro x1 w1 ⟨rfl, O1, hs1, hg1, ho1⟩
              subst ho1
              have S1 := Lib.hid hs1
              have G1 := Lib.hid (hg1.mono (a' := a) (b' := b) (by omega) (by omega))
              clear hs1 hg1 S
              go_wp2_with fail
              have HP1 := Lib.hid (G1.out.2.2 HP.out)
              go_at_call 65
              have k1 : mid - a ≤ d := by omega
              have k2 : a < s := by omega
              have k3 : s < mid := by omega
              (with_reducible refine (HIH.out a s mid _ _ _ _ _ k1 k2 k3 hmn S1 HP1 H1 (Lib.hid rfl) (Lib.hid rfl) (Lib.hid rfl)).mono ?_)
              rintro x2 w2 ⟨rfl, O2, hs2, hg2, ho2⟩
              have S2 := Lib.hid hs2
              have G2 := Lib.hid hg2
              have R2 := Lib.hid ho2
              clear hs2 hg2 ho2 S1
              go_wp2_with fail
              have H3 := Lib.hid (H2.out.same (by omega) G2.out)
              have HP2 := Lib.hid (G2.out.2.2 HP1.out)
              obtain ⟨O3, HO3⟩ : ∃ O3, O3 = O2 := ⟨_, rfl⟩
              have S3 := S2
              rw [← HO3] at S3
              have G3 : Hid (Seg O2 O3 mid b n) := Lib.hid (by rw [HO3]; exact Seg.refl _ _ _ _)
              have R3 : Hid (Srt ws O3 mid b) := Lib.hid (by rw [HO3]; exact H3.out.1.same2 (by omega))
              clear HO3 S2
              go_end0
              exact ⟨rfl, O3, S3.out, (G1.out.trans (G2.out.mono (by omega) (by omega))).trans (G3.out.mono (by omega) (by omega)), halves_join HX.out G2.out R2.out G3.out R3.out⟩
          · by_cases r4 : e < b
            · have q0 : s < m := by omega
              have q1 : m < e := by omega
              have q2 : ¬ a < s := by omega
              have q3 : mid < e := by omega
              have q4 : e < b := by omega
              go_wp2_with fail
              go_at_call 67
              (with_reducible refine (rot_R hn s m e q0 q1 hen _ S _ _ _ (Lib.hid rfl) (Lib.hid rfl) (Lib.hid rfl)).mono ?_)
              rintro x1 w1 ⟨rfl, O1, hs1, hg1, ho1⟩
              subst ho1
              have S1 := Lib.hid hs1
              have G1 := Lib.hid (hg1.mono (a' := a) (b' := b) (by omega) (by omega))
              clear hs1 hg1 S
              go_wp2_with fail
              have HP1 := Lib.hid (G1.out.2.2 HP.out)
              obtain ⟨O2, HO2⟩ : ∃ O2, O2 = rot O s m e := ⟨_, rfl⟩
              have S2 := S1
              rw [← HO2] at S2
              have G2 : Hid (Seg (rot O s m e) O2 a mid n) := Lib.hid (by rw [HO2]; exact Seg.refl _ _ _ _)
              have R2 : Hid (Srt ws O2 a mid) := Lib.hid (by rw [HO2]; exact H1.out.2.1.same1 (by omega))
              clear HO2 S1
              have H3 := Lib.hid (H2.out.same (by omega) G2.out)
              have HP2 := Lib.hid (G2.out.2.2 HP1.out)
              go_at_call 65
              have k4 : b - mid ≤ d := by omega
              have k5 : mid < e := by omega
              have k6 : e < b := by omega
              (with_reducible refine (HIH.out mid e b _ _ _ _ _ k4 k5 k6 hbn S2 HP2 H3 (Lib.hid rfl) (Lib.hid rfl) (Lib.hid rfl)).mono ?_)
              rintro x3 w3 ⟨rfl, O3, hs3, hg3, ho3⟩
              have S3 := Lib.hid hs3
              have G3 := Lib.hid hg3
              have R3 := Lib.hid ho3
              clear hs3 hg3 ho3 S2
              go_wp2_with fail
              go_end0
              exact ⟨rfl, O3, S3.out, (G1.out.trans (G2.out.mono (by omega) (by omega))).trans (G3.out.mono (by omega) (by omega)), halves_join HX.out G2.out R2.out G3.out R3.out⟩
            · have q0 : s < m := by omega
              have q1 : m < e := by omega
              have q2 : ¬ a < s := by omega
              have q3 : mid < e := by omega
              have q4 : ¬ e < b := by omega
              go_wp2_with fail
              go_at_call 67
              (with_reducible refine (rot_R hn s m e q0 q1 hen _ S _ _ _ (Lib.hid rfl) (Lib.hid rfl) (Lib.hid rfl)).mono ?_)
              rintro x1 w1 ⟨rfl, O1, hs1, hg1, ho1⟩
              subst ho1
              have S1 := Lib.hid hs1
              have G1 := Lib.hid (hg1.mono (a' := a) (b' := b) (by omega) (by omega))
              clear hs1 hg1 S
              go_wp2_with fail
              have HP1 := Lib.hid (G1.out.2.2 HP.out)
              obtain ⟨O2, HO2⟩ : ∃ O2, O2 = rot O s m e := ⟨_, rfl⟩
              have S2 := S1
              rw [← HO2] at S2
              have G2 : Hid (Seg (rot O s m e) O2 a mid n) := Lib.hid (by rw [HO2]; exact Seg.refl _ _ _ _)
              have R2 : Hid (Srt ws O2 a mid) := Lib.hid (by rw [HO2]; exact H1.out.2.1.same1 (by omega))
              clear HO2 S1
              have H3 := Lib.hid (H2.out.same (by omega) G2.out)
              have HP2 := Lib.hid (G2.out.2.2 HP1.out)
              obtain ⟨O3, HO3⟩ : ∃ O3, O3 = O2 := ⟨_, rfl⟩
              have S3 := S2
              rw [← HO3] at S3
              have G3 : Hid (Seg O2 O3 mid b n) := Lib.hid (by rw [HO3]; exact Seg.refl _ _ _ _)
              have R3 : Hid (Srt ws O3 mid b) := Lib.hid (by rw [HO3]; exact H3.out.1.same2 (by omega))
              clear HO3 S2
              go_end0
              exact ⟨rfl, O3, S3.out, (G1.out.trans (G2.out.mono (by omega) (by omega))).trans (G3.out.mono (by omega) (by omega)), halves_join HX.out G2.out R2.out G3.out R3.out⟩
        · exfalso
          omega
set_option maxHeartbeats 4000000 in
set_option maxRecDepth 100000 in
theorem merge_lo {W : World} {B cp n : Nat} {P : Nat → Nat} {O ws : Nat → Nat} (HW : Hid (LevAt W P n ws)) (hn : n ≤ 400) (d : Nat) (IH : Hid (MergeOk W P B cp n ws d)) (a m b : Nat) (had : b - a ≤ d + 1) (ham : a + 1 < m) (hmb : m + 1 < b) (hbn : b ≤ n) (hmid : ¬ (a + b) / 2 < m) (w : World) (HS : Hid (SS W P B cp n O w)) (HP : Hid (Perm O n)) (HM : Hid (Mrg ws O a m b)) :
    Calls Try.prog 65 #[.slice (some ⟨B, 0, none⟩) n cp, .int .i64 (a : Int), .int .i64 (m : Int), .int .i64 (b : Int), .func (.func 43) #[] #[]] w (SortOut W P B cp n O a b (fun O2 => Srt ws O2 a b)) := by
  have ihf := IH.out
  unfold MergeOk at ihf
  have HIH := Lib.hid ihf
  clear ihf IH
  obtain ⟨mid, hme⟩ : ∃ mid, (a + b) / 2 = mid := ⟨_, rfl⟩
  rw [hme] at hmid
  have HME := Lib.hid hme
  have m1 : a < mid := by omega
  have m2 : mid < b := by omega
  have hmn : mid ≤ n := by omega
  obtain ⟨pp, hpp⟩ : ∃ pp, mid + m - 1 = pp := ⟨_, rfl⟩
  have HPP := Lib.hid hpp
  have b1 : pp < n + n := by omega
  have d1 : ((m : Int) - (a : Int) == 1) = false := beq_eq_false_iff_ne.2 (by omega)
  have d2 : ((b : Int) - (m : Int) == 1) = false := beq_eq_false_iff_ne.2 (by omega)
  have d3 : ((a : Int) + (b : Int)) / 2 = (mid : Int) := by omega
  have d4 : (mid : Int) + (m : Int) - 1 = (pp : Int) := by omega
  have p0 : 0 ≤ (a : Int) + (b : Int) := by omega
  have p1 : (a : Int) + (b : Int) ≤ 800 := by omega
  clear hme hpp
  go_enter Try.func65, Try.ntmps65
  go_wp2_with fail
  clear d1 d2 d3 d4
  go_loopw [20, 21] (fun x y wr => ∃ i j : Nat, x = .int .i64 i ∧ y = .int .i64 j ∧ SS W P B cp n O wr ∧ Hlv (fun i => ¬ ws (O i) < ws (O (mid + m - 1 - i))) a m i j) (fun x y _ => (intOf y).toNat - (intOf x).toNat)
  case atStart => exact ⟨a, m, rfl, rfl, HS.out, Hlv.start (by have := HME.out; omega)⟩
  case round =>
    obtain ⟨i, j, rfl, rfl, hs, hh⟩ := hrel
    obtain ⟨l1, l2, l3⟩ := hh.1
    have S := Lib.hid hs
    have HH := Lib.hid hh
    by_cases hij : i < j
    · obtain ⟨h, hh2⟩ : ∃ h, (i + j) / 2 = h := ⟨_, rfl⟩
      have g1 : i ≤ h := by omega
      have g2 : h < j := by omega
      have hin : h < n := by omega
      obtain ⟨q, hq⟩ : ∃ q, pp - h = q := ⟨_, rfl⟩
      have hpp := HPP.out
      have hqn : q < n := by have := HME.out; omega
      have HQ : Hid (mid + m - 1 - h = q) := Lib.hid (by rw [hpp]; exact hq)
      have c0 := hs.2.2.2.cell hin
      have c1 := hs.2.2.2.cell hqn
      have hx := HP.out.1 _ hin
      have hy := HP.out.1 _ hqn
      obtain ⟨x, hxe⟩ : ∃ x, O h = x := ⟨_, rfl⟩
      obtain ⟨y, hye⟩ : ∃ y, O q = y := ⟨_, rfl⟩
      rw [hxe] at c0 hx
      rw [hye] at c1 hy
      obtain ⟨c, hce⟩ : ∃ c, cmpI (ws x) (ws y) = c := ⟨_, rfl⟩
      have hlt0 := cmpI_neg (ws x) (ws y)
      rw [hce] at hlt0
      have HXE := Lib.hid hxe
      have HYE := Lib.hid hye
      have HC := Lib.hid hce
      have HLT := Lib.hid hlt0
      have hdiv : ((i : Int) + (j : Int)) / 2 = (h : Int) := by omega
      have hsub : (pp : Int) - (h : Int) = (q : Int) := by have := HME.out; omega
      clear hs hh hxe hye hce hlt0 hh2 hq hpp
      have p2 : 0 ≤ (i : Int) + (j : Int) := by omega
      have p3 : (i : Int) + (j : Int) ≤ 800 := by omega
      by_cases hc0 : c < 0
      · have t1 : decide (c < 0) = true := decide_eq_true hc0
        have HN := Lib.hid (HH.out.left g1 g2 (show ¬ ¬ ws (O h) < ws (O (mid + m - 1 - h)) by rw [HQ.out, HXE.out, HYE.out]; exact fun h => h (HLT.out.1 hc0)))
        go_wp2_with fail
        go_quiet ((go_at_call 43; exact Calls.quiet_of (cmp_R HW y x hy hx _ (Lib.hid (S.out.drewN _)) hn c HC)))
        go_wp2_with fail
        go_roundw
        case rel => exact ⟨i, h, rfl, rfl, S.out.drewN _, HN.out⟩
        case measure => simp [intOf]; omega
      · have t1 : decide (c < 0) = false := decide_eq_false hc0
        have HN := Lib.hid (HH.out.right g1 g2 (show ¬ ws (O h) < ws (O (mid + m - 1 - h)) by rw [HQ.out, HXE.out, HYE.out]; exact fun h => hc0 (HLT.out.2 h)))
        go_wp2_with fail
        go_quiet ((go_at_call 43; exact Calls.quiet_of (cmp_R HW y x hy hx _ (Lib.hid (S.out.drewN _)) hn c HC)))
        go_wp2_with fail
        go_roundw
        case rel => exact ⟨h + 1, j, by go_num, rfl, S.out.drewN _, HN.out⟩
        case measure => simp [intOf]; omega
    · obtain ⟨s, hse⟩ : ∃ s, s = i := ⟨_, rfl⟩
      obtain rfl : i = j := by omega
      subst hse
      have CUT : Hid (Cut ws O a m b s (mid + m - s)) := Lib.hid (hlv_cut HM.out HME.out.symm (by omega) (by omega) (by rw [if_neg hmid]) (by rw [if_neg hmid]) HH.out)
      obtain ⟨e, hee⟩ : ∃ e, mid + m - s = e := ⟨_, rfl⟩
      rw [hee] at CUT
      have hsm : s ≤ mid := by omega
      have hmd : s + (e - m) = mid := by have := CUT.out.1; omega
      obtain ⟨hh1, hh2, hh3⟩ := CUT.out.halves HM.out
      rw [hmd] at hh1 hh2 hh3
      have H1 := Lib.hid hh1
      have H2 := Lib.hid hh2
      have HX := Lib.hid hh3
      obtain ⟨v1, v2, v3, v4⟩ := CUT.out.1
      have hen : e ≤ n := by omega
      have d5 : (mid : Int) + (m : Int) - (s : Int) = (e : Int) := by omega
      have hms : mid + m = s + e := by omega
      clear hs hh hh1 hh2 hh3 hee hmd l2 HH CUT
      by_cases r1 : s = mid
      · by_cases r2 : s < m
        · exfalso
          omega
        · have q0 : ¬ s < m := by omega
          have q1 : a < s := by omega
          have q2 : ¬ s < mid := by omega
          have q3 : ¬ mid < e := by omega
          clear r1
          have HO1 : Hid (rot O s m e = O) := Lib.hid (rot_none O (by omega) (by omega) (by omega))
          have S1 : Hid (SS W P B cp n (rot O s m e) wr) := Lib.hid (by rw [HO1.out]; exact S.out)
          have G1 : Hid (Seg O (rot O s m e) a b n) := Lib.hid (by rw [HO1.out]; exact Seg.refl _ _ _ _)
          go_wp2_with fail
          have HP1 := Lib.hid (G1.out.2.2 HP.out)
          obtain ⟨O2, HO2⟩ : ∃ O2, O2 = rot O s m e := ⟨_, rfl⟩
          have S2 := S1
          rw [← HO2] at S2
          have G2 : Hid (Seg (rot O s m e) O2 a mid n) := Lib.hid (by rw [HO2]; exact Seg.refl _ _ _ _)
          have R2 : Hid (Srt ws O2 a mid) := Lib.hid (by rw [HO2]; exact H1.out.1.same2 (by omega))
          clear HO2 S1
          have H3 := Lib.hid (H2.out.same (by omega) G2.out)
          have HP2 := Lib.hid (G2.out.2.2 HP1.out)
          obtain ⟨O3, HO3⟩ : ∃ O3, O3 = O2 := ⟨_, rfl⟩
          have S3 := S2
          rw [← HO3] at S3
          have G3 : Hid (Seg O2 O3 mid b n) := Lib.hid (by rw [HO3]; exact Seg.refl _ _ _ _)
          have R3 : Hid (Srt ws O3 mid b) := Lib.hid (by rw [HO3]; exact H3.out.2.1.same1 (by omega))
          clear HO3 S2
          go_end0
          exact ⟨rfl, O3, S3.out, (G1.out.trans (G2.out.mono (by omega) (by omega))).trans (G3.out.mono (by omega) (by omega)), halves_join HX.out G2.out R2.out G3.out R3.out⟩
      · by_cases r2 : s < m
        · by_cases r3 : a < s
          · by_cases r4 : e < b
            · have q0 : s < m := by omega
              have q1 : m < e := by omega
              have q2 : a < s := by omega
              have q3 : s < mid := by omega
              have q4 : mid < e := by omega
              have q5 : e < b := by omega
              go_wp2_with fail
              go_at_call 67
              (with_reducible refine (rot_R hn s m e q0 q1 hen _ S _ _ _ (Lib.hid rfl) (Lib.hid rfl) (Lib.hid rfl)).mono ?_)
              rintro x1 w1 ⟨rfl, O1, hs1, hg1, ho1⟩
              subst ho1
              have S1 := Lib.hid hs1
              have G1 := Lib.hid (hg1.mono (a' := a) (b' := b) (by omega) (by omega))
              clear hs1 hg1 S
              go_wp2_with fail
              have HP1 := Lib.hid (G1.out.2.2 HP.out)
              go_at_call 65
              have k1 : mid - a ≤ d := by omega
              have k2 : a < s := by omega
              have k3 : s < mid := by omega
              (with_reducible refine (HIH.out a s mid _ _ _ _ _ k1 k2 k3 hmn S1 HP1 H1 (Lib.hid rfl) (Lib.hid rfl) (Lib.hid rfl)).mono ?_)
              rintro x2 w2 ⟨rfl, O2, hs2, hg2, ho2⟩
              have S2 := Lib.hid hs2
              have G2 := Lib.hid hg2
              have R2 := Lib.hid ho2
              clear hs2 hg2 ho2 S1
              go_wp2_with fail
              have H3 := Lib.hid (H2.out.same (by omega) G2.out)
              have HP2 := Lib.hid (G2.out.2.2 HP1.out)
              go_at_call 65
              have k4 : b - mid ≤ d := by omega
              have k5 : mid < e := by omega
              have k6 : e < b := by omega
              (with_reducible refine (HIH.out mid e b _ _ _ _ _ k4 k5 k6 hbn S2 HP2 H3 (Lib.hid rfl) (Lib.hid rfl) (Lib.hid rfl)).mono ?_)
              rintro x3 w3 ⟨rfl, O3, hs3, hg3, ho3⟩
              have S3 := Lib.hid hs3
              have G3 := Lib.hid hg3
              have R3 := Lib.hid ho3
              clear hs3 hg3 ho3 S2
              go_wp2_with fail
              go_end0
              exact ⟨rfl, O3, S3.out, (G1.out.trans (G2.out.mono (by omega) (by omega))).trans (G3.out.mono (by omega) (by omega)), halves_join HX.out G2.out R2.out G3.out R3.out⟩
            · have q0 : s < m := by omega
              have q1 : m < e := by omega
              have q2 : a < s := by omega
              have q3 : s < mid := by omega
              have q4 : mid < e := by omega
              have q5 : ¬ e < b := by omega
              go_wp2_with fail
              go_at_call 67
              (with_reducible refine (rot_R hn s m e q0 q1 hen _ S _ _ _ (Lib.hid rfl) (Lib.hid rfl) (Lib.hid rfl)).mono ?_)
              rintro x1 w1 ⟨rfl, O1, hs1, hg1, ho1⟩
              subst ho1
              have S1 := Lib.hid hs1
              have G1 := Lib.hid (hg1.mono (a' := a) (b' := b) (by omega) (by omega))
              clear hs1 hg1 S
              go_wp2_with fail
              have HP1 := Lib.hid (G1.out.2.2 HP.out)
              go_at_call 65
              have k1 : mid - a ≤ d := by omega
              have k2 : a < s := by omega
              have k3 : s < mid := by omega
              (with_reducible refine (HIH.out a s mid _ _ _ _ _ k1 k2 k3 hmn S1 HP1 H1 (Lib.hid rfl) (Lib.hid rfl) (Lib.hid rfl)).mono ?_)
              rintro x2 w2 ⟨rfl, O2, hs2, hg2, ho2⟩
              have S2 := Lib.hid hs2
              have G2 := Lib.hid hg2
              have R2 := Lib.hid ho2
              clear hs2 hg2 ho2 S1
              go_wp2_with fail
              have H3 := Lib.hid (H2.out.same (by omega) G2.out)
              have HP2 := Lib.hid (G2.out.2.2 HP1.out)
              obtain ⟨O3, HO3⟩ : ∃ O3, O3 = O2 := ⟨_, rfl⟩
              have S3 := S2
              rw [← HO3] at S3
              have G3 : Hid (Seg O2 O3 mid b n) := Lib.hid (by rw [HO3]; exact Seg.refl _ _ _ _)
              have R3 : Hid (Srt ws O3 mid b) := Lib.hid (by rw [HO3]; exact H3.out.1.same2 (by omega))
              clear HO3 S2
              go_end0
              exact ⟨rfl, O3, S3.out, (G1.out.trans (G2.out.mono (by omega) (by omega))).trans (G3.out.mono (by omega) (by omega)), halves_join HX.out G2.out R2.out G3.out R3.out⟩
          · by_cases r4 : e < b
            · have q0 : s < m := by omega
              have q1 : m < e := by omega
              have q2 : ¬ a < s := by omega
              have q3 : mid < e := by omega
              have q4 : e < b := by omega
              go_wp2_with fail
              go_at_call 67
              (with_reducible refine (rot_R hn s m e q0 q1 hen _ S _ _ _ (Lib.hid rfl) (Lib.hid rfl) (Lib.hid rfl)).mono ?_)
              rintro x1 w1 ⟨rfl, O1, hs1, hg1, ho1⟩
              subst ho1
              have S1 := Lib.hid hs1
              have G1 := Lib.hid (hg1.mono (a' := a) (b' := b) (by omega) (by omega))
              clear hs1 hg1 S
              go_wp2_with fail
              have HP1 := Lib.hid (G1.out.2.2 HP.out)
              obtain ⟨O2, HO2⟩ : ∃ O2, O2 = rot O s m e := ⟨_, rfl⟩
              have S2 := S1
              rw [← HO2] at S2
              have G2 : Hid (Seg (rot O s m e) O2 a mid n) := Lib.hid (by rw [HO2]; exact Seg.refl _ _ _ _)
              have R2 : Hid (Srt ws O2 a mid) := Lib.hid (by rw [HO2]; exact H1.out.2.1.same1 (by omega))
              clear HO2 S1
              have H3 := Lib.hid (H2.out.same (by omega) G2.out)
              have HP2 := Lib.hid (G2.out.2.2 HP1.out)
              go_at_call 65
              have k4 : b - mid ≤ d := by omega
              have k5 : mid < e := by omega
              have k6 : e < b := by omega
              (with_reducible refine (HIH.out mid e b _ _ _ _ _ k4 k5 k6 hbn S2 HP2 H3 (Lib.hid rfl) (Lib.hid rfl) (Lib.hid rfl)).mono ?_)
              rintro x3 w3 ⟨rfl, O3, hs3, hg3, ho3⟩
              have S3 := Lib.hid hs3
              have G3 := Lib.hid hg3
              have R3 := Lib.hid ho3
              clear hs3 hg3 ho3 S2
              go_wp2_with fail
              go_end0
              exact ⟨rfl, O3, S3.out, (G1.out.trans (G2.out.mono (by omega) (by omega))).trans (G3.out.mono (by omega) (by omega)), halves_join HX.out G2.out R2.out G3.out R3.out⟩
            · have q0 : s < m := by omega
              have q1 : m < e := by omega
              have q2 : ¬ a < s := by omega
              have q3 : mid < e := by omega
              have q4 : ¬ e < b := by omega
              go_wp2_with fail
              go_at_call 67
              (with_reducible refine (rot_R hn s m e q0 q1 hen _ S _ _ _ (Lib.hid rfl) (Lib.hid rfl) (Lib.hid rfl)).mono ?_)
              rintro x1 w1 ⟨rfl, O1, hs1, hg1, ho1⟩
              subst ho1
              have S1 := Lib.hid hs1
              have G1 := Lib.hid (hg1.mono (a' := a) (b' := b) (by omega) (by omega))
              clear hs1 hg1 S
              go_wp2_with fail
              have HP1 := Lib.hid (G1.out.2.2 HP.out)
              obtain ⟨O2, HO2⟩ : ∃ O2, O2 = rot O s m e := ⟨_, rfl⟩
              have S2 := S1
              rw [← HO2] at S2
              have G2 : Hid (Seg (rot O s m e) O2 a mid n) := Lib.hid (by rw [HO2]; exact Seg.refl _ _ _ _)
              have R2 : Hid (Srt ws O2 a mid) := Lib.hid (by rw [HO2]; exact H1.out.2.1.same1 (by omega))
              clear HO2 S1
              have H3 := Lib.hid (H2.out.same (by omega) G2.out)
              have HP2 := Lib.hid (G2.out.2.2 HP1.out)
              obtain ⟨O3, HO3⟩ : ∃ O3, O3 = O2 := ⟨_, rfl⟩
              have S3 := S2
              rw [← HO3] at S3
              have G3 : Hid (Seg O2 O3 mid b n) := Lib.hid (by rw [HO3]; exact Seg.refl _ _ _ _)
              have R3 : Hid (Srt ws O3 mid b) := Lib.hid (by rw [HO3]; exact H3.out.1.same2 (by omega))
              clear HO3 S2
              go_end0
              exact ⟨rfl, O3, S3.out, (G1.out.trans (G2.out.mono (by omega) (by omega))).trans (G3.out.mono (by omega) (by omega)), halves_join HX.out G2.out R2.out G3.out R3.out⟩
        · have q0 : ¬ s < m := by omega
          have q1 : a < s := by omega
          have q2 : s < mid := by omega
          have q3 : ¬ mid < e := by omega
          have HO1 : Hid (rot O s m e = O) := Lib.hid (rot_none O (by omega) (by omega) (by omega))
          have S1 : Hid (SS W P B cp n (rot O s m e) wr) := Lib.hid (by rw [HO1.out]; exact S.out)
          have G1 : Hid (Seg O (rot O s m e) a b n) := Lib.hid (by rw [HO1.out]; exact Seg.refl _ _ _ _)
          go_wp2_with fail
          have HP1 := Lib.hid (G1.out.2.2 HP.out)
          go_at_call 65
          have k1 : mid - a ≤ d := by omega
          have k2 : a < s := by omega
          have k3 : s < mid := by omega
          (with_reducible refine (HIH.out a s mid _ _ _ _ _ k1 k2 k3 hmn S1 HP1 H1 (Lib.hid rfl) (Lib.hid rfl) (Lib.hid rfl)).mono ?_)
          rintro x2 w2 ⟨rfl, O2, hs2, hg2, ho2⟩
          have S2 := Lib.hid hs2
          have G2 := Lib.hid hg2
          have R2 := Lib.hid ho2
          clear hs2 hg2 ho2 S1
          go_wp2_with fail
          have H3 := Lib.hid (H2.out.same (by omega) G2.out)
          have HP2 := Lib.hid (G2.out.2.2 HP1.out)
          obtain ⟨O3, HO3⟩ : ∃ O3, O3 = O2 := ⟨_, rfl⟩
          have S3 := S2
          rw [← HO3] at S3
          have G3 : Hid (Seg O2 O3 mid b n) := Lib.hid (by rw [HO3]; exact Seg.refl _ _ _ _)
          have R3 : Hid (Srt ws O3 mid b) := Lib.hid (by rw [HO3]; exact H3.out.2.1.same1 (by omega))
          clear HO3 S2
          go_end0
          exact ⟨rfl, O3, S3.out, (G1.out.trans (G2.out.mono (by omega) (by omega))).trans (G3.out.mono (by omega) (by omega)), halves_join HX.out G2.out R2.out G3.out R3.out⟩
end Go.Proofs.Ytningajaimbncaa
