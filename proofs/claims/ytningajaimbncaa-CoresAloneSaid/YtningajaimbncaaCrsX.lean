/- slices.SortStableFunc over the order of pieces, longestFirst, Longest. -/
import Derived.Test.YtningajaimbncaaCrsW
import Derived.Test.YtningajaimbncaaSprY
namespace Go.Proofs.Ytningajaimbncaa
open Go.RowKit

section
variable {W : World} {B cp n : Nat} {P : Nat → Nat} {ws : Nat → Nat}
theorem merge_ok (HW : Hid (LevAt W P n ws)) (hn : n ≤ 400) : ∀ d, MergeOk W P B cp n ws d
  | 0 => fun a m b O w A M C hd h1 h2 => by omega
  | d + 1 => fun a m b O w A M C hd h1 h2 h3 HS HP HM hA hM hC => by
    by_cases g1 : m = a + 1
    · subst g1
      exact one_R HW hn a b h2 h3 w HS HP HM A M C hA (Lib.hid (by rw [hM.out]; omega)) hC
    · by_cases g2 : b = m + 1
      · subst g2
        exact last_R HW hn a m (by omega) h3 w HS HP HM A M C hA hM (Lib.hid (by rw [hC.out]; omega))
      · obtain rfl := hA.out
        obtain rfl := hM.out
        obtain rfl := hC.out
        have IH := Lib.hid (merge_ok HW hn d)
        by_cases g3 : (a + b) / 2 < m
        · exact merge_hi HW hn d IH a m b hd (by omega) (by omega) h3 g3 w HS HP HM
        · exact merge_lo HW hn d IH a m b hd (by omega) (by omega) h3 g3 w HS HP HM
theorem merge_R (HW : Hid (LevAt W P n ws)) (hn : n ≤ 400) (a m b : Nat) (O : Nat → Nat) (w : World) (A M C : Int) (h1 : a < m) (h2 : m < b) (h3 : b ≤ n) (HS : Hid (SS W P B cp n O w)) (HP : Hid (Perm O n)) (HM : Hid (Mrg ws O a m b)) (hA : Hid (A = (a : Int))) (hM : Hid (M = (m : Int))) (hC : Hid (C = (b : Int))) :
    Calls Try.prog 65 #[.slice (some ⟨B, 0, none⟩) n cp, .int .i64 A, .int .i64 M, .int .i64 C, .func (.func 43) #[] #[]] w (SortOut W P B cp n O a b (fun O2 => Srt ws O2 a b)) :=
  merge_ok HW hn (b - a) a m b O w A M C (Nat.le_refl _) h1 h2 h3 HS HP HM hA hM hC
theorem insert_I (HW : Hid (LevAt W P n ws)) (hn : n ≤ 400) (a b : Nat) (OO : Nat → Nat) (w : World) (A C : Int) (hab : a ≤ b) (hbn : b ≤ n) (HS : Hid (SS W P B cp n OO w)) (HP : Hid (Perm OO n)) (HI : Hid (∀ p q, a ≤ p → p < q → q < b → OO p < OO q)) (hA : Hid (A = (a : Int))) (hC : Hid (C = (b : Int))) :
    Calls Try.prog 64 #[.slice (some ⟨B, 0, none⟩) n cp, .int .i64 A, .int .i64 C, .func (.func 43) #[] #[]] w (SortOut W P B cp n OO a b (fun O2 => Srt ws O2 a b)) := by
  obtain rfl := hA.out
  obtain rfl := hC.out
  exact (insert_R HW hn a b hab hbn w HS HP HI).mono fun _ _ ⟨he, O, h1, h2, h3⟩ => ⟨he, O, h1, h2, h3⟩
end
/-- What sorting leaves. -/
def StableOut (W : World) (P : Nat → Nat) (B cp n : Nat) (ws : Nat → Nat) (e : Ending) (w' : World) : Prop :=
  e = .returned (.tuple #[]) ∧ ∃ O, SS W P B cp n O w' ∧ Perm O n ∧ Srt ws O 0 n
set_option maxHeartbeats 4000000 in
set_option maxRecDepth 100000 in
theorem stable_R {W : World} {B cp n : Nat} {P : Nat → Nat} {ws : Nat → Nat} (HW : Hid (LevAt W P n ws)) (hn : n ≤ 400) (w : World) (HS : Hid (SS W P B cp n (fun i => i) w)) :
    Calls Try.prog 57 #[.slice (some ⟨B, 0, none⟩) n cp, .int .i64 (n : Int), .func (.func 43) #[] #[]] w (StableOut W P B cp n ws) := by
  go_enter Try.func57, Try.ntmps57
  go_wp2_with fail
  go_loopw [7, 8] (fun x y wr => ∃ (k a : Nat) (O : Nat → Nat), Hid (k * 20 = a) ∧ a ≤ n ∧ x = .int .i64 a ∧ y = .int .i64 ((a : Int) + 20) ∧ SS W P B cp n O wr ∧ Ins ws O n k) (fun x _ _ => n - (intOf x).toNat)
  case atStart => exact ⟨0, 0, fun i => i, Lib.hid rfl, Nat.zero_le _, rfl, rfl, HS.out, Ins.start ws n⟩
  case round =>
    obtain ⟨k, a, O, ha, han, rfl, rfl, hs, hi⟩ := hrel
    have S := Lib.hid hs
    have I := Lib.hid hi
    have HP := Lib.hid hi.2.2
    by_cases hb : a + 20 ≤ n
    · have HI : Hid (∀ p q, a ≤ p → p < q → q < a + 20 → O p < O q) := Lib.hid (by rw [← ha.out]; exact hi.rest)
      have l1 : a ≤ a + 20 := by omega
      have e1 : Hid ((a : Int) + 20 = ((a + 20 : Nat) : Int)) := Lib.hid (by omega)
      have t1 : (a : Int) + 20 ≤ (n : Int) := by omega
      clear hs hi
      go_wp2_with (first
        | (go_at_call 64; (with_reducible refine (insert_I HW hn a (a + 20) _ _ _ _ l1 hb S HP HI (Lib.hid rfl) e1).mono ?_); rintro x1 w1 ⟨rfl, O2, hs2, hg2, ho2⟩; have S2 := Lib.hid hs2; have G2 := Lib.hid hg2; have R2 := Lib.hid ho2; clear hs2 hg2 ho2)
        | fail)
      go_roundw
      case rel => exact ⟨k + 1, a + 20, O2, Lib.hid (by have := ha.out; omega), by omega, by go_num, by go_num, S2.out, by have G := G2.out; have R := R2.out; rw [← ha.out] at G R; exact I.out.step G (by have := ha.out; omega) R⟩
      case measure => simp [intOf]; omega
    · have HI : Hid (∀ p q, a ≤ p → p < q → q < n → O p < O q) := Lib.hid (by rw [← ha.out]; exact hi.rest)
      have t1 : ¬ (a : Int) + 20 ≤ (n : Int) := by omega
      have lnn : n ≤ n := Nat.le_refl _
      clear hs hi
      go_wp2_with (first
        | (go_at_call 64; (with_reducible refine (insert_I HW hn a n _ _ _ _ han lnn S HP HI (Lib.hid rfl) (Lib.hid rfl)).mono ?_); rintro x1 w1 ⟨rfl, O2, hs2, hg2, ho2⟩; have S2 := Lib.hid hs2; have G2 := Lib.hid hg2; have R2 := Lib.hid ho2; clear hs2 hg2 ho2)
        | fail)
      have hblk : Blk ws O2 n 20 ∧ Perm O2 n := by
        have G := G2.out; have R := R2.out; rw [← ha.out] at G R
        exact I.out.stop G (by have := ha.out; omega) (by have := ha.out; omega) R
      have HB := Lib.hid hblk
      clear hblk
      go_loopw [6] (fun x wr => ∃ (s : Nat) (O : Nat → Nat), 0 < s ∧ x = .int .i64 s ∧ SS W P B cp n O wr ∧ Blk ws O n s ∧ Perm O n) (fun x _ => n - (intOf x).toNat)
      case atStart => exact ⟨20, O2, by omega, rfl, S2.out, HB.out⟩
      case round =>
        clear S2 G2 R2 HB I S HP HI
        obtain ⟨s, O3, hs0, rfl, hs, hk, hp⟩ := hrel
        have S3 := Lib.hid hs
        have K3 := Lib.hid hk
        have P3 := Lib.hid hp
        clear hs hk hp
        by_cases hsn : s < n
        · obtain ⟨wo, rfl⟩ : ∃ wo : World, wo = wr := ⟨_, rfl⟩
          obtain ⟨z, hz⟩ : ∃ z, 2 * s = z := ⟨_, rfl⟩
          have HZ := Lib.hid hz
          have z1 : 2 * (s : Int) = (z : Int) := by omega
          have z2 : (s : Int) * 2 = (z : Int) := by omega
          have z3 : z < 801 := by omega
          have z4 : s < z := by omega
          clear hz
          go_wp2_with fail
          go_loopw [7, 8] (fun x y wr => ∃ (k a : Nat) (O : Nat → Nat), Hid (k * (2 * s) = a) ∧ a ≤ n ∧ x = .int .i64 a ∧ y = .int .i64 ((a : Int) + (z : Int)) ∧ SS W P B cp n O wr ∧ Pas ws O n s k) (fun x _ _ => n - (intOf x).toNat)
          case atStart => exact ⟨0, 0, O3, Lib.hid (Nat.zero_mul _), Nat.zero_le _, rfl, by congr 1; omega, S3.out, Pas.start K3.out P3.out⟩
          case round =>
            clear S3 K3 P3 z1
            obtain ⟨k2, a2, O4, ha2, han2, rfl, rfl, hs, hp⟩ := hrel
            have S4 := Lib.hid hs
            have P4 := Lib.hid hp
            have HP4 := Lib.hid hp.2.2
            have e2 : Hid ((a2 : Int) + (s : Int) = ((a2 + s : Nat) : Int)) := Lib.hid (by omega)
            have e3 : Hid ((a2 : Int) + (z : Int) = ((a2 + z : Nat) : Int)) := Lib.hid (by omega)
            have l2 : a2 < a2 + s := by omega
            have l3 : a2 + s < a2 + z := by omega
            have HNX : Hid ((k2 + 1) * (2 * s) = a2 + z) := Lib.hid (by rw [Nat.add_mul, Nat.one_mul, ha2.out, HZ.out])
            by_cases hb2 : a2 + z ≤ n
            · have t2 : (a2 : Int) + (z : Int) ≤ (n : Int) := by omega
              have HM : Hid (Mrg ws O4 a2 (a2 + s) (a2 + z)) := Lib.hid (by
                have := hp.mrg (b := a2 + z) (by rw [ha2.out]; omega) (by rw [ha2.out, HZ.out]; omega)
                rw [ha2.out] at this; exact this)
              have z5 : (z : Int) + (z : Int) = 2 * (s : Int) + (z : Int) := by have := HZ.out; omega
              have z1 : 2 * (s : Int) = (z : Int) := by have := HZ.out; omega
              clear hs hp z5
              go_wp2_with (first
                | (go_at_call 65; (with_reducible refine (merge_R HW hn a2 (a2 + s) (a2 + z) _ _ _ _ _ l2 l3 hb2 S4 HP4 HM (Lib.hid rfl) e2 e3).mono ?_); rintro x2 w2 ⟨rfl, O5, hs5, hg5, ho5⟩; have S5 := Lib.hid hs5; have G5 := Lib.hid hg5; have R5 := Lib.hid ho5; clear hs5 hg5 ho5)
                | fail)
              go_roundw
              case rel => exact ⟨k2 + 1, a2 + z, O5, HNX, hb2, by rw [e3.out], by rw [e3.out], S5.out, by
                have G := G5.out; have R := R5.out; rw [← HZ.out, ← ha2.out] at G R
                exact P4.out.step (by rw [ha2.out, HZ.out]; exact hb2) G R⟩
              case measure => simp [intOf]; omega
            · have t2 : ¬ (a2 : Int) + (z : Int) ≤ (n : Int) := by omega
              by_cases hm2 : a2 + s < n
              · have HM : Hid (Mrg ws O4 a2 (a2 + s) n) := Lib.hid (by
                  have := hp.mrg (b := n) (by rw [ha2.out]; omega) (by rw [ha2.out, HZ.out]; omega)
                  rw [ha2.out] at this; exact this)
                have t3 : (a2 : Int) + (s : Int) < (n : Int) := by omega
                have lnn2 : n ≤ n := Nat.le_refl _
                clear hs hp
                go_wp2_with (first
                  | (go_at_call 65; (with_reducible refine (merge_R HW hn a2 (a2 + s) n _ _ _ _ _ l2 hm2 lnn2 S4 HP4 HM (Lib.hid rfl) e2 (Lib.hid rfl)).mono ?_); rintro x2 w2 ⟨rfl, O5, hs5, hg5, ho5⟩; have S5 := Lib.hid hs5; have G5 := Lib.hid hg5; have R5 := Lib.hid ho5; clear hs5 hg5 ho5)
                  | fail)
                have hblk : Blk ws O5 n z ∧ Perm O5 n := by
                  have G := G5.out; have R := R5.out; rw [← ha2.out] at G R
                  rw [← HZ.out]
                  exact P4.out.stop (by rw [ha2.out]; exact han2) (by rw [ha2.out, HZ.out]; omega) G R
                have HB5 := Lib.hid hblk
                clear hblk
                go_roundw
                case rel => exact ⟨z, O5, by omega, rfl, S5.out, HB5.out⟩
                case measure => simp [intOf]; omega
              · have t3 : ¬ (a2 : Int) + (s : Int) < (n : Int) := by omega
                have hblk : Blk ws O4 n z ∧ Perm O4 n := by
                  rw [← HZ.out]
                  exact hp.stop (by rw [ha2.out]; exact han2) (by rw [ha2.out, HZ.out]; omega) (Seg.refl _ _ _ _) (hp.last (by rw [ha2.out]; omega))
                have HB5 := Lib.hid hblk
                clear hblk hs hp
                go_wp2_with fail
                go_roundw
                case rel => exact ⟨z, O4, by omega, rfl, S4.out, HB5.out⟩
                case measure => simp [intOf]; omega
        · go_wp2_with fail
          go_end0
          exact ⟨rfl, O3, S3.out, P3.out, K3.out.all (by omega)⟩
set_option maxHeartbeats 1000000 in
theorem sort_R {W : World} {B cp n : Nat} {P : Nat → Nat} {ws : Nat → Nat} (HW : Hid (LevAt W P n ws)) (hn : n ≤ 400) (w : World) (HS : Hid (SS W P B cp n (fun i => i) w)) :
    Calls Try.prog 42 #[.slice (some ⟨B, 0, none⟩) n cp, .func (.func 43) #[] #[]] w (StableOut W P B cp n ws) := by
  go_enter Try.func42, Try.ntmps42
  go_wp2_with (first
    | (go_at_call 57; (with_reducible refine (stable_R HW hn _ HS).mono ?_); rintro x1 w1 ⟨rfl, H⟩)
    | fail)
  go_end0
  exact ⟨rfl, H⟩
end Go.Proofs.Ytningajaimbncaa
