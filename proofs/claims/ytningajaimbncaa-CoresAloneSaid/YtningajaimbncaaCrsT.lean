/- slices.SortStableFunc over pointers to threads, made by gencrs.py out of my own texts for spread's order: the comparison, the swap, insertion. -/
import Derived.Test.YtningajaimbncaaSprS
import Derived.Test.YtningajaimbncaaNum
import Derived.StillTailTactics
import Derived.Deep.QuietTactic
import Derived.Deep.OwnRows
import Derived.BigQuiet
import Derived.BigRegion
import Derived.RegionTactic
import Derived.IntWalk
import Derived.Deep.RegionWith
import Derived.Deep.CutRange
namespace Go.Proofs.Ytningajaimbncaa
open Go.RowKit

def ptr (b : Nat) : Value := .pointer (some ⟨b, 0, none⟩)
/-- A row of pointers in a block of one's own. -/
def RowT (w : World) (B n : Nat) (f : Nat → Nat) : Prop := ∃ cur, w.heap[B]? = some (.cells cur 58 (0, 0)) ∧ ∀ i, i < n → cur[i]? = some (.pointer (some ⟨f i, 0, none⟩))
section
variable {w w' : World} {B n : Nat} {f g : Nat → Nat}
theorem RowT.lt (r : RowT w B n f) : B < w.heap.size := by
  obtain ⟨cur, hc, _⟩ := r
  exact (Array.getElem?_eq_some_iff.1 hc).1
theorem RowT.same (r : RowT w B n f) (h : w'.heap[B]? = w.heap[B]?) : RowT w' B n f := by
  obtain ⟨cur, hc, hi⟩ := r
  exact ⟨cur, by rw [h]; exact hc, hi⟩
theorem RowT.step (r : RowT w B n f) (hb : Below w.heap.size w w') : RowT w' B n f := r.same (hb.block B r.lt)
theorem RowT.congr (r : RowT w B n f) (h : ∀ i, i < n → g i = f i) : RowT w B n g := by
  obtain ⟨cur, hc, hi⟩ := r
  exact ⟨cur, hc, fun i hi' => by rw [h i hi']; exact hi i hi'⟩
theorem RowT.cell (r : RowT w B n f) {i : Nat} (h : i < n) : w.cell? ⟨B, i, none⟩ = some (.pointer (some ⟨f i, 0, none⟩)) := by
  obtain ⟨cur, hc, hi⟩ := r
  rw [cell_of_row w B i _ _ _ hc]
  exact hi i h
theorem RowT.frozen (r : RowT w B n f) (i : Nat) : w.frozen? ⟨B, i, none⟩ = false := by
  obtain ⟨cur, hc, _⟩ := r
  exact frozen_of_row w B i cur _ hc
theorem RowT.put (r : RowT w B n f) {i : Nat} (h : i < n) (v : Nat) : RowT (w.setCell ⟨B, i, none⟩ (.pointer (some ⟨v, 0, none⟩))) B n (upd f i v) := by
  obtain ⟨cur, hc, hi⟩ := r
  have h8 : i < cur.size := (Array.getElem?_eq_some_iff.1 (hi i h)).1
  refine ⟨_, heap_setCell_same w B i cur _ _ hc, fun x hx => ?_⟩
  by_cases e : x = i
  · subst e
    simp [upd, Array.getElem?_setIfInBounds]
    omega
  · rw [Array.getElem?_setIfInBounds_ne (fun q => e q.symm), upd, if_neg e]
    exact hi x hx
theorem RowT.other (r : RowT w B n f) {a : Addr} (h : ¬ B = a.block) (v : Value) : RowT (w.setCell a v) B n f := r.same (Below.heap_setCell _ _ _ _ h)
end
/-- The levels of the threads to which the row points. -/
def LevAt (W : World) (P : Nat → Nat) (n : Nat) (ws : Nat → Nat) : Prop := ∀ x, x < n → P x < W.heap.size ∧ W.cell? ⟨P x, 1, none⟩ = some (.int .i64 ((ws x : Nat) : Int))
def cmpI (x y : Nat) : Int := if x < y then -1 else if y < x then 1 else 0
theorem cmpI_neg (x y : Nat) : cmpI x y < 0 ↔ x < y := by
  unfold cmpI
  split
  · simp; omega
  · split <;> simp <;> omega
/-- Sorting's memory: the order's row. -/
def SS (W : World) (P : Nat → Nat) (B cp n : Nat) (O : Nat → Nat) (w : World) : Prop :=
  Below W.heap.size W w ∧ W.heap.size ≤ B ∧ n ≤ cp ∧ RowT w B n (fun i => P (O i))
section
variable {W w w' : World} {B cp n : Nat} {P : Nat → Nat} {O : Nat → Nat}
theorem SS.drewN (s : SS W P B cp n O w) (q : Nat) : SS W P B cp n O (w.drewN q) := ⟨below_drewN s.1 q, s.2⟩
theorem SS.drew (s : SS W P B cp n O w) : SS W P B cp n O w.drew := ⟨s.1.drew, s.2⟩
theorem SS.put (s : SS W P B cp n O w) {i : Nat} (hi : i < n) (v : Nat) : SS W P B cp n (upd O i v) (w.setCell ⟨B, i, none⟩ (.pointer (some ⟨P v, 0, none⟩))) := by
  obtain ⟨h1, h2, h3, h4⟩ := s
  exact ⟨h1.setCell (p := ⟨B, i, none⟩) h2 _, h2, h3, (h4.put hi (P v)).congr fun k _ => by
    unfold upd
    split <;> rfl⟩
theorem SS.congr (s : SS W P B cp n O w) {K : Nat → Nat} (h : ∀ i, i < n → K i = O i) : SS W P B cp n K w := ⟨s.1, s.2.1, s.2.2.1, s.2.2.2.congr fun i hi => by rw [h i hi]⟩
theorem SS.swap (s : SS W P B cp n O w) {i j x y : Nat} (hi : i < n) (hj : j < n) (hx : O i = x) (hy : O j = y) :
    SS W P B cp n (upd (upd O i (O j)) j (O i)) ((w.setCell ⟨B, i, none⟩ (.pointer (some ⟨P y, 0, none⟩))).setCell ⟨B, j, none⟩ (.pointer (some ⟨P x, 0, none⟩))) := by
  rw [hx, hy]
  exact (s.put hi y).put hj x
end
theorem compare_R (x y : Nat) (w : World) : Calls Try.prog 44 #[.int .i64 (x : Int), .int .i64 (y : Int)] w fun e w' => e = .returned (.int .i64 (cmpI x y)) ∧ w' = w := by
  by_cases h1 : x < y
  · have e : cmpI x y = -1 := if_pos h1
    rw [e]
    clear e
    go_enter Try.func44, Try.ntmps44
    go_wp2
    go_ret
    exact ⟨rfl, rfl⟩
  · by_cases h2 : y < x
    · have e : cmpI x y = 1 := by unfold cmpI; rw [if_neg h1, if_pos h2]
      rw [e]
      clear e
      go_enter Try.func44, Try.ntmps44
      go_wp2
      go_ret
      exact ⟨rfl, rfl⟩
    · have e : cmpI x y = 0 := by unfold cmpI; rw [if_neg h1, if_neg h2]
      rw [e]
      clear e
      go_enter Try.func44, Try.ntmps44
      go_wp2
      go_ret
      exact ⟨rfl, rfl⟩
theorem compare_c (x y : Nat) (c : Int) (hc : Hid (cmpI x y = c)) (w : World) : Calls Try.prog 44 #[.int .i64 (x : Int), .int .i64 (y : Int)] w fun e w' => e = .returned (.int .i64 c) ∧ w' = w := by
  rw [← hc.out]; exact compare_R x y w
set_option maxHeartbeats 1000000 in
/-- The comparison: the larger level first. -/
theorem cmp_R {W : World} {B cp n : Nat} {P : Nat → Nat} {O ws : Nat → Nat} (HW : Hid (LevAt W P n ws)) (x y : Nat) (hx : x < n) (hy : y < n) (w : World) (HS : Hid (SS W P B cp n O w)) (_ : n ≤ 400) (c : Int) (hc : Hid (cmpI (ws y) (ws x) = c)) :
    Calls Try.prog 43 #[.pointer (some ⟨P x, 0, none⟩), .pointer (some ⟨P y, 0, none⟩)] w fun e w' => e = .returned (.int .i64 c) ∧ ∃ q, w' = w.drewN q := by
  have cx : w.cell? ⟨P x, 1, none⟩ = some (.int .i64 ((ws x : Nat) : Int)) := (HS.out.1.cell (p := ⟨P x, 1, none⟩) (HW.out x hx).1).trans (HW.out x hx).2
  have cy : w.cell? ⟨P y, 1, none⟩ = some (.int .i64 ((ws y : Nat) : Int)) := (HS.out.1.cell (p := ⟨P y, 1, none⟩) (HW.out y hy).1).trans (HW.out y hy).2
  go_enter Try.func43, Try.ntmps43
  go_wp2_with fail
  go_quiet ((go_at_call 44; exact Calls.quiet_of_same (compare_c _ _ c hc _)))
  go_wp2_with fail
  go_ret
  exact ⟨rfl, _, rfl⟩
theorem ins_lt {OO O : Nat → Nat} {a b k n : Nat} (h : ∀ p q, a ≤ p → p < q → q < b → OO p < OO q) (g : Seg OO O a k n ∧ ∀ i, k ≤ i → O i = OO i) (hb : k < b) : ∀ p, a ≤ p → p < k → O p < O k := fun p h1 h2 => by
  rw [g.2 k (Nat.le_refl _)]
  exact g.1.2.1 (fun v => v < OO k) (fun i g1 g2 => h i k g1 g2 hb) p h1 h2
theorem Insd.step' {ws O : Nat → Nat} {a i j : Nat} (h : Insd ws O a i j) (hk : a < j) (hi : j ≤ i) (hc : ws (O (j - 1)) < ws (O j)) : Insd ws (upd (upd O j (O (j - 1))) (j - 1) (O j)) a i (j - 1) := by
  obtain ⟨k, rfl⟩ : ∃ k, j = k + 1 := ⟨j - 1, by omega⟩
  rw [Nat.add_sub_cancel] at hc ⊢
  exact h.step (by omega) hi hc
theorem ins_rest {OO O O2 : Nat → Nat} {a k : Nat} (h : ∀ i, k ≤ i → O i = OO i) (g : ∀ i, ¬ (a ≤ i ∧ i < k + 1) → O2 i = O i) : ∀ i, k + 1 ≤ i → O2 i = OO i := fun i hi => (g i (by omega)).trans (h i (by omega))
theorem ins_end {OO O : Nat → Nat} {a b k n : Nat} (g : Seg OO O a k n ∧ ∀ i, k ≤ i → O i = OO i) (hk : k = a + 1) : Seg OO O a b n := by
  subst hk
  have h0 : ∀ i, O i = OO i := fun i => by
    by_cases e : i = a
    · have := g.1.2.1 (fun v => v = OO a) (fun j h1 h2 => by rw [show j = a by omega]) a (Nat.le_refl _) (by omega)
      rw [e]; exact this
    · exact g.1.1 i (by omega)
  have e : O = OO := funext h0
  rw [e]; exact Seg.refl _ _ _ _
set_option maxHeartbeats 2000000 in
set_option maxRecDepth 100000 in
theorem insert_R {W : World} {B cp n : Nat} {P : Nat → Nat} {OO ws : Nat → Nat} (HW : Hid (LevAt W P n ws)) (hn : n ≤ 400) (a b : Nat) (hab : a ≤ b) (hbn : b ≤ n) (w : World) (HS : Hid (SS W P B cp n OO w)) (HP : Hid (Perm OO n)) (HI : Hid (∀ p q, a ≤ p → p < q → q < b → OO p < OO q)) :
    Calls Try.prog 64 #[.slice (some ⟨B, 0, none⟩) n cp, .int .i64 (a : Int), .int .i64 (b : Int), .func (.func 43) #[] #[]] w fun e w' =>
      e = .returned (.tuple #[]) ∧ ∃ O, SS W P B cp n O w' ∧ Seg OO O a b n ∧ Srt ws O a b := by
  go_enter Try.func64, Try.ntmps64
  go_wp2_with fail
  go_loopw [8] (fun i wr => ∃ (k : Nat) (O : Nat → Nat), a + 1 ≤ k ∧ (k ≤ b ∨ k = a + 1) ∧ i = .int .i64 k ∧ SS W P B cp n O wr ∧ (Seg OO O a k n ∧ (∀ i, k ≤ i → O i = OO i)) ∧ Srt ws O a k) (fun i _ => b - (intOf i).toNat)
  case atStart => exact ⟨a + 1, OO, Nat.le_refl _, Or.inr rfl, by go_num, HS.out, ⟨Seg.refl _ _ _ _, fun _ _ => rfl⟩, fun i j h1 h2 h3 => by omega⟩
  case round =>
    obtain ⟨k, O, hk, hkb, rfl, hs, hseg, hsrt⟩ := hrel
    obtain ⟨wo, rfl⟩ : ∃ wo : World, wo = wr := ⟨_, rfl⟩
    have S := Lib.hid hs
    have G := Lib.hid hseg
    have R := Lib.hid hsrt
    clear hs hseg hsrt
    by_cases hlt : k < b
    · go_wp2_with fail
      go_loopw [9] (fun i wr => ∃ (j : Nat) (O2 : Nat → Nat), a ≤ j ∧ j ≤ k ∧ i = .int .i64 j ∧ SS W P B cp n O2 wr ∧ (Seg O O2 a (k + 1) n ∧ Insd ws O2 a k j)) (fun i _ => (intOf i).toNat)
      case atStart => exact ⟨k, O, by omega, Nat.le_refl _, rfl, S.out, Seg.refl _ _ _ _, Insd.start R.out (ins_lt HI.out G.out hlt)⟩
      case round =>
        obtain ⟨j, O2, haj, hjk, rfl, hs, hg⟩ := hrel
        have S2 := Lib.hid hs
        have G2 := Lib.hid hg
        have HPO : Hid (Perm O2 n) := Lib.hid (hg.1.2.2 (G.out.1.2.2 HP.out))
        by_cases hj : a < j
        · have jn : j < n := by omega
          have jn1 : j - 1 < n := by omega
          have c0 := hs.2.2.2.cell jn
          have f0 := hs.2.2.2.frozen j
          have c1 := hs.2.2.2.cell jn1
          have f1 := hs.2.2.2.frozen (j - 1)
          have hx := HPO.out.1 _ jn
          have hy := HPO.out.1 _ jn1
          obtain ⟨x, hxe⟩ : ∃ x, O2 j = x := ⟨_, rfl⟩
          obtain ⟨y, hye⟩ : ∃ y, O2 (j - 1) = y := ⟨_, rfl⟩
          rw [hxe] at c0 hx
          rw [hye] at c1 hy
          obtain ⟨c, hce⟩ : ∃ c, cmpI (ws y) (ws x) = c := ⟨_, rfl⟩
          have hlt0 := cmpI_neg (ws y) (ws x)
          rw [hce] at hlt0
          have HX := Lib.hid hxe
          have HY := Lib.hid hye
          have HC := Lib.hid hce
          have HLT := Lib.hid hlt0
          clear hs hg hxe hye hce hlt0
          have p1 : (a : Int) < (j : Int) := by omega
          have p2 : (1 : Int) ≤ (j : Int) := by omega
          have p3 : (j : Int) - 1 < (n : Int) := by omega
          by_cases hc0 : c < 0
          · have t1 : decide (c < 0) = true := decide_eq_true hc0
            go_wp2_with fail
            go_quiet ((go_at_call 43; exact Calls.quiet_of (cmp_R HW x y hx hy _ (Lib.hid (S2.out.drewN _)) hn c HC)))
            go_wp2_with fail
            have hs3 := S2.out.drewN nq
            have S3 := Lib.hid hs3
            clear c0 f0 c1 f1 S2
            generalize wr.drewN nq = w1 at hs3 S3 ⊢
            have c0 := hs3.2.2.2.cell jn
            have f0 := hs3.2.2.2.frozen j
            have c1 := hs3.2.2.2.cell jn1
            have f1 := hs3.2.2.2.frozen (j - 1)
            rw [HX.out] at c0
            rw [HY.out] at c1
            clear hs3
            have hne : ¬ j - 1 = j := by omega
            have hne2 : ¬ j = j - 1 := by omega
            go_region
            all_goals go_wp2_with fail
            have e1 : (j : Int) - 1 = ((j - 1 : Nat) : Int) := by omega
            have E1 := Lib.hid e1
            clear e1
            go_roundw
            case rel => exact ⟨j - 1, _, by omega, by omega, by rw [E1.out], (S3.out.swap jn jn1 HX.out HY.out).drew, G2.out.1.trans (Seg.swap O2 ⟨haj, by omega⟩ ⟨by omega, by omega⟩ (by omega)), G2.out.2.step' hj hjk (by rw [HX.out, HY.out]; exact HLT.out.1 hc0)⟩
            case measure => simp [intOf]; omega
          · have t1 : decide (c < 0) = false := decide_eq_false hc0
            have HSR : Hid (Srt ws O2 a (k + 1)) := Lib.hid (G2.out.2.stop haj hjk fun _ => by rw [HX.out, HY.out]; exact fun h => hc0 (HLT.out.2 h))
            have HSG : Hid (Seg OO O2 a (k + 1) n) := Lib.hid ((G.out.1.mono (Nat.le_refl _) (by omega)).trans G2.out.1)
            go_wp2_with fail
            go_quiet ((go_at_call 43; exact Calls.quiet_of (cmp_R HW x y hx hy _ (Lib.hid (S2.out.drewN _)) hn c HC)))
            go_wp2_with fail
            go_roundw
            case rel => exact ⟨k + 1, O2, by omega, by omega, by go_num, S2.out.drewN _, ⟨HSG.out, ins_rest G.out.2 G2.out.1.1⟩, HSR.out⟩
            case measure => simp [intOf]; omega
        · obtain rfl : j = a := by omega
          have HSR : Hid (Srt ws O2 j (k + 1)) := Lib.hid (G2.out.2.stop haj hjk fun h => absurd h hj)
          have HSG : Hid (Seg OO O2 j (k + 1) n) := Lib.hid ((G.out.1.mono (Nat.le_refl _) (by omega)).trans G2.out.1)
          have t1 : decide ((j : Int) < (j : Int)) = false := decide_eq_false (by omega)
          clear hs hg hj
          go_wp2_with fail
          go_quiet (fail)
          go_wp2_with fail
          go_roundw
          case rel => exact ⟨k + 1, O2, by omega, by omega, by go_num, S2.out.drewN _, ⟨HSG.out, ins_rest G.out.2 G2.out.1.1⟩, HSR.out⟩
          case measure => simp [intOf]; omega
    · go_wp2_with fail
      go_end0
      have hkb2 : b ≤ k := by omega
      have hse : Seg OO O a b n := by
        rcases hkb with h | h
        · rw [show b = k by omega]; exact G.out.1
        · exact ins_end G.out h
      exact ⟨rfl, O, S.out, hse, fun p q h1 h2 h3 => R.out p q h1 h2 (by omega)⟩
end Go.Proofs.Ytningajaimbncaa
