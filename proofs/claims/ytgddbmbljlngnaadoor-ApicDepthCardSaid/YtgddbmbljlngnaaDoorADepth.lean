/- The walk of corebellkeep.ApicDepth: it returns true at every input. -/
import Derived.Test.YtgddbmbljlngnaaDoorLocR
import Derived.Test.YtgddbmbljlngnaaDoorLocN
namespace Go.Proofs.YtgddbmbljlngnaaDoor
open Go.RowKit

theorem RBox.frozen {w : World} {B : Nat} {row : Array Value} {t : TypeId} (h : RBox w B row t) (i : Nat) : w.frozen? ⟨B, i, none⟩ = false := frozen_of_row w B i row t h
theorem RBox.set {w : World} {B : Nat} {row : Array Value} {t : TypeId} (h : RBox w B row t) (i : Nat) (v : Value) : RBox (w.setCell ⟨B, i, none⟩ v) B (row.setIfInBounds i v) t := heap_setCell_same w B i row t v h
/-- The state in its variable; nothing that was there has turned. -/
def Dep (W : World) (B : Nat) (s : St) (w : World) : Prop := Below W.heap.size W w ∧ RBox w B #[.int .u64 s.a0, .int .u64 s.a1, .int .u64 s.a2, .int .u64 s.a3, .int .u64 s.s0, .int .u64 s.s1, .int .u64 s.s2, .int .u64 s.s3, .int .i64 s.c] 26 ∧ W.heap.size ≤ B
theorem Dep.step {W w w' : World} {B : Nat} {s : St} (h : Dep W B s w) (hb : Below w.heap.size w w') : Dep W B s w' := ⟨bstep h.1 hb, h.2.1.step hb, h.2.2⟩
theorem Dep.alloc {W w : World} {B : Nat} {s : St} (h : Dep W B s w) (o : Obj) : Dep W B s (w.alloc o) := h.step ((Below.refl _ _).alloc (Nat.le_refl _) o)
theorem Dep.set {W w : World} {B : Nat} {s : St} (h : Dep W B s w) (r : St) : Dep W B r (((((((((w.setCell ⟨B, 0, none⟩ (.int .u64 r.a0)).setCell ⟨B, 1, none⟩ (.int .u64 r.a1)).setCell ⟨B, 2, none⟩ (.int .u64 r.a2)).setCell ⟨B, 3, none⟩ (.int .u64 r.a3)).setCell ⟨B, 4, none⟩ (.int .u64 r.s0)).setCell ⟨B, 5, none⟩ (.int .u64 r.s1)).setCell ⟨B, 6, none⟩ (.int .u64 r.s2)).setCell ⟨B, 7, none⟩ (.int .u64 r.s3)).setCell ⟨B, 8, none⟩ (.int .i64 r.c)) := by
  have h1 := ((((((((h.2.1.set 0 (.int .u64 r.a0)).set 1 (.int .u64 r.a1)).set 2 (.int .u64 r.a2)).set 3 (.int .u64 r.a3)).set 4 (.int .u64 r.s0)).set 5 (.int .u64 r.s1)).set 6 (.int .u64 r.s2)).set 7 (.int .u64 r.s3)).set 8 (.int .i64 r.c)
  simp only [List.setIfInBounds_toArray, List.set_cons_zero, List.set_cons_succ] at h1
  refine ⟨?_, h1, h.2.2⟩
  have hw := h.1
  have hB := h.2.2
  repeat (first | (with_reducible exact hw) | ((with_reducible refine Below.setCell ?_ ?_ _); rotate_left; focus (exact hB)))
set_option maxHeartbeats 4000000 in
set_option maxRecDepth 100000 in
theorem depth_some (b off len cap : Nat) (K N : Nat → Int) (w : World) (HT : Hid (Tab w)) (hb : b < w.heap.size) (hlen : len ≤ 9223372036854775807) (Hc : Hid (∀ i, i < len → w.cell? ⟨b, off + i * 2, none⟩ = some (.int .i64 (K i)) ∧ w.cell? ⟨b, off + i * 2 + 1, none⟩ = some (.int .i64 (N i)))) :
    Calls Tryd.prog 9 #[.slice (some ⟨b, off, none⟩) len cap] w fun e w' => e = .returned (.bool true) ∧ Below w.heap.size w w' := by
  go_enter Tryd.func9, Tryd.ntmps9
  go_wp2_with fail
  with_reducible refine (alive2_T _ ?_).mono ?_
  focus (refine HT.out.below (show Below w.heap.size w _ from ?_); repeat (first | (with_reducible assumption) | (with_reducible exact Below.refl _ _) | ((with_reducible refine Below.setCell ?_ ?_ _); rotate_left; focus (first | (simp; done) | omega | (simp; omega))) | ((with_reducible refine Below.alloc ?_ ?_ _); rotate_left; focus (first | (simp; done) | omega | (simp; omega)))))
  rintro e w1 ⟨rfl, hb⟩
  have BB1 := bstep (W := w) (by repeat (first | (with_reducible assumption) | (with_reducible exact Below.refl _ _) | ((with_reducible refine Below.setCell ?_ ?_ _); rotate_left; focus (first | (simp; done) | omega | (simp; omega))) | ((with_reducible refine Below.alloc ?_ ?_ _); rotate_left; focus (first | (simp; done) | omega | (simp; omega))))) hb
  have LL1 := BB1.size
  clear hb
  have D0 : Dep w w1.heap.size St.zero (w1.alloc (.cells #[.int .u64 0, .int .u64 0, .int .u64 0, .int .u64 0, .int .u64 0, .int .u64 0, .int .u64 0, .int .u64 0, .int .i64 0] 26)) := ⟨by repeat (first | (with_reducible assumption) | (with_reducible exact Below.refl _ _) | ((with_reducible refine Below.setCell ?_ ?_ _); rotate_left; focus (first | (simp; done) | omega | (simp; omega))) | ((with_reducible refine Below.alloc ?_ ?_ _); rotate_left; focus (first | (simp; done) | omega | (simp; omega)))), rbox_new _ _ _, LL1⟩
  go_wp2_with fail
  go_loopw [4, 14] (fun t i wr => ∃ (k : Nat) (s : St), k ≤ len ∧ i = .int .i64 k ∧ t = .int .i64 ((allOf s.q).length : Nat) ∧ Hid (s.Ok ∧ s.right = true) ∧ Dep w w1.heap.size s wr) (fun _ i _ => len - (intOf i).toNat)
  case atStart => exact ⟨0, St.zero, Nat.zero_le _, rfl, rfl, ⟨St.zero_ok, by kernel_rfl⟩, D0⟩
  case round =>
    clear D0
    obtain ⟨k, s, hk, rfl, rfl, HS, DS⟩ := hrel
    by_cases hlt : k < len
    · have e0 : wr.cell? ⟨b, off + k * 2, none⟩ = some (.int .i64 (K k)) := (DS.1.cell hb).trans (Hc.out k hlt).1
      have e1 : wr.cell? ⟨b, off + k * 2 + 1, none⟩ = some (.int .i64 (N k)) := (DS.1.cell hb).trans (Hc.out k hlt).2
      obtain ⟨x, hx⟩ : ∃ x : Int, K k = x := ⟨_, rfl⟩
      obtain ⟨y, hy⟩ : ∃ y : Int, N k = y := ⟨_, rfl⟩
      rw [hx] at e0
      rw [hy] at e1
      clear hx hy
      obtain ⟨B, hB⟩ : ∃ B : Nat, w1.heap.size = B := ⟨_, rfl⟩
      rw [hB] at DS ⊢
      have hBlt : B < wr.heap.size := DS.2.1.lt
      have c0 := DS.2.1.cell 0 _ rfl
      have c1 := DS.2.1.cell 1 _ rfl
      have c2 := DS.2.1.cell 2 _ rfl
      have c3 := DS.2.1.cell 3 _ rfl
      have c4 := DS.2.1.cell 4 _ rfl
      have c5 := DS.2.1.cell 5 _ rfl
      have c6 := DS.2.1.cell 6 _ rfl
      have c7 := DS.2.1.cell 7 _ rfl
      have c8 := DS.2.1.cell 8 _ rfl
      have hne : ¬ (wr.heap.size = B) := by omega
      have hne' : ¬ (B = wr.heap.size) := by omega
      have HO : Hid s.Ok := HS.out.1
      have LL : w.heap.size ≤ wr.heap.size := DS.1.size
      rcases step_split s x y with ⟨z, hz, H⟩ | ⟨r, v, H⟩
      · have hz' : (z != 0) = true := by simpa using hz
        have H' := Lib.hid H
        clear H hz
        go_wp2_with fail
        with_reducible refine (step_Z s x y z _ HO ?_ H').mono ?_
        focus (refine HT.out.below (show Below w.heap.size w _ from ?_); exact (DS.alloc _).1)
        rintro e w2 ⟨rfl, hb2⟩
        have DS2 := (DS.alloc _).step hb2
        clear hb2 c0 c1 c2 c3 c4 c5 c6 c7 c8
        go_wp2_with fail
        go_roundw
        case rel => exact ⟨k + 1, s, by omega, by go_num, rfl, HS, DS2.alloc _⟩
        case measure => simp [intOf]; omega
      · have H' := Lib.hid H
        have hl := step_len H
        have HR : Hid (r.Ok ∧ r.right = true) := ⟨step_ok' HS.out.1 H, step_right H⟩
        have h14 := len_14 HR.out.2
        clear H
        go_wp2_with fail
        with_reducible refine (step_R s r x y v 0 _ HO ?_ H').mono ?_
        focus (refine HT.out.below (show Below w.heap.size w _ from ?_); exact (DS.alloc _).1)
        rintro e w2 ⟨rfl, hb2⟩
        have DS2 := (DS.alloc _).step hb2
        have G2 := bat hb2 wr.heap.size (by simp)
        clear hb2 c0 c1 c2 c3 c4 c5 c6 c7 c8
        have hB2 : B < w2.heap.size := DS2.2.1.lt
        have d0 := DS2.2.1.cell 0 _ rfl
        have f0 := DS2.2.1.frozen 0
        have d1 := DS2.2.1.cell 1 _ rfl
        have f1 := DS2.2.1.frozen 1
        have d2 := DS2.2.1.cell 2 _ rfl
        have f2 := DS2.2.1.frozen 2
        have d3 := DS2.2.1.cell 3 _ rfl
        have f3 := DS2.2.1.frozen 3
        have d4 := DS2.2.1.cell 4 _ rfl
        have f4 := DS2.2.1.frozen 4
        have d5 := DS2.2.1.cell 5 _ rfl
        have f5 := DS2.2.1.frozen 5
        have d6 := DS2.2.1.cell 6 _ rfl
        have f6 := DS2.2.1.frozen 6
        have d7 := DS2.2.1.cell 7 _ rfl
        have f7 := DS2.2.1.frozen 7
        have d8 := DS2.2.1.cell 8 _ rfl
        have f8 := DS2.2.1.frozen 8
        have hG2 := G2.2.2
        obtain ⟨L, hL⟩ : ∃ L : Nat, (allOf s.q).length = L := ⟨_, rfl⟩
        obtain ⟨l, hl0⟩ : ∃ l : List Nat, allOf r.q = l := ⟨_, rfl⟩
        have Hl : Hid (allOf (mem r.s0 r.s1 r.s2 r.s3) = l) := hl0
        have OS : Hid (Ok r.s0 r.s1 r.s2 r.s3) := HR.out.1.2
        have hL14 : L ≤ 14 := by rw [← hL]; exact len_14 HS.out.2
        rw [hL] at hl ⊢
        have HLEN : Hid ((allOf r.q).length = l.length) := congrArg List.length hl0
        rw [HLEN.out] at hl h14
        have hM14 : decide (14 < (l.length : Int)) = false := by simp; omega
        clear hL hl0
        by_cases h2 : x = 2
        · subst h2
          have hadd : (L : Int) + 1 = (l.length : Int) := by rw [if_pos rfl] at hl; omega
          clear hl
          go_wp2_with fail
          with_reducible refine (all_list r.s0 r.s1 r.s2 r.s3 l _ OS ?_ Hl).mono ?_
          focus (refine HT.out.below (show Below w.heap.size w _ from ?_); exact ((Dep.set DS2 r).alloc _).1)
          rintro e w3 ⟨v3, rfl, ⟨ad3, cap3, rfl, _⟩, hb3⟩
          have DS3 := ((Dep.set DS2 r).alloc _).step hb3
          clear hb3 G2 hG2
          go_wp2_with fail
          go_roundw
          case rel => exact ⟨k + 1, r, by omega, by go_num, by rw [HLEN.out], HR, DS3⟩
          case measure => simp [intOf]; omega
        · by_cases h3 : x = 3
          · subst h3
            have hsub : (L : Int) - 1 = (l.length : Int) := by rw [if_neg (by decide), if_pos rfl] at hl; omega
            clear hl
            go_wp2_with fail
            with_reducible refine (all_list r.s0 r.s1 r.s2 r.s3 l _ OS ?_ Hl).mono ?_
            focus (refine HT.out.below (show Below w.heap.size w _ from ?_); exact ((Dep.set DS2 r).alloc _).1)
            rintro e w3 ⟨v3, rfl, ⟨ad3, cap3, rfl, _⟩, hb3⟩
            have DS3 := ((Dep.set DS2 r).alloc _).step hb3
            clear hb3 G2 hG2
            go_wp2_with fail
            go_roundw
            case rel => exact ⟨k + 1, r, by omega, by go_num, by rw [HLEN.out], HR, DS3⟩
            case measure => simp [intOf]; omega
          · have h2' : (x == 2) = false := by simpa using h2
            have h3' : (x == 3) = false := by simpa using h3
            have hsame : (L : Int) = (l.length : Int) := by rw [if_neg h2, if_neg h3] at hl; omega
            clear hl h2 h3
            go_wp2_with fail
            with_reducible refine (all_list r.s0 r.s1 r.s2 r.s3 l _ OS ?_ Hl).mono ?_
            focus (refine HT.out.below (show Below w.heap.size w _ from ?_); exact ((Dep.set DS2 r).alloc _).1)
            rintro e w3 ⟨v3, rfl, ⟨ad3, cap3, rfl, _⟩, hb3⟩
            have DS3 := ((Dep.set DS2 r).alloc _).step hb3
            clear hb3 G2 hG2
            go_wp2_with fail
            go_roundw
            case rel => exact ⟨k + 1, r, by omega, by go_num, by rw [HLEN.out], HR, DS3⟩
            case measure => simp [intOf]; omega
    · have hkl : k = len := by omega
      subst hkl
      clear hlt
      have hBlt := DS.2.1.lt
      have c0 := DS.2.1.cell 0 _ rfl
      have c1 := DS.2.1.cell 1 _ rfl
      have c2 := DS.2.1.cell 2 _ rfl
      have c3 := DS.2.1.cell 3 _ rfl
      have c4 := DS.2.1.cell 4 _ rfl
      have c5 := DS.2.1.cell 5 _ rfl
      have c6 := DS.2.1.cell 6 _ rfl
      have c7 := DS.2.1.cell 7 _ rfl
      have c8 := DS.2.1.cell 8 _ rfl
      have OS : Hid s.Ok := HS.out.1
      have HR : Hid (s.right = true) := HS.out.2
      go_wp2_with fail
      with_reducible refine (right_R s true _ OS ?_ HR).mono ?_
      focus (exact HT.out.below DS.1)
      rintro e w2 ⟨rfl, hb2⟩
      have DS2 := DS.step hb2
      clear hb2
      go_wp2_with fail
      go_ret
      exact ⟨rfl, DS2.1⟩
theorem depth_zero (w : World) (hT : Tab w) : Calls Tryd.prog 12 #[.agg #[.int .u64 0, .int .u64 0, .int .u64 0, .int .u64 0, .int .u64 0, .int .u64 0, .int .u64 0, .int .u64 0, .int .i64 0]] w fun e w' => e = .returned (.bool true) ∧ Below w.heap.size w w' :=
  right_R St.zero true w St.zero_ok hT (show St.right St.zero = true by kernel_rfl)
set_option maxHeartbeats 4000000 in
set_option maxRecDepth 100000 in
theorem depth_none (ad : Option Addr) (cap : Nat) (w : World) (HT : Hid (Tab w)) :
    Calls Tryd.prog 9 #[.slice ad 0 cap] w fun e w' => e = .returned (.bool true) ∧ Below w.heap.size w w' := by
  go_enter Tryd.func9, Tryd.ntmps9
  go_wp2_with fail
  with_reducible refine (alive2_T _ ?_).mono ?_
  focus (refine HT.out.below (show Below w.heap.size w _ from ?_); repeat (first | (with_reducible assumption) | (with_reducible exact Below.refl _ _) | ((with_reducible refine Below.setCell ?_ ?_ _); rotate_left; focus (first | (simp; done) | omega | (simp; omega))) | ((with_reducible refine Below.alloc ?_ ?_ _); rotate_left; focus (first | (simp; done) | omega | (simp; omega)))))
  rintro e w1 ⟨rfl, hb⟩
  have BB1 := bstep (W := w) (by repeat (first | (with_reducible assumption) | (with_reducible exact Below.refl _ _) | ((with_reducible refine Below.setCell ?_ ?_ _); rotate_left; focus (first | (simp; done) | omega | (simp; omega))) | ((with_reducible refine Below.alloc ?_ ?_ _); rotate_left; focus (first | (simp; done) | omega | (simp; omega))))) hb
  have LL1 := BB1.size
  clear hb
  go_wp2_with fail
  refine wp_loop_rounds 1 ?_
  rw [rounds_succ]
  go_wp2_with fail
  with_reducible refine (depth_zero _ ?_).mono ?_
  focus (refine HT.out.below (show Below w.heap.size w _ from ?_); repeat (first | (with_reducible assumption) | (with_reducible exact Below.refl _ _) | ((with_reducible refine Below.setCell ?_ ?_ _); rotate_left; focus (first | (simp; done) | omega | (simp; omega))) | ((with_reducible refine Below.alloc ?_ ?_ _); rotate_left; focus (first | (simp; done) | omega | (simp; omega)))))
  rintro e w2 ⟨rfl, hb2⟩
  have BB2 := bstep (W := w) (by repeat (first | (with_reducible assumption) | (with_reducible exact Below.refl _ _) | ((with_reducible refine Below.setCell ?_ ?_ _); rotate_left; focus (first | (simp; done) | omega | (simp; omega))) | ((with_reducible refine Below.alloc ?_ ?_ _); rotate_left; focus (first | (simp; done) | omega | (simp; omega))))) hb2
  clear hb2
  go_wp2_with fail
  go_ret
  exact ⟨rfl, BB2⟩
theorem apicDepth_walk (v : Value) (w : World) (h : (∃ ad cap, v = .slice ad 0 cap) ∨ ∃ (b off len cap : Nat) (K N : Nat → Int), v = .slice (some ⟨b, off, none⟩) len cap ∧ b < w.heap.size ∧ len ≤ 9223372036854775807 ∧ ∀ i, i < len → w.cell? ⟨b, off + i * 2, none⟩ = some (.int .i64 (K i)) ∧ w.cell? ⟨b, off + i * 2 + 1, none⟩ = some (.int .i64 (N i))) (hT : Tab w) :
    Calls Tryd.prog 9 #[v] w fun e w' => e = .returned (.bool true) ∧ Below w.heap.size w w' := by
  rcases h with ⟨ad, cap, rfl⟩ | ⟨b, off, len, cap, K, N, rfl, hb, hl, hc⟩
  · exact depth_none ad cap w hT
  · exact depth_some b off len cap K N w hT hb hl hc
end Go.Proofs.YtgddbmbljlngnaaDoor
