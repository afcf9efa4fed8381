/- The walk of corebellkeep.ApicAll: it returns true at every input. -/
import Derived.Test.YtgddbmbljlngnaaDoorRefE
import Derived.Test.YtgddbmbljlngnaaDoorAllP
import Derived.Deep.AppendLies
namespace Go.Proofs.YtgddbmbljlngnaaDoor
open Go.RowKit

theorem all_at (a b c d : Nat) (l : List Nat) (w : World) (h : Hid (Ok a b c d)) (hT : Tab w) (hl : Hid (allOf (mem a b c d) = l)) :
    Calls Tryd.prog 17 #[.agg #[.int .u64 a, .int .u64 b, .int .u64 c, .int .u64 d]] w fun e w' => ∃ ad cap, e = .returned (.slice ad l.length cap) ∧ Listed w.heap.size l ad w' ∧ Below w.heap.size w w' := by
  refine (all_any a b c d w h.out hT).mono ?_
  rw [hl.out]
  rintro e w' ⟨v, rfl, hown, hb⟩
  have hown' := hown
  obtain ⟨h1, h2⟩ := hown
  rcases h2 with ⟨rfl, h2⟩ | ⟨g, cap, cur, rfl, hg, hh, hn', hm, hs, ht⟩
  · exact ⟨none, 0, by rw [h2], fun h => by omega, hb⟩
  · refine ⟨some ⟨g, 0, none⟩, cap, rfl, fun _ => ⟨g, rfl, by omega, fun j hj => ?_⟩, hb⟩
    rw [hown'.cellAt j (by omega)]
    unfold ints
    rw [List.getElem?_map, List.getElem?_eq_getElem hj, List.getD_eq_getElem?_getD, List.getElem?_eq_getElem hj]
    rfl

/-- What the first loop keeps. -/
def Wan (W : World) (s : St) (la : List Nat) (ad : Option Addr) (k : Nat) (v : Value) (w : World) : Prop :=
  ∃ h cap, v = .slice (some ⟨h, 0, none⟩) (wanL s.c la k).length cap ∧ w.ownsRow (W.heap.size + 1) 3 1 v (wanL s.c la k).length (ints (wanL s.c la k)) ∧ Below W.heap.size W w ∧ RBox w W.heap.size #[.int .u64 s.a0, .int .u64 s.a1, .int .u64 s.a2, .int .u64 s.a3, .int .u64 s.s0, .int .u64 s.s1, .int .u64 s.s2, .int .u64 s.s3, .int .i64 s.c] 26 ∧
    (0 < la.length → ∃ g, ad = some ⟨g, 0, none⟩ ∧ g < w.heap.size ∧ g ≠ h ∧ Lies w g la)
theorem Wan.hit {W wr w1 : World} {s : St} {la : List Nat} {ad : Option Addr} {k h g' cap cap' x : Nat} {o : Obj} (hW : Wan W s la ad k (.slice (some ⟨h, 0, none⟩) (wanL s.c la k).length cap) wr) (hk : k < la.length) (hx : la.getD k 0 = x) (hc : s.c < ((x / 16 : Nat) : Int))
    (hown' : w1.ownsRow (W.heap.size + 1) 3 1 (.slice (some ⟨g', 0, none⟩) ((wanL s.c la k).length + 1) cap') ((wanL s.c la k).length + 1) (ints (wanL s.c la k) ++ [.int .i64 (x : Int)])) (hgrow : (wr.alloc o).grownBy w1 (some h)) (hor : some h = some g' ∨ g' = wr.heap.size + 1) :
    Wan W s la ad (k + 1) (.slice (some ⟨g', 0, none⟩) ((wanL s.c la k).length + 1) cap') w1 := by
  obtain ⟨h', cap'', e, hown, hbel, hbox, hl⟩ := hW
  simp only [Value.slice.injEq, Option.some.injEq, Addr.mk.injEq, and_true, true_and] at e
  obtain ⟨rfl, rfl⟩ := e
  have hlt := hbox.lt
  have h1 : Below (W.heap.size + 1) wr w1 := ((Below.refl _ _).alloc (by omega) o).grown hgrow (by simp; omega) (fun j hj => (hown.lt j (by simpa [Value.ownBlock] using hj)).1)
  have ew : wanL s.c la (k + 1) = wanL s.c la k ++ [x] := by rw [wan_hit hk (by rw [hx]; exact hc), hx]
  refine ⟨g', cap', by rw [ew]; simp, ?_, hbel.trans (h1.mono (by omega)), ?_, fun h0 => ?_⟩
  · rw [ew]
    simpa [ints] using hown'
  · unfold RBox at hbox ⊢
    rw [h1.block _ (by omega)]
    exact hbox
  · obtain ⟨g, e, hg, hgh, hL⟩ := hl h0
    refine ⟨g, e, Nat.lt_of_lt_of_le hg h1.size, ?_, fun j hj => ?_⟩
    · rcases hor with hor | hor
      · simp only [Option.some.injEq] at hor
        omega
      · omega
    · exact hgrow.cell (a := ⟨g, j, none⟩) ((World.cell?_alloc_past _ _ _ hg).trans (hL j hj)) (by simp; omega)

/-- What the later loops keep: the state in its variable, the list that is wanted. -/
def Al (W : World) (s : St) (ad : Option Addr) (l : List Nat) (w : World) : Prop := Below W.heap.size W w ∧ RBox w W.heap.size #[.int .u64 s.a0, .int .u64 s.a1, .int .u64 s.a2, .int .u64 s.a3, .int .u64 s.s0, .int .u64 s.s1, .int .u64 s.s2, .int .u64 s.s3, .int .i64 s.c] 26 ∧ Listed (W.heap.size + 1) l ad w
theorem Al.step {W w w' : World} {s : St} {ad : Option Addr} {l : List Nat} (h : Al W s ad l w) (hb : Below w.heap.size w w') : Al W s ad l w' := ⟨bstep h.1 hb, h.2.1.step hb, h.2.2.step hb⟩
theorem Al.alloc {W w : World} {s : St} {ad : Option Addr} {l : List Nat} (h : Al W s ad l w) (o : Obj) : Al W s ad l (w.alloc o) := h.step ((Below.refl _ _).alloc (Nat.le_refl _) o)
theorem Al.drew {W w : World} {s : St} {ad : Option Addr} {l : List Nat} (h : Al W s ad l w) : Al W s ad l w.drew := ⟨h.1.drew, h.2.1, h.2.2⟩
theorem Al.set {W w : World} {s : St} {ad : Option Addr} {l : List Nat} (h : Al W s ad l w) (r : St) : Al W r ad l (((((((((w.setCell ⟨W.heap.size, 0, none⟩ (.int .u64 r.a0)).setCell ⟨W.heap.size, 1, none⟩ (.int .u64 r.a1)).setCell ⟨W.heap.size, 2, none⟩ (.int .u64 r.a2)).setCell ⟨W.heap.size, 3, none⟩ (.int .u64 r.a3)).setCell ⟨W.heap.size, 4, none⟩ (.int .u64 r.s0)).setCell ⟨W.heap.size, 5, none⟩ (.int .u64 r.s1)).setCell ⟨W.heap.size, 6, none⟩ (.int .u64 r.s2)).setCell ⟨W.heap.size, 7, none⟩ (.int .u64 r.s3)).setCell ⟨W.heap.size, 8, none⟩ (.int .i64 r.c)) := by
  have h1 := ((((((((h.2.1.set 0 (.int .u64 r.a0)).set 1 (.int .u64 r.a1)).set 2 (.int .u64 r.a2)).set 3 (.int .u64 r.a3)).set 4 (.int .u64 r.s0)).set 5 (.int .u64 r.s1)).set 6 (.int .u64 r.s2)).set 7 (.int .u64 r.s3)).set 8 (.int .i64 r.c)
  simp only [List.setIfInBounds_toArray, List.set_cons_zero, List.set_cons_succ] at h1
  refine ⟨?_, h1, ((((((((h.2.2.set (Nat.lt_succ_self _) 0 (.int .u64 r.a0)).set (Nat.lt_succ_self _) 1 (.int .u64 r.a1)).set (Nat.lt_succ_self _) 2 (.int .u64 r.a2)).set (Nat.lt_succ_self _) 3 (.int .u64 r.a3)).set (Nat.lt_succ_self _) 4 (.int .u64 r.s0)).set (Nat.lt_succ_self _) 5 (.int .u64 r.s1)).set (Nat.lt_succ_self _) 6 (.int .u64 r.s2)).set (Nat.lt_succ_self _) 7 (.int .u64 r.s3)).set (Nat.lt_succ_self _) 8 (.int .i64 r.c)⟩
  have hw := h.1
  repeat (first | (with_reducible exact hw) | ((with_reducible refine Below.setCell ?_ ?_ _); rotate_left; focus (exact Nat.le_refl _)))
/-- With the next state in a variable of its own. -/
def Pai (W : World) (s r : St) (ad : Option Addr) (l : List Nat) (M : Nat) (w : World) : Prop := Al W s ad l w ∧ RBox w M #[.int .u64 r.a0, .int .u64 r.a1, .int .u64 r.a2, .int .u64 r.a3, .int .u64 r.s0, .int .u64 r.s1, .int .u64 r.s2, .int .u64 r.s3, .int .i64 r.c] 26
theorem Pai.step {W w w' : World} {s r : St} {ad : Option Addr} {l : List Nat} {M : Nat} (h : Pai W s r ad l M w) (hb : Below w.heap.size w w') : Pai W s r ad l M w' := ⟨h.1.step hb, h.2.step hb⟩
theorem Pai.drew {W w : World} {s r : St} {ad : Option Addr} {l : List Nat} {M : Nat} (h : Pai W s r ad l M w) : Pai W s r ad l M w.drew := ⟨h.1.drew, h.2⟩
theorem Pai.all {W w' : World} {s r : St} {ad : Option Addr} {l : List Nat} {M : Nat} (h : Pai W s r ad l M w') : Pai W s r ad l M w' ∧ w'.cell? ⟨W.heap.size, 4, none⟩ = some (.int .u64 s.s0) ∧ w'.cell? ⟨W.heap.size, 5, none⟩ = some (.int .u64 s.s1) ∧ w'.cell? ⟨W.heap.size, 6, none⟩ = some (.int .u64 s.s2) ∧ w'.cell? ⟨W.heap.size, 7, none⟩ = some (.int .u64 s.s3) ∧ w'.cell? ⟨M, 4, none⟩ = some (.int .u64 r.s0) ∧ w'.cell? ⟨M, 5, none⟩ = some (.int .u64 r.s1) ∧ w'.cell? ⟨M, 6, none⟩ = some (.int .u64 r.s2) ∧ w'.cell? ⟨M, 7, none⟩ = some (.int .u64 r.s3) := ⟨h, h.1.2.1.cell 4 _ rfl, h.1.2.1.cell 5 _ rfl, h.1.2.1.cell 6 _ rfl, h.1.2.1.cell 7 _ rfl, h.2.cell 4 _ rfl, h.2.cell 5 _ rfl, h.2.cell 6 _ rfl, h.2.cell 7 _ rfl⟩

set_option maxHeartbeats 4000000 in
set_option maxRecDepth 100000 in
theorem all_wrong (s : St) (w : World) (HO : Hid s.Ok) (HT : Hid (Tab w)) (H1 : Hid (s.right = false)) :
    Calls Tryd.prog 7 #[.agg #[.int .u64 s.a0, .int .u64 s.a1, .int .u64 s.a2, .int .u64 s.a3, .int .u64 s.s0, .int .u64 s.s1, .int .u64 s.s2, .int .u64 s.s3, .int .i64 s.c]] w fun e w' => e = .returned (.bool true) ∧ Below w.heap.size w w' := by
  go_enter Tryd.func7, Tryd.ntmps7
  go_wp2_with fail
  with_reducible refine (alive2_T _ ?_).mono ?_
  focus (refine HT.out.below (show Below w.heap.size w _ from ?_); repeat (first | (with_reducible assumption) | (with_reducible exact Below.refl _ _) | ((with_reducible refine Below.setCell ?_ ?_ _); rotate_left; focus (first | (simp; done) | omega | (simp; omega))) | ((with_reducible refine Below.alloc ?_ ?_ _); rotate_left; focus (first | (simp; done) | omega | (simp; omega)))))
  rintro e w1 ⟨rfl, hb⟩
  have Z1_0 := bat hb (w.heap.size) (by first | omega | (simp; done) | (simp; omega))
  have ZL1_0 := Z1_0.2.2
  have BB1 := bstep (W := w) (by repeat (first | (with_reducible assumption) | (with_reducible exact Below.refl _ _) | ((with_reducible refine Below.setCell ?_ ?_ _); rotate_left; focus (first | (simp; done) | omega | (simp; omega))) | ((with_reducible refine Below.alloc ?_ ?_ _); rotate_left; focus (first | (simp; done) | omega | (simp; omega))))) hb
  have LL1 := BB1.size
  clear hb
  go_wp2_with fail
  with_reducible refine (right_R s false _ HO ?_ H1).mono ?_
  focus (refine HT.out.below (show Below w.heap.size w _ from ?_); repeat (first | (with_reducible assumption) | (with_reducible exact Below.refl _ _) | ((with_reducible refine Below.setCell ?_ ?_ _); rotate_left; focus (first | (simp; done) | omega | (simp; omega))) | ((with_reducible refine Below.alloc ?_ ?_ _); rotate_left; focus (first | (simp; done) | omega | (simp; omega)))))
  rintro e w2 ⟨rfl, hb⟩
  have BB2 := bstep (W := w) (by repeat (first | (with_reducible assumption) | (with_reducible exact Below.refl _ _) | ((with_reducible refine Below.setCell ?_ ?_ _); rotate_left; focus (first | (simp; done) | omega | (simp; omega))) | ((with_reducible refine Below.alloc ?_ ?_ _); rotate_left; focus (first | (simp; done) | omega | (simp; omega))))) hb
  have LL2 := BB2.size
  clear hb
  go_wp2_with fail
  go_ret
  exact ⟨rfl, by repeat (first | (with_reducible assumption) | (with_reducible exact Below.refl _ _) | ((with_reducible refine Below.setCell ?_ ?_ _); rotate_left; focus (first | (simp; done) | omega | (simp; omega))) | ((with_reducible refine Below.alloc ?_ ?_ _); rotate_left; focus (first | (simp; done) | omega | (simp; omega))))⟩
set_option maxHeartbeats 16000000 in
set_option maxRecDepth 100000 in
theorem all_core (s : St) (la : List Nat) (w : World) (HO : Hid s.Ok) (OA : Hid (Ok s.a0 s.a1 s.a2 s.a3)) (HT : Hid (Tab w)) (H1 : Hid (s.right = true)) (Ha : Hid (allOf (mem s.a0 s.a1 s.a2 s.a3) = la)) (hla : la.length ≤ 256) :
    Calls Tryd.prog 7 #[.agg #[.int .u64 s.a0, .int .u64 s.a1, .int .u64 s.a2, .int .u64 s.a3, .int .u64 s.s0, .int .u64 s.s1, .int .u64 s.s2, .int .u64 s.s3, .int .i64 s.c]] w fun e w' => e = .returned (.bool true) ∧ Below w.heap.size w w' := by
  obtain ⟨i0, hi, hz0, hz1, hz2⟩ := info_parts info_int
  go_enter Tryd.func7, Tryd.ntmps7
  go_wp2_with fail
  with_reducible refine (alive2_T _ ?_).mono ?_
  focus (refine HT.out.below (show Below w.heap.size w _ from ?_); repeat (first | (with_reducible assumption) | (with_reducible exact Below.refl _ _) | ((with_reducible refine Below.setCell ?_ ?_ _); rotate_left; focus (first | (simp; done) | omega | (simp; omega))) | ((with_reducible refine Below.alloc ?_ ?_ _); rotate_left; focus (first | (simp; done) | omega | (simp; omega)))))
  rintro e w1 ⟨rfl, hb⟩
  have Z1_0 := bat hb (w.heap.size) (by first | omega | (simp; done) | (simp; omega))
  have ZL1_0 := Z1_0.2.2
  have BB1 := bstep (W := w) (by repeat (first | (with_reducible assumption) | (with_reducible exact Below.refl _ _) | ((with_reducible refine Below.setCell ?_ ?_ _); rotate_left; focus (first | (simp; done) | omega | (simp; omega))) | ((with_reducible refine Below.alloc ?_ ?_ _); rotate_left; focus (first | (simp; done) | omega | (simp; omega))))) hb
  have LL1 := BB1.size
  have X1 := RBox.step (rbox_new w #[.int .u64 s.a0, .int .u64 s.a1, .int .u64 s.a2, .int .u64 s.a3, .int .u64 s.s0, .int .u64 s.s1, .int .u64 s.s2, .int .u64 s.s3, .int .i64 s.c] 26) hb
  clear hb
  go_wp2_with fail
  with_reducible refine (right_R s true _ HO ?_ H1).mono ?_
  focus (refine HT.out.below (show Below w.heap.size w _ from ?_); repeat (first | (with_reducible assumption) | (with_reducible exact Below.refl _ _) | ((with_reducible refine Below.setCell ?_ ?_ _); rotate_left; focus (first | (simp; done) | omega | (simp; omega))) | ((with_reducible refine Below.alloc ?_ ?_ _); rotate_left; focus (first | (simp; done) | omega | (simp; omega)))))
  rintro e w2 ⟨rfl, hb⟩
  have Z2_0 := bat hb (w.heap.size) (by first | omega | (simp; done) | (simp; omega))
  have ZL2_0 := Z2_0.2.2
  have BB2 := bstep (W := w) (by repeat (first | (with_reducible assumption) | (with_reducible exact Below.refl _ _) | ((with_reducible refine Below.setCell ?_ ?_ _); rotate_left; focus (first | (simp; done) | omega | (simp; omega))) | ((with_reducible refine Below.alloc ?_ ?_ _); rotate_left; focus (first | (simp; done) | omega | (simp; omega))))) hb
  have LL2 := BB2.size
  have X2 := RBox.step X1 hb
  clear hb X1
  go_wp2_with fail
  with_reducible refine (all_at s.a0 s.a1 s.a2 s.a3 la _ OA ?_ Ha).mono ?_
  focus (refine HT.out.below (show Below w.heap.size w _ from ?_); repeat (first | (with_reducible assumption) | (with_reducible exact Below.refl _ _) | ((with_reducible refine Below.setCell ?_ ?_ _); rotate_left; focus (first | (simp; done) | omega | (simp; omega))) | ((with_reducible refine Below.alloc ?_ ?_ _); rotate_left; focus (first | (simp; done) | omega | (simp; omega)))))
  rintro e w3 ⟨ad, cap, rfl, HL, hb⟩
  have W0 : Wan w s la ad 0 (.slice (some ⟨w2.heap.size, 0, none⟩) 0 0) w3 := by
    have hs := hb.size
    refine ⟨w2.heap.size, 0, rfl, ⟨rfl, Or.inr ⟨w2.heap.size, 0, #[], rfl, X2.lt, ?_, Nat.le_refl _, Nat.zero_le _, rfl, rfl⟩⟩, bstep (W := w) (by repeat (first | (with_reducible assumption) | (with_reducible exact Below.refl _ _) | ((with_reducible refine Below.setCell ?_ ?_ _); rotate_left; focus (first | (simp; done) | omega | (simp; omega))) | ((with_reducible refine Below.alloc ?_ ?_ _); rotate_left; focus (first | (simp; done) | omega | (simp; omega))))) hb, (X2.alloc _).step hb, fun h0 => ?_⟩
    · rw [hb.block _ (by simp)]
      exact heap_alloc_new w2 _
    · obtain ⟨g, e, hg, hL⟩ := HL h0
      have hc := block_lt_of_cell (hL 0 h0)
      simp at hg
      exact ⟨g, e, hc, by omega, hL⟩
  clear HL hb X2 Z1_0 ZL1_0 Z2_0 ZL2_0 BB1 BB2 LL1 LL2
  go_wp2_with fail
  go_loopw [3, 26] (fun v i wr => ∃ k : Nat, k ≤ la.length ∧ i = .int .i64 k ∧ Wan w s la ad k v wr) (fun _ i _ => la.length - (intOf i).toNat)
  case atStart => exact ⟨0, Nat.zero_le _, rfl, W0⟩
  case round =>
    clear W0
    obtain ⟨k, hk, rfl, HW⟩ := hrel
    obtain ⟨h, cap1, rfl, hown, hbel, hbox, hlies⟩ := id HW
    by_cases hlt : k < la.length
    · obtain ⟨g, rfl, hg, hgh, hL⟩ := hlies (by omega)
      obtain ⟨x, hx⟩ : ∃ x : Nat, la.getD k 0 = x := ⟨_, rfl⟩
      have hcell : wr.cell? ⟨g, k, none⟩ = some (.int .i64 (x : Int)) := by rw [← hx]; exact hL k hlt
      have hx256 : x < 256 := by rw [← hx, ← Ha.out]; exact (at_is _ k (by rw [Ha.out]; exact hlt)).2
      have c8 := hbox.cell 8 _ rfl
      have hlen := wan_len s.c la k
      have hB := hbox.lt
      have HX := Lib.hid hx
      have HH := Lib.hid HW
      clear hx hL hlies HW hbel hbox
      by_cases hc : s.c < ((x / 16 : Nat) : Int)
      · have hd : decide (s.c < (x : Int) / 16) = true := by simp; omega
        go_wp2_with (first
          | (at_builtin; refine wpList_append_lies _ rfl _ _ 36 rfl (w.heap.size + 1) 3 i0 (.int .i64 0) 1 8 Tryd.underlying36 hi hz0 hz1 hz2 rfl (by decide) _ _ _ rfl (hown.alloc _) ⟨wr.heap.size, 0, none⟩ 1 1 [.int .i64 (x : Int)] rfl rfl ?c1 ?c2 (by decide) ?c3 ?c4 ?c5 (wr.heap.size + 1) ?c6 ?_)
          | fail)
        case c1 =>
          intro j u hj
          match j, hj with
          | 0, hj => simp at hj; subst hj; simp [Addr.add]
        case c2 => intro u hu; simp at hu; subst hu; rfl
        case c3 => unfold maxLen; omega
        case c4 => omega
        case c5 => simp; omega
        case c6 => simp
        · intro g' cap' w4 hown' hgrow hor _
          have HW1 := HH.out.hit hlt HX.out hc hown' hgrow hor
          clear hown' hgrow hor hown
          go_wp2_with fail
          go_roundw
          case rel => exact ⟨k + 1, by omega, by go_num, HW1⟩
          case measure => simp [intOf]; omega
      · have hd : decide (s.c < (x : Int) / 16) = false := by simp; omega
        clear hown
        go_wp2_with fail
        go_roundw
        case rel =>
          refine ⟨k + 1, by omega, by go_num, ?_⟩
          have ew := wan_miss (c := s.c) hlt (by rw [HX.out]; exact hc)
          have := HH.out
          unfold Wan at this ⊢
          rw [ew]
          exact this
        case measure => simp [intOf]; omega
    · have hkl : k = la.length := by omega
      subst hkl
      obtain ⟨wl, hwl⟩ : ∃ wl : List Nat, wan s = wl := ⟨_, rfl⟩
      have ewl : wanL s.c la la.length = wl := by
        have hp : allOf s.p = la := Ha.out
        rw [← hwl, ← hp]
        rfl
      have hwl256 : wl.length ≤ 256 := by rw [← ewl]; exact Nat.le_trans (wan_len _ _ _) hla
      rw [ewl] at hown ⊢
      have A1 : Al w s (some ⟨h, 0, none⟩) wl wr := by
        refine ⟨hbel, hbox, fun h0 => ?_⟩
        have ho := hown
        obtain ⟨_, h2⟩ := ho
        rcases h2 with ⟨h2, _⟩ | ⟨g, cp, cur, e, hg, _⟩
        · cases h2
        · simp only [Value.slice.injEq, Option.some.injEq, Addr.mk.injEq, and_true, true_and] at e
          obtain ⟨rfl, rfl⟩ := e
          refine ⟨h, rfl, hg, fun j hj => ?_⟩
          rw [hown.cellAt j (by omega)]
          unfold ints
          rw [List.getElem?_map, List.getElem?_eq_getElem hj, List.getD_eq_getElem?_getD, List.getElem?_eq_getElem hj]
          rfl
      have HWL := Lib.hid hwl
      clear hlt hk hown hbel hbox hlies HW ewl hwl
      go_wp2_with fail
      go_loopg [6] ((topOf s.q + 1).toNat) (fun gk (_m : Value) wr => ∃ s' : St, gk = (topOf s'.q + 1).toNat ∧ Hid (Same s s') ∧ Al w s' (some ⟨h, 0, none⟩) wl wr)
      case atStart => exact ⟨s, rfl, same_self HO.out H1.out, A1⟩
      case round =>
        clear A1
        obtain ⟨s', hgk, HS, A1⟩ := hrel
        obtain ⟨t, htt⟩ : ∃ t : Int, topOf s'.q = t := ⟨_, rfl⟩
        have Ht : Hid (topOf (mem s'.s0 s'.s1 s'.s2 s'.s3) = t) := htt
        have OS : Hid (Ok s'.s0 s'.s1 s'.s2 s'.s3) := HS.out.1.2
        have HO' : Hid s'.Ok := HS.out.1
        have ht1 : -1 ≤ t ∧ t < 256 := by rw [← htt]; exact topOf_lt _
        rw [htt] at hgk
        have HGK := Lib.hid hgk
        clear hgk htt
        have c4 := A1.2.1.cell 4 _ rfl
        have c5 := A1.2.1.cell 5 _ rfl
        have c6 := A1.2.1.cell 6 _ rfl
        have c7 := A1.2.1.cell 7 _ rfl
        go_wp2_with fail
        with_reducible refine (top_every s'.s0 s'.s1 s'.s2 s'.s3 t _ OS Ht).mono ?_
        rintro e w5 ⟨rfl, hb⟩
        have A2 := A1.step hb
        clear hb c4 c5 c6 c7 A1
        by_cases ht : 0 ≤ t
        · obtain ⟨r, hr⟩ : ∃ r : St, s'.fin (topOf s'.q).toNat = r := ⟨_, rfl⟩
          have htq : topOf s'.q = t := Ht.out
          have H3 : Hid (stepOf s' 3 0 = (r, t, 0)) := by
            have := same_step HS.out (show 0 ≤ topOf s'.q by rw [htq]; exact ht)
            rw [hr, htq] at this
            exact this
          have HSR : Hid (Same s r) := by
            have := same_fin HS.out
            rw [hr] at this
            exact this
          obtain ⟨t2, ht2⟩ : ∃ t2 : Int, topOf r.q = t2 := ⟨_, rfl⟩
          have hlt2 : t2 < t := by rw [← ht2, ← hr, ← htq]; exact top_fin (by rw [htq]; exact ht)
          have Ht2 : Hid (topOf (mem r.s0 r.s1 r.s2 r.s3) = t2) := ht2
          have ht21 : -1 ≤ t2 := by rw [← ht2]; exact (topOf_lt _).1
          have OR : Hid (Ok r.s0 r.s1 r.s2 r.s3) := HSR.out.1.2
          have hd2 : decide (t ≤ t2) = false := by simp; omega
          clear hr htq ht2
          have c0 := A2.2.1.cell 0 _ rfl
          have c1 := A2.2.1.cell 1 _ rfl
          have c2 := A2.2.1.cell 2 _ rfl
          have c3 := A2.2.1.cell 3 _ rfl
          have c4 := A2.2.1.cell 4 _ rfl
          have c5 := A2.2.1.cell 5 _ rfl
          have c6 := A2.2.1.cell 6 _ rfl
          have c7 := A2.2.1.cell 7 _ rfl
          have c8 := A2.2.1.cell 8 _ rfl
          go_wp2_with fail
          with_reducible refine (step_R s' r 3 0 t 0 _ HO' ?_ H3).mono ?_
          focus (exact HT.out.below A2.1)
          rintro e w6 ⟨rfl, hb⟩
          have P4 : Pai w s' r (some ⟨h, 0, none⟩) wl w6.heap.size (w6.alloc (.cells #[.int .u64 r.a0, .int .u64 r.a1, .int .u64 r.a2, .int .u64 r.a3, .int .u64 r.s0, .int .u64 r.s1, .int .u64 r.s2, .int .u64 r.s3, .int .i64 r.c] 26)) := ⟨(A2.step hb).alloc _, rbox_new _ _ _⟩
          have P4d := P4.drew
          clear hb A2 c0 c1 c2 c3 c4 c5 c6 c7 c8
          go_upto_region 14 with fail
          go_region_held3 (fun w' => Pai w s' r (some ⟨h, 0, none⟩) wl w6.heap.size w' ∧ w'.cell? ⟨w.heap.size, 4, none⟩ = some (.int .u64 s'.s0) ∧ w'.cell? ⟨w.heap.size, 5, none⟩ = some (.int .u64 s'.s1) ∧ w'.cell? ⟨w.heap.size, 6, none⟩ = some (.int .u64 s'.s2) ∧ w'.cell? ⟨w.heap.size, 7, none⟩ = some (.int .u64 s'.s3) ∧ w'.cell? ⟨w6.heap.size, 4, none⟩ = some (.int .u64 r.s0) ∧ w'.cell? ⟨w6.heap.size, 5, none⟩ = some (.int .u64 r.s1) ∧ w'.cell? ⟨w6.heap.size, 6, none⟩ = some (.int .u64 r.s2) ∧ w'.cell? ⟨w6.heap.size, 7, none⟩ = some (.int .u64 r.s3))
            ((refine Pai.all ?_; with_reducible assumption))
            (first
              | (go_at_call 18; (with_reducible refine (top_every r.s0 r.s1 r.s2 r.s3 t2 _ OR Ht2).mono ?_); rintro e w7 ⟨rfl, hb⟩; have TT := Pai.step (by with_reducible assumption) hb; clear hb)
              | (go_at_call 18; (with_reducible refine (top_every s'.s0 s'.s1 s'.s2 s'.s3 t _ OS Ht).mono ?_); rintro e w7 ⟨rfl, hb⟩; have TT := Pai.step (by with_reducible assumption) hb; clear hb))
          all_goals
            have hB7 := TT.1.2.1.lt
            have hM7 := TT.2.lt
            have c0 := TT.1.2.1.cell 0 _ rfl
            have c1 := TT.1.2.1.cell 1 _ rfl
            have c2 := TT.1.2.1.cell 2 _ rfl
            have c3 := TT.1.2.1.cell 3 _ rfl
            have c4 := TT.1.2.1.cell 4 _ rfl
            have c5 := TT.1.2.1.cell 5 _ rfl
            have c6 := TT.1.2.1.cell 6 _ rfl
            have c7 := TT.1.2.1.cell 7 _ rfl
            have c8 := TT.1.2.1.cell 8 _ rfl
            have f0 := TT.1.2.1.frozen 0
            have f1 := TT.1.2.1.frozen 1
            have f2 := TT.1.2.1.frozen 2
            have f3 := TT.1.2.1.frozen 3
            have f4 := TT.1.2.1.frozen 4
            have f5 := TT.1.2.1.frozen 5
            have f6 := TT.1.2.1.frozen 6
            have f7 := TT.1.2.1.frozen 7
            have f8 := TT.1.2.1.frozen 8
            have m0 := TT.2.cell 0 _ rfl
            have m1 := TT.2.cell 1 _ rfl
            have m2 := TT.2.cell 2 _ rfl
            have m3 := TT.2.cell 3 _ rfl
            have m4 := TT.2.cell 4 _ rfl
            have m5 := TT.2.cell 5 _ rfl
            have m6 := TT.2.cell 6 _ rfl
            have m7 := TT.2.cell 7 _ rfl
            have m8 := TT.2.cell 8 _ rfl
            go_wp2_with fail
            go_roundg ((t2 + 1).toNat)
            case measure => rw [HGK.out]; omega
            case rel => exact ⟨r, by rw [show topOf r.q = t2 from Ht2.out], HSR, TT.1.set r⟩
        · have hd : decide (0 ≤ t) = false := by simp; omega
          have HRS : Hid (Rest s wl.length s') := by
            have := rest_start HS.out (show topOf s'.q < 0 by rw [show topOf s'.q = t from Ht.out]; omega)
            rw [HWL.out] at this
            exact this
          clear ht
          go_wp2_with fail
          go_loopw [9] (fun i wr => ∃ (r : Nat) (s2 : St), r ≤ wl.length ∧ i = .int .i64 ((r : Int) - 1) ∧ Hid (Rest s r s2) ∧ Al w s2 (some ⟨h, 0, none⟩) wl wr) (fun i _ => (intOf i + 1).toNat)
          case atStart => exact ⟨wl.length, s', Nat.le_refl _, rfl, HRS, A2⟩
          case round =>
            clear A2
            obtain ⟨r, s2, hr, rfl, HR, A4⟩ := hrel
            cases r with
            | zero =>
              have e0 : ((0 : Nat) : Int) - 1 = -1 := by decide
              rw [e0]
              clear e0 hr
              have HO2 : Hid s2.Ok := HR.out.1
              have HW2 : Hid (s2.would = -1) := rest_end HR.out
              have c0 := A4.2.1.cell 0 _ rfl
              have c1 := A4.2.1.cell 1 _ rfl
              have c2 := A4.2.1.cell 2 _ rfl
              have c3 := A4.2.1.cell 3 _ rfl
              have c4 := A4.2.1.cell 4 _ rfl
              have c5 := A4.2.1.cell 5 _ rfl
              have c6 := A4.2.1.cell 6 _ rfl
              have c7 := A4.2.1.cell 7 _ rfl
              have c8 := A4.2.1.cell 8 _ rfl
              go_wp2_with fail
              with_reducible refine (would_R s2 (-1) _ HO2 ?_ HW2).mono ?_
              focus (exact HT.out.below A4.1)
              rintro e w7 ⟨rfl, hb⟩
              have A5 := A4.step hb
              clear hb
              go_wp2_with fail
              go_ret
              exact ⟨rfl, A5.1⟩
            | succ r =>
              have e0 : ((r + 1 : Nat) : Int) - 1 = (r : Int) := by omega
              rw [e0]
              clear e0
              have hrl : r < (wan s).length := by rw [HWL.out]; omega
              obtain ⟨q1, q2, q3, q4⟩ := rest_step HR.out hrl
              obtain ⟨x, hx⟩ : ∃ x : Nat, (wan s).getD r 0 = x := ⟨_, rfl⟩
              rw [hx] at q1 q2 q3 q4
              obtain ⟨m1, hm1⟩ : ∃ m1 : St, s2.take x = m1 := ⟨_, rfl⟩
              rw [hm1] at q1 q2 q3 q4
              obtain ⟨o1, ho1⟩ : ∃ o1 : St, m1.fin x = o1 := ⟨_, rfl⟩
              rw [ho1] at q2 q4
              have Q1 := Lib.hid q1
              have Q2 := Lib.hid q2
              have Q3 := Lib.hid q3
              have Q4 := Lib.hid q4
              have HO2 : Hid s2.Ok := HR.out.1
              have hwx : wl.getD r 0 = x := by rw [← HWL.out]; exact hx
              clear q1 q2 q3 q4 hm1 ho1 hx hrl
              have c0 := A4.2.1.cell 0 _ rfl
              have c1 := A4.2.1.cell 1 _ rfl
              have c2 := A4.2.1.cell 2 _ rfl
              have c3 := A4.2.1.cell 3 _ rfl
              have c4 := A4.2.1.cell 4 _ rfl
              have c5 := A4.2.1.cell 5 _ rfl
              have c6 := A4.2.1.cell 6 _ rfl
              have c7 := A4.2.1.cell 7 _ rfl
              have c8 := A4.2.1.cell 8 _ rfl
              go_wp2_with fail
              with_reducible refine (step_R s2 m1 2 0 x 0 _ HO2 ?_ Q1).mono ?_
              focus (exact HT.out.below A4.1)
              rintro e w7 ⟨rfl, hb⟩
              have A5 := (A4.step hb).alloc (.cells #[.int .u64 m1.a0, .int .u64 m1.a1, .int .u64 m1.a2, .int .u64 m1.a3, .int .u64 m1.s0, .int .u64 m1.s1, .int .u64 m1.s2, .int .u64 m1.s3, .int .i64 m1.c] 26)
              clear hb A4 c0 c1 c2 c3 c4 c5 c6 c7 c8
              go_wp2_with fail
              with_reducible refine (step_R m1 o1 3 0 x 0 _ Q3 ?_ Q2).mono ?_
              focus (exact HT.out.below A5.1)
              rintro e w8 ⟨rfl, hb⟩
              have A6 := A5.step hb
              clear hb A5
              obtain ⟨h2, e2, hh, hL⟩ := A6.2.2 (by omega)
              have eh : h2 = h := by simpa using e2.symm
              subst eh
              have hcw : w8.cell? ⟨h2, r, none⟩ = some (.int .i64 (x : Int)) := by rw [← hwx]; exact hL r (by omega)
              have hh8 : h2 < w8.heap.size := block_lt_of_cell hcw
              have hB8 := A6.2.1.lt
              clear hL e2
              have c0 := A6.2.1.cell 0 _ rfl
              have c1 := A6.2.1.cell 1 _ rfl
              have c2 := A6.2.1.cell 2 _ rfl
              have c3 := A6.2.1.cell 3 _ rfl
              have c4 := A6.2.1.cell 4 _ rfl
              have c5 := A6.2.1.cell 5 _ rfl
              have c6 := A6.2.1.cell 6 _ rfl
              have c7 := A6.2.1.cell 7 _ rfl
              have c8 := A6.2.1.cell 8 _ rfl
              have f0 := A6.2.1.frozen 0
              have f1 := A6.2.1.frozen 1
              have f2 := A6.2.1.frozen 2
              have f3 := A6.2.1.frozen 3
              have f4 := A6.2.1.frozen 4
              have f5 := A6.2.1.frozen 5
              have f6 := A6.2.1.frozen 6
              have f7 := A6.2.1.frozen 7
              have f8 := A6.2.1.frozen 8
              go_wp2_with fail
              go_roundw
              case rel => exact ⟨r, o1, by omega, by go_num, Q4, (A6.set o1).alloc _⟩
              case measure => simp [intOf]
theorem apicAll_walk (s : St) (w : World) (h : s.Ok) (hT : Tab w) :
    Calls Tryd.prog 7 #[.agg #[.int .u64 s.a0, .int .u64 s.a1, .int .u64 s.a2, .int .u64 s.a3, .int .u64 s.s0, .int .u64 s.s1, .int .u64 s.s2, .int .u64 s.s3, .int .i64 s.c]] w fun e w' => e = .returned (.bool true) ∧ Below w.heap.size w w' := by
  cases hr : s.right
  · exact all_wrong s w h hT hr
  · exact all_core s _ w h h.1 hT hr rfl (filter_len _ 256)
end Go.Proofs.YtgddbmbljlngnaaDoor
