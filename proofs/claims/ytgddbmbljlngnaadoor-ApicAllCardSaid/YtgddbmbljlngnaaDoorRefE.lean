/- The walk of corebellref.BRight: it tells whether a state is right, as the plain rightB. -/
import Derived.Test.YtgddbmbljlngnaaDoorLocR
import Derived.Test.YtgddbmbljlngnaaDoorRefP
import Derived.Test.YtgddbmbljlngnaaDoorRefD
namespace Go.Proofs.YtgddbmbljlngnaaDoor
open Go.RowKit

theorem RBox.frozen {w : World} {B : Nat} {row : Array Value} {t : TypeId} (h : RBox w B row t) (i : Nat) : w.frozen? ⟨B, i, none⟩ = false := frozen_of_row w B i row t h
theorem RBox.set {w : World} {B : Nat} {row : Array Value} {t : TypeId} (h : RBox w B row t) (i : Nat) (v : Value) : RBox (w.setCell ⟨B, i, none⟩ v) B (row.setIfInBounds i v) t := heap_setCell_same w B i row t v h
theorem RBox.other {w : World} {B C : Nat} {row : Array Value} {t : TypeId} (h : RBox w B row t) (hne : B ≠ C) (i : Nat) (v : Value) : RBox (w.setCell ⟨C, i, none⟩ v) B row t := by
  unfold RBox at h ⊢
  rw [heap_setCell_other _ _ _ _ (show B ≠ (⟨C, i, none⟩ : Addr).block from hne)]
  exact h

/-- The list as a slice, its cells in a block from M on. -/
def Listed (M : Nat) (l : List Nat) (ad : Option Addr) (w : World) : Prop := 0 < l.length → ∃ g, ad = some ⟨g, 0, none⟩ ∧ M ≤ g ∧ Lies w g l
theorem Listed.step {M : Nat} {l : List Nat} {ad : Option Addr} {w w' : World} (h : Listed M l ad w) (hb : Below w.heap.size w w') : Listed M l ad w' := fun h0 => by
  obtain ⟨g, e, hg, hl⟩ := h h0
  exact ⟨g, e, hg, hl.step hb⟩
theorem Listed.set {M B : Nat} {l : List Nat} {ad : Option Addr} {w : World} (h : Listed M l ad w) (hB : B < M) (i : Nat) (v : Value) : Listed M l ad (w.setCell ⟨B, i, none⟩ v) := fun h0 => by
  obtain ⟨g, e, hg, hl⟩ := h h0
  refine ⟨g, e, hg, fun j hj => ?_⟩
  rw [← hl j hj]
  exact World.cell?_of_block (w := w) (heap_setCell_other _ _ _ _ (show g ≠ B by omega))
theorem aall_at (a b c d : Nat) (l : List Nat) (w : World) (h : Hid (Ok a b c d)) (hl : Hid (allOf (mem a b c d) = l)) :
    Calls Tryd.prog 30 #[.agg #[.int .u64 a, .int .u64 b, .int .u64 c, .int .u64 d]] w fun e w' => ∃ ad cap, e = .returned (.slice ad l.length cap) ∧ Listed w.heap.size l ad w' ∧ Below w.heap.size w w' := by
  refine (aall_any a b c d w h).mono ?_
  rw [hl.out]
  rintro e w' ⟨v, rfl, hown, hb⟩
  have hown' := hown
  obtain ⟨h1, h2⟩ := hown
  rcases h2 with ⟨rfl, h2⟩ | ⟨g, cap, cur, rfl, hg, hh, hn', hm, hs, ht⟩
  · exact ⟨none, 0, by rw [h2], fun h => by omega, hb⟩
  · refine ⟨some ⟨g, 0, none⟩, cap, rfl, fun _ => ⟨g, rfl, by omega, fun j hj => ?_⟩, hb⟩
    rw [hown'.cellAt j (by omega)]
    unfold ints
    rw [List.getElem?_map, List.getElem?_eq_getElem hj, List.getD_eq_getElem?_getD, List.getElem?_eq_getElem hj]
    rfl

/-- What the counting loop keeps. -/
def Tal (W : World) (s : St) (ad : Option Addr) (l : List Nat) (R : Array Value) (k : Nat) (w : World) : Prop :=
  Below W.heap.size W w ∧ RBox w W.heap.size #[.int .u64 s.a0, .int .u64 s.a1, .int .u64 s.a2, .int .u64 s.a3, .int .u64 s.s0, .int .u64 s.s1, .int .u64 s.s2, .int .u64 s.s3, .int .i64 s.c] 26 ∧ RBox w (W.heap.size + 1) R 50 ∧ Listed (W.heap.size + 2) l ad w ∧ R.size = 16 ∧ ∀ j, j < 16 → R[j]? = some (.int .i64 ((cnt l k j : Nat) : Int))
theorem Tal.put {W w : World} {s : St} {ad : Option Addr} {l : List Nat} {R : Array Value} {k x : Nat} {z : Int} (h : Tal W s ad l R k w) (hk : k < l.length) (hx : l.getD k 0 / 16 = x) (hx16 : x < 16) (hz : z = ((cnt l (k + 1) x : Nat) : Int)) :
    Tal W s ad l (R.setIfInBounds x (.int .i64 z)) (k + 1) (w.setCell ⟨W.heap.size + 1, x, none⟩ (.int .i64 z)) := by
  obtain ⟨h1, h2, h3, h4, h5, h6⟩ := h
  refine ⟨h1.setCell (p := ⟨W.heap.size + 1, x, none⟩) (by show W.heap.size ≤ W.heap.size + 1; omega) _, h2.other (by omega) _ _, h3.set _ _, h4.set (by omega) _ _, by simp [h5], fun j hj => ?_⟩
  rw [Array.getElem?_setIfInBounds]
  by_cases e : x = j
  · subst e
    rw [if_pos rfl, if_pos (by omega), hz]
  · rw [if_neg e, h6 j hj, cnt_succ _ _ _ hk, hx, if_neg e, Nat.add_zero]
theorem idx16 (R : Array Value) (n : Nat) (v : Value) (hn : n < 16) (hv : R[n]? = some v) (w : World) : (Instr.index 50 (.agg R) (.int .i64 (n : Int))).run Tryd.prog w = .ok v w := by
  have hp : (part 3 R n).run Tryd.prog w = .ok v w := by simp [part, Tryd.isAgg3, hv, Sem.run_bind]
  unfold Instr.index
  simp [asIntOf, Sem.run_bind, run_underlying Tryd.underlying50, Tryd.sizeOf3, hp]
  intro h
  omega
theorem right_bad {s : St} {ls : List Nat} {j : Nat} (Hs : Hid (allOf (mem s.s0 s.s1 s.s2 s.s3) = ls)) (h : badC (cnt ls ls.length j) j) : s.right = false := by
  have hq : allOf s.q = ls := Hs.out
  rw [← hq] at h
  have := bad_right h
  unfold St.right rightB
  rw [Bool.and_assoc, this, Bool.and_false]
theorem right_low {s : St} {la : List Nat} {k : Nat} (Ha : Hid (allOf (mem s.a0 s.a1 s.a2 s.a3) = la)) (hk : k < la.length) (h : la.getD k 0 < 32) : s.right = false := by
  have hp : allOf s.p = la := Ha.out
  rw [← hp] at hk h
  have h1 := at_is s.p k hk
  rw [← Bool.not_eq_true, right_iff]
  intro hr
  rw [hr.2.1 _ h] at h1
  cases h1.1
theorem right_end {s : St} {ls la : List Nat} (Hs : Hid (allOf (mem s.s0 s.s1 s.s2 s.s3) = ls)) (Ha : Hid (allOf (mem s.a0 s.a1 s.a2 s.a3) = la)) (h1 : ∀ j, j < 16 → ¬ badC (cnt ls ls.length j) j) (h2 : ∀ k, k < la.length → 32 ≤ la.getD k 0) : s.right = clsB s.c := by
  have hq : allOf s.q = ls := Hs.out
  have hp : allOf s.p = la := Ha.out
  rw [← hq] at h1
  have hl : lowB s.p = true := by
    rw [lowB_iff]
    intro m hm
    cases hx : s.p m
    · rfl
    · obtain ⟨k, hk, e⟩ := at_find s.p m (by omega) hx
      rw [hp] at hk e
      have := h2 k hk
      omega
  unfold St.right rightB
  rw [Bool.and_assoc, nobad_right h1, hl, Bool.and_true, Bool.and_true]
theorem lit16 (C : Nat → Nat) (k : Nat) (hk : k < 16) : (#[.int .i64 ((C 0 : Nat) : Int), .int .i64 ((C 1 : Nat) : Int), .int .i64 ((C 2 : Nat) : Int), .int .i64 ((C 3 : Nat) : Int), .int .i64 ((C 4 : Nat) : Int), .int .i64 ((C 5 : Nat) : Int), .int .i64 ((C 6 : Nat) : Int), .int .i64 ((C 7 : Nat) : Int), .int .i64 ((C 8 : Nat) : Int), .int .i64 ((C 9 : Nat) : Int), .int .i64 ((C 10 : Nat) : Int), .int .i64 ((C 11 : Nat) : Int), .int .i64 ((C 12 : Nat) : Int), .int .i64 ((C 13 : Nat) : Int), .int .i64 ((C 14 : Nat) : Int), .int .i64 ((C 15 : Nat) : Int)] : Array Value)[k]? = some (.int .i64 ((C k : Nat) : Int)) := by
  match k, hk with
  | 0, _ => rfl
  | 1, _ => rfl
  | 2, _ => rfl
  | 3, _ => rfl
  | 4, _ => rfl
  | 5, _ => rfl
  | 6, _ => rfl
  | 7, _ => rfl
  | 8, _ => rfl
  | 9, _ => rfl
  | 10, _ => rfl
  | 11, _ => rfl
  | 12, _ => rfl
  | 13, _ => rfl
  | 14, _ => rfl
  | 15, _ => rfl
  | j + 16, hj => omega
set_option maxHeartbeats 4000000 in
set_option maxRecDepth 100000 in
theorem bright_core (s : St) (ls la : List Nat) (w : World) (OA : Hid (Ok s.a0 s.a1 s.a2 s.a3)) (OS : Hid (Ok s.s0 s.s1 s.s2 s.s3)) (Hs : Hid (allOf (mem s.s0 s.s1 s.s2 s.s3) = ls)) (Ha : Hid (allOf (mem s.a0 s.a1 s.a2 s.a3) = la)) (hls : ls.length ≤ 256) (hla : la.length ≤ 256) :
    Calls Tryd.prog 13 #[.agg #[.int .u64 s.a0, .int .u64 s.a1, .int .u64 s.a2, .int .u64 s.a3, .int .u64 s.s0, .int .u64 s.s1, .int .u64 s.s2, .int .u64 s.s3, .int .i64 s.c]] w fun e w' => e = .returned (.bool s.right) ∧ Below w.heap.size w w' := by
  go_enter Tryd.func13, Tryd.ntmps13
  go_wp2_with fail
  refine (aall_at s.s0 s.s1 s.s2 s.s3 ls _ OS Hs).mono ?_
  rintro e w1 ⟨ad, cap, rfl, HL, hb⟩
  have HT : Tal w s ad ls #[.int .i64 0, .int .i64 0, .int .i64 0, .int .i64 0, .int .i64 0, .int .i64 0, .int .i64 0, .int .i64 0, .int .i64 0, .int .i64 0, .int .i64 0, .int .i64 0, .int .i64 0, .int .i64 0, .int .i64 0, .int .i64 0] 0 w1 := by
    refine ⟨bstep (W := w) (by repeat (first | (with_reducible assumption) | (with_reducible exact Below.refl _ _) | ((with_reducible refine Below.setCell ?_ ?_ _); rotate_left; focus (first | (simp; done) | omega | (simp; omega))) | ((with_reducible refine Below.alloc ?_ ?_ _); rotate_left; focus (first | (simp; done) | omega | (simp; omega))))) hb, RBox.step (RBox.alloc (rbox_new w _ _) _) hb, RBox.step (by have := rbox_new (w.alloc (.cells #[.int .u64 s.a0, .int .u64 s.a1, .int .u64 s.a2, .int .u64 s.a3, .int .u64 s.s0, .int .u64 s.s1, .int .u64 s.s2, .int .u64 s.s3, .int .i64 s.c] 26)) #[.int .i64 0, .int .i64 0, .int .i64 0, .int .i64 0, .int .i64 0, .int .i64 0, .int .i64 0, .int .i64 0, .int .i64 0, .int .i64 0, .int .i64 0, .int .i64 0, .int .i64 0, .int .i64 0, .int .i64 0, .int .i64 0] 50; simpa using this) hb, by simpa using HL, rfl, fun j hj => ?_⟩
    rw [cnt_zero]
    match j, hj with
    | 0, _ => rfl
    | 1, _ => rfl
    | 2, _ => rfl
    | 3, _ => rfl
    | 4, _ => rfl
    | 5, _ => rfl
    | 6, _ => rfl
    | 7, _ => rfl
    | 8, _ => rfl
    | 9, _ => rfl
    | 10, _ => rfl
    | 11, _ => rfl
    | 12, _ => rfl
    | 13, _ => rfl
    | 14, _ => rfl
    | 15, _ => rfl
    | j + 16, hj => omega
  clear HL hb
  go_wp2_with fail
  go_loopw [14] (fun i wr => ∃ (k : Nat) (R : Array Value), k ≤ ls.length ∧ i = .int .i64 k ∧ Tal w s ad ls R k wr) (fun i _ => ls.length - (intOf i).toNat)
  case atStart => exact ⟨0, _, Nat.zero_le _, rfl, HT⟩
  case round =>
    clear HT
    obtain ⟨k, R, hk, rfl, HT⟩ := hrel
    by_cases hlt : k < ls.length
    · obtain ⟨g, rfl, hg, hlies⟩ := HT.2.2.2.1 (by omega)
      obtain ⟨x, hx⟩ : ∃ x : Nat, ls.getD k 0 = x := ⟨_, rfl⟩
      have hcell : wr.cell? ⟨g, k, none⟩ = some (.int .i64 (x : Int)) := by rw [← hx]; exact hlies k hlt
      have hx256 : x < 256 := by rw [← hx, ← Hs.out]; exact (at_is _ k (by rw [Hs.out]; exact hlt)).2
      have hq16 : x / 16 < 16 := by omega
      have hcq : wr.cell? ⟨w.heap.size + 1, x / 16, none⟩ = some (.int .i64 ((cnt ls k (x / 16) : Nat) : Int)) := HT.2.2.1.cell _ _ (HT.2.2.2.2.2 _ hq16)
      have hfr := HT.2.2.1.frozen (x / 16)
      have hcn := cnt_le ls k (x / 16)
      go_wp2_with fail
      go_roundw
      case rel => exact ⟨k + 1, _, by omega, by go_num, HT.put hlt (by rw [hx]) hq16 (by rw [cnt_succ _ _ _ hlt, hx, if_pos rfl]; omega)⟩
      case measure => simp [intOf]; omega
    · have hkl : k = ls.length := by omega
      subst hkl
      clear hlt hk
      obtain ⟨C, hC⟩ : ∃ C : Nat → Nat, cnt ls ls.length = C := ⟨_, rfl⟩
      have hC256 : ∀ j, C j ≤ 256 := fun j => by rw [← hC]; exact Nat.le_trans (cnt_le _ _ _) hls
      have r0 : wr.cell? ⟨w.heap.size + 1, 0, none⟩ = some (.int .i64 ((C 0 : Nat) : Int)) := by rw [← hC]; exact HT.2.2.1.cell _ _ (HT.2.2.2.2.2 0 (by decide))
      have r1 : wr.cell? ⟨w.heap.size + 1, 1, none⟩ = some (.int .i64 ((C 1 : Nat) : Int)) := by rw [← hC]; exact HT.2.2.1.cell _ _ (HT.2.2.2.2.2 1 (by decide))
      have r2 : wr.cell? ⟨w.heap.size + 1, 2, none⟩ = some (.int .i64 ((C 2 : Nat) : Int)) := by rw [← hC]; exact HT.2.2.1.cell _ _ (HT.2.2.2.2.2 2 (by decide))
      have r3 : wr.cell? ⟨w.heap.size + 1, 3, none⟩ = some (.int .i64 ((C 3 : Nat) : Int)) := by rw [← hC]; exact HT.2.2.1.cell _ _ (HT.2.2.2.2.2 3 (by decide))
      have r4 : wr.cell? ⟨w.heap.size + 1, 4, none⟩ = some (.int .i64 ((C 4 : Nat) : Int)) := by rw [← hC]; exact HT.2.2.1.cell _ _ (HT.2.2.2.2.2 4 (by decide))
      have r5 : wr.cell? ⟨w.heap.size + 1, 5, none⟩ = some (.int .i64 ((C 5 : Nat) : Int)) := by rw [← hC]; exact HT.2.2.1.cell _ _ (HT.2.2.2.2.2 5 (by decide))
      have r6 : wr.cell? ⟨w.heap.size + 1, 6, none⟩ = some (.int .i64 ((C 6 : Nat) : Int)) := by rw [← hC]; exact HT.2.2.1.cell _ _ (HT.2.2.2.2.2 6 (by decide))
      have r7 : wr.cell? ⟨w.heap.size + 1, 7, none⟩ = some (.int .i64 ((C 7 : Nat) : Int)) := by rw [← hC]; exact HT.2.2.1.cell _ _ (HT.2.2.2.2.2 7 (by decide))
      have r8 : wr.cell? ⟨w.heap.size + 1, 8, none⟩ = some (.int .i64 ((C 8 : Nat) : Int)) := by rw [← hC]; exact HT.2.2.1.cell _ _ (HT.2.2.2.2.2 8 (by decide))
      have r9 : wr.cell? ⟨w.heap.size + 1, 9, none⟩ = some (.int .i64 ((C 9 : Nat) : Int)) := by rw [← hC]; exact HT.2.2.1.cell _ _ (HT.2.2.2.2.2 9 (by decide))
      have r10 : wr.cell? ⟨w.heap.size + 1, 10, none⟩ = some (.int .i64 ((C 10 : Nat) : Int)) := by rw [← hC]; exact HT.2.2.1.cell _ _ (HT.2.2.2.2.2 10 (by decide))
      have r11 : wr.cell? ⟨w.heap.size + 1, 11, none⟩ = some (.int .i64 ((C 11 : Nat) : Int)) := by rw [← hC]; exact HT.2.2.1.cell _ _ (HT.2.2.2.2.2 11 (by decide))
      have r12 : wr.cell? ⟨w.heap.size + 1, 12, none⟩ = some (.int .i64 ((C 12 : Nat) : Int)) := by rw [← hC]; exact HT.2.2.1.cell _ _ (HT.2.2.2.2.2 12 (by decide))
      have r13 : wr.cell? ⟨w.heap.size + 1, 13, none⟩ = some (.int .i64 ((C 13 : Nat) : Int)) := by rw [← hC]; exact HT.2.2.1.cell _ _ (HT.2.2.2.2.2 13 (by decide))
      have r14 : wr.cell? ⟨w.heap.size + 1, 14, none⟩ = some (.int .i64 ((C 14 : Nat) : Int)) := by rw [← hC]; exact HT.2.2.1.cell _ _ (HT.2.2.2.2.2 14 (by decide))
      have r15 : wr.cell? ⟨w.heap.size + 1, 15, none⟩ = some (.int .i64 ((C 15 : Nat) : Int)) := by rw [← hC]; exact HT.2.2.1.cell _ _ (HT.2.2.2.2.2 15 (by decide))
      have c0 := HT.2.1.cell 0 _ rfl
      have c1 := HT.2.1.cell 1 _ rfl
      have c2 := HT.2.1.cell 2 _ rfl
      have c3 := HT.2.1.cell 3 _ rfl
      have c8 := HT.2.1.cell 8 _ rfl
      have TL := HT.2.1
      have HB := Lib.hid HT.1
      have HC := Lib.hid hC
      clear HT hC
      go_wp2_with fail
      go_loop [26] (fun i => ∃ k : Nat, k ≤ 16 ∧ i = .int .i64 k ∧ Hid (∀ j, j < k → ¬ badC (C j) j)) (fun i => 16 - (intOf i).toNat)
      case atStart => exact ⟨0, Nat.zero_le _, rfl, fun j hj => by omega⟩
      case round =>
        obtain ⟨k, hk, rfl, HD⟩ := hrel
        by_cases hlt : k < 16
        · have hidx : ∀ w : World, (Instr.index 50 (.agg #[.int .i64 ((C 0 : Nat) : Int), .int .i64 ((C 1 : Nat) : Int), .int .i64 ((C 2 : Nat) : Int), .int .i64 ((C 3 : Nat) : Int), .int .i64 ((C 4 : Nat) : Int), .int .i64 ((C 5 : Nat) : Int), .int .i64 ((C 6 : Nat) : Int), .int .i64 ((C 7 : Nat) : Int), .int .i64 ((C 8 : Nat) : Int), .int .i64 ((C 9 : Nat) : Int), .int .i64 ((C 10 : Nat) : Int), .int .i64 ((C 11 : Nat) : Int), .int .i64 ((C 12 : Nat) : Int), .int .i64 ((C 13 : Nat) : Int), .int .i64 ((C 14 : Nat) : Int), .int .i64 ((C 15 : Nat) : Int)]) (.int .i64 (k : Int))).run Tryd.prog w = .ok (.int .i64 ((C k : Nat) : Int)) w := fun w => idx16 _ k _ hlt (lit16 C k hlt) w
          have hck := hC256 k
          obtain ⟨n, hn⟩ : ∃ n : Nat, C k = n := ⟨_, rfl⟩
          rw [hn] at hidx hck
          have HN := Lib.hid hn
          clear hn hC256
          by_cases h1 : 1 < n
          · have hd : decide (1 < (n : Int)) = true := by simp; omega
            go_wp2_with fail
            go_ret
            exact ⟨by rw [right_bad (j := k) Hs (by rw [HC.out, HN.out]; exact Or.inl h1)]; rfl, HB.out⟩
          · have hd : decide (1 < (n : Int)) = false := by simp; omega
            by_cases h2 : k < 2
            · have hd2 : decide ((k : Int) < 2) = true := by simp; omega
              by_cases h3 : 0 < n
              · have hd3 : decide (0 < (n : Int)) = true := by simp; omega
                go_wp2_with fail
                go_ret
                exact ⟨by rw [right_bad (j := k) Hs (by rw [HC.out, HN.out]; exact Or.inr ⟨h2, h3⟩)]; rfl, HB.out⟩
              · have hd3 : decide (0 < (n : Int)) = false := by simp; omega
                go_wp2_with fail
                go_round
                case rel =>
                  refine ⟨k + 1, by omega, by go_num, fun j hj => ?_⟩
                  by_cases hjk : j = k
                  · rw [hjk, HN.out]; unfold badC; omega
                  · exact HD.out j (by omega)
                case measure => simp [intOf]; omega
            · have hd2 : decide ((k : Int) < 2) = false := by simp; omega
              go_wp2_with fail
              go_round
              case rel =>
                refine ⟨k + 1, by omega, by go_num, fun j hj => ?_⟩
                by_cases hjk : j = k
                · rw [hjk, HN.out]; unfold badC; omega
                · exact HD.out j (by omega)
              case measure => simp [intOf]; omega
        · have hk16 : k = 16 := by omega
          subst hk16
          clear hlt hk hC256
          clear r0 r1 r2 r3 r4 r5 r6 r7 r8 r9 r10 r11 r12 r13 r14 r15
          go_wp2_with fail
          refine (aall_at s.a0 s.a1 s.a2 s.a3 la _ OA Ha).mono ?_
          rintro e w2 ⟨ad2, cap2, rfl, HL2, hb2⟩
          have TL2 := TL.step hb2
          have HB2 := Lib.hid (bstep HB.out hb2)
          have d8 := TL2.cell 8 _ rfl
          have HLI := Lib.hid HL2
          clear hb2 HL2 c0 c1 c2 c3 c8 TL
          go_wp2_with fail
          go_loop [45] (fun i => ∃ k : Nat, k ≤ la.length ∧ i = .int .i64 k ∧ Hid (∀ j, j < k → 32 ≤ la.getD j 0)) (fun i => la.length - (intOf i).toNat)
          case atStart => exact ⟨0, Nat.zero_le _, rfl, fun j hj => by omega⟩
          case round =>
            obtain ⟨k, hk, rfl, HE⟩ := hrel
            by_cases hlt : k < la.length
            · obtain ⟨g, rfl, hg, hlies⟩ := HLI.out (by omega)
              obtain ⟨x, hx⟩ : ∃ x : Nat, la.getD k 0 = x := ⟨_, rfl⟩
              have hcell : w2.cell? ⟨g, k, none⟩ = some (.int .i64 (x : Int)) := by rw [← hx]; exact hlies k hlt
              have HX := Lib.hid hx
              clear hx hlies hg
              by_cases h3 : x < 32
              · have hd : decide ((x : Int) < 32) = true := by simp; omega
                go_wp2_with fail
                go_ret
                exact ⟨by rw [right_low (k := k) Ha hlt (by rw [HX.out]; exact h3)]; rfl, HB2.out⟩
              · have hd : decide ((x : Int) < 32) = false := by simp; omega
                go_wp2_with fail
                go_round
                case rel =>
                  refine ⟨k + 1, by omega, by go_num, fun j hj => ?_⟩
                  by_cases hjk : j = k
                  · rw [hjk, HX.out]; omega
                  · exact HE.out j (by omega)
                case measure => simp [intOf]; omega
            · have hkl : k = la.length := by omega
              subst hkl
              clear hlt hk
              have he : s.right = clsB s.c := right_end Hs Ha (fun j hj => by rw [HC.out]; exact HD.out j hj) HE.out
              by_cases h0 : 0 ≤ s.c
              · by_cases h1 : s.c < 16
                · have HX := Lib.hid (he.trans ((clsB_iff s.c).2 ⟨h0, h1⟩))
                  clear he
                  go_wp2_with fail
                  go_ret
                  exact ⟨by rw [HX.out]; rfl, HB2.out⟩
                · have HX := Lib.hid (he.trans (show clsB s.c = false by rw [← Bool.not_eq_true, clsB_iff]; omega))
                  have hd : decide (s.c < 16) = false := by simp; omega
                  clear he h1
                  go_wp2_with fail
                  go_ret
                  exact ⟨by rw [HX.out]; rfl, HB2.out⟩
              · have HX := Lib.hid (he.trans (show clsB s.c = false by rw [← Bool.not_eq_true, clsB_iff]; omega))
                have hd : decide (0 ≤ s.c) = false := by simp; omega
                clear he h0
                go_wp2_with fail
                go_ret
                exact ⟨by rw [HX.out]; rfl, HB2.out⟩
theorem bright_R (s : St) (t : Bool) (w : World) (HO : Hid s.Ok) (ht : Hid (s.right = t)) :
    Calls Tryd.prog 13 #[.agg #[.int .u64 s.a0, .int .u64 s.a1, .int .u64 s.a2, .int .u64 s.a3, .int .u64 s.s0, .int .u64 s.s1, .int .u64 s.s2, .int .u64 s.s3, .int .i64 s.c]] w fun e w' => e = .returned (.bool t) ∧ Below w.heap.size w w' := by
  rw [← ht.out]
  exact bright_core s _ _ w HO.out.1 HO.out.2 rfl rfl (filter_len _ 256) (filter_len _ 256)
end Go.Proofs.YtgddbmbljlngnaaDoor
