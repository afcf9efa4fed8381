/- The walk of corebellref.BWould: it answers the vector that would be delivered, as the plain wouldOf. -/
import Derived.Test.YtgddbmbljlngnaaDoorRefE
namespace Go.Proofs.YtgddbmbljlngnaaDoor
open Go.RowKit

/-- What the inner loop has found behind j members in service. -/
def okAt (l : List Nat) (x : Nat) (t : Bool) (j : Nat) : Bool := t && (l.take j).all (fun m => decide (m / 16 < x / 16))
theorem okAt_zero (l : List Nat) (x : Nat) (t : Bool) : okAt l x t 0 = t := by simp [okAt]
theorem okAt_succ (l : List Nat) (x : Nat) (t : Bool) (j : Nat) (hj : j < l.length) : okAt l x t (j + 1) = (okAt l x t j && decide (l.getD j 0 / 16 < x / 16)) := by
  unfold okAt
  rw [List.take_add_one, List.all_append, List.getElem?_eq_getElem hj, at_getD hj, Bool.and_assoc]
  simp
theorem okAt_end (q : Nat → Bool) (c : Int) (l : List Nat) (x : Nat) (hl : allOf q = l) : okAt l x (decide (c < ((x / 16 : Nat) : Int))) l.length = okB q c x := by
  unfold okAt okB
  rw [List.take_length, hl]
/-- What the outer loop keeps. -/
def Bes (W : World) (s : St) (l : List Nat) (ad : Option Addr) (w : World) : Prop := Below W.heap.size W w ∧ RBox w W.heap.size #[.int .u64 s.a0, .int .u64 s.a1, .int .u64 s.a2, .int .u64 s.a3, .int .u64 s.s0, .int .u64 s.s1, .int .u64 s.s2, .int .u64 s.s3, .int .i64 s.c] 26 ∧ Listed 0 l ad w
theorem Bes.step {W w w' : World} {s : St} {l : List Nat} {ad : Option Addr} (h : Bes W s l ad w) (hb : Below w.heap.size w w') : Bes W s l ad w' := ⟨bstep h.1 hb, h.2.1.step hb, h.2.2.step hb⟩
theorem Listed.any {M : Nat} {l : List Nat} {ad : Option Addr} {w : World} (h : Listed M l ad w) : Listed 0 l ad w := fun h0 => by
  obtain ⟨g, e, _, hl⟩ := h h0
  exact ⟨g, e, Nat.zero_le _, hl⟩

set_option maxHeartbeats 4000000 in
set_option maxRecDepth 100000 in
theorem bwould_0 (s : St) (w : World) (HO : Hid s.Ok) (H1 : Hid (s.right = false)) :
    Calls Tryd.prog 15 #[.agg #[.int .u64 s.a0, .int .u64 s.a1, .int .u64 s.a2, .int .u64 s.a3, .int .u64 s.s0, .int .u64 s.s1, .int .u64 s.s2, .int .u64 s.s3, .int .i64 s.c]] w fun e w' => e = .returned (.int .i64 (-1)) ∧ Below w.heap.size w w' := by
  go_enter Tryd.func15, Tryd.ntmps15
  go_wp2_with fail
  refine (bright_R s false _ HO H1).mono ?_
  rintro e w1 ⟨rfl, hb⟩
  have BB := bstep (W := w) (by repeat (first | (with_reducible assumption) | (with_reducible exact Below.refl _ _) | ((with_reducible refine Below.setCell ?_ ?_ _); rotate_left; focus (first | (simp; done) | omega | (simp; omega))) | ((with_reducible refine Below.alloc ?_ ?_ _); rotate_left; focus (first | (simp; done) | omega | (simp; omega))))) hb
  clear hb
  go_wp2_with fail
  go_ret
  exact ⟨rfl, BB⟩
set_option maxHeartbeats 4000000 in
set_option maxRecDepth 100000 in
theorem bwould_1 (s : St) (ls la : List Nat) (w : World) (HO : Hid s.Ok) (OA : Hid (Ok s.a0 s.a1 s.a2 s.a3)) (OS : Hid (Ok s.s0 s.s1 s.s2 s.s3)) (H1 : Hid (s.right = true)) (Hs : Hid (allOf (mem s.s0 s.s1 s.s2 s.s3) = ls)) (Ha : Hid (allOf (mem s.a0 s.a1 s.a2 s.a3) = la)) (hls : ls.length ≤ 256) (hla : la.length ≤ 256) :
    Calls Tryd.prog 15 #[.agg #[.int .u64 s.a0, .int .u64 s.a1, .int .u64 s.a2, .int .u64 s.a3, .int .u64 s.s0, .int .u64 s.s1, .int .u64 s.s2, .int .u64 s.s3, .int .i64 s.c]] w fun e w' => e = .returned (.int .i64 (bestAt s.p s.q s.c la.length)) ∧ Below w.heap.size w w' := by
  go_enter Tryd.func15, Tryd.ntmps15
  go_wp2_with fail
  refine (bright_R s true _ HO H1).mono ?_
  rintro e w1 ⟨rfl, hb⟩
  have BB := bstep (W := w) (by repeat (first | (with_reducible assumption) | (with_reducible exact Below.refl _ _) | ((with_reducible refine Below.setCell ?_ ?_ _); rotate_left; focus (first | (simp; done) | omega | (simp; omega))) | ((with_reducible refine Below.alloc ?_ ?_ _); rotate_left; focus (first | (simp; done) | omega | (simp; omega))))) hb
  have R1 := RBox.step (rbox_new w #[.int .u64 s.a0, .int .u64 s.a1, .int .u64 s.a2, .int .u64 s.a3, .int .u64 s.s0, .int .u64 s.s1, .int .u64 s.s2, .int .u64 s.s3, .int .i64 s.c] 26) hb
  have c0 := R1.cell 0 _ rfl
  have c1 := R1.cell 1 _ rfl
  have c2 := R1.cell 2 _ rfl
  have c3 := R1.cell 3 _ rfl
  clear hb
  go_wp2_with fail
  refine (aall_at s.a0 s.a1 s.a2 s.a3 la _ OA Ha).mono ?_
  rintro e w2 ⟨ad, cap, rfl, HL, hb⟩
  have B2 : Bes w s la ad w2 := ⟨bstep BB hb, R1.step hb, HL.any⟩
  clear hb HL c0 c1 c2 c3 R1 BB
  go_wp2_with fail
  go_loopw [3, 16] (fun t i wr => ∃ k : Nat, k ≤ la.length ∧ i = .int .i64 k ∧ t = .int .i64 (bestAt s.p s.q s.c k) ∧ Bes w s la ad wr) (fun _ i _ => la.length - (intOf i).toNat)
  case atStart => exact ⟨0, Nat.zero_le _, rfl, rfl, B2⟩
  case round =>
    clear B2
    obtain ⟨k, hk, rfl, rfl, B2⟩ := hrel
    obtain ⟨bst, hbst⟩ : ∃ b : Int, bestAt s.p s.q s.c k = b := ⟨_, rfl⟩
    rw [hbst]
    by_cases hlt : k < la.length
    · obtain ⟨g, rfl, _, hlies⟩ := B2.2.2 (by omega)
      obtain ⟨x, hx⟩ : ∃ x : Nat, la.getD k 0 = x := ⟨_, rfl⟩
      have hcell : wr.cell? ⟨g, k, none⟩ = some (.int .i64 (x : Int)) := by rw [← hx]; exact hlies k hlt
      have hx256 : x < 256 := by rw [← hx, ← Ha.out]; exact (at_is _ k (by rw [Ha.out]; exact hlt)).2
      have hbs : bestAt s.p s.q s.c (k + 1) = if okB s.q s.c x = true then (x : Int) else bst := by
        have hp : allOf s.p = la := Ha.out
        rw [bestAt, hp, hx, hbst]
      have HBS := Lib.hid hbs
      clear hbs hbst hx hlies
      have c4 := B2.2.1.cell 4 _ rfl
      have c5 := B2.2.1.cell 5 _ rfl
      have c6 := B2.2.1.cell 6 _ rfl
      have c7 := B2.2.1.cell 7 _ rfl
      have c8 := B2.2.1.cell 8 _ rfl
      obtain ⟨t0, ht0⟩ : ∃ t0 : Bool, decide (s.c < (x : Int) / 16) = t0 := ⟨_, rfl⟩
      have HT0 : Hid (t0 = decide (s.c < ((x / 16 : Nat) : Int))) := ht0.symm
      go_wp2_with fail
      refine (aall_at s.s0 s.s1 s.s2 s.s3 ls _ OS Hs).mono ?_
      rintro e w3 ⟨ad3, cap3, rfl, HL3, hb3⟩
      have B3 := B2.step hb3
      have HLI := Lib.hid HL3
      clear hb3 HL3 B2 c4 c5 c6 c7 c8 ht0 hcell
      go_wp2_with fail
      go_loop [6, 29] (fun t i => ∃ j : Nat, j ≤ ls.length ∧ i = .int .i64 j ∧ t = .bool (okAt ls x t0 j)) (fun _ i => ls.length - (intOf i).toNat)
      case atStart => exact ⟨0, Nat.zero_le _, rfl, by rw [okAt_zero]⟩
      case round =>
        obtain ⟨j, hj, rfl, rfl⟩ := hrel
        obtain ⟨tj, htj⟩ : ∃ t : Bool, okAt ls x t0 j = t := ⟨_, rfl⟩
        rw [htj]
        by_cases hjl : j < ls.length
        · obtain ⟨g3, rfl, _, hlies⟩ := HLI.out (by omega)
          obtain ⟨y, hy⟩ : ∃ y : Nat, ls.getD j 0 = y := ⟨_, rfl⟩
          have hcell : w3.cell? ⟨g3, j, none⟩ = some (.int .i64 (y : Int)) := by rw [← hy]; exact hlies j hjl
          have hy256 : y < 256 := by rw [← hy, ← Hs.out]; exact (at_is _ j (by rw [Hs.out]; exact hjl)).2
          have HS := Lib.hid (okAt_succ ls x t0 j hjl)
          have HTJ := Lib.hid htj
          have HY := Lib.hid hy
          clear htj hy hlies
          cases tj
          · go_wp2_with fail
            go_round
            case rel => exact ⟨j + 1, by omega, by go_num, by rw [HS.out, HTJ.out]; rfl⟩
            case measure => simp [intOf]; omega
          · obtain ⟨t2, ht2⟩ : ∃ t2 : Bool, decide ((y : Int) / 16 < (x : Int) / 16) = t2 := ⟨_, rfl⟩
            have HT2 : Hid (decide (y / 16 < x / 16) = t2) := by rw [← ht2]; exact decide_eq_decide.2 (by omega)
            go_wp2_with fail
            go_round
            case rel => exact ⟨j + 1, by omega, by go_num, by rw [HS.out, HTJ.out, HY.out, HT2.out]; rfl⟩
            case measure => simp [intOf]; omega
        · have hjl' : j = ls.length := by omega
          subst hjl'
          have hok : tj = okB s.q s.c x := by
            rw [← htj, HT0.out]
            exact okAt_end s.q s.c ls x Hs.out
          have HOK := Lib.hid hok
          clear hok htj hjl hj
          cases tj
          · go_wp2_with fail
            go_roundw
            case rel => exact ⟨k + 1, by omega, by go_num, by rw [HBS.out, ← HOK.out]; rfl, B3⟩
            case measure => simp [intOf]; omega
          · go_wp2_with fail
            go_roundw
            case rel => exact ⟨k + 1, by omega, by go_num, by rw [HBS.out, ← HOK.out]; rfl, B3⟩
            case measure => simp [intOf]; omega
    · have hkl : k = la.length := by omega
      subst hkl
      have HBST := Lib.hid hbst
      clear hlt hk hbst
      go_wp2_with fail
      go_ret
      exact ⟨by rw [HBST.out]; rfl, B2.1⟩
theorem bwould_R (s : St) (v : Int) (w : World) (HO : Hid s.Ok) (hv : Hid (s.would = v)) :
    Calls Tryd.prog 15 #[.agg #[.int .u64 s.a0, .int .u64 s.a1, .int .u64 s.a2, .int .u64 s.a3, .int .u64 s.s0, .int .u64 s.s1, .int .u64 s.s2, .int .u64 s.s3, .int .i64 s.c]] w fun e w' => e = .returned (.int .i64 v) ∧ Below w.heap.size w w' := by
  rw [← hv.out]
  cases hr : s.right
  · have e : s.would = -1 := by
      unfold St.would wouldOf
      rw [if_neg]
      rintro ⟨h, _⟩
      have h' : s.right = true := h
      rw [hr] at h'
      cases h'
    rw [e]
    exact bwould_0 s w HO hr
  · have := bwould_1 s _ _ w HO HO.out.1 HO.out.2 hr rfl rfl (filter_len _ 256) (filter_len _ 256)
    have e : bestAt s.p s.q s.c (allOf (mem s.a0 s.a1 s.a2 s.a3)).length = s.would := best_would hr
    rw [e] at this
    exact this
end Go.Proofs.YtgddbmbljlngnaaDoor
