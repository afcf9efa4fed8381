/- The walk of vector's assign. -/
import Derived.Test.YtmldedkmmhnihaaDoorVecV
namespace Go.Proofs.YtmldedkmmhnihaaDoor
open Go.RowKit

theorem tab_VS {W : Base} {w : World} {T B cores : Nat} {l : List SlotT} {fr : Nat → Q4} {tk : Nat → Nat} (hT : Tab W.w) (r : RawV W T B cores l fr tk w) : Tab w := hT.below r.1
/-- The vector that bits.Next finds. -/
theorem next_VS {cores c v : Nat} {l : List SlotT} {fr : Nat → Q4} {tk : Nat → Nat} (w : World) (hT : Tab w) (ht : TieV cores l fr tk) (hc : c < cores) (hv : Hid (vecV l c = v)) (q : Q4) (hq : Hid (fr c = q)) :
    Calls Tryd.prog 20 #[.agg #[.int .u64 q.a, .int .u64 q.b, .int .u64 q.c, .int .u64 q.d], .int .i64 32] w fun e w' => e = .returned (.int .i64 v) ∧ Below w.heap.size w w' := by
  obtain ⟨k1, k2, k3⟩ := ht c hc
  rw [hq.out] at k1 k2
  have h := next_low q.a q.b q.c q.d 32 w k1 hT (by decide)
  have e : nextOf (mem q.a q.b q.c q.d) ((32 : Nat) : Int) = (v : Int) := by
    rw [← hv.out]
    exact nextOf_256 k2
  rw [e] at h
  exact h
set_option maxHeartbeats 1000000 in
set_option maxRecDepth 100000 in
theorem assign_none {W : Base} {w : World} {T B cores : Nat} {l : List SlotT} (r : VS W T B cores l w) (i : Nat) (m : Int) (hp : pick (cntV l) (allow m) cores = none) :
    Calls Tryd.prog 14 #[.pointer (some ⟨T, 0, none⟩), .int .i64 i, .int .i64 m] w fun e w' => e = .returned (.int .i64 4) ∧ VS W T B cores l w' := by
  have HP := Lib.hid (pickI_none hp)
  clear hp
  go_enter Tryd.func14, Tryd.ntmps14
  go_wp2_with (first
    | (go_at_call 19; (with_reducible refine (least_VS r m (-1) HP.out).mono ?_); rintro e w1 ⟨rfl, hb1⟩; have R1 := r.step hb1; clear hb1)
    | fail)
  go_ret
  exact ⟨rfl, R1⟩
set_option maxHeartbeats 2000000 in
set_option maxRecDepth 100000 in
theorem assign_some {W : Base} {w : World} {T B cores : Nat} {l l' : List SlotT} (hT : Hid (Tab W.w)) (r : VS W T B cores l w) (i : Nat) (hi : i < l.length) (m : Int) (c v : Nat) (hp : pick (cntV l) (allow m) cores = some c) (hl : Hid (l.set i zs = l')) (hv : Hid (vecV l' c = v)) (hn : Hid (cntV l' c < 224)) :
    Calls Tryd.prog 14 #[.pointer (some ⟨T, 0, none⟩), .int .i64 i, .int .i64 m] w fun e w' => e = .returned (.int .i64 0) ∧ VS W T B cores (l'.set i ⟨c, v⟩) w' := by
  have HP := Lib.hid (pickI_some hp)
  have hcc : c < cores := (pick_some hp).1
  have hc : c < 8 := by have := r.1.1; omega
  have hc0 : decide ((c : Int) < 0) = false := decide_eq_false (by omega)
  have hV : Hid (32 ≤ v ∧ v < 256 ∧ freeV l' c v = true) := by
    obtain ⟨v', e, g1, g2, g3, _⟩ := vec_ok hn.out
    have : v' = v := by have := hv.out; omega
    subst this
    exact ⟨g1, g2, g3⟩
  have hv256 := hV.out.2.1
  have hi' : i < l'.length := by rw [← hl.out]; simpa using hi
  have hz : Hid ((l'.getD i zs).vec = 0) := by
    have : l'.getD i zs = zs := by rw [← hl.out]; simp [List.getD_eq_getElem?_getD, hi]
    rw [this]
    exact Lib.hid rfl
  have hll : Hid (l'.length = l.length) := by rw [← hl.out]; exact Lib.hid List.length_set
  clear hp
  go_enter Tryd.func14, Tryd.ntmps14
  go_upto_region 7 with (first
    | (go_at_call 19; (with_reducible refine (least_VS r m c HP.out).mono ?_); rintro e w1 ⟨rfl, hb1⟩; have R1 := r.step hb1; clear hb1)
    | (go_at_call 16; (with_reducible refine (remove_VS R1 i hi).mono ?_); rintro e w2 ⟨⟨z, rfl⟩, R2⟩; rw [hl.out] at R2; obtain ⟨hgen, fr, tk, hr, ht⟩ := R2; obtain ⟨q, hq⟩ : ∃ q, fr c = q := ⟨_, rfl⟩; have HQ := Lib.hid hq; obtain ⟨f0, f1, f2, f3⟩ := hr.free hc; rw [hq] at f0 f1 f2 f3; have HT := Lib.hid (tab_VS hT.out hr); have HGEN := Lib.hid hgen; have HTIE := Lib.hid ht; have HR := Lib.hid hr; clear hq hr ht hgen)
    | (go_at_call 20; (with_reducible refine (next_VS _ HT.out HTIE.out hcc hv q HQ).mono ?_); rintro e w3 ⟨rfl, hb3⟩; have HR3 := Lib.hid (HR.out.step hb3); have eB := HR3.out.slot hi'; obtain ⟨e0, e1⟩ := eB; have eT := HR3.out.head.2; rw [hll.out] at eT; have fB0 := HR3.out.frozenB (i * 2); have fB1 := HR3.out.frozenB (i * 2 + 1); clear hb3 f0 f1 f2 f3)
    | fail)
  have HR4 := Lib.hid (HR3.out.putS hi' ⟨c, v⟩)
  clear HR HR3 R1 r e0 e1 eT fB0 fB1
  simp only at HR4
  generalize (w3.setCell ⟨B, i * 2, none⟩ (.int .i64 (c : Int))).setCell ⟨B, i * 2 + 1, none⟩ (.int .i64 (v : Int)) = wx at HR4 ⊢
  obtain ⟨f0, f1, f2, f3⟩ := HR4.out.free hc
  rw [HQ.out] at f0 f1 f2 f3
  have hok : Hid (Ok q.a q.b q.c q.d) := by rw [← HQ.out]; exact (HTIE.out c hcc).1
  have hT' := HR4.out.2.2.2.1.lt
  have fT := HR4.out.frozenT
  go_cut [] from 33 (fun wy => RawV W T B cores (l'.set i ⟨c, v⟩) (fun d => if d = c then ⟨dn 0 v q.a, dn 1 v q.b, dn 2 v q.c, dn 3 v q.d⟩ else fr d) tk wy)
  case first =>
    go_region_with (first
      | (go_at_call 21; ((with_reducible refine (without_any q.a q.b q.c q.d v _ hok.out hv256).mono ?_); rintro e w4 ⟨rfl, hb4⟩; have G3 := bat' hb4 T hT'; have R4 := HR4.out.drew.step hb4; clear hb4)))
    all_goals go_wp2_with fail
    all_goals go_meet
    all_goals exact R4.putF hc ⟨_, _, _, _⟩
  case rest =>
    clear HR4 f0 f1 f2 f3 fT
    have h1 := hcut.taken hc
    obtain ⟨t, ht⟩ : ∃ t, tk c = t := ⟨_, rfl⟩
    have hcn : t = cntV l' c := by rw [← ht]; exact (HTIE.out c hcc).2.2
    have ht0 : t < 9223372036854775807 := by have := hn.out; omega
    clear hcn
    rw [ht] at h1
    have hT3 := hcut.2.2.2.1.lt
    have fT3 := hcut.frozenT (34 + c)
    have hF : VS W T B cores (l'.set i ⟨c, v⟩) ((wc.setCell ⟨T, 34 + c, none⟩ (.int .i64 ((t + 1 : Nat) : Int))).drew) := by
      have hTie := tie_put (c := c) (v := v) HTIE.out hi' hz.out hV.out.1 HQ.out
      rw [ht] at hTie
      exact ⟨⟨HGEN.out.1, by simpa using HGEN.out.2.1, good_put HGEN.out.2.2 hi' hcc hV.out.1 hV.out.2.1 hV.out.2.2⟩, _, _, (hcut.putT hc (t + 1)).drew, hTie⟩
    rw [show ((t + 1 : Nat) : Int) = (t : Int) + 1 from rfl] at hF
    have HF := Lib.hid hF
    clear hcut ht hF
    go_wp2_with fail
    go_region
    all_goals go_wp2_with fail
    all_goals go_ret
    all_goals exact ⟨rfl, HF.out⟩
end Go.Proofs.YtmldedkmmhnihaaDoor
