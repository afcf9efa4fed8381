/- The walk of corebellkeep.ApicGraver: it returns true at every input. -/
import Derived.Test.YtgddbmbljlngnaaDoorLocR
namespace Go.Proofs.YtgddbmbljlngnaaDoor
open Go.RowKit

theorem grav_R (a0 a1 a2 a3 s0 s1 s2 s3 : Nat) (c : Int) (b0 b1 b2 b3 t0 t1 t2 t3 : Nat) (k v : Int) (w : World) (HO : Hid (St.Ok ⟨a0, a1, a2, a3, s0, s1, s2, s3, c⟩)) (hT : Tab w) (H : Hid (stepOf ⟨a0, a1, a2, a3, s0, s1, s2, s3, c⟩ k 0 = (⟨b0, b1, b2, b3, t0, t1, t2, t3, c⟩, v, 0))) :
    Calls Tryd.prog 10 #[.agg #[.int .u64 a0, .int .u64 a1, .int .u64 a2, .int .u64 a3, .int .u64 s0, .int .u64 s1, .int .u64 s2, .int .u64 s3, .int .i64 c], .agg #[.int .i64 k, .int .i64 0]] w fun e w' => e = .returned (.tuple #[.agg #[.int .u64 b0, .int .u64 b1, .int .u64 b2, .int .u64 b3, .int .u64 t0, .int .u64 t1, .int .u64 t2, .int .u64 t3, .int .i64 c], .int .i64 v, .int .i64 0]) ∧ Below w.heap.size w w' :=
  step_R ⟨a0, a1, a2, a3, s0, s1, s2, s3, c⟩ ⟨b0, b1, b2, b3, t0, t1, t2, t3, c⟩ k 0 v 0 w HO hT H
theorem grav_Z (a0 a1 a2 a3 s0 s1 s2 s3 : Nat) (c : Int) (k n x : Int) (w : World) (HO : Hid (St.Ok ⟨a0, a1, a2, a3, s0, s1, s2, s3, c⟩)) (hT : Tab w) (H : Hid (stepOf ⟨a0, a1, a2, a3, s0, s1, s2, s3, c⟩ k n = (St.zero, 0, x))) :
    Calls Tryd.prog 10 #[.agg #[.int .u64 a0, .int .u64 a1, .int .u64 a2, .int .u64 a3, .int .u64 s0, .int .u64 s1, .int .u64 s2, .int .u64 s3, .int .i64 c], .agg #[.int .i64 k, .int .i64 n]] w fun e w' => e = .returned (.tuple #[.agg #[.int .u64 0, .int .u64 0, .int .u64 0, .int .u64 0, .int .u64 0, .int .u64 0, .int .u64 0, .int .u64 0, .int .i64 0], .int .i64 0, .int .i64 x]) ∧ Below w.heap.size w w' :=
  step_Z ⟨a0, a1, a2, a3, s0, s1, s2, s3, c⟩ k n x w HO hT H
set_option maxHeartbeats 4000000 in
set_option maxRecDepth 100000 in
theorem grav_e (a0 a1 a2 a3 s0 s1 s2 s3 : Nat) (c : Int) (x : Int) (w : World) (HO : Hid (St.Ok ⟨a0, a1, a2, a3, s0, s1, s2, s3, c⟩)) (HT : Hid (Tab w)) (H : Hid (stepOf ⟨a0, a1, a2, a3, s0, s1, s2, s3, c⟩ 2 0 = (St.zero, 0, x))) (hx : (x != 0) = true) :
    Calls Tryd.prog 5 #[.agg #[.int .u64 a0, .int .u64 a1, .int .u64 a2, .int .u64 a3, .int .u64 s0, .int .u64 s1, .int .u64 s2, .int .u64 s3, .int .i64 c]] w fun e w' => e = .returned (.bool true) ∧ Below w.heap.size w w' := by
  go_enter Tryd.func5, Tryd.ntmps5
  go_wp2_with fail
  with_reducible refine (alive2_T _ ?_).mono ?_
  focus (refine HT.out.below (show Below w.heap.size w _ from ?_); repeat (first | (with_reducible assumption) | (with_reducible exact Below.refl _ _) | ((with_reducible refine Below.setCell ?_ ?_ _); rotate_left; focus (first | (simp; done) | omega | (simp; omega))) | ((with_reducible refine Below.alloc ?_ ?_ _); rotate_left; focus (first | (simp; done) | omega | (simp; omega)))))
  rintro e w1 ⟨rfl, hb⟩
  have Z1_0 := bat hb (w.heap.size) (by first | omega | (simp; done) | (simp; omega))
  have ZL1_0 := Z1_0.2.2
  have BB1 := bstep (W := w) (by repeat (first | (with_reducible assumption) | (with_reducible exact Below.refl _ _) | ((with_reducible refine Below.setCell ?_ ?_ _); rotate_left; focus (first | (simp; done) | omega | (simp; omega))) | ((with_reducible refine Below.alloc ?_ ?_ _); rotate_left; focus (first | (simp; done) | omega | (simp; omega))))) hb
  have LL1 := BB1.size
  clear hb
  go_wp2_with fail
  with_reducible refine (grav_Z a0 a1 a2 a3 s0 s1 s2 s3 c 2 0 x _ HO ?_ H).mono ?_
  focus (refine HT.out.below (show Below w.heap.size w _ from ?_); repeat (first | (with_reducible assumption) | (with_reducible exact Below.refl _ _) | ((with_reducible refine Below.setCell ?_ ?_ _); rotate_left; focus (first | (simp; done) | omega | (simp; omega))) | ((with_reducible refine Below.alloc ?_ ?_ _); rotate_left; focus (first | (simp; done) | omega | (simp; omega)))))
  rintro e w2 ⟨rfl, hb⟩
  have BB2 := bstep (W := w) (by repeat (first | (with_reducible assumption) | (with_reducible exact Below.refl _ _) | ((with_reducible refine Below.setCell ?_ ?_ _); rotate_left; focus (first | (simp; done) | omega | (simp; omega))) | ((with_reducible refine Below.alloc ?_ ?_ _); rotate_left; focus (first | (simp; done) | omega | (simp; omega))))) hb
  have LL2 := BB2.size
  clear hb
  go_wp2_with fail
  go_ret
  exact ⟨rfl, by repeat (first | (with_reducible assumption) | (with_reducible exact Below.refl _ _) | ((with_reducible refine Below.setCell ?_ ?_ _); rotate_left; focus (first | (simp; done) | omega | (simp; omega))) | ((with_reducible refine Below.alloc ?_ ?_ _); rotate_left; focus (first | (simp; done) | omega | (simp; omega))))⟩
set_option maxHeartbeats 4000000 in
set_option maxRecDepth 100000 in
theorem grav_k (a0 a1 a2 a3 s0 s1 s2 s3 : Nat) (c : Int) (b0 b1 b2 b3 t0 t1 t2 t3 : Nat) (v : Nat) (l : List Nat) (w : World) (HO : Hid (St.Ok ⟨a0, a1, a2, a3, s0, s1, s2, s3, c⟩)) (HO2 : Hid (St.Ok ⟨b0, b1, b2, b3, t0, t1, t2, t3, c⟩)) (OS : Hid (Ok s0 s1 s2 s3)) (OT : Hid (Ok t0 t1 t2 t3)) (HT : Hid (Tab w)) (hv256 : v < 256) (H : Hid (stepOf ⟨a0, a1, a2, a3, s0, s1, s2, s3, c⟩ 2 0 = (⟨b0, b1, b2, b3, t0, t1, t2, t3, c⟩, (v : Int), 0))) (H2 : Hid (stepOf ⟨b0, b1, b2, b3, t0, t1, t2, t3, c⟩ 3 0 = (⟨b0, b1, b2, b3, s0, s1, s2, s3, c⟩, (v : Int), 0)))
    (Hl : Hid (allOf (mem s0 s1 s2 s3) = l)) (h256 : l.length ≤ 256) (Hlt : Hid (∀ k, k < l.length → l.getD k 0 / 16 < v / 16 ∧ l.getD k 0 < 256)) (Ht : Hid (topOf (mem t0 t1 t2 t3) = (v : Int))) (hc : c < (v : Int) / 16) :
    Calls Tryd.prog 5 #[.agg #[.int .u64 a0, .int .u64 a1, .int .u64 a2, .int .u64 a3, .int .u64 s0, .int .u64 s1, .int .u64 s2, .int .u64 s3, .int .i64 c]] w fun e w' => e = .returned (.bool true) ∧ Below w.heap.size w w' := by
  have heqb : ∀ (x0 x1 x2 x3 y0 y1 y2 y3 : Int) (w : World), (Op.equalIn 10000 24 (.agg #[.int .u64 x0, .int .u64 x1, .int .u64 x2, .int .u64 x3]) (.agg #[.int .u64 y0, .int .u64 y1, .int .u64 y2, .int .u64 y3])).run Tryd.prog w = .ok (x0 == y0 && (x1 == y1 && (x2 == y2 && x3 == y3))) w := eq_bits
  go_enter Tryd.func5, Tryd.ntmps5
  go_wp2_with fail
  with_reducible refine (alive2_T _ ?_).mono ?_
  focus (refine HT.out.below (show Below w.heap.size w _ from ?_); repeat (first | (with_reducible assumption) | (with_reducible exact Below.refl _ _) | ((with_reducible refine Below.setCell ?_ ?_ _); rotate_left; focus (first | (simp; done) | omega | (simp; omega))) | ((with_reducible refine Below.alloc ?_ ?_ _); rotate_left; focus (first | (simp; done) | omega | (simp; omega)))))
  rintro e w1 ⟨rfl, hb⟩
  have Z1_0 := bat hb (w.heap.size) (by first | omega | (simp; done) | (simp; omega))
  have ZL1_0 := Z1_0.2.2
  have BB1 := bstep (W := w) (by repeat (first | (with_reducible assumption) | (with_reducible exact Below.refl _ _) | ((with_reducible refine Below.setCell ?_ ?_ _); rotate_left; focus (first | (simp; done) | omega | (simp; omega))) | ((with_reducible refine Below.alloc ?_ ?_ _); rotate_left; focus (first | (simp; done) | omega | (simp; omega))))) hb
  have LL1 := BB1.size
  clear hb
  go_wp2_with fail
  with_reducible refine (grav_R a0 a1 a2 a3 s0 s1 s2 s3 c b0 b1 b2 b3 t0 t1 t2 t3 2 v _ HO ?_ H).mono ?_
  focus (refine HT.out.below (show Below w.heap.size w _ from ?_); repeat (first | (with_reducible assumption) | (with_reducible exact Below.refl _ _) | ((with_reducible refine Below.setCell ?_ ?_ _); rotate_left; focus (first | (simp; done) | omega | (simp; omega))) | ((with_reducible refine Below.alloc ?_ ?_ _); rotate_left; focus (first | (simp; done) | omega | (simp; omega)))))
  rintro e w2 ⟨rfl, hb⟩
  have Z2_0 := bat hb (w.heap.size) (by first | omega | (simp; done) | (simp; omega))
  have ZL2_0 := Z2_0.2.2
  have BB2 := bstep (W := w) (by repeat (first | (with_reducible assumption) | (with_reducible exact Below.refl _ _) | ((with_reducible refine Below.setCell ?_ ?_ _); rotate_left; focus (first | (simp; done) | omega | (simp; omega))) | ((with_reducible refine Below.alloc ?_ ?_ _); rotate_left; focus (first | (simp; done) | omega | (simp; omega))))) hb
  have LL2 := BB2.size
  clear hb
  go_wp2_with fail
  with_reducible refine (all_list s0 s1 s2 s3 l _ OS ?_ Hl).mono ?_
  focus (refine HT.out.below (show Below w.heap.size w _ from ?_); repeat (first | (with_reducible assumption) | (with_reducible exact Below.refl _ _) | ((with_reducible refine Below.setCell ?_ ?_ _); rotate_left; focus (first | (simp; done) | omega | (simp; omega))) | ((with_reducible refine Below.alloc ?_ ?_ _); rotate_left; focus (first | (simp; done) | omega | (simp; omega)))))
  rintro e w3 ⟨v3, rfl, ⟨ad, cap, rfl, HL⟩, hb⟩
  have Z3_0 := bat hb (w.heap.size) (by first | omega | (simp; done) | (simp; omega))
  have ZL3_0 := Z3_0.2.2
  have Z3_1 := bat hb (w2.heap.size) (by first | omega | (simp; done) | (simp; omega))
  have ZL3_1 := Z3_1.2.2
  have BB3 := bstep (W := w) (by repeat (first | (with_reducible assumption) | (with_reducible exact Below.refl _ _) | ((with_reducible refine Below.setCell ?_ ?_ _); rotate_left; focus (first | (simp; done) | omega | (simp; omega))) | ((with_reducible refine Below.alloc ?_ ?_ _); rotate_left; focus (first | (simp; done) | omega | (simp; omega))))) hb
  have LL3 := BB3.size
  clear hb
  have HLI := Lib.hid HL
  clear HL
  go_wp2_with fail
  go_loop [26] (fun i => ∃ k : Nat, k ≤ l.length ∧ i = .int .i64 k) (fun i => l.length - (intOf i).toNat)
  case atStart => exact ⟨0, Nat.zero_le _, rfl⟩
  case round =>
    obtain ⟨k, hk, rfl⟩ := hrel
    by_cases hlt : k < l.length
    · obtain ⟨g, rfl, hlies⟩ := HLI.out (by omega)
      obtain ⟨x, hx⟩ : ∃ x : Nat, l.getD k 0 = x := ⟨_, rfl⟩
      have hcell : w3.cell? ⟨g, k, none⟩ = some (.int .i64 (x : Int)) := by rw [← hx]; exact hlies k hlt
      obtain ⟨hx1, hx2⟩ := Hlt.out k hlt
      rw [hx] at hx1 hx2
      have hd : decide ((v : Int) / 16 ≤ (x : Int) / 16) = false := by simp; omega
      clear hx hlies
      go_wp2_with fail
      go_round
      case rel => exact ⟨k + 1, by omega, by go_num⟩
      case measure => simp [intOf]; omega
    · have hkl : k = l.length := by omega
      subst hkl
      clear hlt
      go_wp2_with fail
      with_reducible refine (grav_R b0 b1 b2 b3 t0 t1 t2 t3 c b0 b1 b2 b3 s0 s1 s2 s3 3 v _ HO2 ?_ H2).mono ?_
      focus (refine HT.out.below (show Below w.heap.size w _ from ?_); repeat (first | (with_reducible assumption) | (with_reducible exact Below.refl _ _) | ((with_reducible refine Below.setCell ?_ ?_ _); rotate_left; focus (first | (simp; done) | omega | (simp; omega))) | ((with_reducible refine Below.alloc ?_ ?_ _); rotate_left; focus (first | (simp; done) | omega | (simp; omega)))))
      rintro e w4 ⟨rfl, hb⟩
      have Z4_0 := bat hb (w.heap.size) (by first | omega | (simp; done) | (simp; omega))
      have ZL4_0 := Z4_0.2.2
      have Z4_1 := bat hb (w2.heap.size) (by first | omega | (simp; done) | (simp; omega))
      have ZL4_1 := Z4_1.2.2
      have BB4 := bstep (W := w) (by repeat (first | (with_reducible assumption) | (with_reducible exact Below.refl _ _) | ((with_reducible refine Below.setCell ?_ ?_ _); rotate_left; focus (first | (simp; done) | omega | (simp; omega))) | ((with_reducible refine Below.alloc ?_ ?_ _); rotate_left; focus (first | (simp; done) | omega | (simp; omega))))) hb
      have LL4 := BB4.size
      clear hb
      go_wp2_with fail
      with_reducible refine (top_every t0 t1 t2 t3 v _ OT Ht).mono ?_
      rintro e w5 ⟨rfl, hb⟩
      have Z5_0 := bat hb (w.heap.size) (by first | omega | (simp; done) | (simp; omega))
      have ZL5_0 := Z5_0.2.2
      have BB5 := bstep (W := w) (by repeat (first | (with_reducible assumption) | (with_reducible exact Below.refl _ _) | ((with_reducible refine Below.setCell ?_ ?_ _); rotate_left; focus (first | (simp; done) | omega | (simp; omega))) | ((with_reducible refine Below.alloc ?_ ?_ _); rotate_left; focus (first | (simp; done) | omega | (simp; omega))))) hb
      have LL5 := BB5.size
      clear hb
      go_wp2_with fail
      go_ret
      exact ⟨rfl, by repeat (first | (with_reducible assumption) | (with_reducible exact Below.refl _ _) | ((with_reducible refine Below.setCell ?_ ?_ _); rotate_left; focus (first | (simp; done) | omega | (simp; omega))) | ((with_reducible refine Below.alloc ?_ ?_ _); rotate_left; focus (first | (simp; done) | omega | (simp; omega))))⟩
theorem apicGraver_walk (s : St) (w : World) (h : s.Ok) (hT : Tab w) :
    Calls Tryd.prog 5 #[.agg #[.int .u64 s.a0, .int .u64 s.a1, .int .u64 s.a2, .int .u64 s.a3, .int .u64 s.s0, .int .u64 s.s1, .int .u64 s.s2, .int .u64 s.s3, .int .i64 s.c]] w fun e w' => e = .returned (.bool true) ∧ Below w.heap.size w w' := by
  rcases step_split s 2 0 with ⟨x, hx, H⟩ | ⟨r, v, H⟩
  · exact grav_e s.a0 s.a1 s.a2 s.a3 s.s0 s.s1 s.s2 s.s3 s.c x w h hT H (by simpa using hx)
  · have H0 := H
    obtain ⟨hr, h1⟩ := step_inv H
    have hr' := step_right H
    rcases h1 with ⟨h1, _⟩ | ⟨_, h1, rfl, rfl⟩ | ⟨h1, _⟩ | ⟨h1, _⟩
    · omega
    · obtain ⟨n, e, et, _, hn, hp, hc, hq, hmax⟩ := would_pos h1
      rw [e] at H0 hr'
      rw [Int.toNat_natCast] at H0 hr'
      have hk : (s.take n).Ok := step_ok' h H0
      have hnq : s.q n = false := by
        cases hx : s.q n
        · rfl
        · have := hq n hn hx
          omega
      have htop : topOf (s.take n).q = n := by
        refine topOf_some hn (by rw [take_q s n n hn]; simp) (fun m h1 h2 => ?_)
        rw [take_q s n m h2]
        have hm : s.q m = false := by
          cases hx : s.q m
          · rfl
          · have := hq m h2 hx
            omega
        rw [hm]
        simp
        omega
      have H2 : stepOf (s.take n) 3 0 = ((s.take n).fin n, (n : Int), 0) := by
        unfold stepOf
        rw [if_neg (by rw [hr']; decide), if_neg (by decide), if_neg (by decide), if_pos rfl, htop, if_neg (by omega), Int.toNat_natCast]
      have hd := dn_none (n := n) h.2 hnq
      have hfin : (s.take n).fin n = ⟨(s.take n).a0, (s.take n).a1, (s.take n).a2, (s.take n).a3, s.s0, s.s1, s.s2, s.s3, s.c⟩ := by
        unfold St.fin St.take
        simp only [St.mk.injEq, true_and, and_true]
        exact ⟨(dn_up _ _ _ h.2.1).trans hd.1, (dn_up _ _ _ h.2.2.1).trans hd.2.1, (dn_up _ _ _ h.2.2.2.1).trans hd.2.2.1, (dn_up _ _ _ h.2.2.2.2).trans hd.2.2.2⟩
      rw [hfin] at H2
      exact grav_k s.a0 s.a1 s.a2 s.a3 s.s0 s.s1 s.s2 s.s3 s.c _ _ _ _ _ _ _ _ n _ w h hk h.2 hk.2 hT hn H0 H2 rfl (filter_len _ 256) (fun k hk => ⟨hq _ (at_is _ k hk).2 (at_is _ k hk).1, (at_is _ k hk).2⟩) htop (by omega)
    · omega
    · omega
end Go.Proofs.YtgddbmbljlngnaaDoor
