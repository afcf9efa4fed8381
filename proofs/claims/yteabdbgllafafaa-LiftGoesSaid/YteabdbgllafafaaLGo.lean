/- LiftGoes: the walk. -/
import Derived.Test.YteabdbgllafafaaLftJ
import Derived.Test.YteabdbgllafafaaLftO
import Derived.Test.YteabdbgllafafaaEqN
namespace Go.Proofs.Yteabdbgllafafaa
open Go.RowKit

theorem way0_pos (l : List Int) : 0 ≤ wayS 0 l := way_pos l 0
set_option maxHeartbeats 4000000 in
set_option maxRecDepth 100000 in
theorem goes_ok {ad : Option Addr} {cap n : Nat} {l : List Int} (head : Int) (w : World) (HA : Hid (shI.At w ad cap l)) (hn : Hid (l.length = n)) (QH : Hid (okH head)) (QL : Hid (okL l)) :
    Calls Try.prog 3 #[.int .i64 head, .slice ad n cap] w fun e w' => e = .returned (.bool true) ∧ Below w.heap.size w w' := by
  have h4 : n ≤ 400 := by rw [← hn.out]; exact QL.out.1
  obtain ⟨V, hV⟩ : ∃ V, wayS head l = V := ⟨_, rfl⟩
  obtain ⟨s0, hs0⟩ : ∃ s0, wayS 0 l = s0 := ⟨_, rfl⟩
  have HV : Hid (wayV head l = V) := Lib.hid ((if_pos ⟨QH.out, QL.out⟩).trans hV)
  have HSH : Hid (swayV head l = V) := Lib.hid ((if_pos ⟨QL.out, QH.out⟩).trans hV)
  have HS0 : Hid (swayV 0 l = s0) := Lib.hid ((if_pos ⟨QL.out, by omega, by omega⟩).trans hs0)
  have k0 : decide (s0 ≥ 0) = true := decide_eq_true (by rw [← hs0]; exact way_pos l 0)
  have k1 : decide (V < 0) = false := decide_eq_false (by have := way_pos l head; omega)
  obtain ⟨sh, hsh⟩ : ∃ sh, sh = V := ⟨V, rfl⟩
  subst hsh
  have HE : Hid (errH head l = 0) := Lib.hid (if_pos ⟨QH.out, QL.out⟩)
  have HVL : Hid (errL l = 0) := Lib.hid (if_pos QL.out)
  have e1 : sweepV head l = upR head l ++ dnR head l := if_pos ⟨QH.out, QL.out⟩
  have e2 : shortV head l = shortL head l := if_pos ⟨QH.out, QL.out⟩
  obtain ⟨nu, hu⟩ : ∃ nu, (upL head l).length = nu := ⟨_, rfl⟩
  obtain ⟨nd, hd⟩ : ∃ nd, (dnL head l).length = nd := ⟨_, rfl⟩
  have HU := Lib.hid hu
  have HD := Lib.hid hd
  have HUR : Hid ((upR head l).length = nu) := Lib.hid ((srt_perm _).length_eq.trans hu)
  have HDR : Hid ((dnR head l).length = nd) := Lib.hid ((srt_perm _).length_eq.trans hd)
  have hud : n = nu + nd := by rw [← hn.out, ← HUR.out, ← HDR.out, Nat.add_comm]; exact (updn_len head l).symm
  have HKC := Lib.hid hud
  have hnu : nu ≤ 1048576 := by omega
  have hnd : nd ≤ 1048576 := by omega
  have hnb : n ≤ 8796093022208 := by omega
  have hn63 : n ≤ 9223372036854775807 := by omega
  have HLW : Hid ((sweepV head l).length = n) := Lib.hid (by rw [e1, List.length_append, HUR.out, HDR.out]; exact hud.symm)
  have HLS : Hid ((shortV head l).length = n) := Lib.hid (by rw [e2, short_len]; exact hn.out)
  have hee : (sh == sh) = true := by simp
  rw [e1] at HLW
  rw [e2] at HLS
  clear hud hu hd hV hs0
  go_enter Try.func3, Try.ntmps3
  go_wp2_with (first
    | (go_at_call 9; (with_reducible refine (way_W head _ HA hn sh HV 0 HE).mono ?_); rintro e w1 ⟨rfl, rfl⟩)
    | (go_at_call 10; (with_reducible refine (sweep_N head _ HA hn QH QL).mono ?_); rintro e w2 ⟨a2, c2, rfl, r2, b2⟩; have R2 := Lib.hid r2; have B2 := Lib.hid b2; have H2 := Lib.hid (HA.out.step b2); clear r2 b2)
    | (go_at_call 11; (with_reducible refine (short_N head _ H2 hn QH QL).mono ?_); rintro e w3 ⟨a3, c3, rfl, r3, b3⟩; have Q3 := Lib.hid r3; have R3 := Lib.hid (R2.out.step b3); have B3 := Lib.hid (pstep B2.out b3); have H3 := Lib.hid (H2.out.step b3); clear r3 b3)
    | (go_at_call 12; (with_reducible refine (wrong_W _ H4 hn 0 HVL).mono ?_); rintro e wx ⟨rfl, rfl⟩)
    | (go_at_call 12; (with_reducible refine (wrong_W _ H3 hn 0 HVL).mono ?_); rintro e wx ⟨rfl, rfl⟩)
    | (go_at_call 13; (with_reducible refine (sway_W head _ H4 hn sh HSH).mono ?_); rintro e w5 ⟨rfl, b5⟩; have Q5 := Lib.hid (Q4.out.step b5); have R5 := Lib.hid (R4.out.step b5); have B5 := Lib.hid (pstep B4.out b5); have H5 := Lib.hid (H4.out.step b5); clear b5)
    | (go_at_call 13; (with_reducible refine (sway_W 0 _ H3 hn s0 HS0).mono ?_); rintro e w4 ⟨rfl, b4⟩; have Q4 := Lib.hid (Q3.out.step b4); have R4 := Lib.hid (R3.out.step b4); have B4 := Lib.hid (pstep B3.out b4); have H4 := Lib.hid (H3.out.step b4); clear b4)
    | (go_at_call 14; (with_reducible refine (sparts_W head _ H5 hn hnb nu nd HU HD).mono ?_); rintro e w6 ⟨ua, uc, da, dc, rfl, t6⟩; have bl := below_alloc w6 (.cells #[.slice ua nu uc, .slice da nd dc] 22); have HQ := Lib.hid (heap_alloc_new w6 (.cells #[.slice ua nu uc, .slice da nd dc] 22)); have UA := Lib.hid ((Shape.At.own (S := shI) t6.u t6.ul).step bl); have DA := Lib.hid ((Shape.At.own (S := shI) t6.d t6.dl).step bl); have Q6 := Lib.hid ((Q5.out.step t6.b).step bl); have R6 := Lib.hid ((R5.out.step t6.b).step bl); have B6 := Lib.hid (pstep (pstep B5.out t6.b) bl); have H6 := Lib.hid ((H5.out.step t6.b).step bl); clear t6 bl)
    | (go_at_call 16; (with_reducible refine (concat_Int _ _ _ _ _ _ _ _ _ _ HQ HUR HDR UA DA hnu hnd n HKC).mono ?_); rintro e w7 ⟨a7, c7, rfl, r7, b7⟩; have S7 := Lib.hid r7; have Q7 := Lib.hid (Q6.out.step b7); have R7 := Lib.hid (R6.out.step b7); have B7 := Lib.hid (pstep B6.out b7); have H7 := Lib.hid (H6.out.step b7); clear r7 b7)
    | (go_at_call 17; (with_reducible refine (sshort_W head _ H8 hn QH QL).mono ?_); rintro e w9 ⟨a9, c9, rfl, r9, b9⟩; have S9 := Lib.hid r9; have Q9 := Lib.hid (Q8.out.step b9); have B9 := Lib.hid (pstep B8.out b9); clear r9 b9)
    | (go_at_call 15; (with_reducible refine (equalI _ HLS Q9 S9 hn63).mono ?_); rintro e wz ⟨rfl, bz⟩; have BZ := Lib.hid (pstep B9.out bz); clear bz)
    | (go_at_call 15; (with_reducible refine (equalI _ HLW R7 S7 hn63).mono ?_); rintro e w8 ⟨rfl, b8⟩; have Q8 := Lib.hid (Q7.out.step b8); have B8 := Lib.hid (pstep B7.out b8); have H8 := Lib.hid (H7.out.step b8); clear b8)
    | fail)
  go_ret
  exact ⟨rfl, BZ.out⟩
set_option maxHeartbeats 4000000 in
set_option maxRecDepth 100000 in
theorem goes_no {ad : Option Addr} {cap n : Nat} {l : List Int} (head : Int) (w : World) (HA : Hid (shI.At w ad cap l)) (hn : Hid (l.length = n)) (QN : Hid (¬ (okH head ∧ okL l))) :
    Calls Try.prog 3 #[.int .i64 head, .slice ad n cap] w fun e w' => e = .returned (.bool true) ∧ Below w.heap.size w w' := by
  have HV : Hid (wayV head l = 0) := Lib.hid (if_neg QN.out)
  have HE : Hid (errH head l = 2) := Lib.hid (if_neg QN.out)
  have HSH : Hid (swayV head l = -1) := Lib.hid (if_neg (fun q => QN.out ⟨q.2, q.1⟩))
  by_cases hl : okL l
  · obtain ⟨s0, hs0⟩ : ∃ s0, wayS 0 l = s0 := ⟨_, rfl⟩
    have HS0 : Hid (swayV 0 l = s0) := Lib.hid ((if_pos ⟨hl, by omega, by omega⟩).trans hs0)
    have k0 : decide (s0 ≥ 0) = true := decide_eq_true (by rw [← hs0]; exact way_pos l 0)
    have HVL : Hid (errL l = 0) := Lib.hid (if_pos hl)
    clear hl hs0
    go_enter Try.func3, Try.ntmps3
    go_wp2_with (first
      | (go_at_call 9; (with_reducible refine (way_W head _ HA hn 0 HV 2 HE).mono ?_); rintro e w1 ⟨rfl, rfl⟩)
      | (go_at_call 10; (with_reducible refine (sweep_X head _ HA hn QN).mono ?_); rintro e w2 ⟨a2, c2, rfl, r2, b2⟩; have R2 := Lib.hid r2; have B2 := Lib.hid b2; have H2 := Lib.hid (HA.out.step b2); clear r2 b2)
      | (go_at_call 11; (with_reducible refine (short_X head _ H2 hn QN).mono ?_); rintro e w3 ⟨a3, c3, rfl, r3, b3⟩; have Q3 := Lib.hid r3; have R3 := Lib.hid (R2.out.step b3); have B3 := Lib.hid (pstep B2.out b3); have H3 := Lib.hid (H2.out.step b3); clear r3 b3)
      | (go_at_call 12; (with_reducible refine (wrong_W _ H4 hn 0 HVL).mono ?_); rintro e wx ⟨rfl, rfl⟩)
      | (go_at_call 12; (with_reducible refine (wrong_W _ H3 hn 0 HVL).mono ?_); rintro e wx ⟨rfl, rfl⟩)
      | (go_at_call 13; (with_reducible refine (sway_W head _ H4 hn (-1) HSH).mono ?_); rintro e w5 ⟨rfl, b5⟩; have Q5 := Lib.hid (Q4.out.step b5); have R5 := Lib.hid (R4.out.step b5); have B5 := Lib.hid (pstep B4.out b5); have H5 := Lib.hid (H4.out.step b5); clear b5)
      | (go_at_call 13; (with_reducible refine (sway_W 0 _ H3 hn s0 HS0).mono ?_); rintro e w4 ⟨rfl, b4⟩; have Q4 := Lib.hid (Q3.out.step b4); have R4 := Lib.hid (R3.out.step b4); have B4 := Lib.hid (pstep B3.out b4); have H4 := Lib.hid (H3.out.step b4); clear b4)
      | fail)
    go_ret
    exact ⟨rfl, B5.out⟩
  · have HS0 : Hid (swayV 0 l = -1) := Lib.hid (if_neg (fun q => hl q.1))
    have HVL : Hid (errL l = 2) := Lib.hid (if_neg hl)
    clear hl
    go_enter Try.func3, Try.ntmps3
    go_wp2_with (first
      | (go_at_call 9; (with_reducible refine (way_W head _ HA hn 0 HV 2 HE).mono ?_); rintro e w1 ⟨rfl, rfl⟩)
      | (go_at_call 10; (with_reducible refine (sweep_X head _ HA hn QN).mono ?_); rintro e w2 ⟨a2, c2, rfl, r2, b2⟩; have R2 := Lib.hid r2; have B2 := Lib.hid b2; have H2 := Lib.hid (HA.out.step b2); clear r2 b2)
      | (go_at_call 11; (with_reducible refine (short_X head _ H2 hn QN).mono ?_); rintro e w3 ⟨a3, c3, rfl, r3, b3⟩; have Q3 := Lib.hid r3; have R3 := Lib.hid (R2.out.step b3); have B3 := Lib.hid (pstep B2.out b3); have H3 := Lib.hid (H2.out.step b3); clear r3 b3)
      | (go_at_call 12; (with_reducible refine (wrong_W _ H4 hn 2 HVL).mono ?_); rintro e wx ⟨rfl, rfl⟩)
      | (go_at_call 12; (with_reducible refine (wrong_W _ H3 hn 2 HVL).mono ?_); rintro e wx ⟨rfl, rfl⟩)
      | (go_at_call 13; (with_reducible refine (sway_W head _ H4 hn (-1) HSH).mono ?_); rintro e w5 ⟨rfl, b5⟩; have Q5 := Lib.hid (Q4.out.step b5); have R5 := Lib.hid (R4.out.step b5); have B5 := Lib.hid (pstep B4.out b5); have H5 := Lib.hid (H4.out.step b5); clear b5)
      | (go_at_call 13; (with_reducible refine (sway_W 0 _ H3 hn (-1) HS0).mono ?_); rintro e w4 ⟨rfl, b4⟩; have Q4 := Lib.hid (Q3.out.step b4); have R4 := Lib.hid (R3.out.step b4); have B4 := Lib.hid (pstep B3.out b4); have H4 := Lib.hid (H3.out.step b4); clear b4)
      | fail)
    go_ret
    exact ⟨rfl, B5.out⟩
theorem liftGoes_walk (v0 v1 : Value) (w : World) (g0 : ArgInt w v0) (g1 : ArgNums w v1) :
    Calls Try.prog 3 #[v0, v1] w fun e w' => e = .returned (.bool true) ∧ Below w.heap.size w w' := by
  obtain ⟨head, rfl⟩ := g0
  obtain ⟨ad, cap, l, rfl, h1, _⟩ := g1
  by_cases q : okH head ∧ okL l
  · exact goes_ok head w (Lib.hid h1) (Lib.hid rfl) (Lib.hid q.1) (Lib.hid q.2)
  · exact goes_no head w (Lib.hid h1) (Lib.hid rfl) (Lib.hid q)
end Go.Proofs.Yteabdbgllafafaa
