/- WorkCancelled: who was cancelled is not done; whoever else waits stays, in order. -/
import Derived.Test.YtlmkbgclogbpfaaWFlu
import Derived.Test.YtlmkbgclogbpfaaDelF
namespace Go.Proofs.Ytlmkbgclogbpfaa
open Go.RowKit

/-- The number's box, and what was there before. -/
structure Bw (w1 : World) (bx : Nat) (x : Int) (wx : World) : Prop where
  b : Below w1.heap.size w1 wx
  o : wx.heap[bx]? = some (.cells #[.int .i64 x] 3 (0, 0))
  l : bx < w1.heap.size
section
variable {w1 wx wy : World} {b : Nat} {x : Int}
theorem Bw.step (h : Bw w1 b x wx) (hb : Below wx.heap.size wx wy) : Bw w1 b x wy := ⟨pstep h.b hb, heap_step h.o hb, h.l⟩
theorem Bw.all (h : Bw w1 b x wx) : Bw w1 b x wx ∧ wx.cell? ⟨b, 0, none⟩ = some (.int .i64 x) := ⟨h, one_at h.o⟩
theorem Bw.drew (h : Bw w1 b x wx) : Bw w1 b x wx.drew := ⟨h.b.drew, h.o, h.l⟩
theorem Bw.alloc (h : Bw w1 b x wx) (o : Obj) : Bw w1 b x (wx.alloc o) := h.step (below_alloc _ _)
theorem Bw.grown {M n : Nat} {e size : Nat} {v : Value} {xs : List Value} (h : Bw w1 b x wx) (ho : wx.ownsRow M e size v n xs) (hM : w1.heap.size ≤ M) (hg : wx.grownBy wy v.ownBlock) : Bw w1 b x wy :=
  ⟨h.b.grown hg h.b.size (fun _ hk => Nat.le_trans hM (own_lt ho hk).1), (hg.block _ (heap_lt h.o) (fun e => by have := (own_lt ho e.symm).1; have := h.l; omega)).trans h.o, h.l⟩
end
/-- A cancel in plain terms. -/
theorem cancel_plain {s t : StO} {id x : Int} (hg : GoodO s) (hx : errO s ⟨4, id⟩ = x) (ht : stepO s ⟨4, id⟩ = t) : t = ⟨s.done, s.now, s.wait.filter fun y => decide (¬ y = id)⟩ ∧ (id ∈ s.wait → x = 0) ∧ (¬ id ∈ s.wait → ¬ x = 0) := by
  unfold stepO at ht
  by_cases h : id ∈ s.wait
  · have hr := hg.rng id h
    have h0 : errO s ⟨4, id⟩ = 0 := by unfold errO; simp [h]; omega
    rw [if_pos h0] at ht
    exact ⟨ht.symm, fun _ => by rw [← hx, h0], fun q => absurd h q⟩
  · have h0 : ¬ errO s ⟨4, id⟩ = 0 := fun e => h (err_4 e)
    rw [if_neg h0] at ht
    have hf : s.wait.filter (fun y => decide (¬ y = id)) = s.wait := List.filter_eq_self.2 fun y hy => by
      simpa using fun e : y = id => h (e ▸ hy)
    rw [hf]
    exact ⟨ht.symm, fun q => absurd q h, fun _ => by rw [← hx]; exact h0⟩
section
variable {ad : Option Addr} {cap n : Nat} {ops : List WoT}
set_option maxHeartbeats 4000000 in
set_option maxRecDepth 100000 in
theorem ccl_big (id : Int) (w : World) (HA : Hid (shO.At w ad cap ops)) (hm : Hid (ops.length = n)) (hn9 : n ≤ 8796093021952) (hbig : 400 ≤ n) :
    Calls Try.prog 7 #[.slice ad n cap, .int .i64 id] w fun e w' => e = .returned (.bool true) ∧ Below w.heap.size w w' := by
  obtain ⟨i0, hi, hz0, hz1, hz2⟩ := info_parts info_wo
  have h401 : 400 < n + 1 := by omega
  have h63 : n + 1 ≤ 9223372036854775807 := by omega
  have HM5 : Hid ((ops ++ [(⟨4, id⟩ : WoT)]).length = n + 1) := Lib.hid (by rw [List.length_append, hm.out]; rfl)
  have X0 : Bw (w.alloc (.cells #[.int .i64 id] 3)) w.heap.size id (w.alloc (.cells #[.int .i64 id] 3)) := ⟨Below.refl _ _, heap_alloc_new w _, by simp⟩
  have X1 := Lib.hid X0
  have HAF := Lib.hid (HA.out.step (below_alloc w (.cells #[.int .i64 id] 3)))
  have BW := Lib.hid (below_alloc w (.cells #[.int .i64 id] 3))
  have hm1 : Hid (([⟨4, id⟩] : List WoT).length = 1) := Lib.hid rfl
  clear X0
  go_enter Try.func7, Try.ntmps7
  go_upto_region 4 with (first
    | (go_at_call 12; (with_reducible refine (alive12_N _).mono ?_); rintro e w1 ⟨rfl, hb⟩; have X2 := Lib.hid (X1.out.step hb); have HA1 := Lib.hid (HAF.out.step hb); clear hb)
    | (go_at_call 8; (with_reducible refine (play_any hm hn9 _ HA1).mono ?_); rintro e w2 ⟨v0, v1, v2, c2, u2, rfl, hu, hb⟩; have X3 := Lib.hid (X2.out.step hb); have HA2 := Lib.hid (HA1.out.step hb); clear hb)
    | fail)
  have Y0 : Bw w2 w.heap.size id w2 := ⟨Below.refl _ _, X3.out.o, heap_lt X3.out.o⟩
  have XD := Y0.drew
  have X3a := Y0.alloc (.cells #[.int .i64 4, .int .i64 id] 33)
  have X3b := (Y0.alloc (.cells #[.int .i64 4, .int .i64 id] 33)).drew
  have B02 := Lib.hid (pstep BW.out X3.out.b)
  have HD1 := Lib.hid (HA2.out.step (Below.refl _ w2).drew)
  have HD2 := Lib.hid (HA2.out.step (below_alloc w2 (.cells #[.int .i64 4, .int .i64 id] 33)).drew)
  have FB0 := Lib.hid (wo_oneAt w2 ⟨4, id⟩ 1)
  go_region_held3 (fun w' => Bw w2 w.heap.size id w' ∧ w'.cell? ⟨w.heap.size, 0, none⟩ = some (.int .i64 id))
    (first | (refine Bw.all ?_; with_reducible assumption) | (refine Bw.all (Bw.alloc ?_ _); with_reducible assumption) | (refine Bw.all (Bw.drew (Bw.alloc ?_ _)); with_reducible assumption) | (refine Bw.all (Bw.alloc (Bw.drew ?_) _); with_reducible assumption))
    (first
    | (go_at_call 14; (with_reducible refine (clone_W ops ad n cap _ hm HD1 hn9).mono ?_); rintro e w4 ⟨ra, rc, rfl, own, hb⟩; have TT := Y0.drew.step hb; have SA := Lib.hid TT; have OA := Lib.hid (own_base (base' := w2.heap.size) own (Nat.le_refl _)); have hz4 : w2.heap.size ≤ w4.heap.size := (by have := hb.size; simpa using this); clear hb own)
    | (go_at_call 14; (with_reducible refine (clone_W ops ad n cap _ hm HD2 hn9).mono ?_); rintro e w4 ⟨ra, rc, rfl, own, hb⟩; have TT := (Y0.alloc (.cells #[.int .i64 4, .int .i64 id] 33)).drew.step hb; have SB := Lib.hid TT; have OB := Lib.hid (own_base (base' := w2.heap.size) own (by simp)); have FB := Lib.hid ((FB0.out.step (Below.refl _ _).drew).step hb); have hz4 : w2.heap.size ≤ w4.heap.size := (by have := hb.size; simp at this; omega); clear hb own)
    | (refine step_append_n shO rfl _ _ 22 rfl w2.heap.size 33 i0 _ 16 Try.underlying22 hi hz0 hz1 hz2 rfl (.slice ra n rc) n ops [⟨4, id⟩] hm rfl (own_step OA.out (below_alloc w4 (.cells #[.int .i64 4, .int .i64 id] 33))) (some ⟨w4.heap.size, 0, none⟩) 1 1 rfl hm1 (wo_oneAt w4 ⟨4, id⟩ 1) (by unfold maxLen; omega) (by omega) (by simp; omega) ?_; intro ra5 rc5 w5 own5 grow5 _; have TT := (SA.out.alloc (.cells #[.int .i64 4, .int .i64 id] 33)).grown (own_step OA.out (below_alloc w4 (.cells #[.int .i64 4, .int .i64 id] 33))) (Nat.le_refl _) grow5; have S5 := Lib.hid TT; have HR5 := Lib.hid (Shape.At.own (S := shO) own5 HM5.out); clear own5 grow5)
    | (refine step_append_n shO rfl _ _ 22 rfl w2.heap.size 33 i0 _ 16 Try.underlying22 hi hz0 hz1 hz2 rfl (.slice ra n rc) n ops [⟨4, id⟩] hm rfl OB.out (some ⟨w2.heap.size, 0, none⟩) 1 1 rfl hm1 FB.out (by unfold maxLen; omega) (by omega) hz4 ?_; intro ra5 rc5 w5 own5 grow5 _; have TT := SB.out.grown OB.out (Nat.le_refl _) grow5; have S5 := Lib.hid TT; have HR5 := Lib.hid (Shape.At.own (S := shO) own5 HM5.out); clear own5 grow5)
    | (go_at_call 8; (with_reducible refine (play_bad ra5 rc5 (n + 1) _ h401 h63).mono ?_); rintro e w6 ⟨rfl, rfl⟩; have TT := S5.out; have B6 := Lib.hid (pstep B02.out TT.b))
    | fail)
  all_goals rcases hu with rfl | rfl
  all_goals go_wp2_with fail
  all_goals go_ret
  all_goals exact ⟨rfl, B6.out⟩
set_option maxHeartbeats 4000000 in
set_option maxRecDepth 100000 in
theorem ccl_ok (id : Int) (w : World) (HA : Hid (shO.At w ad cap ops)) (hm : Hid (ops.length = n)) (hn : n ≤ 399) :
    Calls Try.prog 7 #[.slice ad n cap, .int .i64 id] w fun e w' => e = .returned (.bool true) ∧ Below w.heap.size w w' := by
  obtain ⟨i0, hi, hz0, hz1, hz2⟩ := info_parts info_wo
  obtain ⟨s, hs⟩ : ∃ s, runO newO ops = s := ⟨_, rfl⟩
  obtain ⟨es, hes⟩ : ∃ es, errsO newO ops = es := ⟨_, rfl⟩
  obtain ⟨x, hx⟩ : ∃ x, errO s ⟨4, id⟩ = x := ⟨_, rfl⟩
  obtain ⟨t, ht⟩ : ∃ t, stepO s ⟨4, id⟩ = t := ⟨_, rfl⟩
  have hs2 : runO newO (ops ++ [⟨4, id⟩]) = t := by rw [runO_one, hs, ht]
  have hes2 : errsO newO (ops ++ [⟨4, id⟩]) = es ++ [x] := by rw [errsO_one, hs, hes, hx]
  have HM5 : Hid ((ops ++ [(⟨4, id⟩ : WoT)]).length = n + 1) := Lib.hid (by rw [List.length_append, hm.out]; rfl)
  have hel : es.length = n := by rw [← hes, errsO_len, hm.out]
  have HP1 := Lib.hid (fun X (HX : Hid (shO.At X ad cap ops)) => play_res hm (by omega) (Lib.hid hes) (Lib.hid hs) ad cap X HX)
  have HP2 := Lib.hid (fun (ra : Option Addr) (rc : Nat) X (HX : Hid (shO.At X ra rc (ops ++ [⟨4, id⟩]))) => play_res HM5 (by omega) (Lib.hid hes2) (Lib.hid hs2) ra rc X HX)
  have hgs : GoodO s := by rw [← hs]; exact good_runO good_newO
  have hal : (allO s).length ≤ 400 := by
    have h1 := all_len (ops := ops) good_newO
    rw [hs, hm.out] at h1
    have e0 : (allO newO).length = 0 := rfl
    omega
  have hxe : (es ++ [x])[n]? = some x := by rw [List.getElem?_append_right (by omega), hel, Nat.sub_self]; rfl
  have HXE := Lib.hid hxe
  obtain ⟨hpt, hp1, hp2⟩ := cancel_plain hgs hx ht
  have hn9 : n ≤ 8796093021952 := by omega
  have hnw : IntKind.i64.wrap ((n : Int) + 1) = (n : Int) + 1 := by rw [IntKind.wrap_i64]; omega
  subst hpt
  clear hs hes hx ht hs2 hes2 hel hxe hgs
  have hd1 := done_le s
  have hw1 := wait_le s
  obtain ⟨d, c, l⟩ := s
  simp only at hd1 hw1 hp1 hp2 HP2
  obtain ⟨dn, hdn⟩ : ∃ q, d.length = q := ⟨_, rfl⟩
  obtain ⟨wn, hwn⟩ : ∃ q, l.length = q := ⟨_, rfl⟩
  obtain ⟨L, hL⟩ : ∃ L, (l.filter fun y => decide (¬ y = id)) = L := ⟨_, rfl⟩
  obtain ⟨m, hLm⟩ : ∃ q, L.length = q := ⟨_, rfl⟩
  have hmw : m ≤ wn := by rw [← hLm, ← hwn, ← hL]; exact List.length_filter_le _ _
  unfold PlayOut at HP1 HP2
  simp only [hdn, hwn] at HP1
  rw [hL] at HP2
  simp only [hdn, hLm] at HP2
  rw [hdn] at hd1
  rw [hwn] at hw1
  have HDL := Lib.hid hdn
  have HWL := Lib.hid hwn
  have HLL := Lib.hid hLm
  have HFL := Lib.hid hL
  have hdb : dn ≤ 9223372036854775807 := by omega
  have hwb : wn ≤ 9223372036854775807 := by omega
  have hmb : m ≤ 9223372036854775807 := by omega
  have hw9 : wn ≤ 1000000 := by omega
  obtain ⟨bi, hbi⟩ : ∃ b, decide (id ∈ l) = b := ⟨_, rfl⟩
  have HBI := Lib.hid hbi
  have HXB : Hid ((x == 0) = bi) := Lib.hid (by
    rw [← hbi]
    by_cases h : id ∈ l
    · rw [hp1 h, decide_eq_true h]; rfl
    · rw [decide_eq_false h]; simpa using hp2 h)
  clear hdn hwn hLm hL hal hp1 hp2 hbi
  have X0 : Bw (w.alloc (.cells #[.int .i64 id] 3)) w.heap.size id (w.alloc (.cells #[.int .i64 id] 3)) := ⟨Below.refl _ _, heap_alloc_new w _, by simp⟩
  have X1 := Lib.hid X0
  have HAF := Lib.hid (HA.out.step (below_alloc w (.cells #[.int .i64 id] 3)))
  have BW := Lib.hid (below_alloc w (.cells #[.int .i64 id] 3))
  have hm1 : Hid (([⟨4, id⟩] : List WoT).length = 1) := Lib.hid rfl
  clear X0
  go_enter Try.func7, Try.ntmps7
  go_upto_region 4 with (first
    | (go_at_call 12; (with_reducible refine (alive12_N _).mono ?_); rintro e w1 ⟨rfl, hb⟩; have X2 := Lib.hid (X1.out.step hb); have HA1 := Lib.hid (HAF.out.step hb); clear hb)
    | (go_at_call 8; (with_reducible refine (HP1.out _ HA1).mono ?_); rintro e w2 ⟨E, da, dc, wa, wcp, rfl, _, hD, hW, hdc, hwc, hb⟩; have X3 := Lib.hid (X2.out.step hb); have HA2 := Lib.hid (HA1.out.step hb); have D2 := Lib.hid hD; have W2 := Lib.hid hW; clear hb hD hW)
    | fail)
  have Y0 : Bw w2 w.heap.size id w2 := ⟨Below.refl _ _, X3.out.o, heap_lt X3.out.o⟩
  have XD := Y0.drew
  have X3a := Y0.alloc (.cells #[.int .i64 4, .int .i64 id] 33)
  have X3b := (Y0.alloc (.cells #[.int .i64 4, .int .i64 id] 33)).drew
  have B02 := Lib.hid (pstep BW.out X3.out.b)
  have HD1 := Lib.hid (HA2.out.step (Below.refl _ w2).drew)
  have HD2 := Lib.hid (HA2.out.step (below_alloc w2 (.cells #[.int .i64 4, .int .i64 id] 33)).drew)
  have FB0 := Lib.hid (wo_oneAt w2 ⟨4, id⟩ 1)
  go_cut [10, 11, 12, 13, 14] from 26 (fun a b c' d' e' wy => ∃ E5 da5 dc5 wa5 wc5, a = .slice (some ⟨E5, 0, none⟩) (n + 1) (n + 1) ∧ b = .slice da5 dn dc5 ∧ c' = .slice wa5 m wc5 ∧ d' = .int .i64 c ∧ e' = .int .i64 0 ∧ Hid (Bw w2 w.heap.size id wy) ∧ Hid (shI.At wy (some ⟨E5, 0, none⟩) (n + 1) (es ++ [x])) ∧ Hid (shI.At wy da5 dc5 d) ∧ Hid (shI.At wy wa5 wc5 L))
  case first =>
    go_region_held3 (fun w' => Bw w2 w.heap.size id w' ∧ w'.cell? ⟨w.heap.size, 0, none⟩ = some (.int .i64 id))
      (first | (refine Bw.all ?_; with_reducible assumption) | (refine Bw.all (Bw.alloc ?_ _); with_reducible assumption) | (refine Bw.all (Bw.drew (Bw.alloc ?_ _)); with_reducible assumption) | (refine Bw.all (Bw.alloc (Bw.drew ?_) _); with_reducible assumption))
      (first
      | (go_at_call 14; (with_reducible refine (clone_W ops ad n cap _ hm HD1 hn9).mono ?_); rintro e w4 ⟨ra, rc, rfl, own, hb⟩; have TT := Y0.drew.step hb; have SA := Lib.hid TT; have OA := Lib.hid (own_base (base' := w2.heap.size) own (Nat.le_refl _)); have hz4 : w2.heap.size ≤ w4.heap.size := (by have := hb.size; simpa using this); clear hb own)
      | (go_at_call 14; (with_reducible refine (clone_W ops ad n cap _ hm HD2 hn9).mono ?_); rintro e w4 ⟨ra, rc, rfl, own, hb⟩; have TT := (Y0.alloc (.cells #[.int .i64 4, .int .i64 id] 33)).drew.step hb; have SB := Lib.hid TT; have OB := Lib.hid (own_base (base' := w2.heap.size) own (by simp)); have FB := Lib.hid ((FB0.out.step (Below.refl _ _).drew).step hb); have hz4 : w2.heap.size ≤ w4.heap.size := (by have := hb.size; simp at this; omega); clear hb own)
      | (refine step_append_n shO rfl _ _ 22 rfl w2.heap.size 33 i0 _ 16 Try.underlying22 hi hz0 hz1 hz2 rfl (.slice ra n rc) n ops [⟨4, id⟩] hm rfl (own_step OA.out (below_alloc w4 (.cells #[.int .i64 4, .int .i64 id] 33))) (some ⟨w4.heap.size, 0, none⟩) 1 1 rfl hm1 (wo_oneAt w4 ⟨4, id⟩ 1) (by unfold maxLen; omega) (by omega) (by simp; omega) ?_; intro ra5 rc5 w5 own5 grow5 _; have TT := (SA.out.alloc (.cells #[.int .i64 4, .int .i64 id] 33)).grown (own_step OA.out (below_alloc w4 (.cells #[.int .i64 4, .int .i64 id] 33))) (Nat.le_refl _) grow5; have S5 := Lib.hid TT; have HR5 := Lib.hid (Shape.At.own (S := shO) own5 HM5.out); clear own5 grow5)
      | (refine step_append_n shO rfl _ _ 22 rfl w2.heap.size 33 i0 _ 16 Try.underlying22 hi hz0 hz1 hz2 rfl (.slice ra n rc) n ops [⟨4, id⟩] hm rfl OB.out (some ⟨w2.heap.size, 0, none⟩) 1 1 rfl hm1 FB.out (by unfold maxLen; omega) (by omega) hz4 ?_; intro ra5 rc5 w5 own5 grow5 _; have TT := SB.out.grown OB.out (Nat.le_refl _) grow5; have S5 := Lib.hid TT; have HR5 := Lib.hid (Shape.At.own (S := shO) own5 HM5.out); clear own5 grow5)
      | (go_at_call 8; (with_reducible refine (HP2.out ra5 rc5 _ HR5).mono ?_); rintro e w6 ⟨E5, da5, dc5, wa5, wc5, rfl, hE, hD, hW, _, _, hb⟩; have TT := S5.out.step hb; have S6 := Lib.hid TT; have KE := Lib.hid hE; have KD := Lib.hid hD; have KW := Lib.hid hW; clear hE hD hW hb)
      | fail)
    all_goals go_wp2_with fail
    all_goals go_meet
    all_goals exact ⟨E5, da5, dc5, wa5, wc5, rfl, rfl, rfl, rfl, rfl, S6, KE, KD, KW⟩
  case rest =>
    obtain ⟨E5, da5, dc5, wa5, wc5, rfl, rfl, rfl, rfl, rfl, XY, KE, KD, KW⟩ := hcut
    have D6 := Lib.hid (D2.out.step XY.out.b)
    have W6 := Lib.hid (W2.out.step XY.out.b)
    have B6 := Lib.hid (pstep B02.out XY.out.b)
    have XB := Lib.hid (heap_lt XY.out.o)
    have XC := Lib.hid (one_at XY.out.o)
    clear HA2 XD X3a X3b HD1 HD2 FB0 D2 W2 HP1 HP2
    go_upto_region 8 with (first
      | (go_at_call 13; (with_reducible refine (clone_I l wa wn wcp _ HWL W6 hw9).mono ?_); rintro e w7 ⟨ra7, rc7, rfl, own7, hb7⟩; have O7 := Lib.hid own7; have B7 := Lib.hid (pstep B6.out hb7); have E7 := Lib.hid (KE.out.step hb7); have D7 := Lib.hid (D6.out.step hb7); have W7 := Lib.hid (W6.out.step hb7); have D57 := Lib.hid (KD.out.step hb7); have W57 := Lib.hid (KW.out.step hb7); have Y7 := Lib.hid (XY.out.step hb7); have FM : Hid ((l.filter fun x => decide (¬ x = id)).length = m) := Lib.hid (by rw [HFL.out]; exact HLL.out); clear own7 hb7)
      | (go_at_call 16; (with_reducible refine (delf_own id w.heap.size m _ O7 HWL hw9 (Lib.hid (heap_lt Y7.out.o)) (Lib.hid (one_at Y7.out.o)) XB FM).mono ?_); rintro e w8 ⟨rfl, hF, hg⟩; rw [HFL.out] at hF; have F8 := Lib.hid hF; have B8 := Lib.hid (B7.out.grown hg B7.out.size (fun _ hq => Nat.le_trans B6.out.size (own_lt O7.out hq).1)); have E8 := Lib.hid (E7.out.same_grown O7.out hg KE.out); have D8 := Lib.hid (D7.out.same_grown O7.out hg D6.out); have W8 := Lib.hid (W7.out.same_grown O7.out hg W6.out); have D58 := Lib.hid (D57.out.same_grown O7.out hg KD.out); have W58 := Lib.hid (W57.out.same_grown O7.out hg KW.out); have Y8 := Lib.hid (Y7.out.grown O7.out XY.out.b.size hg); clear hF hg)
      | fail)
    obtain ⟨eb, eo, ee, heb, cx⟩ := at_int E8.out HXE.out
    cases ee
    rw [Nat.zero_add] at cx
    have cb := one_at Y8.out.o
    have hcb := heap_lt Y8.out.o
    have hxb := HXB.out
    have EQ1 := Lib.hid (fun q => equalQ (a1 := da5) (a2 := da) (c1 := dc5) (c2 := dc) (w8.drewN q) HDL (Lib.hid (D58.out.step (below_drewN (Below.refl _ _) q))) (Lib.hid (D8.out.step (below_drewN (Below.refl _ _) q))) hdb)
    have EQ2 := Lib.hid (fun q => equalQ (a1 := wa5) (a2 := ra7) (c1 := wc5) (c2 := rc7) (w8.drewN q) HLL (Lib.hid (W58.out.step (below_drewN (Below.refl _ _) q))) (Lib.hid (F8.out.step (below_drewN (Below.refl _ _) q))) hmb)
    have CQ := Lib.hid (contains_quiet id HWL hwb bi (Lib.hid HBI.out.symm) wa wcp)
    clear HXE hn9 hi hz0 hz1 hz2 D6 D7 D57 W6 W7 W57 E7 Y7
    cases bi with
    | true =>
      obtain rfl : x = 0 := by simpa using hxb
      go_wp2_with fail
      go_quiet (first
        | (go_at_call 11; first | with_reducible exact Calls.quiet_of (EQ1.out _) | with_reducible exact Calls.quiet_of (EQ2.out _))
        | (go_at_call 15; exact Calls.quiet_of_same (CQ.out _ (W8.out.step (below_drewN (Below.refl _ _) _)))))
      go_wp2_with fail
      go_ret
      exact ⟨rfl, below_drewN B8.out _⟩
    | false =>
      go_wp2_with fail
      go_quiet (first
        | (go_at_call 11; first | with_reducible exact Calls.quiet_of (EQ1.out _) | with_reducible exact Calls.quiet_of (EQ2.out _))
        | (go_at_call 15; exact Calls.quiet_of_same (CQ.out _ (W8.out.step (below_drewN (Below.refl _ _) _)))))
      go_wp2_with fail
      go_ret
      exact ⟨rfl, below_drewN B8.out _⟩
end
theorem workCancelled_walk (v v1 : Value) (w : World) (h : ArgWos w v) (h1 : ArgInt w v1) (u : lenOf v ≤ 8796093021952) : Calls Try.prog 7 #[v, v1] w fun e w' => e = .returned (.bool true) ∧ Below w.heap.size w w' := by
  obtain ⟨a1, c1, l, rfl, hA, hn, _⟩ := h
  obtain ⟨id, rfl⟩ := h1
  have u' : l.length ≤ 8796093021952 := u
  by_cases h4 : 400 ≤ l.length
  · exact ccl_big id w (Lib.hid hA) (Lib.hid rfl) u' h4
  · exact ccl_ok id w (Lib.hid hA) (Lib.hid rfl) (by omega)
end Go.Proofs.Ytlmkbgclogbpfaa
