/- corebellref.HPlay$1: a take of what one does not hold. -/
import Derived.Test.YtcnnimhdnmmaoaaRnkM
import Derived.Deep.Cut
namespace Go.Proofs.Ytcnnimhdnmmaoaa
open Go.RowKit Go.Maps

section
variable {w w0 : World} {bt bl br m1 m2 h1 h2 n K m : Nat} {rk : Bool} {s : RkT}
theorem hi_of {K : Nat} {f : Nat → Int} {t l i : Nat} (hi : i < K) (h : f i = t) (hl : l < i) : hiK f t l K = true := (hiK_iff _ _ _ _).2 ⟨i, hi, h, by omega⟩
theorem hi_not {K : Nat} {f : Nat → Int} {t l : Nat} {rk : Bool} (h : ∀ i : Nat, i < K → ¬ (rk = true ∧ f i = t ∧ l < i)) : ¬ (rk = true ∧ hiK f t l K = true) := by
  rintro ⟨h1, h2⟩
  obtain ⟨i, a, b, c⟩ := (hiK_iff _ _ _ _).1 h2
  exact h i a ⟨h1, b, by omega⟩
/-- Whoever has been passed does not bar the take. -/
def LeftNo (K : Nat) (rk : Bool) (f : Nat → Int) (t l : Nat) (left : Lit → Bool) : Prop := ∀ i : Nat, i < K → left (.int .i64 i) = false → ¬ (rk = true ∧ f i = t ∧ l < i)
theorem new_8 (s : RkT) (k th lk : Int) : newK 8 s k th lk = s := new_no (by decide) (by decide)
theorem new_3 (s : RkT) (k th lk : Int) : newK 3 s k th lk = s := new_no (by decide) (by decide)
set_option maxHeartbeats 4000000 in
set_option maxRecDepth 100000 in
theorem one_take_other (HM : Hid (Mp w bt bl br m1 m2 h1 h2 n K rk m s)) (HB : Hid (Below w0.heap.size w0 w)) (hm2 : w0.heap.size ≤ m2) (hK : K ≤ 16) (hn : n ≤ 16) (t l : Nat) (ht : t < n) (hl : l < K) (e1 : ¬ s.hold l = -1) (e3 : ¬ s.hold l = t) (hmx : m < maxLen) (x : Int) (hx : Hid (takeX K rk s t l = x)) :
    Calls Try.prog 21 #[.agg #[.int .i64 1, .int .i64 t, .int .i64 l], .pointer (some ⟨bt, 0, none⟩), .pointer (some ⟨bl, 0, none⟩), .pointer (some ⟨h1, 0, none⟩), .pointer (some ⟨h2, 0, none⟩), .pointer (some ⟨br, 0, none⟩)] w fun e w' =>  OneP w0 w bt bl br m1 m2 h1 h2 n K rk m (newK x s 1 t l) x e w' := by
  have B0 := below_alloc w (.cells #[.int .i64 1, .int .i64 (t : Int), .int .i64 (l : Int)] 35)
  have T0 := Lib.hid ((turned_refl (H := m1) (T := m2) HB.out).step B0)
  have M0 := Lib.hid (HM.out.step B0)
  have X0 := Lib.hid (heap_alloc_new w (.cells #[.int .i64 1, .int .i64 (t : Int), .int .i64 (l : Int)] 35))
  obtain ⟨ct, lt⟩ := one_at' HM.out.t
  obtain ⟨cl, ll⟩ := one_at' HM.out.l
  obtain ⟨cr, lr⟩ := one_at' HM.out.r
  obtain ⟨ch, lh⟩ := one_at' HM.out.bh
  obtain ⟨cw, lw⟩ := one_at' HM.out.bw
  have WFl : (Lit.int .i64 (l : Int)).wf = true := WalkArith.wf_i64 (by omega)
  have WFt : (Lit.int .i64 (t : Int)).wf = true := WalkArith.wf_i64 (by omega)
  obtain ⟨D1, o1, T1⟩ := M0.out.mh
  obtain ⟨D2, o2, T2⟩ := M0.out.mw
  have O1 := Lib.hid o1
  have O2 := Lib.hid o2
  have hh1 := T1.has l hl
  have hh2 := T2.has t ht
  have HG1 := Lib.hid (fun c (hc : D1.atKey (.int .i64 l) (.lit (.int .i64 0)) = .lit (.int .i64 c)) => T1.got hl hc)
  have HG2 := Lib.hid (fun c (hc : D2.atKey (.int .i64 t) (.lit (.int .i64 0)) = .lit (.int .i64 c)) => T2.got ht hc)
  unfold gotZ at HG1 HG2
  have HT1 := Lib.hid T1
  have HT2 := Lib.hid T2
  have htn : (t : Int) < (n : Int) := by omega
  have hlK : (l : Int) < (K : Int) := by omega
  clear B0 o1 o2 T1 T2
  rw [decide_eq_false e1] at hh1
  rw [if_neg e1] at HG1
  simp only [Bool.not_false] at hh1
  obtain ⟨v, hv⟩ : ∃ v, s.hold l = v := ⟨_, rfl⟩
  have e5 : ¬ v = (t : Int) := by rw [← hv]; exact e3
  rw [hv] at HG1
  have q1 : (v == (t : Int)) = false := by simpa using e5
  obtain ⟨q2, hq2⟩ : ∃ q, (!decide (s.wait t = -1)) = q := ⟨_, rfl⟩
  rw [hq2] at hh2
  obtain ⟨z2, hz2⟩ : ∃ z, (if s.wait t = -1 then (0 : Int) else s.wait t) = z := ⟨_, rfl⟩
  rw [hz2] at HG2
  have HQ2 := Lib.hid hq2
  have HZ2 := Lib.hid hz2
  have HX := hx.out
  unfold takeX at HX
  rw [if_neg e3] at HX
  have HXX := Lib.hid HX
  clear HX hq2 hz2 hx
  go_enter Try.func21, Try.ntmps21
  go_upto_region 14 with (first
    | (at_lookup; refine wpList_lookup_own_ok_int _ rfl _ _ 44 rfl 3 3 .i64 lawI Try.underlying44 Try.underlying3 (zeroI _) m1 m D1 rfl O1.out _ (.int .i64 (l : Int)) rfl (keyOf_int_mk Try.underlying3 WFl) ?_; intro c hc _; obtain rfl : v = c := (HG1.out c hc).symm)
    | (at_lookup; refine wpList_lookup_own_ok_int _ rfl _ _ 44 rfl 3 3 .i64 lawI Try.underlying44 Try.underlying3 (zeroI _) m2 m D2 rfl O2.out _ (.int .i64 (t : Int)) rfl (keyOf_int_mk Try.underlying3 WFt) ?_; intro c hc _; obtain rfl : z2 = c := (HG2.out c hc).symm)
    | fail)
  have hwb := heap_lt X0.out
  clear HG1 HG2 hh1 hh2 ct cl cr ch cw lt ll lr lh lw
  generalize w.alloc (.cells #[.int .i64 1, .int .i64 (t : Int), .int .i64 (l : Int)] 35) = wa at M0 T0 X0 O1 O2 hwb ⊢
  obtain ⟨ch, lh⟩ := one_at' M0.out.bh
  go_wp2_with (first
    | (at_range; refine wpList_range_own _ rfl _ 44 rfl 3 3 lawI Try.underlying44 _ m1 m D1 rfl O1.out ?_; intro w1 hrg0 hg0 hs0)
    | fail)
  go_frame
  have BB0 := Lib.hid ((Below.refl wa.heap.size wa).grown hg0 (Nat.le_refl _) (fun k hk => by cases hk))
  have L0 : Hid (LeftNo K rk s.hold t l (Maps.has D1)) := Lib.hid fun i hi h => by
    rw [HT1.out.has i hi] at h
    simp at h
    rintro ⟨_, h2, _⟩
    omega
  clear hg0 hs0
  go_loopw [12] (fun _ wr => ∃ (left : Lit → Bool) (cnt : Nat), wr.ranges Try.prog 3 (plainElem Try.prog 3) m1 wa.heap.size m D1 left cnt ∧ Hid (LeftNo K rk s.hold t l left) ∧ Hid (Below wa.heap.size wa wr)) (fun _ wr => wr.rangeLeft m1 wa.heap.size)
  case atStart => exact ⟨_, _, hrg0, L0, BB0⟩
  case round =>
    clear hrg0 L0 BB0
    obtain ⟨left, cnt, hrg, HL, BB⟩ := hrel
    go_wp2_with (first
      | (at_next; refine wpList_next_ranges_ii _ rfl _ rfl 3 3 .i64 .i64 lawI Try.underlying3 Try.underlying3 m1 wa.heap.size m _ _ _ rfl hrg ?_ ?_)
      | fail)
    · intro _ hl0
      have HE : Hid (¬ (rk = true ∧ hiK s.hold t l K = true)) := Lib.hid (hi_not fun i hi => HL.out i hi (hl0 _))
      have MR := Lib.hid (M0.out.step BB.out)
      have XR := Lib.hid (heap_step X0.out BB.out)
      have TR := Lib.hid (T0.out.step BB.out)
      have P1 := Lib.hid (own_same O1.out (BB.out.block _ O1.out.lt))
      have P2 := Lib.hid (own_same O2.out (BB.out.block _ O2.out.lt))
      obtain ⟨y0, y1, y2⟩ := trio_at XR.out
      have hwr := heap_lt XR.out
      obtain ⟨ch2, lh2⟩ := one_at' MR.out.bh
      obtain ⟨cw2, lw2⟩ := one_at' MR.out.bw
      have hX := HXX.out
      rw [if_neg HE.out] at hX
      clear hl0 HL hrg HE HXX ch lh
      by_cases e2 : s.wait t = -1
      · obtain rfl : q2 = false := by rw [← HQ2.out, decide_eq_true e2]; rfl
        rw [if_neg (fun h => h.1 e2)] at hX
        rw [if_pos e1] at hX
        subst hX
        go_wp2_with (first
          | (at_mapUpdate; refine wpList_mapUpdate_own _ rfl _ _ _ 44 rfl 3 3 lawI Try.underlying44 _ m2 m D2 rfl P2.out hmx _ _ (.int .i64 (t : Int)) rfl rfl (keyOf_int_mk Try.underlying3 WFt) (.lit (.int .i64 (l : Int))) [] (plainElem_int Try.underlying3 WFl) ?_; intro w5 hown5 hg5)
          | fail)
        go_ret
        rw [new_wait]
        exact ⟨rfl, MR.out.setW hg5 ⟨_, hown5, HT2.out.put P2.out.isMap ht (v := (l : Int)) (by omega)⟩ (Nat.le_succ _), TR.out.grown hg5 (Or.inr rfl) hm2⟩
      · obtain rfl : q2 = true := by rw [← HQ2.out, decide_eq_false e2]; rfl
        have hz : z2 = s.wait t := by rw [← HZ2.out, if_neg e2]
        by_cases e4 : s.wait t = l
        · rw [if_neg (fun h => h.2 e4)] at hX
          obtain rfl : z2 = (l : Int) := by rw [hz, e4]
          clear hz
          rw [if_pos e1] at hX
          subst hX
          go_wp2_with (first
            | (at_mapUpdate; refine wpList_mapUpdate_own _ rfl _ _ _ 44 rfl 3 3 lawI Try.underlying44 _ m2 m D2 rfl P2.out hmx _ _ (.int .i64 (t : Int)) rfl rfl (keyOf_int_mk Try.underlying3 WFt) (.lit (.int .i64 (l : Int))) [] (plainElem_int Try.underlying3 WFl) ?_; intro w5 hown5 hg5)
            | fail)
          go_ret
          rw [new_wait]
          exact ⟨rfl, MR.out.setW hg5 ⟨_, hown5, HT2.out.put P2.out.isMap ht (v := (l : Int)) (by omega)⟩ (Nat.le_succ _), TR.out.grown hg5 (Or.inr rfl) hm2⟩
        · rw [if_pos ⟨e2, e4⟩] at hX
          subst hX
          have q3 : (z2 != (l : Int)) = true := by rw [hz]; simpa using e4
          go_wp2_with fail
          go_ret
          rw [new_3]
          exact ⟨rfl, MR.out.more (Nat.le_succ _), TR.out⟩
    · intro x c w5 cnt1 hwx hwc hlx hat hrg1 hlt hg1 hs1 hen
      have hhas := has_true_of_atKey hat
      obtain ⟨i, hi, hxi⟩ := HT1.out.only _ hhas
      obtain rfl : x = (i : Int) := by cases hxi; rfl
      have hni : ¬ s.hold i = -1 := by
        intro e
        rw [HT1.out.has i hi, decide_eq_true e] at hhas
        cases hhas
      have hci : c = s.hold i := by
        have h5 := hat .nil
        rw [HT1.out.at' i _ hi hni] at h5
        cases h5
        rfl
      have BB5 := Lib.hid (BB.out.grown hg1 BB.out.size (fun k hk => by cases hk; exact Nat.le_refl _))
      have MR := Lib.hid (M0.out.step BB5.out)
      have XR := Lib.hid (heap_step X0.out BB5.out)
      have TR := Lib.hid (T0.out.step BB5.out)
      obtain ⟨y0, y1, y2⟩ := trio_at XR.out
      have hwr := heap_lt XR.out
      obtain ⟨cr2, lr2⟩ := one_at' MR.out.r
      have HC := Lib.hid hci
      have HMS : wr.rangeLeft m1 wa.heap.size = cnt := hrg.left_eq
      have HM1 : w5.rangeLeft m1 wa.heap.size = cnt1 := hrg1.left_eq
      have HMS' := Lib.hid HMS
      have HM1' := Lib.hid HM1
      have HLT := Lib.hid hlt
      clear hhas hni hci hat hlx hwx hwc hxi hg1 hs1 hrg HMS HM1 hlt
      by_cases hf : rk = true ∧ c = t ∧ (l : Int) < i
      · obtain ⟨rfl, rfl, h3⟩ := hf
        have hX := HXX.out
        rw [if_pos ⟨rfl, hi_of hi HC.out.symm (by omega)⟩] at hX
        subst hX
        go_wp2_with fail
        go_ret
        rw [new_8]
        exact ⟨rfl, MR.out.more (Nat.le_succ _), TR.out⟩
      · have HL5 : Hid (LeftNo K rk s.hold t l (fun z => left z && !z.sameKey (.int .i64 i))) := Lib.hid fun j hj h => by
          by_cases e : j = i
          · subst e
            rintro ⟨g1, g2, g3⟩
            exact hf ⟨g1, by rw [HC.out]; exact g2, by omega⟩
          · refine HL.out j hj ?_
            simp only [sameKey_ne (lit_ne' e)] at h
            simpa using h
        cases rk with
        | false =>
          go_wp2_with fail
          go_roundw
          case rel => exact ⟨_, cnt1, hrg1, HL5, BB5⟩
          case measure => rw [HM1'.out, HMS'.out]; exact HLT.out
        | true =>
          by_cases g1 : c = t
          · have g2 : ¬ (l : Int) < (i : Int) := fun h => hf ⟨rfl, g1, h⟩
            subst g1
            have g3 : decide ((l : Int) < (i : Int)) = false := decide_eq_false g2
            clear hf
            go_wp2_with fail
            go_roundw
            case rel => exact ⟨_, cnt1, hrg1, HL5, BB5⟩
            case measure => rw [HM1'.out, HMS'.out]; exact HLT.out
          · have g2 : (c == (t : Int)) = false := by simpa using g1
            clear hf
            go_wp2_with fail
            go_roundw
            case rel => exact ⟨_, cnt1, hrg1, HL5, BB5⟩
            case measure => rw [HM1'.out, HMS'.out]; exact HLT.out
set_option maxHeartbeats 4000000 in
set_option maxRecDepth 100000 in
theorem one_take_free (HM : Hid (Mp w bt bl br m1 m2 h1 h2 n K rk m s)) (HB : Hid (Below w0.heap.size w0 w)) (hm1 : w0.heap.size ≤ m1) (hm2 : w0.heap.size ≤ m2) (hK : K ≤ 16) (hn : n ≤ 16) (t l : Nat) (ht : t < n) (hl : l < K) (e1 : s.hold l = -1) (hmx : m < maxLen) (x : Int) (hx : Hid (takeX K rk s t l = x)) :
    Calls Try.prog 21 #[.agg #[.int .i64 1, .int .i64 t, .int .i64 l], .pointer (some ⟨bt, 0, none⟩), .pointer (some ⟨bl, 0, none⟩), .pointer (some ⟨h1, 0, none⟩), .pointer (some ⟨h2, 0, none⟩), .pointer (some ⟨br, 0, none⟩)] w fun e w' =>  OneP w0 w bt bl br m1 m2 h1 h2 n K rk m (newK x s 1 t l) x e w' := by
  have B0 := below_alloc w (.cells #[.int .i64 1, .int .i64 (t : Int), .int .i64 (l : Int)] 35)
  have T0 := Lib.hid ((turned_refl (H := m1) (T := m2) HB.out).step B0)
  have M0 := Lib.hid (HM.out.step B0)
  have X0 := Lib.hid (heap_alloc_new w (.cells #[.int .i64 1, .int .i64 (t : Int), .int .i64 (l : Int)] 35))
  obtain ⟨ct, lt⟩ := one_at' HM.out.t
  obtain ⟨cl, ll⟩ := one_at' HM.out.l
  obtain ⟨cr, lr⟩ := one_at' HM.out.r
  obtain ⟨ch, lh⟩ := one_at' HM.out.bh
  obtain ⟨cw, lw⟩ := one_at' HM.out.bw
  have WFl : (Lit.int .i64 (l : Int)).wf = true := WalkArith.wf_i64 (by omega)
  have WFt : (Lit.int .i64 (t : Int)).wf = true := WalkArith.wf_i64 (by omega)
  obtain ⟨D1, o1, T1⟩ := M0.out.mh
  obtain ⟨D2, o2, T2⟩ := M0.out.mw
  have O1 := Lib.hid o1
  have O2 := Lib.hid o2
  have hh1 := T1.has l hl
  have hh2 := T2.has t ht
  have HG1 := Lib.hid (fun c (hc : D1.atKey (.int .i64 l) (.lit (.int .i64 0)) = .lit (.int .i64 c)) => T1.got hl hc)
  have HG2 := Lib.hid (fun c (hc : D2.atKey (.int .i64 t) (.lit (.int .i64 0)) = .lit (.int .i64 c)) => T2.got ht hc)
  unfold gotZ at HG1 HG2
  have HT1 := Lib.hid T1
  have HT2 := Lib.hid T2
  have htn : (t : Int) < (n : Int) := by omega
  have hlK : (l : Int) < (K : Int) := by omega
  clear B0 o1 o2 T1 T2
  have e3 : ¬ s.hold l = t := by omega
  rw [e1, decide_eq_true rfl] at hh1
  rw [if_pos e1] at HG1
  simp only [Bool.not_true] at hh1
  obtain ⟨q2, hq2⟩ : ∃ q, (!decide (s.wait t = -1)) = q := ⟨_, rfl⟩
  rw [hq2] at hh2
  obtain ⟨z2, hz2⟩ : ∃ z, (if s.wait t = -1 then (0 : Int) else s.wait t) = z := ⟨_, rfl⟩
  rw [hz2] at HG2
  have HQ2 := Lib.hid hq2
  have HZ2 := Lib.hid hz2
  have HX := hx.out
  unfold takeX at HX
  rw [if_neg e3] at HX
  have HXX := Lib.hid HX
  clear HX hq2 hz2 hx
  go_enter Try.func21, Try.ntmps21
  go_upto_region 14 with (first
    | (at_lookup; refine wpList_lookup_own_ok_int _ rfl _ _ 44 rfl 3 3 .i64 lawI Try.underlying44 Try.underlying3 (zeroI _) m1 m D1 rfl O1.out _ (.int .i64 (l : Int)) rfl (keyOf_int_mk Try.underlying3 WFl) ?_; intro c hc _; obtain rfl : (0 : Int) = c := (HG1.out c hc).symm)
    | (at_lookup; refine wpList_lookup_own_ok_int _ rfl _ _ 44 rfl 3 3 .i64 lawI Try.underlying44 Try.underlying3 (zeroI _) m2 m D2 rfl O2.out _ (.int .i64 (t : Int)) rfl (keyOf_int_mk Try.underlying3 WFt) ?_; intro c hc _; obtain rfl : z2 = c := (HG2.out c hc).symm)
    | fail)
  have hwb := heap_lt X0.out
  clear HG1 HG2 hh1 hh2 ct cl cr ch cw lt ll lr lh lw
  generalize w.alloc (.cells #[.int .i64 1, .int .i64 (t : Int), .int .i64 (l : Int)] 35) = wa at M0 T0 X0 O1 O2 hwb ⊢
  obtain ⟨ch, lh⟩ := one_at' M0.out.bh
  go_wp2_with (first
    | (at_range; refine wpList_range_own _ rfl _ 44 rfl 3 3 lawI Try.underlying44 _ m1 m D1 rfl O1.out ?_; intro w1 hrg0 hg0 hs0)
    | fail)
  go_frame
  have BB0 := Lib.hid ((Below.refl wa.heap.size wa).grown hg0 (Nat.le_refl _) (fun k hk => by cases hk))
  have L0 : Hid (LeftNo K rk s.hold t l (Maps.has D1)) := Lib.hid fun i hi h => by
    rw [HT1.out.has i hi] at h
    simp at h
    rintro ⟨_, h2, _⟩
    omega
  clear hg0 hs0
  go_loopw [12] (fun _ wr => ∃ (left : Lit → Bool) (cnt : Nat), wr.ranges Try.prog 3 (plainElem Try.prog 3) m1 wa.heap.size m D1 left cnt ∧ Hid (LeftNo K rk s.hold t l left) ∧ Hid (Below wa.heap.size wa wr)) (fun _ wr => wr.rangeLeft m1 wa.heap.size)
  case atStart => exact ⟨_, _, hrg0, L0, BB0⟩
  case round =>
    clear hrg0 L0 BB0
    obtain ⟨left, cnt, hrg, HL, BB⟩ := hrel
    go_wp2_with (first
      | (at_next; refine wpList_next_ranges_ii _ rfl _ rfl 3 3 .i64 .i64 lawI Try.underlying3 Try.underlying3 m1 wa.heap.size m _ _ _ rfl hrg ?_ ?_)
      | fail)
    · intro _ hl0
      have HE : Hid (¬ (rk = true ∧ hiK s.hold t l K = true)) := Lib.hid (hi_not fun i hi => HL.out i hi (hl0 _))
      have MR := Lib.hid (M0.out.step BB.out)
      have XR := Lib.hid (heap_step X0.out BB.out)
      have TR := Lib.hid (T0.out.step BB.out)
      have P1 := Lib.hid (own_same O1.out (BB.out.block _ O1.out.lt))
      have P2 := Lib.hid (own_same O2.out (BB.out.block _ O2.out.lt))
      obtain ⟨y0, y1, y2⟩ := trio_at XR.out
      have hwr := heap_lt XR.out
      obtain ⟨ch2, lh2⟩ := one_at' MR.out.bh
      obtain ⟨cw2, lw2⟩ := one_at' MR.out.bw
      have hX := HXX.out
      rw [if_neg HE.out] at hX
      clear hl0 HL hrg HE HXX ch lh
      by_cases e2 : s.wait t = -1
      · obtain rfl : q2 = false := by rw [← HQ2.out, decide_eq_true e2]; rfl
        rw [if_neg (fun h => h.1 e2)] at hX
        rw [if_neg (fun h => h e1)] at hX
        subst hX
        go_wp2_with (first
          | (at_mapUpdate; refine wpList_mapUpdate_own _ rfl _ _ _ 44 rfl 3 3 lawI Try.underlying44 _ m1 m D1 rfl P1.out hmx _ _ (.int .i64 (l : Int)) rfl rfl (keyOf_int_mk Try.underlying3 WFl) (.lit (.int .i64 (t : Int))) [] (plainElem_int Try.underlying3 WFt) ?_; intro w5 hown5 hg5; have P3 := own_same P2.out (hg5.block _ P2.out.lt (fun e => MR.out.ne (Option.some.inj e).symm)); have M5 := MR.out.setH hg5 ⟨_, hown5, HT1.out.put P1.out.isMap hl (v := (t : Int)) (by omega)⟩ (Nat.le_succ _); have T5 := TR.out.grown hg5 (Or.inl rfl) hm1; obtain ⟨cw5, lw5⟩ := one_at' M5.bw; have X5 := (hg5.block _ hwr (fun e => mapT_ne MR.out.mh XR.out (Option.some.inj e))).trans XR.out; obtain ⟨x0, x1, x2⟩ := trio_at X5; have hw5 := heap_lt X5)
          | (at_delete; refine wpList_delete_own _ rfl _ _ 44 3 rfl 3 lawI Try.underlying44 _ m2 m D2 rfl P3 _ (.int .i64 (t : Int)) rfl (keyOf_int_mk Try.underlying3 WFt) ?_; intro w6 hown6 hturn6)
          | fail)
        go_ret
        rw [new_take]
        exact ⟨rfl, M5.setW hturn6.grown ⟨_, hown6.mono (Nat.le_succ _), HT2.out.del⟩ (Nat.le_refl _), T5.grown hturn6.grown (Or.inr rfl) hm2⟩
      · obtain rfl : q2 = true := by rw [← HQ2.out, decide_eq_false e2]; rfl
        have hz : z2 = s.wait t := by rw [← HZ2.out, if_neg e2]
        by_cases e4 : s.wait t = l
        · rw [if_neg (fun h => h.2 e4)] at hX
          obtain rfl : z2 = (l : Int) := by rw [hz, e4]
          clear hz
          rw [if_neg (fun h => h e1)] at hX
          subst hX
          go_wp2_with (first
            | (at_mapUpdate; refine wpList_mapUpdate_own _ rfl _ _ _ 44 rfl 3 3 lawI Try.underlying44 _ m1 m D1 rfl P1.out hmx _ _ (.int .i64 (l : Int)) rfl rfl (keyOf_int_mk Try.underlying3 WFl) (.lit (.int .i64 (t : Int))) [] (plainElem_int Try.underlying3 WFt) ?_; intro w5 hown5 hg5; have P3 := own_same P2.out (hg5.block _ P2.out.lt (fun e => MR.out.ne (Option.some.inj e).symm)); have M5 := MR.out.setH hg5 ⟨_, hown5, HT1.out.put P1.out.isMap hl (v := (t : Int)) (by omega)⟩ (Nat.le_succ _); have T5 := TR.out.grown hg5 (Or.inl rfl) hm1; obtain ⟨cw5, lw5⟩ := one_at' M5.bw; have X5 := (hg5.block _ hwr (fun e => mapT_ne MR.out.mh XR.out (Option.some.inj e))).trans XR.out; obtain ⟨x0, x1, x2⟩ := trio_at X5; have hw5 := heap_lt X5)
            | (at_delete; refine wpList_delete_own _ rfl _ _ 44 3 rfl 3 lawI Try.underlying44 _ m2 m D2 rfl P3 _ (.int .i64 (t : Int)) rfl (keyOf_int_mk Try.underlying3 WFt) ?_; intro w6 hown6 hturn6)
            | fail)
          go_ret
          rw [new_take]
          exact ⟨rfl, M5.setW hturn6.grown ⟨_, hown6.mono (Nat.le_succ _), HT2.out.del⟩ (Nat.le_refl _), T5.grown hturn6.grown (Or.inr rfl) hm2⟩
        · rw [if_pos ⟨e2, e4⟩] at hX
          subst hX
          have q3 : (z2 != (l : Int)) = true := by rw [hz]; simpa using e4
          go_wp2_with fail
          go_ret
          rw [new_3]
          exact ⟨rfl, MR.out.more (Nat.le_succ _), TR.out⟩
    · intro x c w5 cnt1 hwx hwc hlx hat hrg1 hlt hg1 hs1 hen
      have hhas := has_true_of_atKey hat
      obtain ⟨i, hi, hxi⟩ := HT1.out.only _ hhas
      obtain rfl : x = (i : Int) := by cases hxi; rfl
      have hni : ¬ s.hold i = -1 := by
        intro e
        rw [HT1.out.has i hi, decide_eq_true e] at hhas
        cases hhas
      have hci : c = s.hold i := by
        have h5 := hat .nil
        rw [HT1.out.at' i _ hi hni] at h5
        cases h5
        rfl
      have BB5 := Lib.hid (BB.out.grown hg1 BB.out.size (fun k hk => by cases hk; exact Nat.le_refl _))
      have MR := Lib.hid (M0.out.step BB5.out)
      have XR := Lib.hid (heap_step X0.out BB5.out)
      have TR := Lib.hid (T0.out.step BB5.out)
      obtain ⟨y0, y1, y2⟩ := trio_at XR.out
      have hwr := heap_lt XR.out
      obtain ⟨cr2, lr2⟩ := one_at' MR.out.r
      have HC := Lib.hid hci
      have HMS : wr.rangeLeft m1 wa.heap.size = cnt := hrg.left_eq
      have HM1 : w5.rangeLeft m1 wa.heap.size = cnt1 := hrg1.left_eq
      have HMS' := Lib.hid HMS
      have HM1' := Lib.hid HM1
      have HLT := Lib.hid hlt
      clear hhas hni hci hat hlx hwx hwc hxi hg1 hs1 hrg HMS HM1 hlt
      by_cases hf : rk = true ∧ c = t ∧ (l : Int) < i
      · obtain ⟨rfl, rfl, h3⟩ := hf
        have hX := HXX.out
        rw [if_pos ⟨rfl, hi_of hi HC.out.symm (by omega)⟩] at hX
        subst hX
        go_wp2_with fail
        go_ret
        rw [new_8]
        exact ⟨rfl, MR.out.more (Nat.le_succ _), TR.out⟩
      · have HL5 : Hid (LeftNo K rk s.hold t l (fun z => left z && !z.sameKey (.int .i64 i))) := Lib.hid fun j hj h => by
          by_cases e : j = i
          · subst e
            rintro ⟨g1, g2, g3⟩
            exact hf ⟨g1, by rw [HC.out]; exact g2, by omega⟩
          · refine HL.out j hj ?_
            simp only [sameKey_ne (lit_ne' e)] at h
            simpa using h
        cases rk with
        | false =>
          go_wp2_with fail
          go_roundw
          case rel => exact ⟨_, cnt1, hrg1, HL5, BB5⟩
          case measure => rw [HM1'.out, HMS'.out]; exact HLT.out
        | true =>
          by_cases g1 : c = t
          · have g2 : ¬ (l : Int) < (i : Int) := fun h => hf ⟨rfl, g1, h⟩
            subst g1
            have g3 : decide ((l : Int) < (i : Int)) = false := decide_eq_false g2
            clear hf
            go_wp2_with fail
            go_roundw
            case rel => exact ⟨_, cnt1, hrg1, HL5, BB5⟩
            case measure => rw [HM1'.out, HMS'.out]; exact HLT.out
          · have g2 : (c == (t : Int)) = false := by simpa using g1
            clear hf
            go_wp2_with fail
            go_roundw
            case rel => exact ⟨_, cnt1, hrg1, HL5, BB5⟩
            case measure => rw [HM1'.out, HMS'.out]; exact HLT.out
end
end Go.Proofs.Ytcnnimhdnmmaoaa
