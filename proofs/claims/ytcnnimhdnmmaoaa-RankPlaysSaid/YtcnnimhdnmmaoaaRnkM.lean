/- corebellref.HPlay$1: a give; a take of what one holds. -/
import Derived.Test.YtcnnimhdnmmaoaaRnkL
namespace Go.Proofs.Ytcnnimhdnmmaoaa
open Go.RowKit Go.Maps

section
variable {w w0 : World} {bt bl br m1 m2 h1 h2 n K m : Nat} {rk : Bool} {s : RkT}
set_option maxHeartbeats 4000000 in
set_option maxRecDepth 100000 in
theorem one_give (HM : Hid (Mp w bt bl br m1 m2 h1 h2 n K rk m s)) (HB : Hid (Below w0.heap.size w0 w)) (hm1 : w0.heap.size ≤ m1) (hK : K ≤ 16) (hn : n ≤ 16) (t l : Nat) (ht : t < n) (hl : l < K) (e1 : s.hold l = t) (e2 : s.wait t = -1) :
    Calls Try.prog 21 #[.agg #[.int .i64 2, .int .i64 t, .int .i64 l], .pointer (some ⟨bt, 0, none⟩), .pointer (some ⟨bl, 0, none⟩), .pointer (some ⟨h1, 0, none⟩), .pointer (some ⟨h2, 0, none⟩), .pointer (some ⟨br, 0, none⟩)] w fun e w' =>  OneP w0 w bt bl br m1 m2 h1 h2 n K rk m (⟨upZ s.hold l (-1), s.wait⟩) 0 e w' := by
  have B0 := below_alloc w (.cells #[.int .i64 2, .int .i64 (t : Int), .int .i64 (l : Int)] 35)
  have T0 := Lib.hid ((turned_refl (H := m1) (T := m2) HB.out).step B0)
  have M0 := Lib.hid (HM.out.step B0)
  have X0 := Lib.hid (heap_alloc_new w (.cells #[.int .i64 2, .int .i64 (t : Int), .int .i64 (l : Int)] 35))
  obtain ⟨ct, lt⟩ := one_at' HM.out.t
  obtain ⟨cl, ll⟩ := one_at' HM.out.l
  obtain ⟨cr, lr⟩ := one_at' HM.out.r
  obtain ⟨ch, lh⟩ := one_at' HM.out.bh
  obtain ⟨cw, lw⟩ := one_at' HM.out.bw
  have WFl : (Lit.int .i64 (l : Int)).wf = true := WalkArith.wf_i64 (by omega)
  have WFt : (Lit.int .i64 (t : Int)).wf = true := WalkArith.wf_i64 (by omega)
  obtain ⟨D1, o1, T1⟩ := M0.out.mh
  obtain ⟨D2, o2, T2⟩ := M0.out.mw
  have O1 := Lib.hid o1
  have O2 := Lib.hid o2
  have hh1 := T1.has l hl
  have hh2 := T2.has t ht
  have HG1 := Lib.hid (fun c (hc : D1.atKey (.int .i64 l) (.lit (.int .i64 0)) = .lit (.int .i64 c)) => T1.got hl hc)
  have HG2 := Lib.hid (fun c (hc : D2.atKey (.int .i64 t) (.lit (.int .i64 0)) = .lit (.int .i64 c)) => T2.got ht hc)
  unfold gotZ at HG1 HG2
  have HT1 := Lib.hid T1
  have HT2 := Lib.hid T2
  have htn : (t : Int) < (n : Int) := by omega
  have hlK : (l : Int) < (K : Int) := by omega
  clear B0 o1 o2 T1 T2
  have e1' : ¬ s.hold l = -1 := by omega
  rw [decide_eq_false e1'] at hh1
  rw [if_neg e1'] at HG1
  simp only [Bool.not_false] at hh1
  rw [e1] at HG1
  rw [e2, decide_eq_true rfl] at hh2
  rw [if_pos e2] at HG2
  simp only [Bool.not_true] at hh2
  go_enter Try.func21, Try.ntmps21
  go_wp2_with (first
    | (at_lookup; refine wpList_lookup_own_ok_int _ rfl _ _ 44 rfl 3 3 .i64 lawI Try.underlying44 Try.underlying3 (zeroI _) m1 m D1 rfl O1.out _ (.int .i64 (l : Int)) rfl (keyOf_int_mk Try.underlying3 WFl) ?_; intro c hc _; obtain rfl : (t : Int) = c := (HG1.out c hc).symm)
    | (at_lookup; refine wpList_lookup_own_ok_int _ rfl _ _ 44 rfl 3 3 .i64 lawI Try.underlying44 Try.underlying3 (zeroI _) m2 m D2 rfl O2.out _ (.int .i64 (t : Int)) rfl (keyOf_int_mk Try.underlying3 WFt) ?_; intro c hc _; obtain rfl : (0 : Int) = c := (HG2.out c hc).symm)
    | (at_delete; refine wpList_delete_own _ rfl _ _ 44 3 rfl 3 lawI Try.underlying44 _ m1 m D1 rfl O1.out _ (.int .i64 (l : Int)) rfl (keyOf_int_mk Try.underlying3 WFl) ?_; intro w1 hown1 hturn1)
    | fail)
  go_ret
  exact ⟨rfl, M0.out.setH hturn1.grown ⟨_, hown1.mono (Nat.le_succ _), HT1.out.del⟩ (Nat.le_succ _), T0.out.grown hturn1.grown (Or.inl rfl) hm1⟩
set_option maxHeartbeats 4000000 in
set_option maxRecDepth 100000 in
theorem one_give_free (HM : Hid (Mp w bt bl br m1 m2 h1 h2 n K rk m s)) (HB : Hid (Below w0.heap.size w0 w)) (hK : K ≤ 16) (hn : n ≤ 16) (t l : Nat) (ht : t < n) (hl : l < K) (e1 : s.hold l = -1) :
    Calls Try.prog 21 #[.agg #[.int .i64 2, .int .i64 t, .int .i64 l], .pointer (some ⟨bt, 0, none⟩), .pointer (some ⟨bl, 0, none⟩), .pointer (some ⟨h1, 0, none⟩), .pointer (some ⟨h2, 0, none⟩), .pointer (some ⟨br, 0, none⟩)] w fun e w' =>  OneP w0 w bt bl br m1 m2 h1 h2 n K rk m (s) 3 e w' := by
  have B0 := below_alloc w (.cells #[.int .i64 2, .int .i64 (t : Int), .int .i64 (l : Int)] 35)
  have T0 := Lib.hid ((turned_refl (H := m1) (T := m2) HB.out).step B0)
  have M0 := Lib.hid (HM.out.step B0)
  have X0 := Lib.hid (heap_alloc_new w (.cells #[.int .i64 2, .int .i64 (t : Int), .int .i64 (l : Int)] 35))
  obtain ⟨ct, lt⟩ := one_at' HM.out.t
  obtain ⟨cl, ll⟩ := one_at' HM.out.l
  obtain ⟨cr, lr⟩ := one_at' HM.out.r
  obtain ⟨ch, lh⟩ := one_at' HM.out.bh
  obtain ⟨cw, lw⟩ := one_at' HM.out.bw
  have WFl : (Lit.int .i64 (l : Int)).wf = true := WalkArith.wf_i64 (by omega)
  have WFt : (Lit.int .i64 (t : Int)).wf = true := WalkArith.wf_i64 (by omega)
  obtain ⟨D1, o1, T1⟩ := M0.out.mh
  obtain ⟨D2, o2, T2⟩ := M0.out.mw
  have O1 := Lib.hid o1
  have O2 := Lib.hid o2
  have hh1 := T1.has l hl
  have hh2 := T2.has t ht
  have HG1 := Lib.hid (fun c (hc : D1.atKey (.int .i64 l) (.lit (.int .i64 0)) = .lit (.int .i64 c)) => T1.got hl hc)
  have HG2 := Lib.hid (fun c (hc : D2.atKey (.int .i64 t) (.lit (.int .i64 0)) = .lit (.int .i64 c)) => T2.got ht hc)
  unfold gotZ at HG1 HG2
  have HT1 := Lib.hid T1
  have HT2 := Lib.hid T2
  have htn : (t : Int) < (n : Int) := by omega
  have hlK : (l : Int) < (K : Int) := by omega
  clear B0 o1 o2 T1 T2
  rw [e1, decide_eq_true rfl] at hh1
  rw [if_pos e1] at HG1
  simp only [Bool.not_true] at hh1
  by_cases e2 : s.wait t = -1
  · rw [e2, decide_eq_true rfl] at hh2
    rw [if_pos e2] at HG2
    simp only [Bool.not_true] at hh2
    go_enter Try.func21, Try.ntmps21
    go_wp2_with (first
      | (at_lookup; refine wpList_lookup_own_ok_int _ rfl _ _ 44 rfl 3 3 .i64 lawI Try.underlying44 Try.underlying3 (zeroI _) m1 m D1 rfl O1.out _ (.int .i64 (l : Int)) rfl (keyOf_int_mk Try.underlying3 WFl) ?_; intro c hc _; obtain rfl : (0 : Int) = c := (HG1.out c hc).symm)
      | (at_lookup; refine wpList_lookup_own_ok_int _ rfl _ _ 44 rfl 3 3 .i64 lawI Try.underlying44 Try.underlying3 (zeroI _) m2 m D2 rfl O2.out _ (.int .i64 (t : Int)) rfl (keyOf_int_mk Try.underlying3 WFt) ?_; intro c hc _; obtain rfl : (0 : Int) = c := (HG2.out c hc).symm)
      | fail)
    go_ret
    exact ⟨rfl, M0.out.more (Nat.le_succ _), T0.out⟩
  · rw [decide_eq_false e2] at hh2
    rw [if_neg e2] at HG2
    simp only [Bool.not_false] at hh2
    go_enter Try.func21, Try.ntmps21
    go_wp2_with (first
      | (at_lookup; refine wpList_lookup_own_ok_int _ rfl _ _ 44 rfl 3 3 .i64 lawI Try.underlying44 Try.underlying3 (zeroI _) m1 m D1 rfl O1.out _ (.int .i64 (l : Int)) rfl (keyOf_int_mk Try.underlying3 WFl) ?_; intro c hc _; obtain rfl : (0 : Int) = c := (HG1.out c hc).symm)
      | (at_lookup; refine wpList_lookup_own_ok_int _ rfl _ _ 44 rfl 3 3 .i64 lawI Try.underlying44 Try.underlying3 (zeroI _) m2 m D2 rfl O2.out _ (.int .i64 (t : Int)) rfl (keyOf_int_mk Try.underlying3 WFt) ?_; intro c hc _; obtain rfl : s.wait t = c := (HG2.out c hc).symm)
      | fail)
    go_ret
    exact ⟨rfl, M0.out.more (Nat.le_succ _), T0.out⟩
set_option maxHeartbeats 4000000 in
set_option maxRecDepth 100000 in
theorem one_give_other (HM : Hid (Mp w bt bl br m1 m2 h1 h2 n K rk m s)) (HB : Hid (Below w0.heap.size w0 w)) (hK : K ≤ 16) (hn : n ≤ 16) (t l : Nat) (ht : t < n) (hl : l < K) (e1 : ¬ s.hold l = -1) (e3 : ¬ s.hold l = t) :
    Calls Try.prog 21 #[.agg #[.int .i64 2, .int .i64 t, .int .i64 l], .pointer (some ⟨bt, 0, none⟩), .pointer (some ⟨bl, 0, none⟩), .pointer (some ⟨h1, 0, none⟩), .pointer (some ⟨h2, 0, none⟩), .pointer (some ⟨br, 0, none⟩)] w fun e w' =>  OneP w0 w bt bl br m1 m2 h1 h2 n K rk m (s) 3 e w' := by
  have B0 := below_alloc w (.cells #[.int .i64 2, .int .i64 (t : Int), .int .i64 (l : Int)] 35)
  have T0 := Lib.hid ((turned_refl (H := m1) (T := m2) HB.out).step B0)
  have M0 := Lib.hid (HM.out.step B0)
  have X0 := Lib.hid (heap_alloc_new w (.cells #[.int .i64 2, .int .i64 (t : Int), .int .i64 (l : Int)] 35))
  obtain ⟨ct, lt⟩ := one_at' HM.out.t
  obtain ⟨cl, ll⟩ := one_at' HM.out.l
  obtain ⟨cr, lr⟩ := one_at' HM.out.r
  obtain ⟨ch, lh⟩ := one_at' HM.out.bh
  obtain ⟨cw, lw⟩ := one_at' HM.out.bw
  have WFl : (Lit.int .i64 (l : Int)).wf = true := WalkArith.wf_i64 (by omega)
  have WFt : (Lit.int .i64 (t : Int)).wf = true := WalkArith.wf_i64 (by omega)
  obtain ⟨D1, o1, T1⟩ := M0.out.mh
  obtain ⟨D2, o2, T2⟩ := M0.out.mw
  have O1 := Lib.hid o1
  have O2 := Lib.hid o2
  have hh1 := T1.has l hl
  have hh2 := T2.has t ht
  have HG1 := Lib.hid (fun c (hc : D1.atKey (.int .i64 l) (.lit (.int .i64 0)) = .lit (.int .i64 c)) => T1.got hl hc)
  have HG2 := Lib.hid (fun c (hc : D2.atKey (.int .i64 t) (.lit (.int .i64 0)) = .lit (.int .i64 c)) => T2.got ht hc)
  unfold gotZ at HG1 HG2
  have HT1 := Lib.hid T1
  have HT2 := Lib.hid T2
  have htn : (t : Int) < (n : Int) := by omega
  have hlK : (l : Int) < (K : Int) := by omega
  clear B0 o1 o2 T1 T2
  rw [decide_eq_false e1] at hh1
  rw [if_neg e1] at HG1
  simp only [Bool.not_false] at hh1
  obtain ⟨v, hv⟩ : ∃ v, s.hold l = v := ⟨_, rfl⟩
  rw [hv] at HG1 e3
  have q1 : (v != (t : Int)) = true := by simpa using e3
  by_cases e2 : s.wait t = -1
  · rw [e2, decide_eq_true rfl] at hh2
    rw [if_pos e2] at HG2
    simp only [Bool.not_true] at hh2
    go_enter Try.func21, Try.ntmps21
    go_wp2_with (first
      | (at_lookup; refine wpList_lookup_own_ok_int _ rfl _ _ 44 rfl 3 3 .i64 lawI Try.underlying44 Try.underlying3 (zeroI _) m1 m D1 rfl O1.out _ (.int .i64 (l : Int)) rfl (keyOf_int_mk Try.underlying3 WFl) ?_; intro c hc _; obtain rfl : v = c := (HG1.out c hc).symm)
      | (at_lookup; refine wpList_lookup_own_ok_int _ rfl _ _ 44 rfl 3 3 .i64 lawI Try.underlying44 Try.underlying3 (zeroI _) m2 m D2 rfl O2.out _ (.int .i64 (t : Int)) rfl (keyOf_int_mk Try.underlying3 WFt) ?_; intro c hc _; obtain rfl : (0 : Int) = c := (HG2.out c hc).symm)
      | fail)
    go_ret
    exact ⟨rfl, M0.out.more (Nat.le_succ _), T0.out⟩
  · rw [decide_eq_false e2] at hh2
    rw [if_neg e2] at HG2
    simp only [Bool.not_false] at hh2
    go_enter Try.func21, Try.ntmps21
    go_wp2_with (first
      | (at_lookup; refine wpList_lookup_own_ok_int _ rfl _ _ 44 rfl 3 3 .i64 lawI Try.underlying44 Try.underlying3 (zeroI _) m1 m D1 rfl O1.out _ (.int .i64 (l : Int)) rfl (keyOf_int_mk Try.underlying3 WFl) ?_; intro c hc _; obtain rfl : v = c := (HG1.out c hc).symm)
      | (at_lookup; refine wpList_lookup_own_ok_int _ rfl _ _ 44 rfl 3 3 .i64 lawI Try.underlying44 Try.underlying3 (zeroI _) m2 m D2 rfl O2.out _ (.int .i64 (t : Int)) rfl (keyOf_int_mk Try.underlying3 WFt) ?_; intro c hc _; obtain rfl : s.wait t = c := (HG2.out c hc).symm)
      | fail)
    go_ret
    exact ⟨rfl, M0.out.more (Nat.le_succ _), T0.out⟩
set_option maxHeartbeats 4000000 in
set_option maxRecDepth 100000 in
theorem one_give_waits (HM : Hid (Mp w bt bl br m1 m2 h1 h2 n K rk m s)) (HB : Hid (Below w0.heap.size w0 w)) (hK : K ≤ 16) (hn : n ≤ 16) (t l : Nat) (ht : t < n) (hl : l < K) (e1 : s.hold l = t) (e2 : ¬ s.wait t = -1) :
    Calls Try.prog 21 #[.agg #[.int .i64 2, .int .i64 t, .int .i64 l], .pointer (some ⟨bt, 0, none⟩), .pointer (some ⟨bl, 0, none⟩), .pointer (some ⟨h1, 0, none⟩), .pointer (some ⟨h2, 0, none⟩), .pointer (some ⟨br, 0, none⟩)] w fun e w' =>  OneP w0 w bt bl br m1 m2 h1 h2 n K rk m (s) 3 e w' := by
  have B0 := below_alloc w (.cells #[.int .i64 2, .int .i64 (t : Int), .int .i64 (l : Int)] 35)
  have T0 := Lib.hid ((turned_refl (H := m1) (T := m2) HB.out).step B0)
  have M0 := Lib.hid (HM.out.step B0)
  have X0 := Lib.hid (heap_alloc_new w (.cells #[.int .i64 2, .int .i64 (t : Int), .int .i64 (l : Int)] 35))
  obtain ⟨ct, lt⟩ := one_at' HM.out.t
  obtain ⟨cl, ll⟩ := one_at' HM.out.l
  obtain ⟨cr, lr⟩ := one_at' HM.out.r
  obtain ⟨ch, lh⟩ := one_at' HM.out.bh
  obtain ⟨cw, lw⟩ := one_at' HM.out.bw
  have WFl : (Lit.int .i64 (l : Int)).wf = true := WalkArith.wf_i64 (by omega)
  have WFt : (Lit.int .i64 (t : Int)).wf = true := WalkArith.wf_i64 (by omega)
  obtain ⟨D1, o1, T1⟩ := M0.out.mh
  obtain ⟨D2, o2, T2⟩ := M0.out.mw
  have O1 := Lib.hid o1
  have O2 := Lib.hid o2
  have hh1 := T1.has l hl
  have hh2 := T2.has t ht
  have HG1 := Lib.hid (fun c (hc : D1.atKey (.int .i64 l) (.lit (.int .i64 0)) = .lit (.int .i64 c)) => T1.got hl hc)
  have HG2 := Lib.hid (fun c (hc : D2.atKey (.int .i64 t) (.lit (.int .i64 0)) = .lit (.int .i64 c)) => T2.got ht hc)
  unfold gotZ at HG1 HG2
  have HT1 := Lib.hid T1
  have HT2 := Lib.hid T2
  have htn : (t : Int) < (n : Int) := by omega
  have hlK : (l : Int) < (K : Int) := by omega
  clear B0 o1 o2 T1 T2
  have e1' : ¬ s.hold l = -1 := by omega
  rw [decide_eq_false e1'] at hh1
  rw [if_neg e1'] at HG1
  simp only [Bool.not_false] at hh1
  rw [e1] at HG1
  rw [decide_eq_false e2] at hh2
  rw [if_neg e2] at HG2
  simp only [Bool.not_false] at hh2
  go_enter Try.func21, Try.ntmps21
  go_wp2_with (first
    | (at_lookup; refine wpList_lookup_own_ok_int _ rfl _ _ 44 rfl 3 3 .i64 lawI Try.underlying44 Try.underlying3 (zeroI _) m1 m D1 rfl O1.out _ (.int .i64 (l : Int)) rfl (keyOf_int_mk Try.underlying3 WFl) ?_; intro c hc _; obtain rfl : (t : Int) = c := (HG1.out c hc).symm)
    | (at_lookup; refine wpList_lookup_own_ok_int _ rfl _ _ 44 rfl 3 3 .i64 lawI Try.underlying44 Try.underlying3 (zeroI _) m2 m D2 rfl O2.out _ (.int .i64 (t : Int)) rfl (keyOf_int_mk Try.underlying3 WFt) ?_; intro c hc _; obtain rfl : s.wait t = c := (HG2.out c hc).symm)
    | fail)
  go_ret
  exact ⟨rfl, M0.out.more (Nat.le_succ _), T0.out⟩
set_option maxHeartbeats 4000000 in
set_option maxRecDepth 100000 in
theorem one_take_held (HM : Hid (Mp w bt bl br m1 m2 h1 h2 n K rk m s)) (HB : Hid (Below w0.heap.size w0 w)) (hK : K ≤ 16) (hn : n ≤ 16) (t l : Nat) (ht : t < n) (hl : l < K) (e1 : s.hold l = t) :
    Calls Try.prog 21 #[.agg #[.int .i64 1, .int .i64 t, .int .i64 l], .pointer (some ⟨bt, 0, none⟩), .pointer (some ⟨bl, 0, none⟩), .pointer (some ⟨h1, 0, none⟩), .pointer (some ⟨h2, 0, none⟩), .pointer (some ⟨br, 0, none⟩)] w fun e w' =>  OneP w0 w bt bl br m1 m2 h1 h2 n K rk m (s) 6 e w' := by
  have B0 := below_alloc w (.cells #[.int .i64 1, .int .i64 (t : Int), .int .i64 (l : Int)] 35)
  have T0 := Lib.hid ((turned_refl (H := m1) (T := m2) HB.out).step B0)
  have M0 := Lib.hid (HM.out.step B0)
  have X0 := Lib.hid (heap_alloc_new w (.cells #[.int .i64 1, .int .i64 (t : Int), .int .i64 (l : Int)] 35))
  obtain ⟨ct, lt⟩ := one_at' HM.out.t
  obtain ⟨cl, ll⟩ := one_at' HM.out.l
  obtain ⟨cr, lr⟩ := one_at' HM.out.r
  obtain ⟨ch, lh⟩ := one_at' HM.out.bh
  obtain ⟨cw, lw⟩ := one_at' HM.out.bw
  have WFl : (Lit.int .i64 (l : Int)).wf = true := WalkArith.wf_i64 (by omega)
  have WFt : (Lit.int .i64 (t : Int)).wf = true := WalkArith.wf_i64 (by omega)
  obtain ⟨D1, o1, T1⟩ := M0.out.mh
  obtain ⟨D2, o2, T2⟩ := M0.out.mw
  have O1 := Lib.hid o1
  have O2 := Lib.hid o2
  have hh1 := T1.has l hl
  have hh2 := T2.has t ht
  have HG1 := Lib.hid (fun c (hc : D1.atKey (.int .i64 l) (.lit (.int .i64 0)) = .lit (.int .i64 c)) => T1.got hl hc)
  have HG2 := Lib.hid (fun c (hc : D2.atKey (.int .i64 t) (.lit (.int .i64 0)) = .lit (.int .i64 c)) => T2.got ht hc)
  unfold gotZ at HG1 HG2
  have HT1 := Lib.hid T1
  have HT2 := Lib.hid T2
  have htn : (t : Int) < (n : Int) := by omega
  have hlK : (l : Int) < (K : Int) := by omega
  clear B0 o1 o2 T1 T2
  have e1' : ¬ s.hold l = -1 := by omega
  rw [decide_eq_false e1'] at hh1
  rw [if_neg e1'] at HG1
  simp only [Bool.not_false] at hh1
  rw [e1] at HG1
  by_cases e2 : s.wait t = -1
  · rw [e2, decide_eq_true rfl] at hh2
    rw [if_pos e2] at HG2
    simp only [Bool.not_true] at hh2
    go_enter Try.func21, Try.ntmps21
    go_wp2_with (first
      | (at_lookup; refine wpList_lookup_own_ok_int _ rfl _ _ 44 rfl 3 3 .i64 lawI Try.underlying44 Try.underlying3 (zeroI _) m1 m D1 rfl O1.out _ (.int .i64 (l : Int)) rfl (keyOf_int_mk Try.underlying3 WFl) ?_; intro c hc _; obtain rfl : (t : Int) = c := (HG1.out c hc).symm)
      | (at_lookup; refine wpList_lookup_own_ok_int _ rfl _ _ 44 rfl 3 3 .i64 lawI Try.underlying44 Try.underlying3 (zeroI _) m2 m D2 rfl O2.out _ (.int .i64 (t : Int)) rfl (keyOf_int_mk Try.underlying3 WFt) ?_; intro c hc _; obtain rfl : (0 : Int) = c := (HG2.out c hc).symm)
      | fail)
    go_ret
    exact ⟨rfl, M0.out.more (Nat.le_succ _), T0.out⟩
  · rw [decide_eq_false e2] at hh2
    rw [if_neg e2] at HG2
    simp only [Bool.not_false] at hh2
    go_enter Try.func21, Try.ntmps21
    go_wp2_with (first
      | (at_lookup; refine wpList_lookup_own_ok_int _ rfl _ _ 44 rfl 3 3 .i64 lawI Try.underlying44 Try.underlying3 (zeroI _) m1 m D1 rfl O1.out _ (.int .i64 (l : Int)) rfl (keyOf_int_mk Try.underlying3 WFl) ?_; intro c hc _; obtain rfl : (t : Int) = c := (HG1.out c hc).symm)
      | (at_lookup; refine wpList_lookup_own_ok_int _ rfl _ _ 44 rfl 3 3 .i64 lawI Try.underlying44 Try.underlying3 (zeroI _) m2 m D2 rfl O2.out _ (.int .i64 (t : Int)) rfl (keyOf_int_mk Try.underlying3 WFt) ?_; intro c hc _; obtain rfl : s.wait t = c := (HG2.out c hc).symm)
      | fail)
    go_ret
    exact ⟨rfl, M0.out.more (Nat.le_succ _), T0.out⟩
end
end Go.Proofs.Ytcnnimhdnmmaoaa
