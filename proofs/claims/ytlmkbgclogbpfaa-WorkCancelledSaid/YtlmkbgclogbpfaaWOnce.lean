/- WorkOnce: each time that it was queued it is done once, or waits, or was begun, or was cancelled; and first queued is first done. -/
import Derived.Test.YtlmkbgclogbpfaaWrkG
import Derived.Test.YtlmkbgclogbpfaaWrkO
namespace Go.Proofs.Ytlmkbgclogbpfaa
open Go.RowKit

theorem qu_len : ∀ {ops : List WoT} {s : StO}, (quO s ops).length ≤ ops.length
  | [], _ => Nat.le_refl _
  | o :: r, s => by
    have := qu_len (ops := r) (s := stepO s o)
    rw [quO, List.length_append, List.length_cons]
    split
    · rw [List.length_singleton]; omega
    · rw [List.length_nil]; omega
section
variable {ad : Option Addr} {cap n : Nat} {ops : List WoT}
set_option maxHeartbeats 2000000 in
set_option maxRecDepth 100000 in
theorem once_bad (w : World) (h : 400 < n) (hn : n ≤ 9223372036854775807) :
    Calls Try.prog 4 #[.slice ad n cap] w fun e w' => e = .returned (.bool true) ∧ Below w.heap.size w w' := by
  go_enter Try.func4, Try.ntmps4
  go_wp2_with (first
    | (go_at_call 12; (with_reducible refine (alive12_N _).mono ?_); rintro e w1 ⟨rfl, hb⟩; have B1 := Lib.hid hb; clear hb)
    | (go_at_call 8; (with_reducible refine (play_bad ad cap n _ h hn).mono ?_); rintro e w2 ⟨rfl, rfl⟩)
    | fail)
  go_ret
  exact ⟨rfl, B1.out⟩
/-- What is in memory while the law gathers. -/
structure LpW (w2 wr : World) (k m : Nat) (b : Bool) (ra : Option Addr) (rc : Nat) (ops : List WoT) : Prop where
  bel : Below w2.heap.size w2 wr
  can : canO newO (ops.take k) = b
  len : (quO newO (ops.take k)).length = m
  own : wr.ownsRow w2.heap.size 3 1 (.slice ra m rc) m (shI.flat (quO newO (ops.take k)))
set_option maxHeartbeats 4000000 in
set_option maxRecDepth 100000 in
theorem once_ok (w : World) (HA : Hid (shO.At w ad cap ops)) (hm : Hid (ops.length = n)) (hn : n ≤ 400) :
    Calls Try.prog 4 #[.slice ad n cap] w fun e w' => e = .returned (.bool true) ∧ Below w.heap.size w w' := by
  obtain ⟨i0, hi, hz0, hz1, hz2⟩ := info_parts info_int
  obtain ⟨st, hst⟩ : ∃ st, runO newO ops = st := ⟨_, rfl⟩
  have hg : GoodO st := by rw [← hst]; exact good_runO good_newO
  have hall : (allO st).length ≤ 400 := by
    have := all_len (ops := ops) good_newO
    rw [hst, hm.out] at this
    have e0 : (allO newO).length = 0 := rfl
    omega
  have honce := once_O (ops := ops) good_newO
  rw [hst] at honce
  have e0 : allO newO = [] := rfl
  rw [e0, List.nil_append] at honce
  have HP : Hid (∀ X : World, Hid (shO.At X ad cap ops) → Calls Try.prog 8 #[.slice ad n cap] X (PlayOut X n (errsO newO ops) st)) := Lib.hid fun X HX => by
    rw [← hst]
    exact play_ok X HX hm hn
  have HST := Lib.hid hst
  have HO := Lib.hid honce
  clear honce e0 hst
  go_enter Try.func4, Try.ntmps4
  go_wp2_with (first
    | (go_at_call 12; (with_reducible refine (alive12_N _).mono ?_); rintro e w1 ⟨rfl, hb⟩; have B1 := Lib.hid hb; have A1 := Lib.hid (HA.out.step hb); clear hb)
    | (go_at_call 8; (with_reducible refine (HP.out _ A1).mono ?_); rintro e w2 ⟨E, da, dc, wa, wc, rfl, hE, hD, hW, hdc, hwc, hb⟩; have B2 := Lib.hid (pstep B1.out hb); have A2 := Lib.hid (A1.out.step hb); have HE := Lib.hid hE; have HD := Lib.hid hD; have HW := Lib.hid hW; clear hb hE hD hW)
    | fail)
  go_loopw [8, 9, 41] (fun q c i wr => ∃ (k m : Nat) (b : Bool) (ra : Option Addr) (rc : Nat), k ≤ n ∧ i = .int .i64 k ∧ c = .bool b ∧ q = .slice ra m rc ∧ Hid (LpW w2 wr k m b ra rc ops)) (fun _ _ i _ => n - (intOf i).toNat)
  case atStart => exact ⟨0, 0, false, none, 0, Nat.zero_le _, rfl, rfl, rfl, Lib.hid ⟨Below.refl _ _, rfl, rfl, World.ownsRow_nil _ _ _ _⟩⟩
  case round =>
    obtain ⟨k, m, b, ra, rc, hk, rfl, rfl, rfl, HL⟩ := hrel
    by_cases hlt : k < n
    · obtain ⟨o, ho⟩ : ∃ o, ops[k]? = some o := ⟨ops[k]'(by rw [hm.out]; exact hlt), List.getElem?_eq_getElem _⟩
      have hex := errsO_at ho newO
      have HNQ := Lib.hid (quO_next ho newO)
      have HNC := Lib.hid (canO_next ho newO)
      obtain ⟨x, hx⟩ : ∃ x, errO (runO newO (ops.take k)) o = x := ⟨_, rfl⟩
      rw [hx] at hex HNQ HNC
      obtain ⟨bb, off, rfl, hb, e0, e1⟩ := at_wo A2.out ho
      obtain ⟨eb, eo, ee, heb, f0⟩ := at_int HE.out hex
      cases ee
      have g0 := (HL.out.bel.cell (p := ⟨bb, off + k * 2, none⟩) hb).trans e0
      have g1 := (HL.out.bel.cell (p := ⟨bb, off + k * 2 + 1, none⟩) hb).trans e1
      have q0 := (HL.out.bel.cell (p := ⟨E, 0 + k, none⟩) heb).trans f0
      rw [Nat.zero_add] at q0
      have hbr : bb < wr.heap.size := Nat.lt_of_lt_of_le hb HL.out.bel.size
      have hEr : E < wr.heap.size := Nat.lt_of_lt_of_le heb HL.out.bel.size
      obtain ⟨kd, id⟩ := o
      simp only at g0 g1
      have hmk : m ≤ k := by
        have := qu_len (ops := ops.take k) (s := newO)
        rw [HL.out.len, List.length_take, hm.out] at this
        omega
      have hs2 : w2.heap.size ≤ wr.heap.size := HL.out.bel.size
      obtain ⟨X, hX⟩ : ∃ X, wr.alloc (.cells #[.int .i64 kd, .int .i64 id] 33) = X := ⟨_, rfl⟩
      have BX := below_alloc wr (.cells #[.int .i64 kd, .int .i64 id] 33)
      have hh := heap_alloc_new wr (.cells #[.int .i64 kd, .int .i64 id] 33)
      rw [hX] at BX hh
      obtain ⟨t0, t1⟩ := pair_at hh
      have hxl := heap_lt hh
      have qX := (BX.cell (p := ⟨E, k, none⟩) hEr).trans q0
      have hEX : E < X.heap.size := Nat.lt_of_lt_of_le hEr BX.size
      have LX : Hid (LpW w2 X k m b ra rc ops) := Lib.hid ⟨pstep HL.out.bel BX, HL.out.can, HL.out.len, own_step HL.out.own BX⟩
      have HX := Lib.hid hX
      clear e0 e1 f0 ho hex hx hh BX HL q0
      by_cases hx0 : x = 0
      · subst hx0
        by_cases k1 : kd = 1
        · subst k1
          have BA := below_alloc X (.cells #[.int .i64 id] 3)
          have OA := Lib.hid (own_step LX.out.own BA)
          have NA := Lib.hid (int_lit X id 1)
          have HM := Lib.hid LX.out.len
          have bA := Lib.hid (pstep LX.out.bel BA)
          have hbs : w2.heap.size ≤ (X.alloc (.cells #[.int .i64 id] 3)).heap.size := bA.out.size
          have HC : Hid (canO newO (ops.take (k + 1)) = b) := Lib.hid (by rw [HNC.out, LX.out.can]; simp)
          have HQ : Hid (quO newO (ops.take (k + 1)) = quO newO (ops.take k) ++ [id]) := Lib.hid (by rw [HNQ.out, if_pos ⟨rfl, rfl⟩])
          clear BA
          cases b with
          | true =>
            go_wp2_with (first
              | (at_builtin; refine wpList_append_n shI rfl _ _ 24 rfl w2.heap.size 3 i0 _ 8 Try.underlying24 hi hz0 hz1 hz2 rfl (.slice ra m rc) m (quO newO (ops.take k)) [id] HM rfl OA.out (some ⟨X.heap.size, 0, none⟩) 1 1 rfl (Lib.hid rfl) NA.out (by unfold maxLen; omega) (by omega) hbs ?_; intro ra4 rc4 w4 own4 grow4 _; have P4 := Lib.hid own4; have B4 := Lib.hid (bA.out.grown grow4 hbs (fun _ hq => (own_lt OA.out hq).1)); clear own4 grow4)
              | fail)
            go_roundw
            case rel => exact ⟨k + 1, m + 1, true, ra4, rc4, by omega, by go_num, rfl, rfl, Lib.hid ⟨B4.out, HC.out, by rw [HQ.out, List.length_append, HM.out]; rfl, by rw [HQ.out]; exact P4.out⟩⟩
            case measure => simp [intOf]; omega
          | false =>
            go_wp2_with (first
              | (at_builtin; refine wpList_append_n shI rfl _ _ 24 rfl w2.heap.size 3 i0 _ 8 Try.underlying24 hi hz0 hz1 hz2 rfl (.slice ra m rc) m (quO newO (ops.take k)) [id] HM rfl OA.out (some ⟨X.heap.size, 0, none⟩) 1 1 rfl (Lib.hid rfl) NA.out (by unfold maxLen; omega) (by omega) hbs ?_; intro ra4 rc4 w4 own4 grow4 _; have P4 := Lib.hid own4; have B4 := Lib.hid (bA.out.grown grow4 hbs (fun _ hq => (own_lt OA.out hq).1)); clear own4 grow4)
              | fail)
            go_roundw
            case rel => exact ⟨k + 1, m + 1, false, ra4, rc4, by omega, by go_num, rfl, rfl, Lib.hid ⟨B4.out, HC.out, by rw [HQ.out, List.length_append, HM.out]; rfl, by rw [HQ.out]; exact P4.out⟩⟩
            case measure => simp [intOf]; omega
        · have p1 : (kd == 1) = false := by simpa using k1
          have HQ : Hid (quO newO (ops.take (k + 1)) = quO newO (ops.take k)) := Lib.hid (by rw [HNQ.out, if_neg (fun q => k1 q.2), List.append_nil])
          by_cases k4 : kd = 4
          · subst k4
            have HC : Hid (canO newO (ops.take (k + 1)) = true) := Lib.hid (by rw [HNC.out]; simp)
            cases b with
            | true =>
              go_wp2_with fail
              go_roundw
              case rel => exact ⟨k + 1, m, true, ra, rc, by omega, by go_num, rfl, rfl, Lib.hid ⟨LX.out.bel, HC.out, by rw [HQ.out]; exact LX.out.len, by rw [HQ.out]; exact LX.out.own⟩⟩
              case measure => simp [intOf]; omega
            | false =>
              go_wp2_with fail
              go_roundw
              case rel => exact ⟨k + 1, m, true, ra, rc, by omega, by go_num, rfl, rfl, Lib.hid ⟨LX.out.bel, HC.out, by rw [HQ.out]; exact LX.out.len, by rw [HQ.out]; exact LX.out.own⟩⟩
              case measure => simp [intOf]; omega
          · have p4 : (kd == 4) = false := by simpa using k4
            have HC : Hid (canO newO (ops.take (k + 1)) = b) := Lib.hid (by rw [HNC.out, LX.out.can]; simp [k4])
            cases b with
            | true =>
              go_wp2_with fail
              go_roundw
              case rel => exact ⟨k + 1, m, true, ra, rc, by omega, by go_num, rfl, rfl, Lib.hid ⟨LX.out.bel, HC.out, by rw [HQ.out]; exact LX.out.len, by rw [HQ.out]; exact LX.out.own⟩⟩
              case measure => simp [intOf]; omega
            | false =>
              go_wp2_with fail
              go_roundw
              case rel => exact ⟨k + 1, m, false, ra, rc, by omega, by go_num, rfl, rfl, Lib.hid ⟨LX.out.bel, HC.out, by rw [HQ.out]; exact LX.out.len, by rw [HQ.out]; exact LX.out.own⟩⟩
              case measure => simp [intOf]; omega
      · have p0 : (x == 0) = false := by simpa using hx0
        have p1 : (x != 0) = true := by simpa using hx0
        have HC : Hid (canO newO (ops.take (k + 1)) = b) := Lib.hid (by rw [HNC.out, LX.out.can]; simp [hx0])
        have HQ : Hid (quO newO (ops.take (k + 1)) = quO newO (ops.take k)) := Lib.hid (by rw [HNQ.out, if_neg (fun q => hx0 q.1), List.append_nil])
        go_wp2_with fail
        go_roundw
        case rel => exact ⟨k + 1, m, b, ra, rc, by omega, by go_num, rfl, rfl, Lib.hid ⟨LX.out.bel, HC.out, by rw [HQ.out]; exact LX.out.len, by rw [HQ.out]; exact LX.out.own⟩⟩
        case measure => simp [intOf]; omega
    · obtain rfl : k = n := by omega
      have HC := Lib.hid HL.out.can
      have HM := Lib.hid HL.out.len
      have OQ := Lib.hid HL.out.own
      have BQ := Lib.hid HL.out.bel
      have et : ops.take k = ops := by rw [← hm.out, List.take_length]
      rw [et] at HC HM OQ
      obtain ⟨d, c, l⟩ := st
      have hnow := hg.now
      simp only at hnow
      have hdl := done_le ⟨d, c, l⟩
      have hwl := wait_le ⟨d, c, l⟩
      simp only at hdl hwl
      obtain ⟨dn, hdn⟩ : ∃ dn, d.length = dn := ⟨_, rfl⟩
      obtain ⟨wn, hwn⟩ : ∃ wn, l.length = wn := ⟨_, rfl⟩
      simp only at hdc hwc
      rw [hdn] at hdl hdc
      rw [hwn] at hwl hwc
      simp only [hdn, hwn]
      have hd9 : dn ≤ 1000000 := by omega
      have hw9 : wn ≤ 1000000 := by omega
      have HDL := Lib.hid hdn
      have HWL := Lib.hid hwn
      have DR := Lib.hid (HD.out.step BQ.out)
      have WR := Lib.hid (HW.out.step BQ.out)
      have BR := Lib.hid (pstep B2.out BQ.out)
      have hmn : m ≤ 400 := by
        have := qu_len (ops := ops) (s := newO)
        rw [HM.out, hm.out] at this
        omega
      simp only at DR WR
      have hb3 : w2.heap.size ≤ wr.heap.size := BQ.out.size
      clear hdn hwn HP hall hg HE HL hlt hk HD HW hdc hwc
      have hx1 : dn + wn ≤ 9223372036854775807 := by omega
      have hx2 : dn + 1 + wn ≤ 9223372036854775807 := by omega
      rcases hnow with rfl | ⟨hc0, hc9⟩
      · have HAL : Hid (allO ⟨d, -1, l⟩ = d ++ l) := Lib.hid rfl
        have HLN : Hid ((d ++ l).length = dn + wn) := Lib.hid (by rw [List.length_append, HDL.out, HWL.out])
        cases b with
        | true =>
          have hlt : dn + wn < m := by
            have := HO.out.2.2 HC.out
            rw [HAL.out, HLN.out, HM.out] at this
            exact this
          have hlt2 : decide (((dn + wn : Nat) : Int) < (m : Int)) = true := decide_eq_true (by omega)
          go_wp2_with (first
            | (go_at_call 13; (with_reducible refine (clone_I d da dn dc _ HDL DR hd9).mono ?_); rintro e w5 ⟨ra5, rc5, rfl, own5, hb5⟩; have O5 := Lib.hid own5; have B5 := Lib.hid (pstep BR.out hb5); have W5 := Lib.hid (WR.out.step hb5); have hs5 := hb5.size; clear own5 hb5)
            | (at_builtin; refine wpList_append_n shI rfl _ _ 24 rfl wr.heap.size 3 i0 _ 8 Try.underlying24 hi hz0 hz1 hz2 rfl (.slice ra5 dn rc5) dn d l HDL rfl O5.out wa wn wc rfl HWL W5.out (by unfold maxLen; omega) (by omega) hs5 ?_; intro ra6 rc6 w6 own6 grow6 _; have B6 := Lib.hid (B5.out.grown grow6 B5.out.size (fun _ hq => Nat.le_trans BR.out.size (own_lt O5.out hq).1)); clear own6 grow6)
            | fail)
          go_ret
          exact ⟨rfl, B6.out⟩
        | false =>
          have heq := HO.out.2.1 HC.out
          rw [HAL.out] at heq
          obtain rfl : m = dn + wn := by rw [← HM.out, ← heq, HLN.out]
          rw [← heq] at OQ
          have HQ := Lib.hid (Shape.At.own (S := shI) OQ.out HLN.out)
          go_wp2_with (first
            | (go_at_call 13; (with_reducible refine (clone_I d da dn dc _ HDL DR hd9).mono ?_); rintro e w5 ⟨ra5, rc5, rfl, own5, hb5⟩; have O5 := Lib.hid own5; have B5 := Lib.hid (pstep BR.out hb5); have W5 := Lib.hid (WR.out.step hb5); have Q5 := Lib.hid (HQ.out.step hb5); have hs5 := hb5.size; clear own5 hb5)
            | (at_builtin; refine wpList_append_n shI rfl _ _ 24 rfl wr.heap.size 3 i0 _ 8 Try.underlying24 hi hz0 hz1 hz2 rfl (.slice ra5 dn rc5) dn d l HDL rfl O5.out wa wn wc rfl HWL W5.out (by unfold maxLen; omega) (by omega) hs5 ?_; intro ra6 rc6 w6 own6 grow6 _; have B6 := Lib.hid (B5.out.grown grow6 B5.out.size (fun _ hq => Nat.le_trans BR.out.size (own_lt O5.out hq).1)); have Q6 := Lib.hid (Q5.out.same_grown O5.out grow6 HQ.out); have P6 := Lib.hid (Shape.At.own (S := shI) own6 HLN.out); clear own6 grow6)
            | (go_at_call 11; (with_reducible refine (equalI _ HLN P6 Q6 hx1).mono ?_); rintro e w7 ⟨rfl, hb⟩; have B7 := Lib.hid (pstep B6.out hb); clear hb)
            | fail)
          go_ret
          exact ⟨rfl, B7.out⟩
      · have hcn : ¬ c = -1 := by omega
        have HAL : Hid (allO ⟨d, c, l⟩ = d ++ [c] ++ l) := Lib.hid (by simp [allO, fullO, hcn])
        have HL1 : Hid ((d ++ [c]).length = dn + 1) := Lib.hid (by rw [List.length_append, HDL.out]; rfl)
        have HLN : Hid ((d ++ [c] ++ l).length = dn + 1 + wn) := Lib.hid (by rw [List.length_append, HL1.out, HWL.out])
        have hcd : decide (0 ≤ c) = true := decide_eq_true hc0
        cases b with
        | true =>
          have hlt : dn + 1 + wn < m := by
            have := HO.out.2.2 HC.out
            rw [HAL.out, HLN.out, HM.out] at this
            exact this
          have hlt2 : decide (((dn + 1 + wn : Nat) : Int) < (m : Int)) = true := decide_eq_true (by omega)
          go_wp2_with (first
            | (go_at_call 13; (with_reducible refine (clone_I d da dn dc _ HDL DR hd9).mono ?_); rintro e w5 ⟨ra5, rc5, rfl, own5, hb5⟩; have bx := below_alloc w5 (.cells #[.int .i64 c] 3); have O5 := Lib.hid (own_step own5 bx); have B5 := Lib.hid (pstep (pstep BR.out hb5) bx); have W5 := Lib.hid ((WR.out.step hb5).step bx); have N5 := Lib.hid (int_lit w5 c 1); have hs5 : wr.heap.size ≤ (w5.alloc (.cells #[.int .i64 c] 3)).heap.size := Nat.le_trans hb5.size bx.size; clear own5 hb5 bx)
            | (at_builtin; refine wpList_append_n shI rfl _ _ 24 rfl wr.heap.size 3 i0 _ 8 Try.underlying24 hi hz0 hz1 hz2 rfl (.slice ra5 dn rc5) dn d [c] HDL rfl O5.out (some ⟨w5.heap.size, 0, none⟩) 1 1 rfl (Lib.hid rfl) N5.out (by unfold maxLen; omega) (by omega) hs5 ?_; intro ra6 rc6 w6 own6 grow6 _; have B6 := Lib.hid (B5.out.grown grow6 B5.out.size (fun _ hq => Nat.le_trans BR.out.size (own_lt O5.out hq).1)); have W6 := Lib.hid (W5.out.same_grown O5.out grow6 WR.out); have O6 := Lib.hid own6; have hs6 : wr.heap.size ≤ w6.heap.size := Nat.le_trans hs5 grow6.size; clear own6 grow6)
            | (at_builtin; refine wpList_append_n shI rfl _ _ 24 rfl wr.heap.size 3 i0 _ 8 Try.underlying24 hi hz0 hz1 hz2 rfl (.slice ra6 (dn + 1) rc6) (dn + 1) (d ++ [c]) l HL1 rfl O6.out wa wn wc rfl HWL W6.out (by unfold maxLen; omega) (by omega) hs6 ?_; intro ra7 rc7 w7 own7 grow7 _; have B7 := Lib.hid (B6.out.grown grow7 B6.out.size (fun _ hq => Nat.le_trans BR.out.size (own_lt O6.out hq).1)); clear own7 grow7)
            | fail)
          go_ret
          exact ⟨rfl, B7.out⟩
        | false =>
          have heq := HO.out.2.1 HC.out
          rw [HAL.out] at heq
          obtain rfl : m = dn + 1 + wn := by rw [← HM.out, ← heq, HLN.out]
          rw [← heq] at OQ
          have HQ := Lib.hid (Shape.At.own (S := shI) OQ.out HLN.out)
          go_wp2_with (first
            | (go_at_call 13; (with_reducible refine (clone_I d da dn dc _ HDL DR hd9).mono ?_); rintro e w5 ⟨ra5, rc5, rfl, own5, hb5⟩; have bx := below_alloc w5 (.cells #[.int .i64 c] 3); have O5 := Lib.hid (own_step own5 bx); have B5 := Lib.hid (pstep (pstep BR.out hb5) bx); have W5 := Lib.hid ((WR.out.step hb5).step bx); have Q5 := Lib.hid ((HQ.out.step hb5).step bx); have N5 := Lib.hid (int_lit w5 c 1); have hs5 : wr.heap.size ≤ (w5.alloc (.cells #[.int .i64 c] 3)).heap.size := Nat.le_trans hb5.size bx.size; clear own5 hb5 bx)
            | (at_builtin; refine wpList_append_n shI rfl _ _ 24 rfl wr.heap.size 3 i0 _ 8 Try.underlying24 hi hz0 hz1 hz2 rfl (.slice ra5 dn rc5) dn d [c] HDL rfl O5.out (some ⟨w5.heap.size, 0, none⟩) 1 1 rfl (Lib.hid rfl) N5.out (by unfold maxLen; omega) (by omega) hs5 ?_; intro ra6 rc6 w6 own6 grow6 _; have B6 := Lib.hid (B5.out.grown grow6 B5.out.size (fun _ hq => Nat.le_trans BR.out.size (own_lt O5.out hq).1)); have W6 := Lib.hid (W5.out.same_grown O5.out grow6 WR.out); have Q6 := Lib.hid (Q5.out.same_grown O5.out grow6 HQ.out); have O6 := Lib.hid own6; have hs6 : wr.heap.size ≤ w6.heap.size := Nat.le_trans hs5 grow6.size; clear own6 grow6)
            | (at_builtin; refine wpList_append_n shI rfl _ _ 24 rfl wr.heap.size 3 i0 _ 8 Try.underlying24 hi hz0 hz1 hz2 rfl (.slice ra6 (dn + 1) rc6) (dn + 1) (d ++ [c]) l HL1 rfl O6.out wa wn wc rfl HWL W6.out (by unfold maxLen; omega) (by omega) hs6 ?_; intro ra7 rc7 w7 own7 grow7 _; have B7 := Lib.hid (B6.out.grown grow7 B6.out.size (fun _ hq => Nat.le_trans BR.out.size (own_lt O6.out hq).1)); have Q7 := Lib.hid (Q6.out.same_grown O6.out grow7 HQ.out); have P7 := Lib.hid (Shape.At.own (S := shI) own7 HLN.out); clear own7 grow7)
            | (go_at_call 11; (with_reducible refine (equalI _ HLN P7 Q7 hx2).mono ?_); rintro e w8 ⟨rfl, hb⟩; have B8 := Lib.hid (pstep B7.out hb); clear hb)
            | fail)
          go_ret
          exact ⟨rfl, B8.out⟩
end
theorem workOnce_walk (v : Value) (w : World) (h : ArgWos w v) : Calls Try.prog 4 #[v] w fun e w' => e = .returned (.bool true) ∧ Below w.heap.size w w' := by
  obtain ⟨a1, c1, l, rfl, hA, hn, _⟩ := h
  by_cases h4 : 400 < l.length
  · exact once_bad w h4 hn
  · exact once_ok w (Lib.hid hA) (Lib.hid rfl) (by omega)
end Go.Proofs.Ytlmkbgclogbpfaa
