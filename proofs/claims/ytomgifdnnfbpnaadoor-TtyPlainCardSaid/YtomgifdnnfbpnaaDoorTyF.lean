/- Package tty: the walks of Key and Type. -/
import Derived.Test.YtomgifdnnfbpnaaDoorTyE
namespace Go.Proofs.YtomgifdnnfbpnaaDoor
open Go.RowKit

/-- What a key's answer is. -/
def resK (s : StQ) (b : UInt8) : StQ × Int :=
  if rgtQ s.lines s.lines.length s.edit.length = true then if errQ s b = 0 then (doQ s b, 0) else (newQ, errQ s b) else (newQ, 1)
def KeyOut (w : World) (n m : Nat) (s : StQ) (x : Int) (e : Ending) (w' : World) : Prop :=
  ∃ la lc ea ec, e = .returned (.tuple #[.agg #[.slice la n lc, .slice ea m ec], .int .i64 x]) ∧ LnsAt w' la lc s.lines ∧ shB.At w' ea ec s.edit ∧ Below w.heap.size w w'
theorem key_none {w w' : World} {x : Int} {e : Ending} (he : e = .returned (.tuple #[.agg #[.slice none 0 0, .slice none 0 0], .int .i64 x])) (hb : Below w.heap.size w w') : KeyOut w 0 0 newQ x e w' := ⟨none, 0, none, 0, he, LnsAt.nil _, Shape.At.nil _, hb⟩
set_option maxHeartbeats 1000000 in
set_option maxRecDepth 100000 in
theorem key_form {la ea : Option Addr} {n lc m ec : Nat} {ls : List (List UInt8)} (w : World) (HL : Hid (LnsAt w la lc ls)) (hn : Hid (ls.length = n)) (b : UInt8) (hr : Hid (rgtQ ls n m = false)) :
    Calls Tryd.prog 9 #[.agg #[.slice la n lc, .slice ea m ec], .int .u8 (ub b)] w (KeyOut w 0 0 newQ 1) := by
  have hx := Lib.hid (bx_new w (.slice la n lc) (.slice ea m ec))
  go_enter Tryd.func9, Tryd.ntmps9
  go_upto_region 1 with fail
  generalize (w.alloc (.cells #[.slice la n lc, .slice ea m ec] 25)).alloc (.cells #[.slice none 0 0, .slice none 0 0] 25) = X at hx ⊢
  have G0 := pair_at hx.out.d
  have l0 := heap_lt hx.out.d
  have HLX := Lib.hid (HL.out.step hx.out.b)
  go_wp2_with (first
    | (go_at_call 13; (with_reducible refine (right_W _ HLX hn false hr).mono ?_); rintro e w1 ⟨rfl, hb⟩; have X1 := Lib.hid (hx.out.step hb); have Z1 := pair_at X1.out.z; have F1 := (fun i => frozen_of_row w1 (w.heap.size + 1) i _ _ X1.out.z); have z1 := heap_lt X1.out.z; clear hb)
    | fail)
  refine bodyPost_ret (results_row_tmp1 rfl _ _ (w.heap.size + 1) 25 #[.slice none 0 0, .slice none 0 0] (0, 0) _ rfl (two_set X1.out.z) Tryd.underlying25 rfl size_tty) rfl ?_
  exact key_none rfl (two_below _ _ X1.out.b (by omega))
set_option maxHeartbeats 1000000 in
set_option maxRecDepth 100000 in
theorem key_err {la ea : Option Addr} {n lc m ec : Nat} {ls : List (List UInt8)} (w : World) (HL : Hid (LnsAt w la lc ls)) (hn : Hid (ls.length = n)) (b : UInt8) (hr : Hid (rgtQ ls n m = true)) (hn4 : n ≤ 400) (hm6 : m ≤ 64) (x : Int) (hx0 : ¬ x = 0) (hxe : Hid (errN n m b = x)) :
    Calls Tryd.prog 9 #[.agg #[.slice la n lc, .slice ea m ec], .int .u8 (ub b)] w (KeyOut w 0 0 newQ x) := by
  have hx := Lib.hid (bx_new w (.slice la n lc) (.slice ea m ec))
  have hxb : (x != 0) = true := by simpa using hx0
  go_enter Tryd.func9, Tryd.ntmps9
  go_upto_region 1 with fail
  generalize (w.alloc (.cells #[.slice la n lc, .slice ea m ec] 25)).alloc (.cells #[.slice none 0 0, .slice none 0 0] 25) = X at hx ⊢
  have G0 := pair_at hx.out.d
  have l0 := heap_lt hx.out.d
  have HLX := Lib.hid (HL.out.step hx.out.b)
  go_wp2_with (first
    | (go_at_call 13; (with_reducible refine (right_W _ HLX hn true hr).mono ?_); rintro e w1 ⟨rfl, hb⟩; have X1 := Lib.hid (hx.out.step hb); have G1 := pair_at X1.out.d; have l1 := heap_lt X1.out.d; clear hb)
    | (go_at_call 26; (with_reducible refine (check_W _ _ n lc m ec b _ hn4 hm6 x hxe).mono ?_); rintro e w2 ⟨rfl, hb⟩; have X2 := Lib.hid (X1.out.step hb); have Z2 := pair_at X2.out.z; have F2 := (fun i => frozen_of_row w2 (w.heap.size + 1) i _ _ X2.out.z); have z2 := heap_lt X2.out.z; clear hb)
    | fail)
  refine bodyPost_ret (results_row_tmp1 rfl _ _ (w.heap.size + 1) 25 #[.slice none 0 0, .slice none 0 0] (0, 0) _ rfl (two_set X2.out.z) Tryd.underlying25 rfl size_tty) rfl ?_
  exact key_none rfl (two_below _ _ X2.out.b (by omega))
set_option maxHeartbeats 2000000 in
set_option maxRecDepth 100000 in
theorem key_ok {la ea : Option Addr} {n lc m ec : Nat} {s : StQ} (w : World) (HL : Hid (LnsAt w la lc s.lines)) (hn : Hid (s.lines.length = n)) (HE : Hid (shB.At w ea ec s.edit)) (hm : Hid (s.edit.length = m)) (b : UInt8) (hr : Hid (rgtQ s.lines n m = true)) (hn4 : n ≤ 400) (hm6 : m ≤ 64) (hxe : Hid (errN n m b = 0)) (n' m' : Nat) (hn' : Hid ((doQ s b).lines.length = n')) (hm' : Hid ((doQ s b).edit.length = m')) :
    Calls Tryd.prog 9 #[.agg #[.slice la n lc, .slice ea m ec], .int .u8 (ub b)] w (KeyOut w n' m' (doQ s b) 0) := by
  have hx := Lib.hid (bx_new w (.slice la n lc) (.slice ea m ec))
  have h65 := Lib.hid (rgtQ_parts hr.out).2.2
  go_enter Tryd.func9, Tryd.ntmps9
  go_upto_region 1 with fail
  generalize (w.alloc (.cells #[.slice la n lc, .slice ea m ec] 25)).alloc (.cells #[.slice none 0 0, .slice none 0 0] 25) = X at hx ⊢
  have G0 := pair_at hx.out.d
  have l0 := heap_lt hx.out.d
  have HLX := Lib.hid (HL.out.step hx.out.b)
  go_wp2_with (first
    | (go_at_call 13; (with_reducible refine (right_W _ HLX hn true hr).mono ?_); rintro e w1 ⟨rfl, hb⟩; have X1 := Lib.hid (hx.out.step hb); have G1 := pair_at X1.out.d; have l1 := heap_lt X1.out.d; clear hb)
    | (go_at_call 26; (with_reducible refine (check_W _ _ n lc m ec b _ hn4 hm6 0 hxe).mono ?_); rintro e w2 ⟨rfl, hb⟩; have X2 := Lib.hid (X1.out.step hb); have G2 := pair_at X2.out.d; have l2 := heap_lt X2.out.d; have HL2 := Lib.hid (HL.out.step X2.out.b); have HE2 := Lib.hid (HE.out.step X2.out.b); clear hb)
    | (go_at_call 28; (with_reducible refine (copied_W _ HL2 hn HE2 hm hn4 hm6 h65).mono ?_); rintro e w3 ⟨hs3, a3, c3, b3, d3, rfl, t3⟩; have T3 := Lib.hid t3; have X3 := Lib.hid (X2.out.step t3.b); clear t3)
    | (go_at_call 27; (with_reducible refine (process_W T3 hn4 hm6 b n' m' hn' hm').mono ?_); rintro e w4 ⟨hs4, a4, c4, b4, d4, rfl, t4, k4, _, _⟩; have T4 := Lib.hid t4; have z4' := Lib.hid (kept_box T3.out X3.out.z k4); have Z4 := pair_at z4'.out; have F4 := (fun i => frozen_of_row w4 (w.heap.size + 1) i _ _ z4'.out); have z4 := heap_lt z4'.out; clear t4 k4)
    | fail)
  refine bodyPost_ret (results_row_tmp1 rfl _ _ (w.heap.size + 1) 25 #[.slice a4 n' c4, .slice b4 m' d4] (0, 0) _ rfl (two_set z4'.out) Tryd.underlying25 rfl size_tty) rfl ?_
  have T5 := (T4.out.from X2.out.b).two z4'.out (by omega) (x2 := a4) (n2 := n') (c2 := c4) (.slice b4 m' d4)
  exact ⟨_, _, _, _, rfl, T5.atl, T5.ate, T5.b⟩
/-- A key, at whatever terminal. -/
def KeyAll (w : World) (s : StQ) (b : UInt8) (e : Ending) (w' : World) : Prop := KeyOut w (resK s b).1.lines.length (resK s b).1.edit.length (resK s b).1 (resK s b).2 e w'
theorem key_W {la ea : Option Addr} {n lc m ec : Nat} {s : StQ} (w : World) (HL : Hid (LnsAt w la lc s.lines)) (hn : Hid (s.lines.length = n)) (HE : Hid (shB.At w ea ec s.edit)) (hm : Hid (s.edit.length = m)) (b : UInt8) :
    Calls Tryd.prog 9 #[.agg #[.slice la n lc, .slice ea m ec], .int .u8 (ub b)] w (KeyAll w s b) := by
  unfold KeyAll resK
  cases hr : rgtQ s.lines s.lines.length s.edit.length with
  | false =>
    rw [hn.out, hm.out] at hr
    rw [if_neg (by simp)]
    exact key_form w HL hn b (Lib.hid hr)
  | true =>
    rw [hn.out, hm.out] at hr
    rw [if_pos rfl]
    obtain ⟨h1, h2, h3⟩ := rgtQ_parts hr
    have he : errQ s b = errN n m b := by rw [errN_eq, hn.out, hm.out]
    by_cases h0 : errQ s b = 0
    · rw [if_pos h0]
      rw [he] at h0
      exact key_ok w HL hn HE hm b (Lib.hid hr) h2 h1 (Lib.hid h0) _ _ (Lib.hid rfl) (Lib.hid rfl)
    · rw [if_neg h0]
      exact key_err w HL hn b (Lib.hid hr) h2 h1 _ h0 (Lib.hid he.symm)
/-- What is in memory while keys are processed. -/
structure LpT (w wx : World) (hs : List Hd) (lv ev : Value) (n m : Nat) (s : StQ) : Prop where
  t : TtyQ w wx hs lv ev n m s.lines s.edit
  z : wx.heap[w.heap.size]? = some (.cells #[.slice none 0 0, .slice none 0 0] tT (0, 0))
  d : wx.heap[w.heap.size + 1]? = some (.cells #[lv, ev] tT (0, 0))
section
variable {w wx wy : World} {hs : List Hd} {lv ev : Value} {n m : Nat} {s : StQ}
theorem LpT.step (h : LpT w wx hs lv ev n m s) (hb : Below wx.heap.size wx wy) : LpT w wy hs lv ev n m s := ⟨h.t.step hb, heap_step h.z hb, heap_step h.d hb⟩
theorem LpT.turn {la ea xa ya : Option Addr} {n' lc m' ec xn xc yn yc : Nat} {hs' : List Hd} {s' : StQ} (h : LpT w wx hs (.slice xa xn xc) (.slice ya yn yc) n m s) (t : TtyQ w wy hs' (.slice la n' lc) (.slice ea m' ec) n' m' s'.lines s'.edit) (k : Kp wx wy (Value.slice xa xn xc).ownBlock (Value.slice ya yn yc).ownBlock) :
    LpT w ((wy.setCell ⟨w.heap.size + 1, 0, none⟩ (.slice la n' lc)).setCell ⟨w.heap.size + 1, 1, none⟩ (.slice ea m' ec)) hs' (.slice la n' lc) (.slice ea m' ec) n' m' s' := by
  have hd := kept_box h.t h.d k
  have hz := kept_box h.t h.z k
  exact ⟨t.two hd (by omega) _, (two_other wy _ _ (by omega)).trans hz, two_set hd⟩
end
def TypeOut (w : World) (n m : Nat) (s : StQ) (e : Ending) (w' : World) : Prop :=
  ∃ la lc ea ec, e = .returned (.agg #[.slice la n lc, .slice ea m ec]) ∧ LnsAt w' la lc s.lines ∧ shB.At w' ea ec s.edit ∧ Below w.heap.size w w'
set_option maxHeartbeats 2000000 in
set_option maxRecDepth 100000 in
theorem type_W {ad : Option Addr} {cap n : Nat} {ks : List UInt8} (w : World) (HA : Hid (shB.At w ad cap ks)) (hn : Hid (ks.length = n)) (hn63 : n ≤ 9223372036854775806) (s : StQ) (hs : Hid (typeQ newQ ks = s)) (N M : Nat) (hN : Hid (s.lines.length = N)) (hM : Hid (s.edit.length = M)) :
    Calls Tryd.prog 16 #[.slice ad n cap] w (TypeOut w N M s) := by
  have H0 : LpT w ((w.alloc (.cells #[.slice none 0 0, .slice none 0 0] 25)).alloc (.cells #[.slice none 0 0, .slice none 0 0] 25)) [] (.slice none 0 0) (.slice none 0 0) 0 0 newQ := ⟨(ttyQ_new w).step (below_two w _ _), heap_step (heap_alloc_new w _) (below_alloc _ _), heap_alloc2_new w _ _⟩
  have H2 := Lib.hid H0
  clear H0
  go_enter Tryd.func16, Tryd.ntmps16
  go_wp2_with fail
  generalize (w.alloc (.cells #[.slice none 0 0, .slice none 0 0] 25)).alloc (.cells #[.slice none 0 0, .slice none 0 0] 25) = wz at H2 ⊢
  go_loopw [8] (fun i wr => ∃ (k n1 m1 : Nat) (hh : List Hd) (la : Option Addr) (lc : Nat) (ea : Option Addr) (ec : Nat), k ≤ n ∧ i = .int .i64 k ∧ Hid (LpT w wr hh (.slice la n1 lc) (.slice ea m1 ec) n1 m1 (typeQ newQ (ks.take k)))) (fun i _ => n - (intOf i).toNat)
  case atStart => exact ⟨0, 0, 0, [], none, 0, none, 0, Nat.zero_le _, rfl, H2⟩
  case round =>
    clear H2
    obtain ⟨k, n1, m1, hh, la, lc, ea, ec, hk, rfl, HL⟩ := hrel
    by_cases hlt : k < n
    · obtain ⟨x, hx⟩ : ∃ x, ks[k]? = some x := ⟨ks[k]'(by rw [hn.out]; exact hlt), List.getElem?_eq_getElem _⟩
      have HNX := Lib.hid (typeQ_next hx newQ)
      have HGD := Lib.hid (good_typeQ (ks := ks.take k) good_newQ)
      obtain ⟨bb, off, rfl, hb, e0⟩ := at_byte HA.out hx
      have g0 := (HL.out.t.b.cell (p := ⟨bb, off + k, none⟩) hb).trans e0
      have hbr : bb < wr.heap.size := Nat.lt_of_lt_of_le hb HL.out.t.b.size
      obtain ⟨st, hst⟩ : ∃ st, typeQ newQ (ks.take k) = st := ⟨_, rfl⟩
      rw [hst] at HL HNX HGD
      have hn4 : n1 ≤ 400 := by rw [← HL.out.t.len]; exact HGD.out.many
      have hm6 : m1 ≤ 64 := by rw [← que_len HL.out.t.e]; exact HGD.out.edit
      have G1 := pair_at HL.out.d
      have l1 := heap_lt HL.out.d
      clear hx e0 hst
      obtain ⟨y, hy⟩ : ∃ y, errN n1 m1 x = y := ⟨_, rfl⟩
      have HY := Lib.hid hy
      have HEQ : Hid (errQ st x = y) := Lib.hid (by rw [errN_eq, HL.out.t.len, que_len HL.out.t.e, hy])
      clear hy
      by_cases hy0 : y = 0
      · subst hy0
        have HST : Hid (keyQ st x = doQ st x) := Lib.hid (by unfold keyQ; rw [if_pos HEQ.out])
        obtain ⟨n2, hn2⟩ : ∃ n2, (doQ st x).lines.length = n2 := ⟨_, rfl⟩
        obtain ⟨m2, hm2⟩ : ∃ m2, (doQ st x).edit.length = m2 := ⟨_, rfl⟩
        have HN2 := Lib.hid hn2
        have HM2 := Lib.hid hm2
        clear hn2 hm2
        go_upto_region 7 with (first
          | (go_at_call 26; (with_reducible refine (check_W _ _ n1 lc m1 ec x _ hn4 hm6 0 HY).mono ?_); rintro e w2 ⟨rfl, hb2⟩; have L2 := Lib.hid (HL.out.step hb2); have G2 := pair_at L2.out.d; have l2 := heap_lt L2.out.d; have T2 := Lib.hid L2.out.t; clear hb2)
          | (go_at_call 27; (with_reducible refine (process_W T2 hn4 hm6 x n2 m2 HN2 HM2).mono ?_); rintro e w5 ⟨h5, a5, c5, b5, d5, rfl, t5, k5, _, _⟩; have L5 := Lib.hid (L2.out.turn (s' := doQ st x) t5 k5); have D5 := Lib.hid (kept_box L2.out.t L2.out.d k5); have G5 := pair_at D5.out; have F5 := (fun i => frozen_of_row w5 (w.heap.size + 1) i _ _ D5.out); have l5 := heap_lt D5.out; clear t5 k5)
          | fail)
        clear G5 F5 l5 D5
        generalize (w5.setCell ⟨w.heap.size + 1, 0, none⟩ (.slice a5 n2 c5)).setCell ⟨w.heap.size + 1, 1, none⟩ (.slice b5 m2 d5) = w6 at L5 ⊢
        go_wp2_with fail
        go_roundw
        case rel => exact ⟨k + 1, n2, m2, h5, a5, c5, b5, d5, by omega, by go_num, Lib.hid (by rw [HNX.out, HST.out]; exact L5.out)⟩
        case measure => simp [intOf]; omega
      · have hyb : (y == 0) = false := by simpa using hy0
        have HST : Hid (keyQ st x = st) := Lib.hid (by unfold keyQ; rw [if_neg (by rw [HEQ.out]; exact hy0)])
        go_wp2_with (first
          | (go_at_call 26; (with_reducible refine (check_W _ _ n1 lc m1 ec x _ hn4 hm6 y HY).mono ?_); rintro e w2 ⟨rfl, hb2⟩; have L2 := Lib.hid (HL.out.step hb2); clear hb2)
          | fail)
        go_roundw
        case rel => exact ⟨k + 1, n1, m1, hh, la, lc, ea, ec, by omega, by go_num, Lib.hid (by rw [HNX.out, HST.out]; exact L2.out)⟩
        case measure => simp [intOf]; omega
    · obtain rfl : k = n := by omega
      have e : ks.take k = ks := by rw [← hn.out, List.take_length]
      rw [e, hs.out] at HL
      obtain rfl : n1 = N := by rw [← HL.out.t.len, hN.out]
      obtain rfl : m1 = M := by rw [← que_len HL.out.t.e, hM.out]
      have G1 := pair_at HL.out.d
      have Z1 := pair_at HL.out.z
      have F1 := fun i => frozen_of_row wr w.heap.size i _ _ HL.out.z
      have l1 := heap_lt HL.out.d
      have z1 := heap_lt HL.out.z
      clear e hlt hk
      go_wp2_with fail
      refine bodyPost_ret (results_row1 rfl _ _ w.heap.size 25 #[.slice la n1 lc, .slice ea m1 ec] (0, 0) _ rfl (two_set HL.out.z) Tryd.underlying25 rfl size_tty) rfl ?_
      have T9 := HL.out.t.two HL.out.z (Nat.le_refl _) (x2 := la) (n2 := n1) (c2 := lc) (.slice ea m1 ec)
      exact ⟨_, _, _, _, rfl, T9.atl, T9.ate, T9.b⟩
end Go.Proofs.YtomgifdnnfbpnaaDoor
