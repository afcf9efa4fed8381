/- WheelOnTime: each timer fires just at its tick, and once. -/
import Derived.Test.YtnnphmpodcmmoaaWCnt
import Derived.Test.YtnnphmpodcmmoaaWPar
import Derived.Deep.CutRange
namespace Go.Proofs.Ytnnphmpodcmmoaa
open Go.RowKit Go.Maps

/-- What fires later fires behind the clock. -/
theorem fired_tail : ∀ (ops : List TmT) (s : StT), GoodT s → ∃ r, (runT s ops).fired = s.fired ++ r ∧ ∀ p ∈ r, s.now < p.1
  | [], s, _ => ⟨[], by simp [runT], fun p h => by cases h⟩
  | o :: ops, s, hg => by
    have h1 : ∃ d, (stepT s o).fired = s.fired ++ d ∧ (∀ p ∈ d, s.now < p.1) ∧ s.now ≤ (stepT s o).now := by
      unfold stepT
      by_cases he : errT s o = 0
      · rw [if_pos he]
        unfold doT
        by_cases k1 : o.k = 1
        · rw [if_pos k1]
          exact ⟨[], by simp [addT], fun p h => (by cases h), Nat.le_refl _⟩
        · rw [if_neg k1]
          by_cases k2 : o.k = 2
          · rw [if_pos k2]
            exact ⟨[], by simp [cutT], fun p h => (by cases h), Nat.le_refl _⟩
          · rw [if_neg k2]
            exact ⟨_, rfl, fun p hp => (hg.near p (List.mem_filter.1 hp).1).1, Nat.le_add_right _ _⟩
      · rw [if_neg he]
        exact ⟨[], by simp, fun p h => (by cases h), Nat.le_refl _⟩
    obtain ⟨d, hd1, hd2, hd3⟩ := h1
    obtain ⟨r, hr1, hr2⟩ := fired_tail ops (stepT s o) (good_step hg o)
    refine ⟨d ++ r, by rw [runT, hr1, hd1, List.append_assoc], fun p hp => ?_⟩
    rcases List.mem_append.1 hp with h | h
    · exact hd2 p h
    · have := hr2 p h
      omega
/-- The law's own map, beside what lay there before. -/
structure LpN (w1 wx : World) (mb L : Nat) (set : List FiT) : Prop where
  b : Below w1.heap.size w1 wx
  mp : MapW wx mb L set
  lt : w1.heap.size ≤ mb
section
variable {w1 wx wy : World} {mb L : Nat} {set : List FiT}
theorem LpN.step (h : LpN w1 wx mb L set) (hb : Below wx.heap.size wx wy) : LpN w1 wy mb L set := ⟨pstep h.b hb, h.mp.step hb, h.lt⟩
theorem LpN.more (h : LpN w1 wx mb L set) {L' : Nat} (hL : L ≤ L') : LpN w1 wx mb L' set := ⟨h.b, h.mp.more hL, h.lt⟩
theorem LpN.turn (h : LpN w1 wx mb L set) {L' : Nat} {set' : List FiT} (hg : wx.grownBy wy (some mb)) (hm : MapW wy mb L' set') : LpN w1 wy mb L' set' :=
  ⟨h.b.grown hg h.b.size (fun k hk => by cases hk; exact h.lt), hm, h.lt⟩
end
/-- Of the timers that are due, the q-th is set until it is struck. -/
theorem due_at {s : StT} (hg : GoodT s) {t q : Nat} {p : FiT} (h : (dueL t s.set)[q]? = some p) : p ∈ outL (((dueL t s.set).map (·.2)).take q) s.set := by
  have hm := List.mem_of_getElem? h
  refine List.mem_filter.2 ⟨(List.mem_filter.1 hm).1, ?_⟩
  rw [decide_eq_true_eq]
  intro hi
  have hnd : ((dueL t s.set).map (·.2)).Pairwise fun a b => ¬ a = b := by
    rw [List.pairwise_map]
    exact hg.nod.filter _
  obtain ⟨j, hj, e⟩ := List.getElem_of_mem hi
  rw [List.length_take] at hj
  rw [List.getElem_take] at e
  have hq : ((dueL t s.set).map (·.2))[q]? = some p.2 := by rw [List.getElem?_map, h]; rfl
  have hql := (List.getElem?_eq_some_iff.1 hq).1
  have := List.pairwise_iff_getElem.1 hnd j q (by omega) hql (by omega)
  rw [e, (List.getElem?_eq_some_iff.1 hq).2] at this
  exact this rfl
theorem due_ids (l : List FiT) (t : Nat) : ∀ i, i ∈ (dueL t l).map (·.2) ↔ ∃ p ∈ dueL t l, p.2 = i := fun i => by
  rw [List.mem_map]
section
variable {ad : Option Addr} {cap n : Nat} {ops : List TmT}
set_option maxHeartbeats 2000000 in
set_option maxRecDepth 100000 in
theorem time_bad (w : World) (h : 400 < n) (hn : n ≤ 9223372036854775807) :
    Calls Try.prog 4 #[.slice ad n cap] w fun e w' => e = .returned (.bool true) ∧ Below w.heap.size w w' := by
  go_enter Try.func4, Try.ntmps4
  go_wp2_with (first
    | (go_at_call 13; (with_reducible refine (alive11_N _).mono ?_); rintro e w1 ⟨rfl, hb⟩; have B1 := Lib.hid hb; clear hb)
    | (go_at_call 9; (with_reducible refine (play_bad ad cap n _ h hn).mono ?_); rintro e w2 ⟨rfl, rfl⟩)
    | fail)
  go_ret
  exact ⟨rfl, B1.out⟩
set_option maxHeartbeats 8000000 in
set_option maxRecDepth 100000 in
theorem time_ok (w : World) (HA : Hid (shT.At w ad cap ops)) (hm : Hid (ops.length = n)) (hn : n ≤ 400) (HW : Hid (∀ o ∈ ops, WfI o.i)) :
    Calls Try.prog 4 #[.slice ad n cap] w fun e w' => e = .returned (.bool true) ∧ Below w.heap.size w w' := by
  obtain ⟨FD, hFD⟩ : ∃ FD, (runT newT ops).fired = FD := ⟨_, rfl⟩
  obtain ⟨F, hF⟩ : ∃ F, FD.length = F := ⟨_, rfl⟩
  obtain ⟨N, hN⟩ : ∃ N, (runT newT ops).set.length = N := ⟨_, rfl⟩
  have hNF : N + F ≤ 400 := by
    have := (bnd_run (ops := ops) bnd_new HW.out).cnt
    rw [hm.out, hFD, hF, hN] at this
    omega
  have HP : Hid (∀ X : World, Hid (shT.At X ad cap ops) → Calls Try.prog 9 #[.slice ad n cap] X fun e w' => ∃ E fa fc, e = .returned (.tuple #[.slice (some ⟨E, 0, none⟩) n n, .slice fa F fc, .int .i64 (N : Int), .int .i64 0]) ∧ shI.At w' (some ⟨E, 0, none⟩) n (errsT newT ops) ∧ shF.At w' fa fc FD ∧ Below X.heap.size X w') := Lib.hid fun X HX => by
    refine (play_ok X HX hm hn HW).mono ?_
    rintro e w' ⟨E, fa, fc, rfl, h1, h2, h3⟩
    rw [hFD] at h2 ⊢
    rw [hF, hN]
    exact ⟨E, fa, fc, rfl, h1, h2, h3⟩
  have HFD := Lib.hid hFD
  have HFL := Lib.hid hF
  have HN := Lib.hid hN
  have hmk := @run_makeMap Try.prog
  clear hFD hF hN
  go_enter Try.func4, Try.ntmps4
  go_wp2_with (first
    | (go_at_call 13; (with_reducible refine (alive11_N _).mono ?_); rintro e w1 ⟨rfl, hb⟩; have B1 := Lib.hid hb; have A1 := Lib.hid (HA.out.step hb); clear hb)
    | (go_at_call 9; (with_reducible refine (HP.out _ A1).mono ?_); rintro e w2 ⟨E, fa, fc, rfl, hE, hF2, hb⟩; have B2 := Lib.hid (pstep B1.out hb); have A2 := Lib.hid (A1.out.step hb); have HE := Lib.hid hE; have HF := Lib.hid hF2; clear hb hE hF2)
    | fail)
  have L0 : Hid (LpN w2 (w2.alloc (.map #[] 0)) w2.heap.size 0 []) := Lib.hid ⟨below_alloc _ _, map_newW w2, Nat.le_refl _⟩
  clear hmk
  obtain ⟨mb, hmb⟩ : ∃ mb, w2.heap.size = mb := ⟨_, rfl⟩
  have L1 : Hid (LpN w2 (w2.alloc (.map #[] 0)) mb 0 []) := Lib.hid (hmb ▸ L0.out)
  rw [hmb]
  generalize w2.alloc (.map #[] 0) = wz at L1 ⊢
  clear L0 hmb
  go_loopw [7, 9, 44] (fun v f i wr => ∃ k : Nat, k ≤ n ∧ i = .int .i64 k ∧ v = .int .i64 ((runT newT (ops.take k)).now : Int) ∧ f = .int .i64 ((runT newT (ops.take k)).fired.length : Int) ∧ Hid (LpN w2 wr mb k (runT newT (ops.take k)).set)) (fun _ _ i _ => n - (intOf i).toNat)
  case atStart => exact ⟨0, Nat.zero_le _, rfl, rfl, rfl, L1⟩
  case round =>
    clear L1
    obtain ⟨k, hk, rfl, rfl, rfl, HL⟩ := hrel
    by_cases hlt : k < n
    · obtain ⟨o, ho⟩ : ∃ o, ops[k]? = some o := ⟨ops[k]'(by rw [hm.out]; exact hlt), List.getElem?_eq_getElem _⟩
      have hnx := run_next ho newT
      have hg := good_run (ops := ops.take k) good_new
      have hbd := bnd_run (ops := ops.take k) bnd_new (fun o ho => HW.out o (List.mem_of_mem_take ho))
      rw [List.length_take, hm.out, Nat.min_eq_left hk, Nat.zero_add] at hbd
      have hwo := HW.out o (List.mem_of_getElem? ho)
      have hex := errs_at ho newT
      have hft := fired_tail (ops.drop (k + 1)) _ (good_run (ops := ops.take (k + 1)) good_new)
      rw [← run_append, List.take_append_drop, HFD.out, hnx] at hft
      obtain ⟨st, hst⟩ : ∃ st, runT newT (ops.take k) = st := ⟨_, rfl⟩
      rw [hst] at HL hnx hg hbd hex hft ⊢
      obtain ⟨x, hx⟩ : ∃ x, errT st o = x := ⟨_, rfl⟩
      rw [hx] at hex
      obtain ⟨b, off, rfl, hb, e0, e1, e2⟩ := at_tm A2.out ho
      obtain ⟨eb, eo, ee, heb, f0⟩ := at_int HE.out hex
      cases ee
      have g0 := (HL.out.b.cell (p := ⟨b, off + k * 3, none⟩) hb).trans e0
      have g1 := (HL.out.b.cell (p := ⟨b, off + k * 3 + 1, none⟩) hb).trans e1
      have g2 := (HL.out.b.cell (p := ⟨b, off + k * 3 + 2, none⟩) hb).trans e2
      have q0 := (HL.out.b.cell (p := ⟨E, 0 + k, none⟩) heb).trans f0
      rw [Nat.zero_add] at q0
      have hbr : b < wr.heap.size := Nat.lt_of_lt_of_le hb HL.out.b.size
      have hEr : E < wr.heap.size := Nat.lt_of_lt_of_le heb HL.out.b.size
      obtain ⟨kd, id, tk⟩ := o
      simp only at g0 g1 g2 hwo
      have HG := Lib.hid hg
      have HBD := Lib.hid hbd
      have HNX := Lib.hid hnx
      have HX := Lib.hid hx
      have HFT := Lib.hid hft
      have hnow := hbd.now
      have hcnt := hbd.cnt
      have WFid : (Lit.int .i64 id).wf = true := hwo
      have LB := Lib.hid (HL.out.step (below_alloc wr (.cells #[.int .i64 kd, .int .i64 id, .int .i64 tk] 36)))
      have hLm : k < maxLen := by unfold maxLen; omega
      clear e0 e1 e2 f0 ho hex hnx hg hbd hx hft hwo
      by_cases hx0 : x = 0
      · subst hx0
        have HS : Hid (stepT st ⟨kd, id, tk⟩ = doT st ⟨kd, id, tk⟩) := Lib.hid (by unfold stepT; rw [if_pos HX.out])
        by_cases k1 : kd = 1
        · subst k1
          obtain ⟨⟨h1, h2⟩, hq⟩ := err_add HX.out rfl
          simp only at h1 h2 hq
          obtain ⟨n', rfl⟩ : ∃ n' : Nat, tk = n' := ⟨tk.toNat, by omega⟩
          have HST : Hid (stepT st ⟨1, id, (n' : Int)⟩ = addT st id n') := Lib.hid (by rw [HS.out]; simp [doT])
          have hwr : IntKind.i64.wrap ((st.now : Int) + (n' : Int)) = (st.now : Int) + (n' : Int) := by rw [IntKind.wrap_i64]; omega
          obtain ⟨D, o1, T1⟩ := LB.out.mp
          have O1 := Lib.hid o1
          have hput := T1.put (i := id) (t := st.now + n') o1.isMap (o1.tidy lawI) hq
          rw [show ((st.now + n' : Nat) : Int) = (st.now : Int) + (n' : Int) by omega] at hput
          have HPT := Lib.hid hput
          have WFt : (Lit.int .i64 ((st.now : Int) + (n' : Int))).wf = true := WalkArith.wf_i64 (by omega)
          clear o1 T1 hput hq
          go_wp2_with (first
            | (at_mapUpdate; refine wpList_mapUpdate_own _ rfl _ _ _ 34 rfl 3 3 lawI Try.underlying34 _ mb k D rfl O1.out hLm _ _ (.int .i64 id) rfl rfl (keyOf_int_mk Try.underlying3 WFid) (.lit (.int .i64 ((st.now : Int) + (n' : Int)))) [] (plainElem_int Try.underlying3 WFt) ?_; intro w5 hown5 hg5; have L5 := Lib.hid (LB.out.turn hg5 ⟨_, hown5, HPT.out⟩); clear hown5 hg5)
            | fail)
          go_roundw
          case rel => exact ⟨k + 1, by omega, by go_num, by rw [HNX.out, HST.out]; rfl, by rw [HNX.out, HST.out]; rfl, Lib.hid (by rw [HNX.out, HST.out]; exact L5.out)⟩
          case measure => simp [intOf]; omega
        · by_cases k2 : kd = 2
          · subst k2
            have HST : Hid (stepT st ⟨2, id, tk⟩ = cutT st id) := Lib.hid (by rw [HS.out]; simp [doT])
            obtain ⟨D, o1, T1⟩ := LB.out.mp
            have O1 := Lib.hid o1
            have HDL := Lib.hid (T1.del (i := id) (o1.tidy lawI) HG.out.nod)
            clear o1 T1
            go_wp2_with (first
              | (at_delete; refine wpList_delete_own _ rfl _ _ 34 3 rfl 3 lawI Try.underlying34 _ mb k D rfl O1.out _ (.int .i64 id) rfl (keyOf_int_mk Try.underlying3 WFid) ?_; intro w5 hown5 hturn5; have L5 := Lib.hid (LB.out.turn hturn5.grown ⟨_, hown5, HDL.out⟩); clear hown5 hturn5)
              | fail)
            go_roundw
            case rel => exact ⟨k + 1, by omega, by go_num, by rw [HNX.out, HST.out]; rfl, by rw [HNX.out, HST.out]; rfl, Lib.hid (by rw [HNX.out, HST.out]; exact L5.out.more (Nat.le_succ _))⟩
            case measure => simp [intOf]; omega
          · obtain ⟨k3, h1, h2⟩ := err_tick HX.out k1 k2
            simp only at k3 h1 h2
            subst k3
            obtain ⟨n', rfl⟩ : ∃ n' : Nat, tk = n' := ⟨tk.toNat, by omega⟩
            have HST : Hid (stepT st ⟨3, id, (n' : Int)⟩ = tickT st n') := Lib.hid (by rw [HS.out]; simp [doT])
            obtain ⟨t, ht⟩ : ∃ t, st.now + n' = t := ⟨_, rfl⟩
            have hwr : IntKind.i64.wrap ((st.now : Int) + (n' : Int)) = (t : Int) := by rw [IntKind.wrap_i64]; omega
            obtain ⟨du, hdu⟩ : ∃ du, dueL t st.set = du := ⟨_, rfl⟩
            obtain ⟨fl, hfl⟩ : ∃ fl, st.fired.length = fl := ⟨_, rfl⟩
            obtain ⟨Dn, hDn⟩ : ∃ Dn, du.length = Dn := ⟨_, rfl⟩
            obtain ⟨r, hr1, hr2⟩ := HFT.out
            rw [HST.out] at hr1 hr2
            have hr3 : FD = (st.fired ++ du) ++ r := by
              rw [← hdu, ← ht]
              exact hr1
            have hr4 : ∀ p ∈ r, t < p.1 := fun p hp => by rw [← ht]; exact hr2 p hp
            have hdule : ∀ p ∈ du, p.1 ≤ t := fun p hp => by
              rw [← hdu] at hp
              have := (List.mem_filter.1 hp).2
              simpa using this
            have hdset : ∀ p ∈ du, p ∈ st.set := fun p hp => by
              rw [← hdu] at hp
              exact (List.mem_filter.1 hp).1
            have hFlen : F = fl + Dn + r.length := by
              have := congrArg List.length hr3
              rw [HFL.out, List.length_append, List.length_append, hfl, hDn] at this
              exact this
            have hat : ∀ q, q < Dn → FD[fl + q]? = du[q]? := fun q hq => by
              rw [hr3, List.getElem?_append_left (by rw [List.length_append, hfl, hDn]; omega), List.getElem?_append_right (by rw [hfl]; omega), hfl, Nat.add_sub_cancel_left]
            have hatr : FD[fl + Dn]? = r[0]? := by
              rw [hr3, List.getElem?_append_right (by rw [List.length_append, hfl, hDn]; exact Nat.le_refl _), List.length_append, hfl, hDn, Nat.sub_self]
            have HR4 := Lib.hid hr4
            have HDLE := Lib.hid hdule
            have HDS := Lib.hid hdset
            have HAT := Lib.hid hat
            have HATR := Lib.hid hatr
            have HFLEN := Lib.hid hFlen
            have HDU := Lib.hid hdu
            have HFLL := Lib.hid hfl
            have HDN := Lib.hid hDn
            have HT := Lib.hid ht
            have LB0 : Hid (LpN w2 (wr.alloc (.cells #[.int .i64 3, .int .i64 id, .int .i64 (n' : Int)] 36)) mb k (outL ((du.map (·.2)).take 0) st.set)) := Lib.hid (by rw [List.take_zero, out_zero]; exact LB.out)
            clear hr1 hr2 hr3 hr4 hdule hdset hat hatr hFlen hdu hDn HFT
            rw [hfl]
            clear hfl ht
            clear LB
            go_wp2_with fail
            generalize wr.alloc (.cells #[.int .i64 3, .int .i64 id, .int .i64 (n' : Int)] 36) = wy at LB0 ⊢
            clear g0 g1 g2 q0 hbr hEr
            go_loopw [9] (fun f wx => ∃ q p : Nat, q ≤ Dn ∧ f = .int .i64 (p : Int) ∧ Hid (p = fl + q) ∧ Hid (LpN w2 wx mb k (outL ((du.map (·.2)).take q) st.set))) (fun f _ => (fl + Dn) - (intOf f).toNat)
            case atStart => exact ⟨0, fl, Nat.zero_le _, rfl, Lib.hid rfl, LB0⟩
            case round =>
              clear LB0
              obtain ⟨q, p, hq, rfl, HPQ, HLQ⟩ := hrel
              by_cases hqD : q < Dn
              · obtain ⟨⟨ta, ia⟩, hpr⟩ : ∃ pr, du[q]? = some pr := ⟨du[q]'(by rw [HDN.out]; exact hqD), List.getElem?_eq_getElem _⟩
                have hmem := List.mem_of_getElem? hpr
                have hta := HDLE.out _ hmem
                have hwfa := HBD.out.wf _ (HDS.out _ hmem)
                simp only at hta hwfa
                have hfd : FD[p]? = some (ta, ia) := by rw [HPQ.out, HAT.out q hqD]; exact hpr
                obtain ⟨fb, fo, rfl, hfb, c0, c1⟩ := at_fi HF.out hfd
                have d0 := (HLQ.out.b.cell (p := ⟨fb, fo + p * 2, none⟩) hfb).trans c0
                have d1 := (HLQ.out.b.cell (p := ⟨fb, fo + p * 2 + 1, none⟩) hfb).trans c1
                simp only at d0 d1
                have hfbr := Nat.lt_of_lt_of_le hfb HLQ.out.b.size
                have hpF : (p : Int) < (F : Int) := by have h1 := HPQ.out; have h2 := HFLEN.out; omega
                have htai : (ta : Int) ≤ (t : Int) := by omega
                have hwp : IntKind.i64.wrap ((p : Int) + 1) = (p : Int) + 1 := by rw [IntKind.wrap_i64]; omega
                have WFa : (Lit.int .i64 ia).wf = true := hwfa
                have hin := due_at (t := t) HG.out (q := q) (p := (ta, ia)) (by rw [HDU.out]; exact hpr)
                rw [HDU.out] at hin
                obtain ⟨D, o1, T1⟩ := HLQ.out.mp
                have O1 := Lib.hid o1
                have hh1 : Maps.has D (.int .i64 ia) = true := by rw [T1.has ia]; exact setQ_mem.2 ⟨ta, hin⟩
                have HGO := Lib.hid (fun c (hc : D.atKey (.int .i64 ia) (.lit (.int .i64 0)) = .lit (.int .i64 c)) => T1.got hin hc)
                have hdl := T1.del (i := ia) (o1.tidy lawI) (nod_mono HG.out.nod _)
                have hids : (du.map (·.2))[q]? = some ia := by rw [List.getElem?_map, hpr]; rfl
                rw [out_next hids] at hdl
                have HDEL := Lib.hid hdl
                clear hmem hta hwfa hfd c0 c1 hin o1 T1 hdl hids hpr
                go_wp2_with (first
                  | (at_lookup; refine wpList_lookup_own_ok_int _ rfl _ _ 34 rfl 3 3 .i64 lawI Try.underlying34 Try.underlying3 (zeroI _) mb k D rfl O1.out _ (.int .i64 ia) rfl (keyOf_int_mk Try.underlying3 WFa) ?_; intro c hc _; obtain rfl : (ta : Int) = c := HGO.out c hc)
                  | (at_delete; refine wpList_delete_own _ rfl _ _ 34 3 rfl 3 lawI Try.underlying34 _ mb k D rfl O1.out _ (.int .i64 ia) rfl (keyOf_int_mk Try.underlying3 WFa) ?_; intro w5 hown5 hturn5; have L5 := Lib.hid (HLQ.out.turn hturn5.grown ⟨_, hown5, HDEL.out⟩); clear hown5 hturn5)
                  | fail)
                go_roundw
                case rel => exact ⟨q + 1, p + 1, by omega, by go_num, Lib.hid (by have := HPQ.out; omega), L5⟩
                case measure => have h1 := HPQ.out; simp [intOf]; omega
              · obtain rfl : q = Dn := by omega
                have hLQ := HLQ.out
                have e1 : (du.map (·.2)).take q = du.map (·.2) := List.take_of_length_le (by rw [List.length_map, HDN.out]; exact Nat.le_refl _)
                have e2 : outL (du.map (·.2)) st.set = laterL t st.set := by
                  rw [← HDU.out]
                  exact out_due HG.out.nod t _ (due_ids _ _)
                rw [e1, e2] at hLQ
                have HLL := Lib.hid hLQ
                have hpn : fl + q = p := HPQ.out.symm
                have hguard : (¬ p < F) ∨ ((p : Int) < (F : Int) ∧ ∃ tb fb fo, fa = some ⟨fb, fo, none⟩ ∧ wr.cell? ⟨fb, fo + p * 2, none⟩ = some (.int .i64 tb) ∧ fb < wr.heap.size ∧ decide (tb ≤ (t : Int)) = false) := by
                  by_cases hpF : p < F
                  · refine Or.inr ⟨by omega, ?_⟩
                    have h2 := HFLEN.out
                    have hr0 : 0 < r.length := by omega
                    have hx0 : FD[p]? = some r[0] := by rw [← hpn, HATR.out, List.getElem?_eq_getElem hr0]
                    have hlt2 := HR4.out _ (List.getElem_mem hr0)
                    obtain ⟨fb, fo, e, hfb, c0, _⟩ := at_fi HF.out hx0
                    exact ⟨_, fb, fo, e, (HLL.out.b.cell (p := ⟨fb, fo + p * 2, none⟩) hfb).trans c0, Nat.lt_of_lt_of_le hfb HLL.out.b.size, decide_eq_false (by omega)⟩
                  · exact Or.inl hpF
                obtain ⟨D, o1, T1⟩ := HLL.out.mp
                have O1 := Lib.hid o1
                have HTT := Lib.hid T1
                have hst2 : (tickT st n').now = t ∧ (tickT st n').fired.length = p ∧ (tickT st n').set = laterL t st.set := by
                  refine ⟨HT.out, ?_, ?_⟩
                  · simp only [tickT, List.length_append, HT.out, HFLL.out, HDU.out, HDN.out, hpn]
                  · simp only [tickT, HT.out]
                have HS2 := Lib.hid hst2
                clear hLQ e1 e2 o1 T1 hst2 hpn
                have HGD := Lib.hid hguard
                clear hguard
                go_upto_region 15 with fail
                go_cut [72] from 60 to 71 (fun b wy => b = .bool false ∧ wy = wr)
                case first =>
                  rcases HGD.out with hgf | ⟨hgf, tb, fb, fo, rfl, d0, hfbr, hgt⟩
                  · have hgf2 : decide (p < F) = false := decide_eq_false hgf
                    have hgf3 : decide ((p : Int) < (F : Int)) = false := decide_eq_false (by omega)
                    go_wp2_with fail
                    go_meet
                    exact ⟨rfl, rfl⟩
                  · go_wp2_with fail
                    go_meet
                    exact ⟨rfl, rfl⟩
                case rest =>
                  obtain ⟨rfl, rfl⟩ := hcut
                  go_wp2_with (first
                    | (at_range; refine wpList_range_own _ rfl _ 34 rfl 3 3 lawI Try.underlying34 _ mb k D rfl O1.out ?_; intro w6 hrg0 hg0 hs0)
                    | fail)
                  go_frame
                  have BB0 := Lib.hid ((Below.refl wc.heap.size wc).grown hg0 (Nat.le_refl _) (fun k hk => by cases hk))
                  clear hg0 hs0
                  go_loopw [15] (fun _ wx => ∃ (left : Lit → Bool) (cnt : Nat), wx.ranges Try.prog 3 (plainElem Try.prog 3) mb wc.heap.size k D left cnt ∧ Hid (Below wc.heap.size wc wx)) (fun _ wx => wx.rangeLeft mb wc.heap.size)
                  case atStart => exact ⟨_, _, hrg0, BB0⟩
                  case round =>
                    clear hrg0 BB0
                    obtain ⟨left, cnt, hrg, BB⟩ := hrel
                    go_wp2_with (first
                      | (at_next; refine wpList_next_ranges_ii _ rfl _ rfl 3 3 .i64 .i64 lawI Try.underlying3 Try.underlying3 mb wc.heap.size k _ _ _ rfl hrg ?_ ?_)
                      | fail)
                    · intro _ _
                      have L9 := Lib.hid (HLL.out.step BB.out)
                      clear hrg
                      go_wp2_with fail
                      go_roundw
                      case rel => exact ⟨k + 1, by omega, by go_num, by rw [HNX.out, HST.out, HS2.out.1], by rw [HNX.out, HST.out, HS2.out.2.1], Lib.hid (by rw [HNX.out, HST.out, HS2.out.2.2]; exact L9.out.more (Nat.le_succ _))⟩
                      case measure => simp [intOf]; omega
                    · intro x c w5 cnt1 hwx hwc hlx hat hrg1 hlt1 hg1 hs1 hen
                      have hhas := has_true_of_atKey hat
                      rw [HTT.out.has x] at hhas
                      obtain ⟨tx, htx⟩ := setQ_mem.1 hhas
                      have hcx : c = (tx : Int) := by
                        have h5 := hat .nil
                        rw [HTT.out.at' tx x _ htx] at h5
                        cases h5
                        rfl
                      have htl : ¬ tx ≤ t := by
                        have := (List.mem_filter.1 htx).2
                        simpa using this
                      have hcd : decide (c ≤ (t : Int)) = false := decide_eq_false (by omega)
                      have BB5 := Lib.hid (BB.out.grown hg1 BB.out.size (fun k hk => by cases hk; exact Nat.le_refl _))
                      have HMS : wr.rangeLeft mb wc.heap.size = cnt := hrg.left_eq
                      have HM1 : w5.rangeLeft mb wc.heap.size = cnt1 := hrg1.left_eq
                      have HMS' := Lib.hid HMS
                      have HM1' := Lib.hid HM1
                      have HLT := Lib.hid hlt1
                      clear hhas hat hlx hwx hwc hg1 hs1 hrg HMS HM1 hlt1 htx hcx htl
                      go_wp2_with fail
                      go_roundw
                      case rel => exact ⟨_, cnt1, hrg1, BB5⟩
                      case measure => rw [HM1'.out, HMS'.out]; exact HLT.out
      · have hxb : (x != 0) = true := by simpa using hx0
        have HST : Hid (stepT st ⟨kd, id, tk⟩ = st) := Lib.hid (by unfold stepT; rw [if_neg (by rw [HX.out]; exact hx0)])
        go_wp2_with fail
        go_roundw
        case rel => exact ⟨k + 1, by omega, by go_num, by rw [HNX.out, HST.out], by rw [HNX.out, HST.out], Lib.hid (by rw [HNX.out, HST.out]; exact LB.out.more (Nat.le_succ _))⟩
        case measure => simp [intOf]; omega
    · obtain rfl : k = n := by omega
      have e : ops.take k = ops := by rw [← hm.out, List.take_length]
      rw [e] at HL
      rw [e, HFD.out, HFL.out]
      obtain ⟨D, o1, T1⟩ := HL.out.mp
      have hlenm : ∀ ty : TypeId, (Builtin.len_ #[34] ty #[.map (some mb)]).run Try.prog wr = .ok (.int .i64 (N : Int)) wr := fun ty => by
        have := o1.len Try.underlying34 ty
        rw [T1.sz, HN.out] at this
        exact this
      have BZ := Lib.hid (pstep B2.out HL.out.b)
      clear o1 T1 D hlt hk e
      go_wp2_with fail
      go_ret
      exact ⟨rfl, BZ.out⟩
end
theorem wheelOnTime_walk (v : Value) (w : World) (h : ArgTms w v) : Calls Try.prog 4 #[v] w fun e w' => e = .returned (.bool true) ∧ Below w.heap.size w w' := by
  obtain ⟨a1, c1, l, rfl, hA, hW, hn, _⟩ := h
  by_cases h4 : 400 < l.length
  · exact time_bad w h4 hn
  · exact time_ok w (Lib.hid hA) (Lib.hid rfl) (by omega) (Lib.hid hW)
end Go.Proofs.Ytnnphmpodcmmoaa
