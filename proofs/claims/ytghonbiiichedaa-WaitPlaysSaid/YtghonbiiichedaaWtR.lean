/- The walk of corebellref.OPlay. -/
import Derived.Test.YtghonbiiichedaaWtQ
import Derived.Deep.CutRange
import Derived.Deep.CutBlock
namespace Go.Proofs.Ytghonbiiichedaa
open Go.RowKit

def RefOut (w : World) (n : Nat) (es : List Int) (s : StV) (e : Ending) (w' : World) : Prop :=
  ∃ ea ec ga gc la lc, e = .returned (.tuple #[.slice ea n ec, .slice ga s.got.length gc, .slice la (slpL s.line).length lc, .int .i64 (s.things : Nat)]) ∧ shI.At w' ea ec es ∧ shI.At w' ga gc s.got ∧ shI.At w' la lc (slpL s.line) ∧ Below w.heap.size w w'
set_option maxHeartbeats 8000000 in
set_option maxRecDepth 100000 in
theorem oplay_ok {ad : Option Addr} {cap n : Nat} {ops : List WvT} (w : World) (HA : Hid (shV.At w ad cap ops)) (hm : Hid (ops.length = n)) (hn : n ≤ 10000000000000) :
    Calls Try.prog 9 #[.slice ad n cap] w (RefOut w n (errsV newV ops) (runV newV ops)) := by
  obtain ⟨i0, hi, hz0, hz1, hz2⟩ := info_parts info_ow
  obtain ⟨j0, hj, hy0, hy1, hy2⟩ := info_parts info_errno
  obtain ⟨k0, hk0, ho0, ho1, ho2⟩ := info_parts info_int
  have L0 : LpO w (w.alloc (.cells #[.slice none 0 0] 44)) w.heap.size [] [] [] (.slice none 0 0) (.slice none 0 0) (.slice none 0 0) 0 0 0 := ⟨below_alloc _ _, Nat.le_refl _, heap_alloc_new w _, rfl, World.ownsRow_nil _ _ _ _, rfl, World.ownsRow_nil _ _ _ _, rfl, World.ownsRow_nil _ _ _ _⟩
  obtain ⟨X, hX⟩ : ∃ X, w.heap.size = X := ⟨_, rfl⟩
  have HL0 := Lib.hid L0
  rw [hX] at HL0
  clear L0
  go_enter Try.func9, Try.ntmps9
  go_upto_region 7 with fail
  generalize w.alloc (.cells #[.slice none 0 0] 44) = w1 at HL0 ⊢
  clear hX
  go_loopw [7, 8, 10, 24] (fun u g th i wr => ∃ (k ln gn : Nat) (la : Option Addr) (lc : Nat) (ea : Option Addr) (ec : Nat) (ga : Option Addr) (gc : Nat), k ≤ n ∧ i = .int .i64 k ∧ u = .slice ea k ec ∧ g = .slice ga gn gc ∧ th = .int .i64 ((runV newV (ops.take k)).things : Nat) ∧ Hid (LpO w wr X (runV newV (ops.take k)).line (errsV newV (ops.take k)) (runV newV (ops.take k)).got (.slice la ln lc) (.slice ea k ec) (.slice ga gn gc) ln k gn)) (fun _ _ _ i _ => n - (intOf i).toNat)
  case atStart => exact ⟨0, 0, 0, none, 0, none, 0, none, 0, Nat.zero_le _, rfl, rfl, rfl, rfl, HL0⟩
  case round =>
    clear HL0
    obtain ⟨k, ln, gn, la, lc, ea, ec, ga, gc, hk, rfl, rfl, rfl, rfl, HL⟩ := hrel
    have HG := Lib.hid (good_runV (ops := ops.take k) good_newV)
    have hgl : gn ≤ 10000000000000 := by
      have := got_newV (ops.take k)
      rw [HL.out.gl, List.length_take, hm.out] at this
      omega
    by_cases hlt : k < n
    · obtain ⟨o, ho⟩ : ∃ o, ops[k]? = some o := ⟨ops[k]'(by rw [hm.out]; exact hlt), List.getElem?_eq_getElem _⟩
      have HNE := Lib.hid (errsV_next ho newV)
      have HNR := Lib.hid (runV_next ho newV)
      obtain ⟨b, off, rfl, hb, e0, e1⟩ := at_wv HA.out ho
      have g0 := (HL.out.b.cell (p := ⟨b, off + k * 2, none⟩) hb).trans e0
      have g1 := (HL.out.b.cell (p := ⟨b, off + k * 2 + 1, none⟩) hb).trans e1
      have hbr : b < wr.heap.size := Nat.lt_of_lt_of_le hb HL.out.b.size
      obtain ⟨kd, id⟩ := o
      simp only at g0 g1
      obtain ⟨st, hst⟩ : ∃ st, runV newV (ops.take k) = st := ⟨_, rfl⟩
      obtain ⟨es, hes⟩ : ∃ es, errsV newV (ops.take k) = es := ⟨_, rfl⟩
      rw [hst] at HL HNE HNR HG
      simp only [hst]
      rw [hes] at HL HNE
      have hlen := line_len HG.out
      rw [HL.out.ll] at hlen
      have hmost := HG.out.most
      obtain ⟨th, hth⟩ : ∃ th, st.things = th := ⟨_, rfl⟩
      rw [hth] at hmost
      simp only [hth]
      have BX := below_alloc wr (.cells #[.int .i64 kd, .int .i64 id] 35)
      have LX := Lib.hid (HL.out.step BX)
      have OX := Lib.hid (heap_alloc_new wr (.cells #[.int .i64 kd, .int .i64 id] 35))
      have hcx := LX.out.cell
      obtain ⟨cX, hXl, _⟩ := hcx
      have HTH := Lib.hid hth
      have HM := Lib.hid hmost
      clear e0 e1 ho hst hes BX HL hth hb
      go_upto_region 11 with fail
      clear g0 g1 hbr
      obtain ⟨ob, hob⟩ : ∃ ob, wr.heap.size = ob := ⟨_, rfl⟩
      rw [hob] at OX ⊢
      generalize wr.alloc (.cells #[.int .i64 kd, .int .i64 id] 35) = w2 at LX OX cX hXl ⊢
      clear hob
      go_loopw [14, 30] (fun a i wq => ∃ (j : Nat) (r : Int), j ≤ ln ∧ i = .int .i64 j ∧ a = .int .i64 r ∧ Hid (AtV (st.line.take j) id r) ∧ Hid (LpO w wq X st.line es st.got (.slice la ln lc) (.slice ea k ec) (.slice ga gn gc) ln k gn) ∧ Hid (wq.heap[ob]? = some (.cells #[.int .i64 kd, .int .i64 id] 35 (0, 0)))) (fun _ i _ => ln - (intOf i).toNat)
      case atStart => exact ⟨0, -1, Nat.zero_le _, rfl, rfl, Lib.hid (at_start _ _), LX, OX⟩
      case round =>
        clear LX OX cX hXl
        obtain ⟨j, r, hj2, rfl, rfl, HR, LQ, OQ⟩ := hrel
        by_cases hlj : j < ln
        · obtain ⟨q, hq⟩ : ∃ q, st.line[j]? = some q := ⟨st.line[j]'(by rw [LQ.out.ll]; exact hlj), List.getElem?_eq_getElem _⟩
          have HN := Lib.hid (at_next hq HR.out)
          have hA := Shape.At.own (S := shQ) LQ.out.lo LQ.out.ll
          obtain ⟨b2, off2, rfl, hb2, d0, d1⟩ := at_ow hA hq
          obtain ⟨t, y⟩ := q
          simp only at d0 d1 HN
          obtain ⟨t0, t1⟩ := pair_at OQ.out
          have hol := heap_lt OQ.out
          have BA := below_alloc wr (.cells #[.int .i64 t, .int .i64 (y : Nat)] 46)
          have LA := Lib.hid (LQ.out.step BA)
          have OA := Lib.hid (heap_step OQ.out BA)
          clear hq hA BA
          by_cases ht : t = id
          · subst ht
            rw [if_pos rfl] at HN
            go_wp2_with fail
            go_roundw
            case rel => exact ⟨j + 1, j, by omega, by go_num, rfl, HN, LA, OA⟩
            case measure => simp [intOf]; omega
          · rw [if_neg ht] at HN
            have htb : (t == id) = false := by simpa using ht
            go_wp2_with fail
            go_roundw
            case rel => exact ⟨j + 1, r, by omega, by go_num, rfl, HN, LA, OA⟩
            case measure => simp [intOf]; omega
        · obtain rfl : j = ln := by omega
          have ej : st.line.take j = st.line := by rw [← LQ.out.ll, List.take_length]
          rw [ej] at HR
          clear hlj hj2 ej
          obtain ⟨t0, t1⟩ := pair_at OQ.out
          have hol := heap_lt OQ.out
          generalize hlnj : j = ln at *
          clear hlnj
          generalize wr = wo at *
          go_upto_region 16 with fail
          go_cut [18] from 42 to 54 (fun s wy => ∃ sf : Bool, s = .bool sf ∧ wy = wo ∧ Hid (sf = decide (kd = 1 ∨ kd = 2 ∨ kd = 3)))
          case first =>
            by_cases k1 : kd = 1
            · subst k1
              go_wp2_with fail
              go_meet
              exact ⟨true, rfl, rfl, Lib.hid (by simp)⟩
            have b1 : (kd == 1) = false := by simpa using k1
            by_cases k2 : kd = 2
            · subst k2
              go_wp2_with fail
              go_meet
              exact ⟨true, rfl, rfl, Lib.hid (by simp)⟩
            have b2 : (kd == 2) = false := by simpa using k2
            by_cases k3 : kd = 3
            · subst k3
              go_wp2_with fail
              go_meet
              exact ⟨true, rfl, rfl, Lib.hid (by simp)⟩
            have b3 : (kd == 3) = false := by simpa using k3
            have K1 := Lib.hid k1
            have K2 := Lib.hid k2
            have K3 := Lib.hid k3
            clear k1 k2 k3
            go_wp2_with fail
            go_meet
            exact ⟨false, rfl, rfl, Lib.hid (by simp [K1.out, K2.out, K3.out])⟩
          case rest =>
            obtain ⟨sf, rfl, hwc, HSF⟩ := hcut
            have hwc2 := hwc.symm
            subst hwc2
            clear hwc
            obtain ⟨x, hx⟩ : ∃ x, errV st ⟨kd, id⟩ = x := ⟨_, rfl⟩
            obtain ⟨s2, hs2⟩ : ∃ s2, stepV st ⟨kd, id⟩ = s2 := ⟨_, rfl⟩
            rw [hx] at HNE
            rw [hs2] at HNR
            go_upto_block 4 with fail
            go_cut [8, 10, 15] from 55 to 188 (fun g th e wy => ∃ (ln' gn' : Nat) (la' : Option Addr) (lc' : Nat) (ga' : Option Addr) (gc' : Nat), g = .slice ga' gn' gc' ∧ th = .int .i64 (s2.things : Nat) ∧ e = .int .i64 x ∧ Hid (LpO w wy X s2.line es s2.got (.slice la' ln' lc') (.slice ea k ec) (.slice ga' gn' gc') ln' k gn'))
            case first =>
              clear HNE HNR
              have LW := LQ
              clear LQ OQ
              by_cases kl : kd < 1
              · have kd1 : decide (kd < 1) = true := decide_eq_true kl
                as_aux_lemma =>
                  have hx2 : errV st ⟨kd, id⟩ = 5 := by unfold errV; rw [if_pos (Or.inl kl)]
                  have hs2' : stepV st ⟨kd, id⟩ = st := by unfold stepV; rw [if_neg (by rw [hx2]; decide)]
                  rw [hx2] at hx
                  rw [hs2'] at hs2
                  subst hx hs2
                  clear hx2 hs2'
                  go_wp2_with fail
                  go_meet
                  exact ⟨ln, gn, _, lc, ga, gc, rfl, (by rw [HTH.out] <;> rfl), rfl, LW⟩
              have kd1 : decide (kd < 1) = false := decide_eq_false kl
              by_cases kg : 5 < kd
              · have kd5 : decide (5 < kd) = true := decide_eq_true kg
                as_aux_lemma =>
                  have hx2 : errV st ⟨kd, id⟩ = 5 := by unfold errV; rw [if_pos (Or.inr kg)]
                  have hs2' : stepV st ⟨kd, id⟩ = st := by unfold stepV; rw [if_neg (by rw [hx2]; decide)]
                  rw [hx2] at hx
                  rw [hs2'] at hs2
                  subst hx hs2
                  clear hx2 hs2'
                  go_wp2_with fail
                  go_meet
                  exact ⟨ln, gn, _, lc, ga, gc, rfl, (by rw [HTH.out] <;> rfl), rfl, LW⟩
              have kd5 : decide (5 < kd) = false := decide_eq_false kg
              by_cases r0 : id < 0
              · have rd0 : decide (id < 0) = true := decide_eq_true r0
                as_aux_lemma =>
                  have hx2 : errV st ⟨kd, id⟩ = 2 := by unfold errV; simp only; rw [if_neg (by omega), if_pos (Or.inl r0)]
                  have hs2' : stepV st ⟨kd, id⟩ = st := by unfold stepV; rw [if_neg (by rw [hx2]; decide)]
                  rw [hx2] at hx
                  rw [hs2'] at hs2
                  subst hx hs2
                  clear hx2 hs2'
                  go_wp2_with fail
                  go_meet
                  exact ⟨ln, gn, _, lc, ga, gc, rfl, (by rw [HTH.out] <;> rfl), rfl, LW⟩
              have rd0 : decide (id < 0) = false := decide_eq_false r0
              by_cases r6 : 63 < id
              · have rd6 : decide (63 < id) = true := decide_eq_true r6
                as_aux_lemma =>
                  have hx2 : errV st ⟨kd, id⟩ = 2 := by unfold errV; simp only; rw [if_neg (by omega), if_pos (Or.inr r6)]
                  have hs2' : stepV st ⟨kd, id⟩ = st := by unfold stepV; rw [if_neg (by rw [hx2]; decide)]
                  rw [hx2] at hx
                  rw [hs2'] at hs2
                  subst hx hs2
                  clear hx2 hs2'
                  go_wp2_with fail
                  go_meet
                  exact ⟨ln, gn, _, lc, ga, gc, rfl, (by rw [HTH.out] <;> rfl), rfl, LW⟩
              have rd6 : decide (63 < id) = false := decide_eq_false r6
              have hk5 : kd = 1 ∨ kd = 2 ∨ kd = 3 ∨ kd = 4 ∨ kd = 5 := by omega
              obtain ⟨cX, hXl, fX⟩ := LW.out.cell
              rcases hk5 with rfl | rfl | rfl | rfl | rfl
              · obtain rfl : sf = true := by rw [HSF.out]; simp
                clear HSF
                cases hst : stV st.line id with
                | none =>
                  obtain rfl := at_none HR.out hst
                  have HST := Lib.hid hst
                  clear hst HR
                  as_aux_lemma =>
                    have hx2 : errV st ⟨1, id⟩ = 0 := by unfold errV; simp only; rw [HST.out, if_neg (by omega), if_neg (by omega), if_neg (by simp), if_pos trivial]
                    have hs2' : stepV st ⟨1, id⟩ = ⟨st.line ++ [(id, 0)], st.got, st.things⟩ := by rw [errW_step hx2, doV_1, if_pos HST.out]
                    rw [hx2] at hx
                    rw [hs2'] at hs2
                    subst hx hs2
                    clear hx2 hs2'
                    have BA := below_alloc wo (.cells #[.int .i64 id, .int .i64 0] 46)
                    have LA := Lib.hid (LW.out.step BA)
                    have NA := Lib.hid (ow_oneAt wo (id, 0) 1)
                    have hbs : w.heap.size ≤ (wo.alloc (.cells #[.int .i64 id, .int .i64 0] 46)).heap.size := LA.out.b.size
                    have HLL := Lib.hid LW.out.ll
                    have hm1 : Hid (([(id, 0)] : List WtT).length = 1) := Lib.hid rfl
                    clear BA
                    go_wp2_with (first
                      | (at_builtin; refine wpList_append_n shQ rfl _ _ 44 rfl w.heap.size 46 i0 _ 16 Try.underlying44 hi hz0 hz1 hz2 rfl (.slice la ln lc) ln st.line [(id, 0)] HLL rfl LA.out.lo (some ⟨wo.heap.size, 0, none⟩) 1 1 rfl hm1 NA.out (by unfold maxLen; omega) (by omega) hbs ?_; intro ra4 rc4 w4 own4 grow4 _; have l4 := LA.out.line (l' := st.line ++ [((id, 0) : WtT)]) own4 grow4 (fun k hk => Or.inl hk) (by rw [List.length_append, HLL.out]; rfl); have z4 := l4.1; have hX4 := l4.2.1; have fz4 := l4.2.2.1; obtain ⟨zz4, cz4⟩ := z4; have L4 := Lib.hid l4.2.2.2; clear own4 grow4 l4)
                      | fail)
                    go_meet
                    exact ⟨ln + 1, gn, ra4, rc4, ga, gc, rfl, (by rw [HTH.out] <;> rfl), rfl, L4⟩
                | some y =>
                  obtain ⟨c, rfl, hc⟩ := at_some HG.out.nod HR.out hst
                  have hcl : c < ln := by rw [← LW.out.ll]; exact (List.getElem?_eq_some_iff.1 hc).1
                  obtain ⟨g0, off2, rfl, hb2, d0, d1⟩ := at_ow (Shape.At.own (S := shQ) LW.out.lo LW.out.ll) hc
                  obtain ⟨ad1, cap1, hv1, hnc, hcm, _, ha1⟩ := own_shape LW.out.lo
                  simp only [Value.slice.injEq, true_and] at hv1
                  obtain ⟨rfl, rfl⟩ := hv1
                  obtain ⟨g9, ee, _, _⟩ := ha1 _ rfl
                  cases ee
                  rw [Nat.zero_add] at d0 d1
                  simp only at d0 d1
                  have fz := own_froz LW.out.lo
                  have HC := Lib.hid hc
                  have HST := Lib.hid hst
                  have hc0 : (0 : Int) ≤ (c : Int) := by omega
                  have hc1 : (c : Int) < (ln : Int) := by omega
                  have hcd : decide ((0 : Int) ≤ (c : Int)) = true := decide_eq_true hc0
                  have hcn : ¬ (c : Int) < 0 := by omega
                  have hcn2 : decide ((c : Int) < 0) = false := decide_eq_false hcn
                  clear hst HR hc ha1
                  by_cases hy1 : y = 1
                  · subst hy1
                    have d1' : wo.cell? ⟨g0, c * 2 + 1, none⟩ = some (.int .i64 1) := d1
                    clear d1
                    as_aux_lemma =>
                      have hx2 : errV st ⟨1, id⟩ = 7 := by unfold errV; simp only; rw [if_neg (by omega), if_neg (by omega), if_pos ⟨Or.inl trivial, HST.out⟩]
                      have hs2' : stepV st ⟨1, id⟩ = st := by unfold stepV; rw [if_neg (by rw [hx2]; decide)]
                      rw [hx2] at hx
                      rw [hs2'] at hs2
                      subst hx hs2
                      clear hx2 hs2'
                      go_wp2_with fail
                      go_meet
                      exact ⟨ln, gn, _, lc, ga, gc, rfl, (by rw [HTH.out] <;> rfl), rfl, LW⟩
                  · have hyi : ¬ (y : Int) = 1 := by omega
                    have hyb : ((y : Int) == 1) = false := by simp; omega
                    have HNS : Hid (¬ stV st.line id = some 1 ∧ ¬ stV st.line id = none) := Lib.hid ⟨by rw [HST.out]; simpa using hy1, by rw [HST.out]; simp⟩
                    have hx2 : errV st ⟨1, id⟩ = 0 := by unfold errV; simp only; rw [if_neg (by omega), if_neg (by omega), if_neg (fun h => HNS.out.1 h.2), if_pos trivial]
                    have hs2' : stepV st ⟨1, id⟩ = ⟨putV st.line id 0, st.got, st.things⟩ := by rw [errW_step hx2, doV_1, if_neg HNS.out.2]
                    rw [hx2] at hx
                    rw [hs2'] at hs2
                    subst hx hs2
                    clear hx2 hs2'
                    have L4 := Lib.hid (LW.out.put HG.out.nod HC.out 0)
                    go_wp2_with fail
                    go_meet
                    exact ⟨ln, gn, _, lc, ga, gc, rfl, (by rw [HTH.out] <;> rfl), rfl, L4⟩
              · obtain rfl : sf = true := by rw [HSF.out]; simp
                clear HSF
                cases hst : stV st.line id with
                | none =>
                  obtain rfl := at_none HR.out hst
                  have HST := Lib.hid hst
                  clear hst HR
                  as_aux_lemma =>
                    have hx2 : errV st ⟨2, id⟩ = 3 := by unfold errV; simp only; rw [HST.out, if_neg (by omega), if_neg (by omega), if_neg (by simp), if_neg (by omega), if_pos trivial, if_pos rfl]
                    have hs2' : stepV st ⟨2, id⟩ = st := by unfold stepV; rw [if_neg (by rw [hx2]; decide)]
                    rw [hx2] at hx
                    rw [hs2'] at hs2
                    subst hx hs2
                    clear hx2 hs2'
                    go_wp2_with fail
                    go_meet
                    exact ⟨ln, gn, _, lc, ga, gc, rfl, (by rw [HTH.out] <;> rfl), rfl, LW⟩
                | some y =>
                  obtain ⟨c, rfl, hc⟩ := at_some HG.out.nod HR.out hst
                  have hcl : c < ln := by rw [← LW.out.ll]; exact (List.getElem?_eq_some_iff.1 hc).1
                  obtain ⟨g0, off2, rfl, hb2, d0, d1⟩ := at_ow (Shape.At.own (S := shQ) LW.out.lo LW.out.ll) hc
                  obtain ⟨ad1, cap1, hv1, hnc, hcm, _, ha1⟩ := own_shape LW.out.lo
                  simp only [Value.slice.injEq, true_and] at hv1
                  obtain ⟨rfl, rfl⟩ := hv1
                  obtain ⟨g9, ee, _, _⟩ := ha1 _ rfl
                  cases ee
                  rw [Nat.zero_add] at d0 d1
                  simp only at d0 d1
                  have fz := own_froz LW.out.lo
                  have HC := Lib.hid hc
                  have HST := Lib.hid hst
                  have hc0 : (0 : Int) ≤ (c : Int) := by omega
                  have hc1 : (c : Int) < (ln : Int) := by omega
                  have hcd : decide ((0 : Int) ≤ (c : Int)) = true := decide_eq_true hc0
                  have hcn : ¬ (c : Int) < 0 := by omega
                  have hcn2 : decide ((c : Int) < 0) = false := decide_eq_false hcn
                  clear hst HR hc ha1
                  by_cases hy1 : y = 1
                  · subst hy1
                    have d1' : wo.cell? ⟨g0, c * 2 + 1, none⟩ = some (.int .i64 1) := d1
                    clear d1
                    as_aux_lemma =>
                      have hx2 : errV st ⟨2, id⟩ = 7 := by unfold errV; simp only; rw [if_neg (by omega), if_neg (by omega), if_pos ⟨Or.inr (Or.inl trivial), HST.out⟩]
                      have hs2' : stepV st ⟨2, id⟩ = st := by unfold stepV; rw [if_neg (by rw [hx2]; decide)]
                      rw [hx2] at hx
                      rw [hs2'] at hs2
                      subst hx hs2
                      clear hx2 hs2'
                      go_wp2_with fail
                      go_meet
                      exact ⟨ln, gn, _, lc, ga, gc, rfl, (by rw [HTH.out] <;> rfl), rfl, LW⟩
                  · have hyi : ¬ (y : Int) = 1 := by omega
                    have hyb : ((y : Int) == 1) = false := by simp; omega
                    have HNS : Hid (¬ stV st.line id = some 1 ∧ ¬ stV st.line id = none) := Lib.hid ⟨by rw [HST.out]; simpa using hy1, by rw [HST.out]; simp⟩
                    by_cases h0 : th = 0
                    · subst h0
                      have hx2 : errV st ⟨2, id⟩ = 6 := by unfold errV; simp only; rw [if_neg (by omega), if_neg (by omega), if_neg (fun h => HNS.out.1 h.2), if_neg (by omega), if_pos trivial, if_neg HNS.out.2, if_pos HTH.out]
                      have hs2' : stepV st ⟨2, id⟩ = st := by unfold stepV; rw [if_neg (by rw [hx2]; decide)]
                      rw [hx2] at hx
                      rw [hs2'] at hs2
                      subst hx hs2
                      clear hx2 hs2'
                      go_wp2_with fail
                      go_meet
                      exact ⟨ln, gn, _, lc, ga, gc, rfl, (by rw [HTH.out] <;> rfl), rfl, LW⟩
                    · have hthi0 : ¬ (th : Int) = 0 := by omega
                      obtain ⟨th2, rfl⟩ : ∃ th2, th = th2 + 1 := ⟨th - 1, by omega⟩
                      have hx2 : errV st ⟨2, id⟩ = 0 := by unfold errV; simp only; rw [if_neg (by omega), if_neg (by omega), if_neg (fun h => HNS.out.1 h.2), if_neg (by omega), if_pos trivial, if_neg HNS.out.2, if_neg (by rw [HTH.out]; omega)]
                      have hs2' : stepV st ⟨2, id⟩ = ⟨if th2 = 0 then outV st.line id else wakeV (outV st.line id), st.got ++ [id], th2⟩ := by rw [errW_step hx2, doV_2, HTH.out, Nat.add_sub_cancel]; congr 1; (by_cases h : th2 = 0 <;> simp [h])
                      rw [hx2] at hx
                      rw [hs2'] at hs2
                      subst hx hs2
                      clear hx2 hs2'
                      have hthi : ¬ ((th2 : Int) + 1 = 0) := by omega
                      have hthb : (((th2 : Int) + 1) == 0) = false := by simp; omega
                      have hwt : IntKind.i64.wrap ((th2 : Int) + 1 - 1) = (th2 : Int) := by rw [IntKind.wrap_i64]; omega
                      have BA := below_alloc wo (.cells #[.int .i64 id] 3)
                      have LA := Lib.hid (LW.out.step BA)
                      have NA := Lib.hid (int_lit wo id 1)
                      have hbs : w.heap.size ≤ (wo.alloc (.cells #[.int .i64 id] 3)).heap.size := LA.out.b.size
                      have HGL := Lib.hid LW.out.gl
                      have hm1 : Hid (([id] : List Int).length = 1) := Lib.hid rfl
                      clear BA
                      by_cases hlc : lc = c + 1
                      · subst hlc
                        obtain rfl : ln = c + 1 := by omega
                        go_upto_region 41 with (first
                          | (at_builtin; refine wpList_append_n shI rfl _ _ 24 rfl w.heap.size 3 k0 _ 8 Try.underlying24 hk0 ho0 ho1 ho2 rfl (.slice ga gn gc) gn st.got [id] HGL rfl LA.out.go (some ⟨wo.heap.size, 0, none⟩) 1 1 rfl hm1 NA.out (by unfold maxLen; omega) (by omega) hbs ?_; intro ra5 rc5 w5 own5 grow5 _; have L5 := Lib.hid (LA.out.gots (gt' := st.got ++ [id]) own5 grow5 (by rw [List.length_append, HGL.out]; rfl)); clear own5 grow5)
                          | fail)
                        have c5 := L5.out.cell.1
                        have hX5 := L5.out.cell.2.1
                        have fz5 := L5.out.cell.2.2
                        have BN : Below w5.heap.size w5 (w5.alloc (.cells #[] 46)).drew := (below_alloc w5 _).drew
                        have LN := Lib.hid (L5.out.step BN)
                        have BNH := Lib.hid BN
                        have N0 : Hid ((w5.alloc (.cells #[] 46)).drew.ownsRow w5.heap.size 46 2 (.slice (some ⟨w5.heap.size, 0, none⟩) 0 0) 0 []) := Lib.hid (own_step (own_new w5 46 w5.heap.size (Nat.le_refl _)) (Below.refl _ _).drew)
                        have cN := LN.out.cell.1
                        have hXN := LN.out.cell.2.1
                        have fzN := LN.out.cell.2.2
                        have cD : w5.drew.cell? ⟨X, 0, none⟩ = some (.slice (some ⟨g0, 0, none⟩) (c + 1) (c + 1)) := c5
                        have hXD : X < w5.drew.heap.size := hX5
                        have hA5 := Shape.At.own (S := shQ) L5.out.lo L5.out.ll
                        have TA := Lib.hid (hA5.take c |>.step BN)
                        have HTL : Hid ((st.line.take c).length = c) := Lib.hid (by rw [List.length_take, L5.out.ll]; omega)
                        have hbs5 : w5.heap.size ≤ (w5.alloc (.cells #[] 46)).drew.heap.size := BN.size
                        have HCUT : Hid (st.line.take c ++ st.line.drop (c + 1) = outV st.line id) := Lib.hid (filter_cutW HG.out.nod HC.out)
                        have hw1 : IntKind.i64.wrap ((c : Int) + 1) = (c : Int) + 1 := by rw [IntKind.wrap_i64]; omega
                        have htn : ((c : Int) + 1).toNat = c + 1 := by omega
                        have hb1 : (0 : Int) ≤ (c : Int) + 1 := by omega
                        have hb3 : (c : Int) + 1 ≤ ((c + 1) : Int) := by omega
                        have hb5 : ((c + 1) : Int) ≤ ((c + 1) : Int) := by omega
                        have hb6 : (c : Int) + 1 ≤ ((c + 1) : Int) := by omega
                        have hb7 : (c : Int) ≤ ((c + 1) : Int) := by omega
                        have hb8 : (c : Int) ≤ ((c + 1) : Int) := by omega
                        have hck : ¬ ((c + 1) = c) := by omega
                        have hci : ¬ ((c + 1) = c) := by omega
                        have h9 : c + 1 ≤ (c + 1) := hcl
                        have HLN : Hid ((outV st.line id).length = c) := Lib.hid (by have h := out_len HG.out.nod (List.mem_of_getElem? HC.out); have h2 := L5.out.ll; omega)
                        have hdr : st.line.drop (c + 1) = [] := List.drop_eq_nil_of_le (by rw [L5.out.ll]; exact Nat.le_refl _)
                        have HDL : Hid ((st.line.drop (c + 1)).length = 0) := Lib.hid (by rw [hdr]; rfl)
                        have RD : Hid (shQ.At w5 (some ⟨g0, 0, none⟩) 0 (st.line.drop (c + 1))) := Lib.hid (by rw [hdr]; exact at_void _ _ _)
                        have hse : c + 1 - (c + 1) = 0 := Nat.sub_self _
                        clear hdr
                        clear BN hA5
                        go_cut [] from 159 to 168 (fun wy => ∃ ra rc, Hid (LpO w wy X (outV st.line id) es (st.got ++ [id]) (.slice ra c rc) (.slice ea k ec) (.slice ra5 (gn + 1) rc5) c k (gn + 1)))
                        case first =>
                          go_region_law (first
                            | (refine step_append_0 shQ rfl _ _ 44 rfl w5.heap.size 46 i0 _ 16 Try.underlying44 hi hz0 hz1 hz2 rfl (.slice (some ⟨w5.heap.size, 0, none⟩) 0 0) (st.line.take c) (by simp [Act.eval, Act.put]) N0.out (some ⟨g0, 0, none⟩) c (c + 1) (by simp [Act.eval, Act.put]) HTL TA.out (by unfold maxLen; omega) (by omega) hbs5 ?_; intro ra6 rc6 w6 own6 grow6; have B6 := Lib.hid (BNH.out.grown grow6 BNH.out.size (fun _ hk => Nat.le_of_eq (Option.some.inj hk))); have O6 := Lib.hid own6; have c6 := (L5.out.step B6.out).cell.1; have hX6 := (L5.out.step B6.out).cell.2.1; have hbs6 := B6.out.size; clear own6 grow6)
                            | (refine step_append_n shQ rfl _ _ 44 rfl w5.heap.size 46 i0 _ 16 Try.underlying44 hi hz0 hz1 hz2 rfl (.slice ra6 c rc6) c (st.line.take c) (st.line.drop (c + 1)) HTL (by simp [Act.eval, Act.put]) O6.out (some ⟨g0, 0, none⟩) 0 0 (by simp [Act.eval, Act.put]) HDL (RD.out.step B6.out) (by unfold maxLen; omega) (by omega) hbs6 ?_; intro ra7 rc7 w7 own7 grow7 _; rw [HCUT.out] at own7; rw [show c + 0 = c by omega] at own7 ⊢; have b7 := B6.out.grown grow7 B6.out.size (fun _ hk => (own_lt O6.out hk).1); have l7 := L5.out.line (l' := outV st.line id) (own_base own7 L5.out.b.size) (below_row b7 none) (fun k hk => by cases hk) HLN.out; have z7 := l7.1; have hX7 := l7.2.1; have fz7 := l7.2.2.1; obtain ⟨zz7, cz7⟩ := z7; have L7 := Lib.hid l7.2.2.2; clear own7 grow7 l7 b7)
                            | fail)
                          all_goals go_wp2_with fail
                          all_goals go_meet
                          all_goals exact ⟨ra7, rc7, L7⟩
                        case rest =>
                          obtain ⟨ra8, rc8, L8⟩ := hcut
                          clear c5 hX5 fz5 LN BNH N0 cN hXN fzN cD hXD TA HTL HCUT hw1 htn hb1 hb3 hb5 hb6 hb7 hb8 hck hci h9 HLN
                          by_cases h0 : th2 = 0
                          · subst h0
                            go_wp2_with fail
                            go_meet
                            exact ⟨c, gn + 1, ra8, rc8, ra5, rc5, rfl, rfl, rfl, L8⟩
                          · have h1 : (0 : Int) < (th2 : Int) := by omega
                            have h2 : decide ((0 : Int) < (th2 : Int)) = true := decide_eq_true h1
                            have HNO : Hid (NodW (outV st.line id)) := Lib.hid (nod_out HG.out.nod id)
                            go_wp2_with (first
                              | (go_at_call 18; (with_reducible refine (wakeO_W L8 HNO).mono ?_); rintro e w9 ⟨rfl, l9⟩; have L9 := Lib.hid l9; clear l9)
                              | fail)
                            go_meet
                            exact ⟨c, gn + 1, ra8, rc8, ra5, rc5, rfl, rfl, rfl, Lib.hid (by simp only [if_neg h0]; exact L9.out)⟩
                      · have hlc2 : ¬ c + 1 = lc := fun e => hlc e.symm
                        go_upto_region 41 with (first
                          | (at_builtin; refine wpList_append_n shI rfl _ _ 24 rfl w.heap.size 3 k0 _ 8 Try.underlying24 hk0 ho0 ho1 ho2 rfl (.slice ga gn gc) gn st.got [id] HGL rfl LA.out.go (some ⟨wo.heap.size, 0, none⟩) 1 1 rfl hm1 NA.out (by unfold maxLen; omega) (by omega) hbs ?_; intro ra5 rc5 w5 own5 grow5 _; have L5 := Lib.hid (LA.out.gots (gt' := st.got ++ [id]) own5 grow5 (by rw [List.length_append, HGL.out]; rfl)); clear own5 grow5)
                          | fail)
                        have c5 := L5.out.cell.1
                        have hX5 := L5.out.cell.2.1
                        have fz5 := L5.out.cell.2.2
                        have BN : Below w5.heap.size w5 (w5.alloc (.cells #[] 46)).drew := (below_alloc w5 _).drew
                        have LN := Lib.hid (L5.out.step BN)
                        have BNH := Lib.hid BN
                        have N0 : Hid ((w5.alloc (.cells #[] 46)).drew.ownsRow w5.heap.size 46 2 (.slice (some ⟨w5.heap.size, 0, none⟩) 0 0) 0 []) := Lib.hid (own_step (own_new w5 46 w5.heap.size (Nat.le_refl _)) (Below.refl _ _).drew)
                        have cN := LN.out.cell.1
                        have hXN := LN.out.cell.2.1
                        have fzN := LN.out.cell.2.2
                        have cD : w5.drew.cell? ⟨X, 0, none⟩ = some (.slice (some ⟨g0, 0, none⟩) ln lc) := c5
                        have hXD : X < w5.drew.heap.size := hX5
                        have hA5 := Shape.At.own (S := shQ) L5.out.lo L5.out.ll
                        have TA := Lib.hid (hA5.take c |>.step BN)
                        have HTL : Hid ((st.line.take c).length = c) := Lib.hid (by rw [List.length_take, L5.out.ll]; omega)
                        have hbs5 : w5.heap.size ≤ (w5.alloc (.cells #[] 46)).drew.heap.size := BN.size
                        have HCUT : Hid (st.line.take c ++ st.line.drop (c + 1) = outV st.line id) := Lib.hid (filter_cutW HG.out.nod HC.out)
                        have hw1 : IntKind.i64.wrap ((c : Int) + 1) = (c : Int) + 1 := by rw [IntKind.wrap_i64]; omega
                        have htn : ((c : Int) + 1).toNat = c + 1 := by omega
                        have hb1 : (0 : Int) ≤ (c : Int) + 1 := by omega
                        have hb3 : (c : Int) + 1 ≤ (ln : Int) := by omega
                        have hb5 : (ln : Int) ≤ (lc : Int) := by omega
                        have hb6 : (c : Int) + 1 ≤ (lc : Int) := by omega
                        have hb7 : (c : Int) ≤ (lc : Int) := by omega
                        have hb8 : (c : Int) ≤ (ln : Int) := by omega
                        have hck : ¬ (lc = c) := by omega
                        have hci : ¬ (ln = c) := by omega
                        have h9 : c + 1 ≤ ln := hcl
                        have HLN : Hid ((outV st.line id).length = (ln - 1)) := Lib.hid (by have h := out_len HG.out.nod (List.mem_of_getElem? HC.out); have h2 := L5.out.ll; omega)
                        have HDL : Hid ((st.line.drop (c + 1)).length = ln - (c + 1)) := Lib.hid (by rw [List.length_drop, L5.out.ll])
                        have rd := at_drop hA5 (c + 1) (lc - (c + 1)) (by rw [L5.out.ll]; exact hcl)
                        rw [show 0 + (c + 1) * shQ.size = (c + 1) * 2 by rw [Nat.zero_add]; rfl] at rd
                        have RD := Lib.hid rd
                        clear rd
                        clear BN hA5
                        go_cut [] from 159 to 168 (fun wy => ∃ ra rc, Hid (LpO w wy X (outV st.line id) es (st.got ++ [id]) (.slice ra (ln - 1) rc) (.slice ea k ec) (.slice ra5 (gn + 1) rc5) (ln - 1) k (gn + 1)))
                        case first =>
                          go_region_law (first
                            | (refine step_append_0 shQ rfl _ _ 44 rfl w5.heap.size 46 i0 _ 16 Try.underlying44 hi hz0 hz1 hz2 rfl (.slice (some ⟨w5.heap.size, 0, none⟩) 0 0) (st.line.take c) (by simp [Act.eval, Act.put]) N0.out (some ⟨g0, 0, none⟩) c lc (by simp [Act.eval, Act.put]) HTL TA.out (by unfold maxLen; omega) (by omega) hbs5 ?_; intro ra6 rc6 w6 own6 grow6; have B6 := Lib.hid (BNH.out.grown grow6 BNH.out.size (fun _ hk => Nat.le_of_eq (Option.some.inj hk))); have O6 := Lib.hid own6; have c6 := (L5.out.step B6.out).cell.1; have hX6 := (L5.out.step B6.out).cell.2.1; have hbs6 := B6.out.size; clear own6 grow6)
                            | (refine step_append_n shQ rfl _ _ 44 rfl w5.heap.size 46 i0 _ 16 Try.underlying44 hi hz0 hz1 hz2 rfl (.slice ra6 c rc6) c (st.line.take c) (st.line.drop (c + 1)) HTL (by simp [Act.eval, Act.put]) O6.out (some ⟨g0, (c + 1) * 2, none⟩) (ln - (c + 1)) (lc - (c + 1)) (by simp [Act.eval, Act.put]) HDL (RD.out.step B6.out) (by unfold maxLen; omega) (by omega) hbs6 ?_; intro ra7 rc7 w7 own7 grow7 _; rw [HCUT.out] at own7; rw [show c + (ln - (c + 1)) = ln - 1 by omega] at own7 ⊢; have b7 := B6.out.grown grow7 B6.out.size (fun _ hk => (own_lt O6.out hk).1); have l7 := L5.out.line (l' := outV st.line id) (own_base own7 L5.out.b.size) (below_row b7 none) (fun k hk => by cases hk) HLN.out; have z7 := l7.1; have hX7 := l7.2.1; have fz7 := l7.2.2.1; obtain ⟨zz7, cz7⟩ := z7; have L7 := Lib.hid l7.2.2.2; clear own7 grow7 l7 b7)
                            | fail)
                          all_goals go_wp2_with fail
                          all_goals go_meet
                          all_goals exact ⟨ra7, rc7, L7⟩
                        case rest =>
                          obtain ⟨ra8, rc8, L8⟩ := hcut
                          clear c5 hX5 fz5 LN BNH N0 cN hXN fzN cD hXD TA HTL HCUT hw1 htn hb1 hb3 hb5 hb6 hb7 hb8 hck hci h9 HLN
                          by_cases h0 : th2 = 0
                          · subst h0
                            go_wp2_with fail
                            go_meet
                            exact ⟨(ln - 1), gn + 1, ra8, rc8, ra5, rc5, rfl, rfl, rfl, L8⟩
                          · have h1 : (0 : Int) < (th2 : Int) := by omega
                            have h2 : decide ((0 : Int) < (th2 : Int)) = true := decide_eq_true h1
                            have HNO : Hid (NodW (outV st.line id)) := Lib.hid (nod_out HG.out.nod id)
                            go_wp2_with (first
                              | (go_at_call 18; (with_reducible refine (wakeO_W L8 HNO).mono ?_); rintro e w9 ⟨rfl, l9⟩; have L9 := Lib.hid l9; clear l9)
                              | fail)
                            go_meet
                            exact ⟨(ln - 1), gn + 1, ra8, rc8, ra5, rc5, rfl, rfl, rfl, Lib.hid (by simp only [if_neg h0]; exact L9.out)⟩
              · obtain rfl : sf = true := by rw [HSF.out]; simp
                clear HSF
                cases hst : stV st.line id with
                | none =>
                  obtain rfl := at_none HR.out hst
                  have HST := Lib.hid hst
                  clear hst HR
                  as_aux_lemma =>
                    have hx2 : errV st ⟨3, id⟩ = 3 := by unfold errV; simp only; rw [HST.out, if_neg (by omega), if_neg (by omega), if_neg (by simp), if_neg (by omega), if_neg (by omega), if_pos trivial, if_pos rfl]
                    have hs2' : stepV st ⟨3, id⟩ = st := by unfold stepV; rw [if_neg (by rw [hx2]; decide)]
                    rw [hx2] at hx
                    rw [hs2'] at hs2
                    subst hx hs2
                    clear hx2 hs2'
                    go_wp2_with fail
                    go_meet
                    exact ⟨ln, gn, _, lc, ga, gc, rfl, (by rw [HTH.out] <;> rfl), rfl, LW⟩
                | some y =>
                  obtain ⟨c, rfl, hc⟩ := at_some HG.out.nod HR.out hst
                  have hcl : c < ln := by rw [← LW.out.ll]; exact (List.getElem?_eq_some_iff.1 hc).1
                  obtain ⟨g0, off2, rfl, hb2, d0, d1⟩ := at_ow (Shape.At.own (S := shQ) LW.out.lo LW.out.ll) hc
                  obtain ⟨ad1, cap1, hv1, hnc, hcm, _, ha1⟩ := own_shape LW.out.lo
                  simp only [Value.slice.injEq, true_and] at hv1
                  obtain ⟨rfl, rfl⟩ := hv1
                  obtain ⟨g9, ee, _, _⟩ := ha1 _ rfl
                  cases ee
                  rw [Nat.zero_add] at d0 d1
                  simp only at d0 d1
                  have fz := own_froz LW.out.lo
                  have HC := Lib.hid hc
                  have HST := Lib.hid hst
                  have hc0 : (0 : Int) ≤ (c : Int) := by omega
                  have hc1 : (c : Int) < (ln : Int) := by omega
                  have hcd : decide ((0 : Int) ≤ (c : Int)) = true := decide_eq_true hc0
                  have hcn : ¬ (c : Int) < 0 := by omega
                  have hcn2 : decide ((c : Int) < 0) = false := decide_eq_false hcn
                  clear hst HR hc ha1
                  by_cases hy1 : y = 1
                  · subst hy1
                    have d1' : wo.cell? ⟨g0, c * 2 + 1, none⟩ = some (.int .i64 1) := d1
                    clear d1
                    as_aux_lemma =>
                      have hx2 : errV st ⟨3, id⟩ = 7 := by unfold errV; simp only; rw [if_neg (by omega), if_neg (by omega), if_pos ⟨Or.inr (Or.inr trivial), HST.out⟩]
                      have hs2' : stepV st ⟨3, id⟩ = st := by unfold stepV; rw [if_neg (by rw [hx2]; decide)]
                      rw [hx2] at hx
                      rw [hs2'] at hs2
                      subst hx hs2
                      clear hx2 hs2'
                      go_wp2_with fail
                      go_meet
                      exact ⟨ln, gn, _, lc, ga, gc, rfl, (by rw [HTH.out] <;> rfl), rfl, LW⟩
                  · have hyi : ¬ (y : Int) = 1 := by omega
                    have hyb : ((y : Int) == 1) = false := by simp; omega
                    have HNS : Hid (¬ stV st.line id = some 1 ∧ ¬ stV st.line id = none) := Lib.hid ⟨by rw [HST.out]; simpa using hy1, by rw [HST.out]; simp⟩
                    by_cases hy0 : y = 0
                    · subst hy0
                      have d1' : wo.cell? ⟨g0, c * 2 + 1, none⟩ = some (.int .i64 0) := d1
                      clear d1
                      by_cases h0 : th = 0
                      · subst h0
                        have hx2 : errV st ⟨3, id⟩ = 0 := by unfold errV; simp only; rw [if_neg (by omega), if_neg (by omega), if_neg (fun h => HNS.out.1 h.2), if_neg (by omega), if_neg (by omega), if_pos trivial, if_neg HNS.out.2]
                        have hs2' : stepV st ⟨3, id⟩ = ⟨putV st.line id 1, st.got, st.things⟩ := by rw [errW_step hx2, doV_3, HST.out, HTH.out, if_pos ⟨rfl, rfl⟩]
                        rw [hx2] at hx
                        rw [hs2'] at hs2
                        subst hx hs2
                        clear hx2 hs2'
                        have L4 := Lib.hid (LW.out.put HG.out.nod HC.out 1)
                        go_wp2_with fail
                        go_meet
                        exact ⟨ln, gn, _, lc, ga, gc, rfl, (by rw [HTH.out] <;> rfl), rfl, L4⟩
                      · have hthi : ¬ (th : Int) = 0 := by omega
                        have hthb : ((th : Int) == 0) = false := by simp; omega
                        as_aux_lemma =>
                          have hx2 : errV st ⟨3, id⟩ = 0 := by unfold errV; simp only; rw [if_neg (by omega), if_neg (by omega), if_neg (fun h => HNS.out.1 h.2), if_neg (by omega), if_neg (by omega), if_pos trivial, if_neg HNS.out.2]
                          have hs2' : stepV st ⟨3, id⟩ = st := by rw [errW_step hx2, doV_3, HST.out, HTH.out, if_neg (fun h => h0 h.2), ← HTH.out]
                          rw [hx2] at hx
                          rw [hs2'] at hs2
                          subst hx hs2
                          clear hx2 hs2'
                          go_wp2_with fail
                          go_meet
                          exact ⟨ln, gn, _, lc, ga, gc, rfl, (by rw [HTH.out] <;> rfl), rfl, LW⟩
                    · have hy0i : ¬ (y : Int) = 0 := by omega
                      have hy0b : ((y : Int) == 0) = false := by simp; omega
                      as_aux_lemma =>
                        have hx2 : errV st ⟨3, id⟩ = 0 := by unfold errV; simp only; rw [if_neg (by omega), if_neg (by omega), if_neg (fun h => HNS.out.1 h.2), if_neg (by omega), if_neg (by omega), if_pos trivial, if_neg HNS.out.2]
                        have hs2' : stepV st ⟨3, id⟩ = st := by rw [errW_step hx2, doV_3, HST.out, HTH.out, if_neg (fun h => hy0 (Option.some.inj h.1)), ← HTH.out]
                        rw [hx2] at hx
                        rw [hs2'] at hs2
                        subst hx hs2
                        clear hx2 hs2'
                        go_wp2_with fail
                        go_meet
                        exact ⟨ln, gn, _, lc, ga, gc, rfl, (by rw [HTH.out] <;> rfl), rfl, LW⟩
              · obtain rfl : sf = false := by rw [HSF.out]; simp
                clear HSF HR
                by_cases h400 : 400 ≤ th
                · have h400i : (400 : Int) ≤ (th : Int) := by omega
                  have h400d : decide ((400 : Int) ≤ (th : Int)) = true := decide_eq_true h400i
                  as_aux_lemma =>
                    have hx2 : errV st ⟨4, id⟩ = 4 := by unfold errV; simp only; rw [if_neg (by omega), if_neg (by omega), if_neg (by simp), if_neg (by omega), if_neg (by omega), if_neg (by omega), if_pos trivial, if_pos (by rw [HTH.out]; exact h400)]
                    have hs2' : stepV st ⟨4, id⟩ = st := by unfold stepV; rw [if_neg (by rw [hx2]; decide)]
                    rw [hx2] at hx
                    rw [hs2'] at hs2
                    subst hx hs2
                    clear hx2 hs2'
                    go_wp2_with fail
                    go_meet
                    exact ⟨ln, gn, _, lc, ga, gc, rfl, (by rw [HTH.out] <;> rfl), rfl, LW⟩
                · have h400i : ¬ (400 : Int) ≤ (th : Int) := by omega
                  have h400d : decide ((400 : Int) ≤ (th : Int)) = false := decide_eq_false h400i
                  as_aux_lemma =>
                    have hx2 : errV st ⟨4, id⟩ = 0 := by unfold errV; simp only; rw [if_neg (by omega), if_neg (by omega), if_neg (by simp), if_neg (by omega), if_neg (by omega), if_neg (by omega), if_pos trivial, if_neg (by rw [HTH.out]; exact h400)]
                    have hs2' : stepV st ⟨4, id⟩ = ⟨wakeV st.line, st.got, th + 1⟩ := by rw [errW_step hx2, doV_4, HTH.out]
                    rw [hx2] at hx
                    rw [hs2'] at hs2
                    subst hx hs2
                    clear hx2 hs2'
                    have hwt : IntKind.i64.wrap ((th : Int) + 1) = (th : Int) + 1 := by rw [IntKind.wrap_i64]; omega
                    have HNO : Hid (NodW st.line) := Lib.hid HG.out.nod
                    go_wp2_with (first
                      | (go_at_call 18; (with_reducible refine (wakeO_W LW HNO).mono ?_); rintro e w9 ⟨rfl, l9⟩; have L9 := Lib.hid l9; clear l9)
                      | fail)
                    go_meet
                    exact ⟨ln, gn, _, lc, ga, gc, rfl, rfl, rfl, L9⟩
              · obtain rfl : sf = false := by rw [HSF.out]; simp
                clear HSF HR
                as_aux_lemma =>
                  have hx2 : errV st ⟨5, id⟩ = 0 := by unfold errV; simp only; rw [if_neg (by omega), if_neg (by omega), if_neg (by simp), if_neg (by omega), if_neg (by omega), if_neg (by omega), if_neg (by omega)]
                  have hs2' : stepV st ⟨5, id⟩ = ⟨st.line.map fun q => (q.1, 2), st.got, st.things⟩ := by rw [errW_step hx2, doV_5]
                  rw [hx2] at hx
                  rw [hs2'] at hs2
                  subst hx hs2
                  clear hx2 hs2'
                  have LJ0 : Hid (LpO w wo X (wakesV 0 st.line) es st.got (.slice la ln lc) (.slice ea k ec) (.slice ga gn gc) ln k gn) := LW
                  have HLL := Lib.hid LW.out.ll
                  go_wp2_with fail
                  go_loopw [57] (fun i wq => ∃ j : Nat, j ≤ ln ∧ i = .int .i64 j ∧ Hid (LpO w wq X (wakesV j st.line) es st.got (.slice la ln lc) (.slice ea k ec) (.slice ga gn gc) ln k gn)) (fun i _ => ln - (intOf i).toNat)
                  case atStart => exact ⟨0, Nat.zero_le _, rfl, LJ0⟩
                  case round =>
                    obtain ⟨j, hjl, rfl, LJ⟩ := hrel
                    by_cases hlj : j < ln
                    · have HNO := Lib.hid (nod_wakes HG.out.nod j)
                      go_wp2_with (first
                        | (go_at_call 18; (with_reducible refine (wakeO_W LJ HNO).mono ?_); rintro e w9 ⟨rfl, l9⟩; have L9 := Lib.hid l9; clear l9)
                        | fail)
                      go_roundw
                      case rel => exact ⟨j + 1, by omega, by go_num, L9⟩
                      case measure => simp [intOf]; omega
                    · obtain rfl : j = ln := by omega
                      have he := wakes_all (l := st.line) (n := j) (by rw [HLL.out]; exact Nat.le_refl _)
                      rw [he] at LJ
                      clear hlj hjl he
                      go_wp2_with fail
                      go_meet
                      exact ⟨j, gn, la, lc, ga, gc, rfl, (by rw [HTH.out] <;> rfl), rfl, LJ⟩
            case rest =>
             as_aux_lemma =>
              obtain ⟨ln', gn', la', lc', ga', gc', rfl, rfl, rfl, L2⟩ := hcut
              clear hx hs2 HSF HR LQ OQ t0 t1 hol
              have BA : Below wc.heap.size wc (wc.alloc (.cells #[.int .i64 x] 28)) := below_alloc wc _
              have XA := Lib.hid (L2.out.step BA)
              have HE := Lib.hid L2.out.el
              have NA := Lib.hid (int_litE wc x 1)
              have hbs : w.heap.size ≤ (wc.alloc (.cells #[.int .i64 x] 28)).heap.size := XA.out.b.size
              clear BA
              go_wp2_with (first
                | (at_builtin; refine wpList_append_n shI rfl _ _ 23 rfl w.heap.size 28 j0 _ 8 Try.underlying23 hj hy0 hy1 hy2 rfl (.slice ea k ec) k es [x] HE rfl XA.out.eo (some ⟨wc.heap.size, 0, none⟩) 1 1 rfl (Lib.hid rfl) NA.out (by unfold maxLen; omega) (by omega) hbs ?_; intro ra4 rc4 w4 own4 grow4 _; have L4 := Lib.hid (XA.out.err (es' := es ++ [x]) own4 grow4 (by rw [List.length_append, HE.out]; rfl)); clear own4 grow4)
                | fail)
              go_roundw
              case rel => exact ⟨k + 1, ln', gn', la', lc', ra4, rc4, ga', gc', by omega, by go_num, rfl, rfl, by rw [HNR.out], Lib.hid (by rw [HNR.out, HNE.out]; exact L4.out)⟩
              case measure => simp [intOf]; omega
    · obtain rfl : k = n := by omega
      have et : ops.take k = ops := by rw [← hm.out, List.take_length]
      rw [et] at HL HG
      simp only [et]
      as_aux_lemma =>
        obtain ⟨st, hst⟩ : ∃ st, runV newV ops = st := ⟨_, rfl⟩
        rw [hst] at HL HG
        simp only [hst]
        have HST := Lib.hid hst
        obtain ⟨th, hth⟩ : ∃ th, st.things = th := ⟨_, rfl⟩
        simp only [hth]
        have HTH := Lib.hid hth
        have hlen := line_len HG.out
        rw [HL.out.ll] at hlen
        obtain ⟨cX, hXl, _⟩ := HL.out.cell
        have HA2 := Lib.hid (Shape.At.own (S := shQ) HL.out.lo HL.out.ll)
        have HLL := Lib.hid HL.out.ll
        have HGL := Lib.hid HL.out.gl
        have RE := Lib.hid (Shape.At.own (S := shI) HL.out.eo HL.out.el)
        have RG := Lib.hid (Shape.At.own (S := shI) HL.out.go HL.out.gl)
        have HB0 := Lib.hid HL.out.b
        clear hst et hth hlt hk HL
        go_wp2_with fail
        generalize wr = wo at *
        go_loopw [9, 196] (fun v i wq => ∃ (j m : Nat) (ra : Option Addr) (rc : Nat), j ≤ ln ∧ i = .int .i64 j ∧ v = .slice ra m rc ∧ Hid ((slpL (st.line.take j)).length = m) ∧ Hid (Below wo.heap.size wo wq) ∧ Hid (wq.ownsRow wo.heap.size 3 1 (.slice ra m rc) m (shI.flat (slpL (st.line.take j))))) (fun _ i _ => ln - (intOf i).toNat)
        case atStart => exact ⟨0, 0, none, 0, Nat.zero_le _, rfl, rfl, Lib.hid rfl, Lib.hid (Below.refl _ _), Lib.hid (World.ownsRow_nil _ _ _ _)⟩
        case round =>
          obtain ⟨j, m, ra, rc, hjl, rfl, rfl, HJ, HB, HO⟩ := hrel
          by_cases hlj : j < ln
          · obtain ⟨q, hq⟩ : ∃ q, st.line[j]? = some q := ⟨st.line[j]'(by rw [HLL.out]; exact hlj), List.getElem?_eq_getElem _⟩
            have hm64 : m ≤ 64 := by
              have h1 := slp_le (st.line.take j)
              rw [HJ.out, List.length_take] at h1
              omega
            have hnx := slp_next hq
            obtain ⟨b, off, rfl, hb, d0, d1⟩ := at_ow (HA2.out.step HB.out) hq
            obtain ⟨t, x⟩ := q
            simp only at d0 d1 hnx
            have BX := below_alloc wr (.cells #[.int .i64 t, .int .i64 (x : Nat)] 46)
            have B1 := Lib.hid (pstep HB.out BX)
            have O1 := Lib.hid (own_step HO.out BX)
            clear hq
            by_cases hx : x = 1
            · subst hx
              rw [if_pos rfl] at hnx
              have d1' : wr.cell? ⟨b, off + j * 2 + 1, none⟩ = some (.int .i64 1) := d1
              have HX := Lib.hid hnx
              have BX1 : Below wr.heap.size wr (wr.alloc (.cells #[.int .i64 t, .int .i64 1] 46)) := below_alloc wr _
              have BX2 := below_alloc (wr.alloc (.cells #[.int .i64 t, .int .i64 1] 46)) (.cells #[.int .i64 t] 3)
              have B2 := Lib.hid (pstep (pstep HB.out BX1) BX2)
              have O2 := Lib.hid (own_step (own_step HO.out BX1) BX2)
              have N2 := Lib.hid (int_lit (wr.alloc (.cells #[.int .i64 t, .int .i64 1] 46)) t 1)
              have hbs := B2.out.size
              clear d1 hnx BX BX1 BX2
              go_wp2_with (first
                | (at_builtin; refine wpList_append_n shI rfl _ _ 24 rfl wo.heap.size 3 k0 _ 8 Try.underlying24 hk0 ho0 ho1 ho2 rfl (.slice ra m rc) m (slpL (st.line.take j)) [t] HJ rfl O2.out (some ⟨(wr.alloc (.cells #[.int .i64 t, .int .i64 1] 46)).heap.size, 0, none⟩) 1 1 (by simp [Act.eval]) (Lib.hid rfl) N2.out (by unfold maxLen; omega) (by omega) hbs ?_; intro ra4 rc4 w4 own4 grow4 _; have B4 := Lib.hid (B2.out.grown grow4 B2.out.size (fun _ hk => (own_lt O2.out hk).1)); have O4 := Lib.hid own4; clear own4 grow4)
                | fail)
              go_roundw
              case rel => exact ⟨j + 1, m + 1, ra4, rc4, by omega, by go_num, rfl, Lib.hid (by rw [HX.out, List.length_append, HJ.out]; rfl), B4, Lib.hid (by rw [HX.out]; exact O4.out)⟩
              case measure => simp [intOf]; omega
            · rw [if_neg hx, List.append_nil] at hnx
              have hxi : ¬ (x : Int) = 1 := by omega
              have hxb : ((x : Int) == 1) = false := by simp; omega
              have HX := Lib.hid hnx
              clear hnx BX hx
              go_wp2_with fail
              go_roundw
              case rel => exact ⟨j + 1, m, ra, rc, by omega, by go_num, rfl, Lib.hid (by rw [HX.out]; exact HJ.out), B1, Lib.hid (by rw [HX.out]; exact O1.out)⟩
              case measure => simp [intOf]; omega
          · obtain rfl : j = ln := by omega
            have et : st.line.take j = st.line := by rw [← HLL.out, List.take_length]
            rw [et] at HJ HO
            clear hlj hjl et
            go_wp2_with fail
            refine bodyPost_ret (v := .tuple #[.slice ea k ec, .slice ga gn gc, .slice ra m rc, .int .i64 (th : Nat)]) (by simp [results, Try.results9, go_sem]) rfl ?_
            rw [HST.out]
            exact ⟨ea, ec, ga, gc, ra, rc, by rw [HGL.out, HJ.out, HTH.out], RE.out.step HB.out, RG.out.step HB.out, Shape.At.own (S := shI) HO.out HJ.out, pstep HB0.out HB.out⟩
end Go.Proofs.Ytghonbiiichedaa
