/- RunqTurns at arguments that ask for something. -/
import Derived.Test.YtgnpodeneknpdaaRTurns
namespace Go.Proofs.Ytgnpodeneknpdaa
open Go.RowKit

section
variable {a1 : Option Addr} {c1 n : Nat} {ids : List Int}
set_option maxHeartbeats 4000000 in
set_option maxRecDepth 100000 in
theorem turns_ok (lv : Int) (r : Nat) (w : World) (HA : Hid (shI.At w a1 c1 ids)) (hm : Hid (ids.length = n)) (hp : 0 < n) (hn : n ≤ 17592186043904) (HW : Hid (∀ x ∈ ids, WfI x)) {c : List Int} {m : Nat} (hc : Hid (Lib.compact (sortI ids) = c)) (hcm : Hid (c.length = m)) (hm0 : 0 < m) (hm20 : m ≤ 20) (hl0 : 0 ≤ lv) (hl1 : lv ≤ 31) (hr5 : r ≤ 5) :
    Calls Try.prog 6 #[.slice a1 n c1, .int .i64 lv, .int .i64 (r : Int)] w fun e w' => e = .returned (.bool true) ∧ Below w.heap.size w w' := by
  obtain ⟨i0, hi, hz0, hz1, hz2⟩ := info_parts info_ru
  obtain ⟨j0, hj, hy0, hy1, hy2⟩ := info_parts info_int
  have hn8 : n * 8 ≤ 140737488355328 := by omega
  have HSL : Hid ((sortI ids).length = n) := Lib.hid (by rw [sortI_len]; exact hm.out)
  have HCL : Hid ((Lib.compact (sortI ids)).length = m) := Lib.hid (by rw [hc.out]; exact hcm.out)
  have hcs := comp_sorted ids
  have hce : (Lib.compact (ids.mergeSort fun x y => decide (x ≤ y))) = c := hc.out
  rw [hce] at hcs
  have hnd : c.Pairwise fun x y => ¬ x = y := hcs.1.imp fun {a b} h e => by rw [e] at h; exact absurd h (Int.lt_irrefl _)
  have HWC : Hid (∀ x ∈ c, WfI x) := Lib.hid fun x hx => HW.out x ((hcs.2 x).1 hx)
  obtain ⟨ht1, ht2⟩ := turns_all ⟨hl0, hl1⟩ hnd r
  obtain ⟨ops, hops⟩ : ∃ ops, addsU lv c ++ turnsU lv c r = ops := ⟨_, rfl⟩
  rw [hops] at ht1 ht2
  obtain ⟨N, hN⟩ : ∃ N, m + 2 * m * r = N := ⟨_, rfl⟩
  have hmr : m * r ≤ 100 := Nat.le_trans (Nat.mul_le_mul hm20 hr5) (by decide)
  have hN2 : N ≤ 220 := by rw [← hN, Nat.mul_assoc]; omega
  have HML : Hid (ops.length = N) := Lib.hid (by rw [← hops, List.length_append, adds_len, turns_len, hcm.out, hN])
  have HWO : Hid (∀ o ∈ ops, WfI o.i) := Lib.hid (by
    intro o ho
    rw [← hops] at ho
    rcases List.mem_append.1 ho with ho | ho
    · exact wf_adds HWC.out o ho
    · exact wf_turns HWC.out r o ho)
  obtain ⟨s, hs⟩ : ∃ s, runU newU ops = s := ⟨_, rfl⟩
  rw [hs] at ht1 ht2
  obtain ⟨W, hW⟩ : ∃ W, m * r = W := ⟨_, rfl⟩
  have HTL : Hid (s.taken.length = W) := Lib.hid (by rw [ht1, want_len, hcm.out, hW])
  have HLL : Hid (s.list.length = m) := Lib.hid (by rw [← left_len, ht2, hcm.out])
  have HP := Lib.hid (fun (ra : Option Addr) (rc : Nat) X (HX : Hid (shR.At X ra rc ops)) => play_res HML (by omega) HWO (Lib.hid rfl) (Lib.hid hs) HTL HLL ra rc X HX)
  unfold PlayN at HP
  have HTK : Hid (s.taken = wantU c r) := Lib.hid ht1
  have HLF : Hid (leftU s = c) := Lib.hid ht2
  have HWL : Hid ((wantU c r).length = W) := Lib.hid (by rw [want_len, hcm.out, hW])
  have HOPS := Lib.hid hops
  have HNN := Lib.hid hN
  have HWW := Lib.hid hW
  have hWb : W ≤ 9223372036854775807 := by omega
  have hmb : m ≤ 9223372036854775807 := by omega
  have hlv0 : ¬ lv < 0 := by omega
  have hlv1 : ¬ 32 ≤ lv := by omega
  have hm00 : ¬ (m : Int) = 0 := by omega
  have hm01 : ((m : Int) == 0) = false := by simpa using hm00
  have hm3 : ¬ (20 : Int) < (m : Int) := by omega
  have hr0 : ¬ (r : Int) < 0 := by omega
  have hr1 : ¬ (5 : Int) < (r : Int) := by omega
  have HMR := Lib.hid hmr
  clear hcs hce hnd ht1 ht2 hops hN hs hW hmr
  go_enter Try.func6, Try.ntmps6
  go_upto_region 8 with (first
    | (go_at_call 13; (with_reducible refine (alive13_N _).mono ?_); rintro e w1 ⟨rfl, hb⟩; have B1 := Lib.hid hb; have A1 := Lib.hid (HA.out.step hb); clear hb; have BV := Lib.hid (below_alloc w1 (.cells #[.slice a1 n c1] 24)); have CV := one_at (heap_alloc_new w1 (.cells #[.slice a1 n c1] 24)); have LV : w1.heap.size < (w1.alloc (.cells #[.slice a1 n c1] 24)).heap.size := (by simp))
    | (go_at_call 21; (with_reducible refine (values_N _ _ _ _).mono ?_); rintro e w3 ⟨rfl, rfl⟩)
    | (go_at_call 20; (with_reducible refine (sorted_N w1.heap.size w1 _ A1 hm hp BV hn8 LV CV).mono ?_); rintro e w4 ⟨g, cc, rfl, ho, hb⟩; have O4 := Lib.hid ho; have B4 := Lib.hid (pstep B1.out (BV.out.trans (hb.mono BV.out.size))); clear ho hb)
    | (go_at_call 19; (with_reducible refine (compact_N _ HSL O4).mono ?_); rintro e w5 ⟨rfl, ha, hg, hbase⟩; rw [HCL.out]; rw [hc.out] at ha; have C5 := Lib.hid ha; have B5 := Lib.hid (B4.out.grown hg B4.out.size (fun k hk => by cases hk; have h1 := B1.out.size; have h2 := BV.out.size; omega)); clear ha hg hbase)
    | fail)
  clear O4 B4 BV CV LV A1 B1 HCL HSL
  go_loopw [7, 48] (fun v i wr => ∃ (k : Nat) (va : Option Addr) (vc : Nat), k ≤ m ∧ i = .int .i64 k ∧ v = .slice va k vc ∧ Hid (wr.ownsRow w5.heap.size 34 3 (.slice va k vc) k (shR.flat (addsU lv (c.take k)))) ∧ Hid (Below w5.heap.size w5 wr)) (fun _ i _ => m - (intOf i).toNat)
  case atStart => exact ⟨0, none, 0, Nat.zero_le _, rfl, rfl, Lib.hid (World.ownsRow_nil _ _ _ _), Lib.hid (Below.refl _ _)⟩
  case round =>
    obtain ⟨k, va, vc, hk, rfl, rfl, HO, HB⟩ := hrel
    by_cases hlt : k < m
    · obtain ⟨x, hx⟩ : ∃ x, c[k]? = some x := ⟨c[k]'(by rw [hcm.out]; exact hlt), List.getElem?_eq_getElem _⟩
      have HNX := Lib.hid (adds_next (l := lv) hx)
      obtain ⟨b, off, ee, hb, e0⟩ := at_int C5.out hx
      cases ee
      have g0 := (HB.out.cell (p := ⟨g, 0 + k, none⟩) hb).trans e0
      rw [Nat.zero_add] at g0
      have hgr : g < wr.heap.size := Nat.lt_of_lt_of_le hb HB.out.size
      have HAL : Hid ((addsU lv (c.take k)).length = k) := Lib.hid (by rw [adds_len, List.length_take, hcm.out]; omega)
      have BA := below_alloc wr (.cells #[.int .i64 1, .int .i64 x, .int .i64 lv] 34)
      have O3 := Lib.hid (own_step HO.out BA)
      have N3 := Lib.hid (ru_oneAt wr ⟨1, x, lv⟩ 1)
      have B3 := Lib.hid (HB.out.trans (BA.mono HB.out.size))
      have hs3 : w5.heap.size ≤ (wr.alloc (.cells #[.int .i64 1, .int .i64 x, .int .i64 lv] 34)).heap.size := B3.out.size
      clear BA e0 hx hb
      go_wp2_with (first
        | (at_builtin; refine wpList_append_n shR rfl _ _ 22 rfl w5.heap.size 34 i0 _ 24 Try.underlying22 hi hz0 hz1 hz2 rfl (.slice va k vc) k (addsU lv (c.take k)) [⟨1, x, lv⟩] HAL rfl O3.out (some ⟨wr.heap.size, 0, none⟩) 1 1 rfl (Lib.hid rfl) N3.out (by unfold maxLen; omega) (by omega) hs3 ?_; intro ra4 rc4 w4 own4 grow4 _; have B4 := Lib.hid (B3.out.grown grow4 B3.out.size (fun _ hq => (own_lt O3.out hq).1)); rw [← HNX.out] at own4; have O4 := Lib.hid own4; clear own4 grow4)
        | fail)
      go_roundw
      case rel => exact ⟨k + 1, ra4, rc4, by omega, by go_num, rfl, O4, B4⟩
      case measure => simp [intOf]; omega
    · obtain rfl : k = m := by omega
      have ek : c.take k = c := by rw [← hcm.out, List.take_length]
      rw [ek] at HO
      clear hlt hk ek
      go_upto_region 14 with fail
      go_loopw [7, 10, 60] (fun v u i wq => ∃ (q nv nu : Nat) (va : Option Addr) (vc : Nat) (ua : Option Addr) (uc : Nat), q ≤ r ∧ i = .int .i64 q ∧ v = .slice va nv vc ∧ u = .slice ua nu uc ∧ nv = k + 2 * k * q ∧ nu = k * q ∧ Hid (wq.ownsRow w5.heap.size 34 3 (.slice va nv vc) nv (shR.flat (addsU lv c ++ turnsU lv c q))) ∧ Hid (wq.ownsRow w5.heap.size 3 1 (.slice ua nu uc) nu (shI.flat (wantU c q))) ∧ Hid (Below w5.heap.size w5 wq)) (fun _ _ i _ => r - (intOf i).toNat)
      case atStart => exact ⟨0, k, 0, va, vc, none, 0, Nat.zero_le _, rfl, rfl, rfl, by simp, by simp, by rw [show turnsU lv c 0 = [] from rfl, List.append_nil]; exact HO, Lib.hid (World.ownsRow_nil _ _ _ _), HB⟩
      case round =>
        obtain ⟨q, nv, nu, va, vc, ua, uc, hq, rfl, rfl, rfl, hnv, hnu, HV, HU, HBq⟩ := hrel
        have HNV := Lib.hid hnv
        have HNU := Lib.hid hnu
        clear hnv hnu HO HB
        by_cases hlq : q < r
        · have hq5 : q ≤ 4 := by omega
          have hkq : k * q ≤ 80 := Nat.le_trans (Nat.mul_le_mul hm20 hq5) (by decide)
          have hnv2 : nv ≤ 180 := by have := HNV.out; rw [Nat.mul_assoc] at this; omega
          have hnu2 : nu ≤ 80 := by have := HNU.out; omega
          clear hkq
          go_upto_region 16 with fail
          generalize wr = wo at HV HU HBq ⊢
          go_loopw [7, 10, 64] (fun v u i wp => ∃ (t nv' nu' : Nat) (va : Option Addr) (vc : Nat) (ua : Option Addr) (uc : Nat), t ≤ k ∧ i = .int .i64 t ∧ v = .slice va nv' vc ∧ u = .slice ua nu' uc ∧ nv' = nv + 2 * t ∧ nu' = nu + t ∧ Hid (wp.ownsRow w5.heap.size 34 3 (.slice va nv' vc) nv' (shR.flat (addsU lv c ++ turnsU lv c q ++ turnU lv (c.take t)))) ∧ Hid (wp.ownsRow w5.heap.size 3 1 (.slice ua nu' uc) nu' (shI.flat (wantU c q ++ c.take t))) ∧ Hid (Below w5.heap.size w5 wp)) (fun _ _ i _ => k - (intOf i).toNat)
          case atStart => exact ⟨0, nv, nu, va, vc, ua, uc, Nat.zero_le _, rfl, rfl, rfl, rfl, rfl, by rw [List.take_zero, show turnU lv [] = [] from rfl, List.append_nil]; exact HV, by rw [List.take_zero, List.append_nil]; exact HU, HBq⟩
          case round =>
            obtain ⟨t, nv', nu', va', vc', ua', uc', ht, rfl, rfl, rfl, hnv', hnu', HV', HU', HBp⟩ := hrel
            have hb1 : nv' ≤ 220 := by omega
            have hb2 : nu' ≤ 100 := by omega
            have HNV' := Lib.hid hnv'
            have HNU' := Lib.hid hnu'
            clear hnv' hnu' HV HU HBq
            by_cases hlt2 : t < k
            · obtain ⟨x, hx⟩ : ∃ x, c[t]? = some x := ⟨c[t]'(by rw [hcm.out]; exact hlt2), List.getElem?_eq_getElem _⟩
              have HNX : Hid (addsU lv c ++ turnsU lv c q ++ turnU lv (c.take (t + 1)) = addsU lv c ++ turnsU lv c q ++ turnU lv (c.take t) ++ [⟨3, 0, 0⟩, ⟨1, x, lv⟩]) := Lib.hid (by rw [turn_next hx, ← List.append_assoc])
              have HNW : Hid (wantU c q ++ c.take (t + 1) = wantU c q ++ c.take t ++ [x]) := Lib.hid (by rw [take_next hx, ← List.append_assoc])
              obtain ⟨b, off, ee, hb, e0⟩ := at_int C5.out hx
              cases ee
              have g0 := (HBp.out.cell (p := ⟨g, 0 + t, none⟩) hb).trans e0
              rw [Nat.zero_add] at g0
              obtain ⟨L1, hL1⟩ : ∃ L1, addsU lv c ++ turnsU lv c q ++ turnU lv (c.take t) = L1 := ⟨_, rfl⟩
              obtain ⟨L2, hL2⟩ : ∃ L2, wantU c q ++ c.take t = L2 := ⟨_, rfl⟩
              rw [hL1] at HV' HNX
              rw [hL2] at HU' HNW
              have HLV : Hid (L1.length = nv') := Lib.hid (by rw [← hL1, List.length_append, List.length_append, adds_len, turns_len, turn_len, List.length_take, hcm.out, Nat.min_eq_left ht]; have := HNV.out; have := HNV'.out; omega)
              have HLU : Hid (L2.length = nu') := Lib.hid (by rw [← hL2, List.length_append, want_len, List.length_take, hcm.out, Nat.min_eq_left ht]; have := HNU.out; have := HNU'.out; omega)
              obtain ⟨wp0, hwp0⟩ : ∃ wp0, wr = wp0 := ⟨_, rfl⟩
              have BA := below_alloc wr (.cells #[.int .i64 3, .int .i64 0, .int .i64 0, .int .i64 1, .int .i64 x, .int .i64 lv] 34)
              have O3 := Lib.hid (own_step HV'.out BA)
              have U3 := Lib.hid (own_step HU'.out BA)
              have N3 := Lib.hid (ru_two wr ⟨3, 0, 0⟩ ⟨1, x, lv⟩ 2)
              have B3 := Lib.hid (HBp.out.trans (BA.mono HBp.out.size))
              have hgr : g < wr.heap.size := Nat.lt_of_lt_of_le hb HBp.out.size
              have hs3 : w5.heap.size ≤ (wr.alloc (.cells #[.int .i64 3, .int .i64 0, .int .i64 0, .int .i64 1, .int .i64 x, .int .i64 lv] 34)).heap.size := B3.out.size
              clear BA e0 hx hb hwp0 hL1 hL2
              go_wp2_with (first
                | (at_builtin; refine wpList_append_n shR rfl _ _ 22 rfl w5.heap.size 34 i0 _ 24 Try.underlying22 hi hz0 hz1 hz2 rfl (.slice va' nv' vc') nv' L1 [⟨3, 0, 0⟩, ⟨1, x, lv⟩] HLV rfl O3.out (some ⟨wr.heap.size, 0, none⟩) 2 2 rfl (Lib.hid rfl) N3.out (by unfold maxLen; omega) (by omega) hs3 ?_; intro ra4 rc4 w4 own4 grow4 _; have B4 := Lib.hid (B3.out.grown grow4 B3.out.size (fun _ hq => (own_lt O3.out hq).1)); have U4' := own_heap U3.out (fun g' o hgo ho => (grow4.block g' (heap_lt ho) (fun e => own_apart2 U3.out O3.out (by decide) g' hgo e.symm)).trans ho); rw [← HNX.out] at own4; have O4 := Lib.hid own4; have BX := below_alloc w4 (.cells #[.int .i64 x] 3); have O5 := Lib.hid (own_step own4 BX); have U5 := Lib.hid (own_step U4' BX); have B5' := Lib.hid (B4.out.trans (BX.mono B4.out.size)); have N5 := Lib.hid (int_lit w4 x 1); have hs5 : w5.heap.size ≤ (w4.alloc (.cells #[.int .i64 x] 3)).heap.size := B5'.out.size; clear own4 grow4 U4' BX)
                | (at_builtin; refine wpList_append_n shI rfl _ _ 24 rfl w5.heap.size 3 j0 _ 8 Try.underlying24 hj hy0 hy1 hy2 rfl (.slice ua' nu' uc') nu' L2 [x] HLU rfl U5.out (some ⟨w4.heap.size, 0, none⟩) 1 1 rfl (Lib.hid rfl) N5.out (by unfold maxLen; omega) (by omega) hs5 ?_; intro ra6 rc6 w6 own6 grow6 _; have B6 := Lib.hid (B5'.out.grown grow6 B5'.out.size (fun _ hq => (own_lt U5.out hq).1)); have O6 := Lib.hid (own_heap O5.out (fun g' o hgo ho => (grow6.block g' (heap_lt ho) (fun e => own_apart2 O5.out U5.out (by decide) g' hgo e.symm)).trans ho)); rw [← HNW.out] at own6; have U6 := Lib.hid own6; clear own6 grow6)
                | fail)
              go_roundw
              case rel => exact ⟨t + 1, nv' + 2, nu' + 1, ra4, rc4, ra6, rc6, by omega, by go_num, rfl, rfl, by have := HNV'.out; omega, by have := HNU'.out; omega, O6, U6, B6⟩
              case measure => simp [intOf]; omega
            · obtain rfl : t = k := by omega
              have ek : c.take t = c := by rw [← hcm.out, List.take_length]
              rw [ek] at HV' HU'
              clear hlt2 ht ek
              go_wp2_with fail
              go_roundw
              case rel =>
                refine ⟨q + 1, nv', nu', va', vc', ua', uc', by omega, by go_num, rfl, rfl, ?_, ?_, ?_, ?_, HBp⟩
                · rw [HNV'.out, HNV.out, Nat.mul_succ]; omega
                · rw [HNU'.out, HNU.out, Nat.mul_succ]
                · rw [turnsU, ← List.append_assoc]; exact HV'
                · rw [wantU]; exact HU'
              case measure => simp [intOf]; omega
        · obtain rfl : q = r := by omega
          rw [HOPS.out] at HV
          have hnn : nv = N := by rw [HNV.out, HNN.out]
          have huu : nu = W := by rw [HNU.out, HWW.out]
          subst hnn huu
          have PV := Lib.hid (Shape.At.own (S := shR) HV.out HML.out)
          have PU := Lib.hid (Shape.At.own (S := shI) HU.out HWL.out)
          have CQ := Lib.hid (C5.out.step HBq.out)
          have BQ := Lib.hid (pstep B5.out HBq.out)
          clear hlq hq HV HU HBq
          go_wp2_with (first
            | (go_at_call 9; (with_reducible refine (HP.out _ _ _ PV).mono ?_); rintro e w6 ⟨E, ta, tc, la, lc, rfl, _, hT, hL, hb⟩; rw [HTK.out] at hT; rw [HLF.out] at hL; have B6 := Lib.hid (pstep BQ.out hb); have T6 := Lib.hid hT; have L6 := Lib.hid hL; have U6 := Lib.hid (PU.out.step hb); have C6 := Lib.hid (CQ.out.step hb); clear hb hT hL)
            | (go_at_call 12; (with_reducible refine (equalI _ HWL T6 U6 hWb).mono ?_); rintro e w7 ⟨rfl, hb⟩; have B7 := Lib.hid (pstep B6.out hb); have L7 := Lib.hid (L6.out.step hb); have C7 := Lib.hid (C6.out.step hb); clear hb)
            | (go_at_call 12; (with_reducible refine (equalI _ hcm L7 C7 hmb).mono ?_); rintro e w8 ⟨rfl, hb⟩; have B8 := Lib.hid (pstep B7.out hb); clear hb)
            | fail)
          go_ret
          exact ⟨rfl, B8.out⟩
end
theorem comp_pos {ids : List Int} (h : 0 < ids.length) : 0 < (Lib.compact (sortI ids)).length := by
  cases hq : ids with
  | nil => rw [hq] at h; cases h
  | cons a r =>
    have := ((comp_sorted ids).2 a).2 (by rw [hq]; exact List.mem_cons_self)
    rw [← hq]
    exact List.length_pos_of_mem this
theorem runqTurns_walk (v v1 v2 : Value) (w : World) (h : ArgIds w v) (h1 : ArgInt w v1) (h2 : ArgInt w v2) (u : lenOf v ≤ 17592186043904) : Calls Try.prog 6 #[v, v1, v2] w fun e w' => e = .returned (.bool true) ∧ Below w.heap.size w w' := by
  obtain ⟨a1, c1, l, rfl, hA, hwf, _, _⟩ := h
  obtain ⟨lv, rfl, _⟩ := h1
  obtain ⟨rd, rfl, _⟩ := h2
  have u' : l.length ≤ 17592186043904 := u
  by_cases h0 : l.length = 0
  · rw [h0]
    exact turns_nil lv rd w (Lib.hid hA) (Lib.hid h0)
  · have hp : 0 < l.length := by omega
    have hcp := comp_pos hp
    have hcl := comp_len (sortI l)
    rw [sortI_len] at hcl
    by_cases hb : BadT (Lib.compact (sortI l)).length lv rd
    · exact turns_bad lv rd w (Lib.hid hA) (Lib.hid rfl) hp u' (Lib.hid rfl) (Lib.hid rfl) hcp (by omega) hb
    · unfold BadT at hb
      have hb' : 0 ≤ lv ∧ lv ≤ 31 ∧ 0 < (Lib.compact (sortI l)).length ∧ (Lib.compact (sortI l)).length ≤ 20 ∧ 0 ≤ rd ∧ rd ≤ 5 := Decidable.not_not.1 hb
      obtain ⟨r, rfl⟩ : ∃ r : Nat, rd = (r : Int) := ⟨rd.toNat, by omega⟩
      exact turns_ok lv r w (Lib.hid hA) (Lib.hid rfl) hp u' (Lib.hid hwf) (Lib.hid rfl) (Lib.hid rfl) hcp hb'.2.2.2.1 hb'.1 hb'.2.1 (by omega)
end Go.Proofs.Ytgnpodeneknpdaa
