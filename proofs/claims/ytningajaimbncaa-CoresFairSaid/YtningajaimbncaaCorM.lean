/- CoresFair: slices.Max and Min of numbers; the walk. -/
import Derived.Test.YtningajaimbncaaCorK
import Derived.Test.YtningajaimbncaaCorO
import Derived.Test.YtningajaimbncaaCoresQ
import Derived.Test.YtningajaimbncaaCoresR
import Derived.Test.YtningajaimbncaaRep3
namespace Go.Proofs.Ytningajaimbncaa
open Go.RowKit

set_option maxHeartbeats 1000000 in
set_option maxRecDepth 100000 in
theorem max_W {ad : Option Addr} {cap n : Nat} {f : Nat → Int} (w : World) (HA : Hid (IntAt w ad cap n f)) (h1 : 1 ≤ n) (hn : n ≤ 1000) :
    Calls Try.prog 18 #[.slice ad n cap] w fun e w' => (∃ (M : Int) (i : Nat), i < n ∧ f i = M ∧ e = .returned (.int .i64 M)) ∧ w' = w := by
  obtain ⟨b, off, rfl, _, c0⟩ := HA.out.get h1
  rw [Nat.add_zero] at c0
  have g1 : ¬ (n : Int) < 1 := by omega
  obtain ⟨x, hx⟩ : ∃ x, f 0 = x := ⟨_, rfl⟩
  rw [hx] at c0
  have HX := Lib.hid hx
  clear hx
  go_enter Try.func18, Try.ntmps18
  go_wp2_with fail
  go_loopw [3, 4] (fun x i wr => ∃ (k j : Nat) (v : Int), 1 ≤ k ∧ k ≤ n ∧ i = .int .i64 k ∧ x = .int .i64 v ∧ j < n ∧ Hid (f j = v) ∧ wr = w) (fun _ i _ => n - (intOf i).toNat)
  case atStart => exact ⟨1, 0, x, Nat.le_refl _, h1, rfl, rfl, h1, HX, rfl⟩
  case round =>
    clear c0 HX
    obtain ⟨k, j, v, hk1, hk, rfl, rfl, hj, HV, rfl⟩ := hrel
    by_cases hlt : k < n
    · obtain ⟨b', off', e, _, ck⟩ := HA.out.get hlt
      cases e
      obtain ⟨y, hy⟩ : ∃ y, f k = y := ⟨_, rfl⟩
      rw [hy] at ck
      have HY := Lib.hid hy
      obtain ⟨z, hz⟩ : ∃ z, max v y = z := ⟨_, rfl⟩
      have HZ := Lib.hid hz
      clear hy
      go_wp2_with fail
      go_roundw
      case rel =>
        have h := HZ.out
        by_cases q : y ≤ v
        · exact ⟨k + 1, j, z, by omega, by omega, by go_num, rfl, hj, Lib.hid (by rw [HV.out, ← h]; omega), trivial⟩
        · exact ⟨k + 1, k, z, by omega, by omega, by go_num, rfl, hlt, Lib.hid (by rw [HY.out, ← h]; omega), trivial⟩
      case measure => simp [intOf]; omega
    · obtain rfl : k = n := by omega
      clear hlt hk
      go_wp2_with fail
      go_ret
      exact ⟨⟨v, j, hj, HV.out, rfl⟩, rfl⟩
set_option maxHeartbeats 1000000 in
set_option maxRecDepth 100000 in
theorem min_W {ad : Option Addr} {cap n : Nat} {f : Nat → Int} (w : World) (HA : Hid (IntAt w ad cap n f)) (h1 : 1 ≤ n) (hn : n ≤ 1000) :
    Calls Try.prog 19 #[.slice ad n cap] w fun e w' => (∃ (M : Int) (i : Nat), i < n ∧ f i = M ∧ e = .returned (.int .i64 M)) ∧ w' = w := by
  obtain ⟨b, off, rfl, _, c0⟩ := HA.out.get h1
  rw [Nat.add_zero] at c0
  have g1 : ¬ (n : Int) < 1 := by omega
  obtain ⟨x, hx⟩ : ∃ x, f 0 = x := ⟨_, rfl⟩
  rw [hx] at c0
  have HX := Lib.hid hx
  clear hx
  go_enter Try.func19, Try.ntmps19
  go_wp2_with fail
  go_loopw [3, 4] (fun x i wr => ∃ (k j : Nat) (v : Int), 1 ≤ k ∧ k ≤ n ∧ i = .int .i64 k ∧ x = .int .i64 v ∧ j < n ∧ Hid (f j = v) ∧ wr = w) (fun _ i _ => n - (intOf i).toNat)
  case atStart => exact ⟨1, 0, x, Nat.le_refl _, h1, rfl, rfl, h1, HX, rfl⟩
  case round =>
    clear c0 HX
    obtain ⟨k, j, v, hk1, hk, rfl, rfl, hj, HV, rfl⟩ := hrel
    by_cases hlt : k < n
    · obtain ⟨b', off', e, _, ck⟩ := HA.out.get hlt
      cases e
      obtain ⟨y, hy⟩ : ∃ y, f k = y := ⟨_, rfl⟩
      rw [hy] at ck
      have HY := Lib.hid hy
      obtain ⟨z, hz⟩ : ∃ z, min v y = z := ⟨_, rfl⟩
      have HZ := Lib.hid hz
      clear hy
      go_wp2_with fail
      go_roundw
      case rel =>
        have h := HZ.out
        by_cases q : v ≤ y
        · exact ⟨k + 1, j, z, by omega, by omega, by go_num, rfl, hj, Lib.hid (by rw [HV.out, ← h]; omega), trivial⟩
        · exact ⟨k + 1, k, z, by omega, by omega, by go_num, rfl, hlt, Lib.hid (by rw [HY.out, ← h]; omega), trivial⟩
      case measure => simp [intOf]; omega
    · obtain rfl : k = n := by omega
      clear hlt hk
      go_wp2_with fail
      go_ret
      exact ⟨⟨v, j, hj, HV.out, rfl⟩, rfl⟩
/-- Equal threads that all came at once. -/
def alikeT (m : Nat) : List ThT := List.replicate m ⟨0, 0, 10000⟩
theorem alike_get {m k : Nat} (hk : k < m) : (alikeT m).getD k ⟨0, 0, 0⟩ = ⟨0, 0, 10000⟩ := by
  unfold alikeT
  simp [List.getD, hk]
theorem alike_run {m c sl : Nat} (t : Nat) : (thN (alikeT m) c sl).runN t = (fairT m c sl).runN t := by
  have hm : (thN (alikeT m) c sl).m = m := by show (alikeT m).length = m; unfold alikeT; simp
  have h : OwnN (fairT m c sl) (thN (alikeT m) c sl) 0 (fun i => i) := by
    refine ⟨rfl, rfl, fun i hi => ?_, fun i hi => ?_, fun i hi => ?_, ?_, fun _ _ => by show (0 : Nat) < 32; decide⟩
    · rw [hm] at hi; show ((alikeT m).getD i ⟨0, 0, 0⟩).c.toNat = 0; rw [alike_get hi]; rfl
    · rw [hm] at hi; show ((alikeT m).getD i ⟨0, 0, 0⟩).l.toNat = 0; rw [alike_get hi]; rfl
    · rw [hm] at hi; show ((alikeT m).getD i ⟨0, 0, 0⟩).w.toNat = 10000; rw [alike_get hi]; rfl
    · rw [hm, List.map_id']
      exact List.filter_eq_self.2 fun k _ => by simp
  have e := alone_run h t
  rw [List.map_id'] at e
  rw [← e]
  exact List.filter_eq_self.2 fun k _ => by simp
theorem alike_cnt {m c sl : Nat} (k : Nat) : ∀ t, cntN (thN (alikeT m) c sl) k t = cntN (fairT m c sl) k t
  | 0 => rfl
  | t + 1 => by rw [cntN, cntN, alike_cnt k t, alike_run]
theorem alike_fair {m c sl n : Nat} (hsl : 0 < sl) (hn : n ≤ 2000) {x y : Nat} (hx : x < m) (hy : y < m) : ((cntN (thN (alikeT m) c sl) x n : Nat) : Int) - ((cntN (thN (alikeT m) c sl) y n : Nat) : Int) ≤ (sl : Nat) := by
  rw [alike_cnt, alike_cnt]
  have := fair_all (m := m) (c := c) hsl (t := n) (by omega) hx hy
  omega
set_option maxHeartbeats 2000000 in
set_option maxRecDepth 100000 in
theorem fair_W (c sl mn tk : Int) (w : World) :
    Calls Try.prog 5 #[.int .i64 c, .int .i64 sl, .int .i64 mn, .int .i64 tk] w fun e w' => e = .returned (.bool true) ∧ Below w.heap.size w w' := by
  obtain ⟨i0, hi, hz0, hz1, hz2⟩ := info_parts info_int
  by_cases hmn : 1 ≤ mn ∧ mn ≤ 64
  · obtain ⟨hmn1, hmn2⟩ := hmn
    by_cases htk : 0 ≤ tk ∧ tk ≤ 2000
    · obtain ⟨htk1, htk2⟩ := htk
      obtain ⟨m, rfl⟩ : ∃ m : Nat, mn = m := ⟨mn.toNat, by omega⟩
      obtain ⟨n, rfl⟩ : ∃ n : Nat, tk = n := ⟨tk.toNat, by omega⟩
      have hm1 : 1 ≤ m := by omega
      have hm64 : m ≤ 64 := by omega
      have hn2 : n ≤ 2000 := by omega
      have q1 : ¬ (m : Int) < 1 := by omega
      have q2 : ¬ (64 : Int) < (m : Int) := by omega
      have q3 : ¬ (n : Int) < 0 := by omega
      have q4 : ¬ (2000 : Int) < (n : Int) := by omega
      have HLT : Hid ((alikeT m).length = m) := Lib.hid (by unfold alikeT; simp)
      have hm9 : m ≤ 9223372036854775807 := by omega
      have hb0 : i0.bytes * m ≤ 281474976710656 := by rw [hz2]; omega
      have hmk : m ≤ maxLen := by unfold maxLen; omega
      clear hmn1 hmn2 htk1 htk2
      by_cases hok : wrongN c sl (alikeT m) = 0
      · obtain ⟨c', sl', rfl, rfl, hO⟩ := wrong_ok hok
        have HOK := Lib.hid hO
        have hs0 : 0 < sl' := hO.s1
        have HLEV := Lib.hid hO.lev
        have HTM : Hid ((thN (alikeT m) c' sl').m = m) := HLT
        clear hok hO
        go_enter Try.func5, Try.ntmps5
        go_wp2_with (first
          | (go_at_call 15; (with_reducible refine (alive14_N _).mono ?_); rintro e w1 ⟨rfl, hb⟩; have bx := below_alloc w1 (.cells #[.int .i64 0, .int .i64 0, .int .i64 10000] 35); have HB1 := Lib.hid (pstep hb bx); have X1 : Hid (shT.At (w1.alloc (.cells #[.int .i64 0, .int .i64 0, .int .i64 10000] 35)) (some ⟨w1.heap.size, 0, none⟩) 1 [⟨0, 0, 10000⟩]) := Lib.hid (Shape.At.lit (S := shT) [⟨0, 0, 10000⟩] (heap_alloc_new w1 _)); clear hb bx)
          | (go_at_call 17; (with_reducible refine (repeat_T ⟨0, 0, 10000⟩ m hm1 hm64 _ X1).mono ?_); rintro e wb ⟨H, rfl, hA, hb⟩; have HAR : Hid (shT.At wb (some ⟨H, 0, none⟩) m (alikeT m)) := (Lib.hid hA); have HB2 := Lib.hid (pstep HB1.out hb); clear hA hb)
          | (go_at_call 8; (with_reducible refine (run_ok n _ HAR HLT HOK hn2).mono ?_); rintro e w2 ⟨E, rfl, hR, hb2⟩; have HR := Lib.hid hR; have HB3 := Lib.hid (pstep HB2.out hb2); clear hR hb2)
          | (at_make; refine wpList_make_full _ rfl _ _ 29 rfl w2.heap.size 3 i0 _ 1 Try.underlying29 hi hz0 hz1 .i64 .i64 _ _ m rfl rfl rfl rfl hb0 hmk (Nat.le_refl _) ?_; intro w3 hown hgrow)
          | fail)
        have L0 : LpC w2 w3 w2.heap.size m (fun k => ((cntN (thN (alikeT m) c' sl') k 0 : Nat) : Int)) := ⟨(Below.refl w2.heap.size w2).grown hgrow (Nat.le_refl _) (fun k hk => by cases hk), (RowZ.made (by rw [Nat.mul_one] at hown; exact hown)).congr (fun i _ => rfl), Nat.le_refl _⟩
        have L1 := Lib.hid L0
        have HFA := Lib.hid (fun (x y : Nat) (hx : x < m) (hy : y < m) => alike_fair (m := m) (c := c') (n := n) hs0 hn2 hx hy)
        obtain ⟨T, hTT⟩ : ∃ T, thN (alikeT m) c' sl' = T := ⟨_, rfl⟩
        rw [hTT] at HR HLEV HTM L1 HFA
        clear L0 hown hgrow hTT HB2 HB1 X1 HAR
        generalize w2.heap.size = B at L1 ⊢
        go_wp2_with fail
        go_loopw [49] (fun i wr => ∃ t : Nat, t ≤ n ∧ i = .int .i64 t ∧ Hid (LpC w2 wr B m (fun k => ((cntN T k t : Nat) : Int)))) (fun i _ => n - (intOf i).toNat)
        case atStart => exact ⟨0, Nat.zero_le _, rfl, L1⟩
        case round =>
          clear L1
          obtain ⟨t, ht, rfl, L⟩ := hrel
          by_cases hlt : t < n
          · obtain ⟨b, off, ra, rc, hEb, hbl, e0, hA⟩ := HR.out.2 t hlt
            simp only [Option.some.injEq, Addr.mk.injEq, and_true] at hEb
            obtain ⟨rfl, rfl⟩ := hEb
            have e1 := (L.out.b.cell (p := ⟨E, 0 + t, none⟩) hbl).trans e0
            have hbr : E < wr.heap.size := Nat.lt_of_lt_of_le hbl L.out.b.size
            rw [Nat.zero_add] at e1
            obtain ⟨rl, hrl⟩ : ∃ rl, (rowN T t).length = rl := ⟨_, rfl⟩
            rw [hrl] at e1
            have HRL := Lib.hid hrl
            have HAR2 := Lib.hid hA
            have hrl64 : rl ≤ 64 := by
              rw [← hrl, rowN_len]
              exact Nat.le_trans (nod_len (run_nod HLEV.out t) fun k hk => (run_ready HLEV.out t k hk).1) (by have := HTM.out; omega)
            clear hA hrl e0 hbl
            go_wp2_with fail
            obtain ⟨wo, rfl⟩ : ∃ wo : World, wo = wr := ⟨_, rfl⟩
            go_loopw [55] (fun i wr => ∃ q : Nat, q ≤ rl ∧ i = .int .i64 q ∧ Hid (LpC w2 wr B m (cntT T t q))) (fun i _ => rl - (intOf i).toNat)
            case atStart => exact ⟨0, Nat.zero_le _, rfl, Lib.hid (L.out.congr fun i _ => cntT_zero T t i)⟩
            case round =>
              clear e1 hbr L
              obtain ⟨q, hq, rfl, L⟩ := hrel
              by_cases hlt2 : q < rl
              · obtain ⟨x, hx⟩ : ∃ x, (rowN T t)[q]? = some x := ⟨(rowN T t)[q]'(by rw [HRL.out]; exact hlt2), List.getElem?_eq_getElem _⟩
                obtain ⟨k, rfl, _, hkm⟩ := row_mem HLEV.out hx
                rw [HTM.out] at hkm
                obtain ⟨b2, o2, rfl, hb2, e2⟩ := at_int (HAR2.out.step L.out.b) hx
                have HXX := Lib.hid (cntT_next hx)
                have c0 := L.out.r.cell hkm
                have f0 := L.out.r.frozen k
                have hBl := L.out.r.lt
                obtain ⟨v, hv⟩ : ∃ v, cntT T t q k = v := ⟨_, rfl⟩
                have hvb := cntT_le T t q k
                rw [hv] at c0 hvb
                obtain ⟨hv0, hv1⟩ := hvb
                have hv2 : v ≤ 3000 := by omega
                have HV := Lib.hid hv
                have L2 := Lib.hid (L.out.put hkm (v + 1))
                clear hx hv hv1
                go_wp2_with fail
                go_roundw
                case rel => exact ⟨q + 1, by omega, by go_num, Lib.hid (L2.out.congr fun i _ => by rw [HXX.out i, HV.out])⟩
                case measure => simp [intOf]; omega
              · obtain rfl : q = rl := by omega
                have L2 := Lib.hid (L.out.congr (g := fun k => ((cntN T k (t + 1) : Nat) : Int)) fun i _ => by
                  have := cntT_end HLEV.out t i
                  rw [HRL.out] at this
                  exact this.symm)
                clear L hlt2 hq
                go_wp2_with fail
                go_roundw
                case rel => exact ⟨t + 1, by omega, by go_num, L2⟩
                case measure => simp [intOf]; omega
          · obtain rfl : t = n := by omega
            have HBW := Lib.hid (pstep HB3.out L.out.b)
            have HIA := Lib.hid (L.out.r.at m)
            have HCB : Hid (∀ k, 0 ≤ ((cntN T k t : Nat) : Int) ∧ ((cntN T k t : Nat) : Int) ≤ 2000) := Lib.hid fun k => by
              have := cntT_le T t 0 k
              rw [cntT_zero] at this
              omega
            have hm1000 : m ≤ 1000 := by omega
            clear hlt ht L
            go_wp2_with (first
              | (go_at_call 18; (with_reducible refine (max_W _ HIA hm1 hm1000).mono ?_); rintro e w4 ⟨⟨M, i, hi', hM, rfl⟩, rfl⟩; have HI1 := Lib.hid hi'; have hMb := HCB.out i; rw [hM] at hMb; have HMM := Lib.hid hM; obtain ⟨hM0, hM1⟩ := hMb; clear hM hi')
              | (go_at_call 19; (with_reducible refine (min_W _ HIA hm1 hm1000).mono ?_); rintro e w5 ⟨⟨N, j, hj', hN, rfl⟩, rfl⟩; have HJ1 := Lib.hid hj'; have hNb := HCB.out j; rw [hN] at hNb; have HNN := Lib.hid hN; obtain ⟨hN0, hN1⟩ := hNb; have hfin := HFA.out i j HI1.out HJ1.out; rw [HMM.out, HNN.out] at hfin; clear hN hj')
              | fail)
            go_ret
            exact ⟨by simp, HBW.out⟩
      · have HX : Hid (wrongN c sl (alikeT m) = 2 ∨ wrongN c sl (alikeT m) = 0 ∧ ¬ (0 ≤ (n : Int) ∧ (n : Int) ≤ 2000)) := Lib.hid (by
          rcases wrong_two c sl (alikeT m) with h | h
          · exact absurd h hok
          · exact Or.inl h)
        clear hok
        go_enter Try.func5, Try.ntmps5
        go_wp2_with (first
          | (go_at_call 15; (with_reducible refine (alive14_N _).mono ?_); rintro e w1 ⟨rfl, hb⟩; have bx := below_alloc w1 (.cells #[.int .i64 0, .int .i64 0, .int .i64 10000] 35); have HB1 := Lib.hid (pstep hb bx); have X1 : Hid (shT.At (w1.alloc (.cells #[.int .i64 0, .int .i64 0, .int .i64 10000] 35)) (some ⟨w1.heap.size, 0, none⟩) 1 [⟨0, 0, 10000⟩]) := Lib.hid (Shape.At.lit (S := shT) [⟨0, 0, 10000⟩] (heap_alloc_new w1 _)); clear hb bx)
          | (go_at_call 17; (with_reducible refine (repeat_T ⟨0, 0, 10000⟩ m hm1 hm64 _ X1).mono ?_); rintro e wb ⟨H, rfl, hA, hb⟩; have HAR : Hid (shT.At wb (some ⟨H, 0, none⟩) m (alikeT m)) := (Lib.hid hA); have HB2 := Lib.hid (pstep HB1.out hb); clear hA hb)
          | (go_at_call 8; (with_reducible refine (run_bad c sl (n : Nat) _ HAR HLT hm9 HX).mono ?_); rintro e w2 ⟨rfl, hb2⟩; have HB3 := Lib.hid (pstep HB2.out hb2); clear hb2)
          | fail)
        go_ret
        exact ⟨rfl, HB3.out⟩
    · by_cases h0 : tk < 0
      · have q1 : ¬ mn < 1 := by omega
        have q2 : ¬ (64 : Int) < mn := by omega
        clear hmn1 hmn2 htk
        go_enter Try.func5, Try.ntmps5
        go_wp2_with (first
          | (go_at_call 15; (with_reducible refine (alive14_N _).mono ?_); rintro e w1 ⟨rfl, hb⟩; have HB1 := Lib.hid hb; clear hb)
          | fail)
        go_ret
        exact ⟨rfl, HB1.out⟩
      · have q1 : ¬ mn < 1 := by omega
        have q2 : ¬ (64 : Int) < mn := by omega
        have q3 : (2000 : Int) < tk := by omega
        clear hmn1 hmn2 htk
        go_enter Try.func5, Try.ntmps5
        go_wp2_with (first
          | (go_at_call 15; (with_reducible refine (alive14_N _).mono ?_); rintro e w1 ⟨rfl, hb⟩; have HB1 := Lib.hid hb; clear hb)
          | fail)
        go_ret
        exact ⟨rfl, HB1.out⟩
  · by_cases h0 : mn < 1
    · clear hmn
      go_enter Try.func5, Try.ntmps5
      go_wp2_with (first
        | (go_at_call 15; (with_reducible refine (alive14_N _).mono ?_); rintro e w1 ⟨rfl, hb⟩; have HB1 := Lib.hid hb; clear hb)
        | fail)
      go_ret
      exact ⟨rfl, HB1.out⟩
    · have q2 : (64 : Int) < mn := by omega
      clear hmn
      go_enter Try.func5, Try.ntmps5
      go_wp2_with (first
        | (go_at_call 15; (with_reducible refine (alive14_N _).mono ?_); rintro e w1 ⟨rfl, hb⟩; have HB1 := Lib.hid hb; clear hb)
        | fail)
      go_ret
      exact ⟨rfl, HB1.out⟩
theorem coresFair_walk (v v1 v2 v3 : Value) (w : World) (h : ArgInt w v) (h1 : ArgInt w v1) (h2 : ArgInt w v2) (h3 : ArgInt w v3) : Calls Try.prog 5 #[v, v1, v2, v3] w fun e w' => e = .returned (.bool true) ∧ Below w.heap.size w w' := by
  obtain ⟨c, rfl⟩ := h
  obtain ⟨sl, rfl⟩ := h1
  obtain ⟨mn, rfl⟩ := h2
  obtain ⟨tk, rfl⟩ := h3
  exact fair_W c sl mn tk w
end Go.Proofs.Ytningajaimbncaa
