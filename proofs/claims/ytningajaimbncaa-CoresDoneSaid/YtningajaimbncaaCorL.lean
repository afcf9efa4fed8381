/- CoresDone: the walk. -/
import Derived.Test.YtningajaimbncaaCorK
namespace Go.Proofs.Ytningajaimbncaa
open Go.RowKit

theorem done_all {l : List ThT} {c sl : Nat} (hok : OkT l c sl) {k : Nat} (hk : k < l.length) : ((cntN (thN l c sl) k (mxF (cmT l) l.length + totN (wkT l) l.length) : Nat) : Int) = ((wkT l k : Nat) : Int) := by
  have h := all_done (T := thN l c sl) hok.lev hok.c1 (t := mxF (cmT l) l.length) (fun k hk => mx_ge (f := cmT l) hk) k hk
  exact congrArg (fun n : Nat => (n : Int)) h
set_option maxHeartbeats 2000000 in
set_option maxRecDepth 100000 in
theorem done_W {ad : Option Addr} {cap m : Nat} {l : List ThT} (c sl : Int) (w : World) (HA : Hid (shT.At w ad cap l)) (hm : Hid (l.length = m)) (hm9 : m ≤ 5864062014634) :
    Calls Try.prog 7 #[.int .i64 c, .int .i64 sl, .slice ad m cap] w fun e w' => e = .returned (.bool true) ∧ Below w.heap.size w w' := by
  obtain ⟨i0, hi, hz0, hz1, hz2⟩ := info_parts info_int
  go_enter Try.func7, Try.ntmps7
  go_wp2_with (first
    | (go_at_call 15; (with_reducible refine (alive14_N _).mono ?_); rintro e w1 ⟨rfl, hb⟩; have HB1 := Lib.hid hb; clear hb)
    | fail)
  have hB1 := HB1.out
  go_loopw [7, 25] (fun x i wr => ∃ k : Nat, k ≤ m ∧ i = .int .i64 k ∧ x = .int .i64 (mxF (cmT l) k : Nat) ∧ Below w.heap.size w wr ∧ Hid (Seen l k) ∧ Hid (mxF (cmT l) k ≤ 300)) (fun _ i _ => m - (intOf i).toNat)
  case atStart => exact ⟨0, Nat.zero_le _, rfl, rfl, hB1, Lib.hid (fun i t hi _ => by omega), Lib.hid (Nat.zero_le _)⟩
  case round =>
    obtain ⟨k, hk, rfl, rfl, hb, HS, HX⟩ := hrel
    have HB := Lib.hid hb
    by_cases hlt : k < m
    · obtain ⟨t, ht⟩ : ∃ t, l[k]? = some t := ⟨l[k]'(by rw [hm.out]; exact hlt), List.getElem?_eq_getElem _⟩
      obtain ⟨b, off, rfl, hbl, e0, e1, e2⟩ := at_th HA.out ht
      have g0 := (hb.cell (p := ⟨b, off + k * 3, none⟩) hbl).trans e0
      have g1 := (hb.cell (p := ⟨b, off + k * 3 + 1, none⟩) hbl).trans e1
      have g2 := (hb.cell (p := ⟨b, off + k * 3 + 2, none⟩) hbl).trans e2
      have hbr : b < wr.heap.size := Nat.lt_of_lt_of_le hbl hb.size
      have HT := Lib.hid ht
      obtain ⟨tc, tl, tw⟩ := t
      simp only at g0 g1 g2
      have HBA := Lib.hid (pstep hb (below_alloc wr (.cells #[.int .i64 tc, .int .i64 tl, .int .i64 tw] 35)))
      clear e0 e1 e2 ht hb
      by_cases q1 : tc < 0
      · go_wp2_with fail
        go_ret
        exact ⟨rfl, HBA.out⟩
      · by_cases q2 : tw < 0
        · go_wp2_with fail
          go_ret
          exact ⟨rfl, HBA.out⟩
        · by_cases q3 : 300 < tc
          · go_wp2_with fail
            go_ret
            exact ⟨rfl, HBA.out⟩
          · by_cases q4 : 30 < tw
            · go_wp2_with fail
              go_ret
              exact ⟨rfl, HBA.out⟩
            · have hcm := (at_cm HT.out (by simp only; omega) (by simp only; omega)).1
              simp only at hcm
              have hmx : max ((mxF (cmT l) k : Nat) : Int) tc = ((mxF (cmT l) (k + 1) : Nat) : Int) := by
                rw [hcm]
                simp only [mxF]
                omega
              have HS2 := Lib.hid (HS.out.next HT.out (by simp only; omega))
              have HX2 : Hid (mxF (cmT l) (k + 1) ≤ 300) := Lib.hid (by
                have := HX.out
                simp only [mxF]
                omega)
              obtain ⟨x, hx⟩ : ∃ x, mxF (cmT l) k = x := ⟨_, rfl⟩
              obtain ⟨y, hy⟩ : ∃ y, mxF (cmT l) (k + 1) = y := ⟨_, rfl⟩
              rw [hx, hy] at hmx
              rw [hx]
              have HY := Lib.hid hy
              clear hcm hx hy
              go_wp2_with fail
              go_roundw
              case rel => exact ⟨k + 1, by omega, by go_num, by rw [HY.out], HBA.out, HS2, HX2⟩
              case measure => simp [intOf]; omega
    · obtain rfl : k = m := by omega
      have hle := HS.out.le hm.out
      have HLE := Lib.hid hle
      obtain ⟨mx, hmxe⟩ : ∃ mx, mxF (cmT l) k = mx := ⟨_, rfl⟩
      have HMX := Lib.hid hmxe
      have hmx3 := HX.out
      rw [hmxe] at hmx3 ⊢
      clear hlt hk hb hmxe hle HX HB1 hB1
      go_wp2_with fail
      obtain ⟨wo, rfl⟩ : ∃ wo : World, wo = wr := ⟨_, rfl⟩
      go_loopw [7, 54] (fun x i wr' => ∃ j : Nat, j ≤ k ∧ i = .int .i64 j ∧ x = .int .i64 ((mx + totN (wkT l) j : Nat) : Int) ∧ Below w.heap.size w wr') (fun _ i _ => k - (intOf i).toNat)
      case atStart => exact ⟨0, Nat.zero_le _, rfl, by simp [totN], HB.out⟩
      case round =>
        obtain ⟨j, hj, rfl, rfl, hb⟩ := hrel
        have HB2 := Lib.hid hb
        have htb := tot_bound (f := wkT l) (b := 30) (n := j) (fun i _ => (HLE.out i).2)
        by_cases hlt : j < k
        · obtain ⟨t, ht⟩ : ∃ t, l[j]? = some t := ⟨l[j]'(by rw [hm.out]; exact hlt), List.getElem?_eq_getElem _⟩
          obtain ⟨b, off, rfl, hbl, e0, e1, e2⟩ := at_th HA.out ht
          have g0 := (hb.cell (p := ⟨b, off + j * 3, none⟩) hbl).trans e0
          have g1 := (hb.cell (p := ⟨b, off + j * 3 + 1, none⟩) hbl).trans e1
          have g2 := (hb.cell (p := ⟨b, off + j * 3 + 2, none⟩) hbl).trans e2
          have hbr : b < wr.heap.size := Nat.lt_of_lt_of_le hbl hb.size
          have HT := Lib.hid ht
          have hsn := HS.out j t hlt ht
          obtain ⟨tc, tl, tw⟩ := t
          simp only at g0 g1 g2 hsn
          have HBA := Lib.hid (pstep hb (below_alloc wr (.cells #[.int .i64 tc, .int .i64 tl, .int .i64 tw] 35)))
          have hwk := (at_cm HT.out (by simp only; omega) (by simp only; omega)).2
          simp only at hwk
          have hsum : ((mx + totN (wkT l) j : Nat) : Int) + tw = ((mx + totN (wkT l) (j + 1) : Nat) : Int) := by
            rw [hwk]
            simp only [totN]
            omega
          obtain ⟨x, hx⟩ : ∃ x, mx + totN (wkT l) j = x := ⟨_, rfl⟩
          obtain ⟨y, hy⟩ : ∃ y, mx + totN (wkT l) (j + 1) = y := ⟨_, rfl⟩
          have hxb : x ≤ 175921860439020 + 300 := by omega
          rw [hx, hy] at hsum
          rw [hx]
          have HY := Lib.hid hy
          have htw : 0 ≤ tw ∧ tw ≤ 30 := hsn.2
          obtain ⟨htw0, htw3⟩ := htw
          clear hwk hx hy e0 e1 e2 ht hb hsn htb
          go_wp2_with fail
          go_roundw
          case rel => exact ⟨j + 1, by omega, by go_num, by rw [HY.out], HBA.out⟩
          case measure => simp [intOf]; omega
        · obtain rfl : j = k := by omega
          obtain ⟨tk, htk⟩ : ∃ tk, mx + totN (wkT l) j = tk := ⟨_, rfl⟩
          have HTK := Lib.hid htk
          rw [htk]
          have HAR := Lib.hid (HA.out.step hb)
          have hj9 : j ≤ 9223372036854775807 := by omega
          clear hlt hj hb htb htk HB
          by_cases hok : wrongN c sl l = 0 ∧ tk ≤ 2000
          · obtain ⟨c', sl', rfl, rfl, hO⟩ := wrong_ok hok.1
            have HOK := Lib.hid hO
            have hj64 : j ≤ 64 := by rw [← hm.out]; exact hO.len
            have hb0 : i0.bytes * j ≤ 281474976710656 := by rw [hz2]; omega
            have hmk : j ≤ maxLen := by unfold maxLen; omega
            have htk2 := hok.2
            have HLEV := Lib.hid hO.lev
            have HTM : Hid ((thN l c' sl').m = j) := hm
            clear hok hO
            go_wp2_with (first
              | (go_at_call 8; (with_reducible refine (run_ok tk _ HAR hm HOK htk2).mono ?_); rintro e w2 ⟨E, rfl, hR, hb2⟩; have HR := Lib.hid hR; have HB3 := Lib.hid (pstep HB2.out hb2); clear hR hb2)
              | (at_make; refine wpList_make_full _ rfl _ _ 29 rfl w2.heap.size 3 i0 _ 1 Try.underlying29 hi hz0 hz1 .i64 .i64 _ _ j rfl rfl rfl rfl hb0 hmk (Nat.le_refl _) ?_; intro w3 hown hgrow)
              | fail)
            have L0 : LpC w2 w3 w2.heap.size j (fun k => ((cntN (thN l c' sl') k 0 : Nat) : Int)) := ⟨(Below.refl w2.heap.size w2).grown hgrow (Nat.le_refl _) (fun k hk => by cases hk), (RowZ.made (by rw [Nat.mul_one] at hown; exact hown)).congr (fun i _ => rfl), Nat.le_refl _⟩
            have L1 := Lib.hid L0
            have HDA : Hid (∀ k, k < j → ((cntN (thN l c' sl') k tk : Nat) : Int) = ((wkT l k : Nat) : Int)) := Lib.hid fun k hk => by
              have := done_all HOK.out (k := k) (by rw [hm.out]; exact hk)
              rw [hm.out, HMX.out, HTK.out] at this
              exact this
            obtain ⟨T, hTT⟩ : ∃ T, thN l c' sl' = T := ⟨_, rfl⟩
            rw [hTT] at HR HLEV HTM L1 HDA
            clear L0 hown hgrow hTT HB2
            generalize w2.heap.size = B at L1 ⊢
            go_wp2_with fail
            go_loopw [78] (fun i wr => ∃ t : Nat, t ≤ tk ∧ i = .int .i64 t ∧ Hid (LpC w2 wr B j (fun k => ((cntN T k t : Nat) : Int)))) (fun i _ => tk - (intOf i).toNat)
            case atStart => exact ⟨0, Nat.zero_le _, rfl, L1⟩
            case round =>
              clear L1
              obtain ⟨t, ht, rfl, L⟩ := hrel
              by_cases hlt : t < tk
              · obtain ⟨b, off, ra, rc, hEb, hbl, e0, hA⟩ := HR.out.2 t hlt
                simp only [Option.some.injEq, Addr.mk.injEq, and_true] at hEb
                obtain ⟨rfl, rfl⟩ := hEb
                have e1 := (L.out.b.cell (p := ⟨E, 0 + t, none⟩) hbl).trans e0
                have hbr : E < wr.heap.size := Nat.lt_of_lt_of_le hbl L.out.b.size
                rw [Nat.zero_add] at e1
                obtain ⟨rl, hrl⟩ : ∃ rl, (rowN T t).length = rl := ⟨_, rfl⟩
                rw [hrl] at e1
                have HRL := Lib.hid hrl
                have HAR2 := Lib.hid hA
                have hrl64 : rl ≤ 64 := by
                  rw [← hrl, rowN_len]
                  exact Nat.le_trans (nod_len (run_nod HLEV.out t) fun k hk => (run_ready HLEV.out t k hk).1) (by have := HTM.out; omega)
                clear hA hrl e0 hbl
                go_wp2_with fail
                obtain ⟨wo, rfl⟩ : ∃ wo : World, wo = wr := ⟨_, rfl⟩
                go_loopw [84] (fun i wr => ∃ q : Nat, q ≤ rl ∧ i = .int .i64 q ∧ Hid (LpC w2 wr B j (cntT T t q))) (fun i _ => rl - (intOf i).toNat)
                case atStart => exact ⟨0, Nat.zero_le _, rfl, Lib.hid (L.out.congr fun i _ => cntT_zero T t i)⟩
                case round =>
                  clear e1 hbr L
                  obtain ⟨q, hq, rfl, L⟩ := hrel
                  by_cases hlt2 : q < rl
                  · obtain ⟨x, hx⟩ : ∃ x, (rowN T t)[q]? = some x := ⟨(rowN T t)[q]'(by rw [HRL.out]; exact hlt2), List.getElem?_eq_getElem _⟩
                    obtain ⟨k, rfl, _, hkm⟩ := row_mem HLEV.out hx
                    rw [HTM.out] at hkm
                    obtain ⟨b2, o2, rfl, hb2, e2⟩ := at_int (HAR2.out.step L.out.b) hx
                    have HXX := Lib.hid (cntT_next hx)
                    have c0 := L.out.r.cell hkm
                    have f0 := L.out.r.frozen k
                    have hBl := L.out.r.lt
                    obtain ⟨v, hv⟩ : ∃ v, cntT T t q k = v := ⟨_, rfl⟩
                    have hvb := cntT_le T t q k
                    rw [hv] at c0 hvb
                    obtain ⟨hv0, hv1⟩ := hvb
                    have hv2 : v ≤ 3000 := by omega
                    have HV := Lib.hid hv
                    have L2 := Lib.hid (L.out.put hkm (v + 1))
                    clear hx hv hv1
                    go_wp2_with fail
                    go_roundw
                    case rel => exact ⟨q + 1, by omega, by go_num, Lib.hid (L2.out.congr fun i _ => by rw [HXX.out i, HV.out])⟩
                    case measure => simp [intOf]; omega
                  · obtain rfl : q = rl := by omega
                    have L2 := Lib.hid (L.out.congr (g := fun k => ((cntN T k (t + 1) : Nat) : Int)) fun i _ => by
                      have := cntT_end HLEV.out t i
                      rw [HRL.out] at this
                      exact this.symm)
                    clear L hlt2 hq
                    go_wp2_with fail
                    go_roundw
                    case rel => exact ⟨t + 1, by omega, by go_num, L2⟩
                    case measure => simp [intOf]; omega
              · obtain rfl : t = tk := by omega
                have L2 := Lib.hid (L.out.congr (g := fun k => ((wkT l k : Nat) : Int)) fun i hi => (HDA.out i hi).symm)
                have HBW := Lib.hid (pstep HB3.out L.out.b)
                clear hlt ht L
                go_wp2_with fail
                obtain ⟨wo, rfl⟩ : ∃ wo : World, wo = wr := ⟨_, rfl⟩
                go_loopw [106] (fun i wr => ∃ q : Nat, q ≤ j ∧ i = .int .i64 q ∧ Hid (Below wo.heap.size wo wr)) (fun i _ => j - (intOf i).toNat)
                case atStart => exact ⟨0, Nat.zero_le _, rfl, Lib.hid (Below.refl _ _)⟩
                case round =>
                  obtain ⟨q, hq, rfl, HBQ⟩ := hrel
                  by_cases hlt2 : q < j
                  · obtain ⟨x, hx⟩ : ∃ x, l[q]? = some x := ⟨l[q]'(by rw [hm.out]; exact hlt2), List.getElem?_eq_getElem _⟩
                    obtain ⟨b, off, rfl, hbl, g0, g1, g2⟩ := at_th (HA.out.step (pstep HBW.out HBQ.out)) hx
                    have hsn := HS.out q x hlt2 hx
                    have hwk := (at_cm hx hsn.1.1 hsn.2.1).2
                    obtain ⟨tc, tl, tw⟩ := x
                    simp only at g0 g1 g2 hwk
                    obtain ⟨z, hz⟩ : ∃ z, wkT l q = z := ⟨_, rfl⟩
                    have LQ := L2.out.step HBQ.out
                    have c0 := LQ.r.cell hlt2
                    have hBl := LQ.r.lt
                    rw [hz] at c0 hwk
                    rw [hwk] at g2
                    have HBA := Lib.hid (pstep HBQ.out (below_alloc wr (.cells #[.int .i64 tc, .int .i64 tl, .int .i64 (z : Nat)] 35)))
                    clear hx hsn hwk hz LQ
                    go_wp2_with fail
                    go_quiet (fail)
                    go_wp2_with fail
                    go_roundw
                    case rel => exact ⟨q + 1, by omega, by go_num, Lib.hid (below_drewN HBA.out _)⟩
                    case measure => simp [intOf]; omega
                  · obtain rfl : q = j := by omega
                    clear hlt2 hq
                    go_wp2_with fail
                    go_ret
                    exact ⟨rfl, pstep HBW.out HBQ.out⟩
          · have HX : Hid (wrongN c sl l = 2 ∨ wrongN c sl l = 0 ∧ ¬ (0 ≤ (tk : Int) ∧ (tk : Int) ≤ 2000)) := Lib.hid (by
              rcases wrong_two c sl l with h | h
              · exact Or.inr ⟨h, fun q => hok ⟨h, by omega⟩⟩
              · exact Or.inl h)
            clear hok
            go_wp2_with (first
              | (go_at_call 8; (with_reducible refine (run_bad c sl (tk : Nat) _ HAR hm hj9 HX).mono ?_); rintro e w2 ⟨rfl, hb2⟩; have HB3 := Lib.hid (pstep HB2.out hb2); clear hb2)
              | fail)
            go_ret
            exact ⟨rfl, HB3.out⟩
end Go.Proofs.Ytningajaimbncaa
