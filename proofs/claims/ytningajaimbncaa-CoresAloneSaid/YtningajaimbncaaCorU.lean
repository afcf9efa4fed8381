/- corebellref.NWrong. -/
import Derived.Test.YtningajaimbncaaCorK
import Derived.Deep.Cut
import Derived.Lib.MinMax
namespace Go.Proofs.Ytningajaimbncaa
open Go.RowKit

/-- min of three. -/
theorem run_min3 (P : Program) (ts : Array TypeId) (t : TypeId) (p q r v : Int) (hv : min (min p q) r = v) (w : World) : (Builtin.min_ ts t #[.int .i64 p, .int .i64 q, .int .i64 r]).run P w = .ok (.int .i64 v) w := by
  have e : ∀ x y : Int, (if y < x then y else x) = min x y := fun x y => by
    rw [Int.min_def]
    split <;> split <;> omega
  simp [Builtin.min_, Builtin.min2, e, hv]
theorem all_next {l : List ThT} {k : Nat} {t : ThT} (hk : l[k]? = some t) : (l.take (k + 1)).all thOk = ((l.take k).all thOk && thOk t) := by
  have e : l.take (k + 1) = l.take k ++ [t] := by rw [List.take_add_one, hk]; rfl
  rw [e, List.all_append]
  simp
set_option maxHeartbeats 2000000 in
set_option maxRecDepth 100000 in
theorem nwrong_W {ad : Option Addr} {cap n : Nat} {l : List ThT} (c sl : Int) (w : World) (HA : Hid (shT.At w ad cap l)) (hm : Hid (l.length = n)) (hn : n ≤ 9223372036854775807) (x : Int) (hx : Hid (wrongN c sl l = x)) :
    Calls Try.prog 9 #[.int .i64 c, .int .i64 sl, .slice ad n cap] w fun e w' => e = .returned (.int .i64 x) ∧ Below w.heap.size w w' := by
  obtain ⟨b0, hb0⟩ : ∃ b0, (decide (1 ≤ c ∧ c ≤ 8) && (decide (1 ≤ sl ∧ sl ≤ 100) && decide (n ≤ 64))) = b0 := ⟨_, rfl⟩
  have HB0 := Lib.hid hb0
  have HX : Hid ((if (b0 && l.all thOk) = true then (0 : Int) else 2) = x) := Lib.hid (by
    rw [← hx.out, wrongN, ← hb0, hm.out]
    simp only [Bool.and_assoc])
  clear hb0
  go_enter Try.func9, Try.ntmps9
  go_upto_region 1 with fail
  go_cut [7] from 10 to 28 (fun y wy => y = .bool b0 ∧ w = wy)
  case first =>
    have h0 := HB0.out
    by_cases h1 : 1 ≤ c
    · by_cases h2 : c ≤ 8
      · by_cases h3 : 1 ≤ sl
        · by_cases h4 : sl ≤ 100
          · by_cases h5 : n ≤ 64
            · have h6 : (n : Int) ≤ 64 := by omega
              obtain rfl : b0 = true := by rw [← h0]; simp [h1, h2, h3, h4, h5]
              clear h0
              go_wp2_with fail
              go_meet
              exact ⟨rfl, rfl⟩
            · have h6 : ¬ (n : Int) ≤ 64 := by omega
              obtain rfl : b0 = false := by rw [← h0]; simp [h1, h2, h3, h4, h5]
              clear h0
              go_wp2_with fail
              go_meet
              exact ⟨rfl, rfl⟩
          · obtain rfl : b0 = false := by rw [← h0]; simp [h4]
            clear h0
            go_wp2_with fail
            go_meet
            exact ⟨rfl, rfl⟩
        · obtain rfl : b0 = false := by rw [← h0]; simp [h3]
          clear h0
          go_wp2_with fail
          go_meet
          exact ⟨rfl, rfl⟩
      · obtain rfl : b0 = false := by rw [← h0]; simp [h2]
        clear h0
        go_wp2_with fail
        go_meet
        exact ⟨rfl, rfl⟩
    · obtain rfl : b0 = false := by rw [← h0]; simp [h1]
      clear h0
      go_wp2_with fail
      go_meet
      exact ⟨rfl, rfl⟩
  case rest =>
    obtain ⟨rfl, rfl⟩ := hcut
    go_wp2_with fail
    go_loopw [7, 31] (fun y i wr => ∃ (k : Nat) (ok : Bool), k ≤ n ∧ i = .int .i64 k ∧ y = .bool ok ∧ Below w.heap.size w wr ∧ Hid ((b0 && (l.take k).all thOk) = ok)) (fun _ i _ => n - (intOf i).toNat)
    case atStart => exact ⟨0, b0, Nat.zero_le _, rfl, rfl, Below.refl _ _, Lib.hid (by simp)⟩
    case round =>
      obtain ⟨k, ok, hk, rfl, rfl, hb, HK⟩ := hrel
      have HB := Lib.hid hb
      by_cases hlt : k < n
      · obtain ⟨t, ht⟩ : ∃ t, l[k]? = some t := ⟨l[k]'(by rw [hm.out]; exact hlt), List.getElem?_eq_getElem _⟩
        obtain ⟨b, off, rfl, hbl, e0, e1, e2⟩ := at_th HA.out ht
        have g0 := (hb.cell (p := ⟨b, off + k * 3, none⟩) hbl).trans e0
        have g1 := (hb.cell (p := ⟨b, off + k * 3 + 1, none⟩) hbl).trans e1
        have g2 := (hb.cell (p := ⟨b, off + k * 3 + 2, none⟩) hbl).trans e2
        have hbr : b < wr.heap.size := Nat.lt_of_lt_of_le hbl hb.size
        have HN := Lib.hid (all_next ht)
        obtain ⟨tc, tl, tw⟩ := t
        simp only at g0 g1 g2
        have HBA := Lib.hid (pstep hb (below_alloc wr (.cells #[.int .i64 tc, .int .i64 tl, .int .i64 tw] 35)))
        clear e0 e1 e2 ht hb
        cases ok with
        | false =>
          go_wp2_with fail
          go_roundw
          case rel => exact ⟨k + 1, false, by omega, by go_num, rfl, HBA.out, Lib.hid (by rw [HN.out, ← Bool.and_assoc, HK.out]; rfl)⟩
          case measure => simp [intOf]; omega
        | true =>
          obtain ⟨v, hv⟩ : ∃ v, min (min tc tl) tw = v := ⟨_, rfl⟩
          have hmn := run_min3 Try.prog #[3, 3, 3] 3 tc tl tw v hv
          obtain ⟨u, hu⟩ : ∃ u, max tc tw = u := ⟨_, rfl⟩
          have HT : Hid (thOk ⟨tc, tl, tw⟩ = (decide (0 ≤ v) && (decide (u ≤ 10000) && decide (tl ≤ 31)))) := Lib.hid (by
            unfold thOk
            rw [Bool.eq_iff_iff]
            simp only [Bool.and_eq_true, decide_eq_true_eq]
            omega)
          clear hv
          by_cases q1 : 0 ≤ v
          · by_cases q2 : u ≤ 10000
            · by_cases q3 : tl ≤ 31
              · go_wp2_with fail
                go_roundw
                case rel => exact ⟨k + 1, true, by omega, by go_num, rfl, HBA.out, Lib.hid (by rw [HN.out, ← Bool.and_assoc, HK.out, HT.out]; simp [q1, q2, q3])⟩
                case measure => simp [intOf]; omega
              · go_wp2_with fail
                go_roundw
                case rel => exact ⟨k + 1, false, by omega, by go_num, rfl, HBA.out, Lib.hid (by rw [HN.out, ← Bool.and_assoc, HK.out, HT.out]; simp [q3])⟩
                case measure => simp [intOf]; omega
            · go_wp2_with fail
              go_roundw
              case rel => exact ⟨k + 1, false, by omega, by go_num, rfl, HBA.out, Lib.hid (by rw [HN.out, ← Bool.and_assoc, HK.out, HT.out]; simp [q2])⟩
              case measure => simp [intOf]; omega
          · go_wp2_with fail
            go_roundw
            case rel => exact ⟨k + 1, false, by omega, by go_num, rfl, HBA.out, Lib.hid (by rw [HN.out, ← Bool.and_assoc, HK.out, HT.out]; simp [q1])⟩
            case measure => simp [intOf]; omega
      · obtain rfl : k = n := by omega
        have hK := HK.out
        rw [show l.take k = l by rw [← hm.out, List.take_length]] at hK
        have hX := HX.out
        rw [hK] at hX
        clear hlt hk hb HK HX hK
        cases ok with
        | false =>
          obtain rfl : (2 : Int) = x := hX
          go_wp2_with fail
          go_ret
          exact ⟨rfl, HB.out⟩
        | true =>
          obtain rfl : (0 : Int) = x := hX
          go_wp2_with fail
          go_ret
          exact ⟨rfl, HB.out⟩
end Go.Proofs.Ytningajaimbncaa
