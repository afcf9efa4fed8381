/- WaitSum: each thing is got once, or is there. -/
import Derived.Test.YtghonbiiichedaaWtK
import Derived.Test.YtghonbiiichedaaWtO
namespace Go.Proofs.Ytghonbiiichedaa
open Go.RowKit

theorem cnt_le : ∀ (ops : List WvT) (s : StV), cntV s ops ≤ ops.length
  | [], _ => Nat.le_refl _
  | o :: r, s => by
    have h := cnt_le r (stepV s o)
    rw [cntV, List.length_cons]
    split <;> omega
section
variable {ad : Option Addr} {cap n : Nat} {ops : List WvT}
set_option maxHeartbeats 4000000 in
set_option maxRecDepth 100000 in
theorem sum_walk (w : World) (HA : Hid (shV.At w ad cap ops)) (hm : Hid (ops.length = n)) (hn : n ≤ 8796093021952) :
    Calls Try.prog 5 #[.slice ad n cap] w fun e w' => e = .returned (.bool true) ∧ Below w.heap.size w w' := by
  obtain ⟨s, hs⟩ : ∃ s, runV newV ops = s := ⟨_, rfl⟩
  obtain ⟨es, hes⟩ : ∃ es, errsV newV ops = es := ⟨_, rfl⟩
  obtain ⟨gn, hgn⟩ : ∃ gn, s.got.length = gn := ⟨_, rfl⟩
  obtain ⟨sn, hsn⟩ : ∃ sn, (slpL s.line).length = sn := ⟨_, rfl⟩
  obtain ⟨th, hth⟩ : ∃ th, s.things = th := ⟨_, rfl⟩
  have HP := Lib.hid (fun X (HX : Hid (shV.At X ad cap ops)) => play_res hm (by omega) (Lib.hid hes) (Lib.hid hs) (Lib.hid hgn) (Lib.hid hsn) (Lib.hid hth) ad cap X HX)
  have htot : cntV newV ops = gn + th := by
    have h := sum_run ops newV
    rw [hs, hgn, hth] at h
    have e0 : newV.got.length + newV.things = 0 := rfl
    omega
  have hgb : gn ≤ n := by rw [← hgn, ← hs, ← hm.out]; exact got_newV ops
  have hthb : th ≤ 400 := by
    have := (good_runV (ops := ops) good_newV).most
    rw [hs, hth] at this
    exact this
  have HES := Lib.hid hes
  have HTOT := Lib.hid htot
  have htw : IntKind.i64.wrap ((gn : Int) + (th : Int)) = (gn : Int) + (th : Int) := by rw [IntKind.wrap_i64]; omega
  have hth0 : (0 : Int) ≤ (th : Int) := by omega
  clear hs hes hgn hsn hth htot
  unfold PlayN at HP
  go_enter Try.func5, Try.ntmps5
  go_upto_region 6 with (first
    | (go_at_call 12; (with_reducible refine (alive15_N _).mono ?_); rintro e w1 ⟨rfl, hb⟩; have B1 := Lib.hid hb; have A1 := Lib.hid (HA.out.step hb); clear hb)
    | (go_at_call 8; (with_reducible refine (HP.out _ A1).mono ?_); rintro e w2 ⟨E, ta, tc, la, lc, rfl, hE, hT, hL, hb⟩; have B2 := Lib.hid (pstep B1.out hb); have A2 := Lib.hid (A1.out.step hb); have E2 := Lib.hid hE; clear hb hE hT hL)
    | fail)
  clear HP A1 B1
  go_loopw [7, 21] (fun v i wr => ∃ k : Nat, k ≤ n ∧ i = .int .i64 k ∧ v = .int .i64 (cntV newV (ops.take k) : Nat) ∧ Hid (Below w2.heap.size w2 wr)) (fun _ i _ => n - (intOf i).toNat)
  case atStart => exact ⟨0, Nat.zero_le _, rfl, rfl, Lib.hid (Below.refl _ _)⟩
  case round =>
    obtain ⟨k, hk, rfl, rfl, HB⟩ := hrel
    by_cases hlt : k < n
    · obtain ⟨o, ho⟩ : ∃ o, ops[k]? = some o := ⟨ops[k]'(by rw [hm.out]; exact hlt), List.getElem?_eq_getElem _⟩
      have hx := errsV_at ho newV
      rw [HES.out] at hx
      have hnx := cntV_next ho newV
      have hab := cnt_le (ops.take k) newV
      rw [List.length_take, hm.out, Nat.min_eq_left hk] at hab
      obtain ⟨eb, eo, ee, heb, cx⟩ := at_int E2.out hx
      cases ee
      rw [Nat.zero_add] at cx
      have cx2 := (HB.out.cell (p := ⟨E, k, none⟩) heb).trans cx
      have hEl := Nat.lt_of_lt_of_le heb HB.out.size
      obtain ⟨b, off, rfl, hb, e0, e1⟩ := at_wv A2.out ho
      have g0 := (HB.out.cell (p := ⟨b, off + k * 2, none⟩) hb).trans e0
      have g1 := (HB.out.cell (p := ⟨b, off + k * 2 + 1, none⟩) hb).trans e1
      have hbr : b < wr.heap.size := Nat.lt_of_lt_of_le hb HB.out.size
      have BA := Lib.hid (HB.out.trans ((below_alloc wr (.cells #[.int .i64 o.k, .int .i64 o.t] 35)).mono HB.out.size))
      obtain ⟨c, hc⟩ : ∃ c, cntV newV (ops.take k) = c := ⟨_, rfl⟩
      obtain ⟨x, hxx⟩ : ∃ x, errV (runV newV (ops.take k)) o = x := ⟨_, rfl⟩
      obtain ⟨kd, id⟩ := o
      simp only at g0 g1 hnx hxx
      rw [hc] at hab hnx ⊢
      rw [hxx] at hnx cx2
      have HNX := Lib.hid hnx
      clear hx hnx cx e0 e1 ho hc hxx heb hb
      have hdk : decide (k < n) = true := decide_eq_true hlt
      have w1 : IntKind.i64.wrap ((c : Int) + 1) = (c : Int) + 1 := by rw [IntKind.wrap_i64]; omega
      by_cases hx0 : x = 0
      · subst hx0
        by_cases hk4 : kd = 4
        · subst hk4
          go_wp2_with fail
          go_roundw
          case rel => exact ⟨k + 1, by omega, by go_num, by rw [HNX.out]; rfl, BA⟩
          case measure => simp [intOf]; omega
        · have hkb : (kd == 4) = false := by simpa using hk4
          have HK4 := Lib.hid hk4
          clear hk4
          go_wp2_with fail
          go_roundw
          case rel => exact ⟨k + 1, by omega, by go_num, by rw [HNX.out, if_neg (fun h => HK4.out h.2)]; simp, BA⟩
          case measure => simp [intOf]; omega
      · have hxb : (x == 0) = false := by simpa using hx0
        have HX0 := Lib.hid hx0
        clear hx0
        go_wp2_with fail
        go_roundw
        case rel => exact ⟨k + 1, by omega, by go_num, by rw [HNX.out, if_neg (fun h => HX0.out h.1)]; simp, BA⟩
        case measure => simp [intOf]; omega
    · obtain rfl : k = n := by omega
      have e : ops.take k = ops := by rw [← hm.out, List.take_length]
      rw [e, HTOT.out]
      have B3 := Lib.hid (pstep B2.out HB.out)
      clear e hlt hk A2 E2
      go_wp2_with fail
      go_ret
      exact ⟨rfl, B3.out⟩
end
theorem waitSum_walk (v : Value) (w : World) (h : ArgWvs w v) (u : lenOf v ≤ 8796093021952) : Calls Try.prog 5 #[v] w fun e w' => e = .returned (.bool true) ∧ Below w.heap.size w w' := by
  obtain ⟨a1, c1, l, rfl, hA, _, _⟩ := h
  exact sum_walk w (Lib.hid hA) (Lib.hid rfl) u
end Go.Proofs.Ytghonbiiichedaa
