/- WheelCount: each timer that was set fires, or was cancelled, or is set. -/
import Derived.Test.YtnnphmpodcmmoaaWhlJ
import Derived.Test.YtnnphmpodcmmoaaWhlO
namespace Go.Proofs.Ytnnphmpodcmmoaa
open Go.RowKit

/-- How many timers are set or have fired. -/
def netT (s : StT) : Nat := s.set.length + s.fired.length
theorem net_step (s : StT) (hg : GoodT s) (o : TmT) : (netT (stepT s o) : Int) = netT s + (if errT s o = 0 then if o.k = 1 then 1 else if o.k = 2 then -1 else 0 else 0) := by
  unfold stepT netT
  by_cases he : errT s o = 0
  · rw [if_pos he, if_pos he]
    unfold doT
    by_cases h1 : o.k = 1
    · rw [if_pos h1, if_pos h1]
      simp only [addT, len_ins]
      omega
    · rw [if_neg h1, if_neg h1]
      by_cases h2 : o.k = 2
      · rw [if_pos h2, if_pos h2]
        have := len_cut hg.nod (err_cut he h2)
        simp only [cutT]
        omega
      · rw [if_neg h2, if_neg h2]
        have := len_due (l := s.set) (s.now + o.n.toNat)
        simp only [tickT, List.length_append]
        omega
  · rw [if_neg he, if_neg he]
    omega
section
variable {ad : Option Addr} {cap n : Nat} {ops : List TmT}
set_option maxHeartbeats 2000000 in
set_option maxRecDepth 100000 in
theorem count_bad (w : World) (h : 400 < n) (hn : n ≤ 9223372036854775807) :
    Calls Try.prog 8 #[.slice ad n cap] w fun e w' => e = .returned (.bool true) ∧ Below w.heap.size w w' := by
  go_enter Try.func8, Try.ntmps8
  go_wp2_with (first
    | (go_at_call 13; (with_reducible refine (alive11_N _).mono ?_); rintro e w1 ⟨rfl, hb⟩; have B1 := Lib.hid hb; clear hb)
    | (go_at_call 9; (with_reducible refine (play_bad ad cap n _ h hn).mono ?_); rintro e w2 ⟨rfl, rfl⟩)
    | fail)
  go_ret
  exact ⟨rfl, B1.out⟩
set_option maxHeartbeats 4000000 in
set_option maxRecDepth 100000 in
theorem count_ok (w : World) (HA : Hid (shT.At w ad cap ops)) (hm : Hid (ops.length = n)) (hn : n ≤ 400) (HW : Hid (∀ o ∈ ops, WfI o.i)) :
    Calls Try.prog 8 #[.slice ad n cap] w fun e w' => e = .returned (.bool true) ∧ Below w.heap.size w w' := by
  obtain ⟨F, hF⟩ : ∃ F, (runT newT ops).fired.length = F := ⟨_, rfl⟩
  obtain ⟨N, hN⟩ : ∃ N, (runT newT ops).set.length = N := ⟨_, rfl⟩
  have HNF : Hid (netT (runT newT ops) = N + F) := Lib.hid (by unfold netT; rw [hF, hN])
  have hbd : ∀ k, k ≤ n → netT (runT newT (ops.take k)) ≤ k := fun k hk => by
    have := (bnd_run (ops := ops.take k) bnd_new (fun o ho => HW.out o (List.mem_of_mem_take ho))).cnt
    rw [List.length_take, hm.out, Nat.min_eq_left hk, Nat.zero_add] at this
    exact this
  have HBD := Lib.hid hbd
  have hNF : N + F ≤ 400 := by
    have := hbd n (Nat.le_refl _)
    rw [← hm.out, List.take_length, HNF.out] at this
    have := hm.out
    omega
  have HP : Hid (∀ X : World, Hid (shT.At X ad cap ops) → Calls Try.prog 9 #[.slice ad n cap] X fun e w' => ∃ E fa fc, e = .returned (.tuple #[.slice (some ⟨E, 0, none⟩) n n, .slice fa F fc, .int .i64 (N : Int), .int .i64 0]) ∧ shI.At w' (some ⟨E, 0, none⟩) n (errsT newT ops) ∧ Below X.heap.size X w') := Lib.hid fun X HX => by
    refine (play_ok X HX hm hn HW).mono ?_
    rintro e w' ⟨E, fa, fc, rfl, h1, h2, h3⟩
    rw [hF, hN]
    exact ⟨E, fa, fc, rfl, h1, h3⟩
  clear hbd hF hN
  go_enter Try.func8, Try.ntmps8
  go_wp2_with (first
    | (go_at_call 13; (with_reducible refine (alive11_N _).mono ?_); rintro e w1 ⟨rfl, hb⟩; have B1 := Lib.hid hb; have A1 := Lib.hid (HA.out.step hb); clear hb)
    | (go_at_call 9; (with_reducible refine (HP.out _ A1).mono ?_); rintro e w2 ⟨E, fa, fc, rfl, hE, hb⟩; have B2 := Lib.hid (pstep B1.out hb); have A2 := Lib.hid (A1.out.step hb); have HE := Lib.hid hE; clear hb hE)
    | fail)
  go_loopw [5, 29] (fun v i wr => ∃ (k : Nat) (y : Int), k ≤ n ∧ i = .int .i64 k ∧ v = .int .i64 y ∧ Hid (y = (N : Int) - netT (runT newT (ops.take k))) ∧ Hid (Below w2.heap.size w2 wr)) (fun _ i _ => n - (intOf i).toNat)
  case atStart => exact ⟨0, N, Nat.zero_le _, rfl, rfl, Lib.hid (by show (N : Int) = N - ((0 : Nat) : Int); omega), Lib.hid (Below.refl _ _)⟩
  case round =>
    obtain ⟨k, y, hk, rfl, rfl, HY, HB⟩ := hrel
    by_cases hlt : k < n
    · obtain ⟨o, ho⟩ : ∃ o, ops[k]? = some o := ⟨ops[k]'(by rw [hm.out]; exact hlt), List.getElem?_eq_getElem _⟩
      have hnx := run_next ho newT
      have hst := net_step _ (good_run (ops := ops.take k) good_new) o
      rw [← hnx] at hst
      have hex := errs_at ho newT
      obtain ⟨x, hx⟩ : ∃ x, errT (runT newT (ops.take k)) o = x := ⟨_, rfl⟩
      rw [hx] at hst hex
      obtain ⟨b, off, rfl, hb, e0, e1, e2⟩ := at_tm A2.out ho
      obtain ⟨eb, eo, ee, heb, f0⟩ := at_int HE.out hex
      cases ee
      have g0 := (HB.out.cell (p := ⟨b, off + k * 3, none⟩) hb).trans e0
      have g1 := (HB.out.cell (p := ⟨b, off + k * 3 + 1, none⟩) hb).trans e1
      have g2 := (HB.out.cell (p := ⟨b, off + k * 3 + 2, none⟩) hb).trans e2
      have q0 := (HB.out.cell (p := ⟨E, 0 + k, none⟩) heb).trans f0
      rw [Nat.zero_add] at q0
      have hbr : b < wr.heap.size := Nat.lt_of_lt_of_le hb HB.out.size
      have hEr : E < wr.heap.size := Nat.lt_of_lt_of_le heb HB.out.size
      obtain ⟨kd, id, tk⟩ := o
      simp only at g0 g1 g2 hst
      have hb1 := HBD.out k hk
      have hb2 := HBD.out (k + 1) hlt
      have HST := Lib.hid hst
      have hy := HY.out
      have hw1 : IntKind.i64.wrap (y - 1) = y - 1 := by rw [IntKind.wrap_i64]; omega
      have hw2 : IntKind.i64.wrap (y + 1) = y + 1 := by rw [IntKind.wrap_i64]; omega
      have BN := Lib.hid (pstep HB.out (below_alloc wr (.cells #[.int .i64 kd, .int .i64 id, .int .i64 tk] 36)))
      clear e0 e1 e2 f0 ho hnx hst hex hx hy hb1 hb2
      by_cases hx0 : x = 0
      · subst hx0
        by_cases k1 : kd = 1
        · subst k1
          go_wp2_with fail
          go_roundw
          case rel => exact ⟨k + 1, _, by omega, by go_num, rfl, Lib.hid (by have := HST.out; have h2 := HY.out; simp only [if_true] at this; omega), BN⟩
          case measure => simp [intOf]; omega
        · by_cases k2 : kd = 2
          · subst k2
            go_wp2_with fail
            go_roundw
            case rel => exact ⟨k + 1, _, by omega, by go_num, rfl, Lib.hid (by have := HST.out; have h2 := HY.out; simp at this; omega), BN⟩
            case measure => simp [intOf]; omega
          · have p1 : (kd == 1) = false := by simpa using k1
            have p2 : (kd == 2) = false := by simpa using k2
            go_wp2_with fail
            go_roundw
            case rel => exact ⟨k + 1, y, by omega, by go_num, rfl, Lib.hid (by have := HST.out; have h2 := HY.out; rw [if_pos rfl, if_neg k1, if_neg k2] at this; omega), BN⟩
            case measure => simp [intOf]; omega
      · have p0 : (x == 0) = false := by simpa using hx0
        go_wp2_with fail
        go_roundw
        case rel => exact ⟨k + 1, y, by omega, by go_num, rfl, Lib.hid (by have := HST.out; have h2 := HY.out; rw [if_neg hx0] at this; omega), BN⟩
        case measure => simp [intOf]; omega
    · obtain rfl : k = n := by omega
      have hy : y + (F : Int) = 0 := by
        have h1 := HY.out
        rw [← hm.out, List.take_length, HNF.out] at h1
        omega
      have hyw : IntKind.i64.wrap (y + (F : Int)) = 0 := by rw [hy]; rfl
      have BZ := Lib.hid (pstep B2.out HB.out)
      clear hlt hk
      go_wp2_with fail
      go_ret
      exact ⟨rfl, BZ.out⟩
end
theorem wheelCount_walk (v : Value) (w : World) (h : ArgTms w v) : Calls Try.prog 8 #[v] w fun e w' => e = .returned (.bool true) ∧ Below w.heap.size w w' := by
  obtain ⟨a1, c1, l, rfl, hA, hW, hn, _⟩ := h
  by_cases h4 : 400 < l.length
  · exact count_bad w h4 hn
  · exact count_ok w (Lib.hid hA) (Lib.hid rfl) (by omega) (Lib.hid hW)
end Go.Proofs.Ytnnphmpodcmmoaa
