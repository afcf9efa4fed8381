/- Package wait: the walks of wake, checkThread, check. -/
import Derived.Test.YtghonbiiichedaaWtA
import Derived.Test.YtghonbiiichedaaRowL
import Derived.Deep.WholeRow
import Derived.Deep.RegionLaw
import Derived.Deep.Cut
import Derived.Deep.CutRange
import Derived.Deep.RegionWith
import Derived.Deep.RegionHeld3
import Derived.BigQuiet
import Derived.Deep.QuietTactic
namespace Go.Proofs.Ytghonbiiichedaa
open Go.RowKit Go.Maps

theorem wfI_of {t : Int} (h : 0 ≤ t ∧ t ≤ 63) : WfI t := by
  obtain ⟨n, rfl⟩ : ∃ n : Nat, t = n := ⟨t.toNat, by omega⟩
  have hn : n < 64 := by omega
  unfold WfI
  have : ∀ m : Fin 64, (Lit.int .i64 ((m.val : Nat) : Int)).wf = true := by decide
  exact this ⟨n, hn⟩
/-- What a look-up gives. -/
def ptrO : Option Nat → Value
  | none => .pointer none
  | some b => .pointer (some ⟨b, 0, none⟩)
theorem rdP_nil {v : Value} {ps : List MemPlace} (h : rdP v = some (.lit (.int .i64 (-1)), ps)) : v = .pointer none := by
  unfold rdP at h
  split at h
  · rfl
  · simp only [Option.some.injEq, Prod.mk.injEq, DataW.lit.injEq, Lit.int.injEq, true_and] at h
    omega
  · cases h
theorem look_val {D : Dt} {f : Int → Option Nat} {n : Nat} (T : TellsP D f n) {i : Int} {v : Value} {ps : List MemPlace} (hv : rdP v = some (D.atKey (.int .i64 i) (.lit (.int .i64 (-1))), ps)) : v = ptrO (f i) := by
  cases hf : f i with
  | none =>
    rw [atKey_of_not_has (by rw [T.has i, hf]; rfl)] at hv
    exact rdP_nil hv
  | some b =>
    rw [T.at' i b _ hf] at hv
    exact rdP_inv hv
theorem look_ok {w : World} {m L n : Nat} {f : Int → Option Nat} {D : Dt} (O : w.ownsMap Try.prog 3 rdP m L D) (T : TellsP D f n) {i : Int} (hwf : WfI i) :
    (Instr.lookup 37 (.map (some m)) (.int .i64 i) true).run Try.prog w = .ok (.tuple #[ptrO (f i), .bool (f i).isSome]) w := by
  obtain ⟨v, ps, hrun, hv⟩ := O.look_ok lawI Try.underlying37 (zeroP w) (zd := .lit (.int .i64 (-1))) (zp := []) rfl (keyOf_int_mk Try.underlying3 hwf)
  rw [hrun, T.has i, look_val T hv]
theorem look_one {w : World} {m L n : Nat} {f : Int → Option Nat} {D : Dt} (O : w.ownsMap Try.prog 3 rdP m L D) (T : TellsP D f n) {i : Int} (hwf : WfI i) :
    (Instr.lookup 37 (.map (some m)) (.int .i64 i) false).run Try.prog w = .ok (ptrO (f i)) w := by
  obtain ⟨v, ps, hrun, hv⟩ := O.lookup lawI Try.underlying37 (zeroP w) (zd := .lit (.int .i64 (-1))) (zp := []) rfl (keyOf_int_mk Try.underlying3 hwf)
  rw [hrun, look_val T hv]
/-- Whether it is up, asleep or woken. -/
theorem st_three {s : StV} (hg : GoodV s) {t : Int} : stV s.line t = none ∨ ∃ x, stV s.line t = some x ∧ (t, x) ∈ s.line ∧ (x = 0 ∨ x = 1 ∨ x = 2) := by
  cases h : stV s.line t with
  | none => exact Or.inl rfl
  | some x =>
    have hm := (stV_some hg.nod).1 h
    have := (hg.rng _ hm).2
    simp only at this
    exact Or.inr ⟨x, rfl, hm, by omega⟩
set_option maxHeartbeats 1000000 in
set_option maxRecDepth 100000 in
theorem checkThread_W {w0 w : World} {B m L : Nat} {s : StV} (HS : Hid (QuV w0 w B m L s)) (HG : Hid (GoodV s)) (k t : Int) (hk : k = 1 ∨ k = 2 ∨ k = 3) (ht : 0 ≤ t ∧ t ≤ 63) (x : Int) (hx : Hid (errV s ⟨k, t⟩ = x)) :
    Calls Try.prog 20 #[.pointer (some ⟨B, 0, none⟩), .agg #[.int .i64 k, .int .i64 t]] w fun e w' => e = .returned (.int .i64 x) ∧ Below w.heap.size w w' := by
  obtain ⟨P, ov, gv, HM⟩ := HS.out
  have hwf := wfI_of ht
  have B0 := below_alloc w (.cells #[.int .i64 k, .int .i64 t] 35)
  have W1 := HM.step B0
  obtain ⟨t0, t1⟩ := pair_at (heap_alloc_new w (.cells #[.int .i64 k, .int .i64 t] 35))
  have hBl := W1.lt
  obtain ⟨_, cm, cn, _⟩ := W1.cells
  obtain ⟨D, O1, TD⟩ := W1.mp
  have hl : ∀ q : Nat, (Instr.lookup 37 (.map (some m)) (.int .i64 t) true).run Try.prog ((w.alloc (.cells #[.int .i64 k, .int .i64 t] 35)).drewN q) = .ok (.tuple #[ptrO (fnV P s.line t), .bool (fnV P s.line t).isSome]) ((w.alloc (.cells #[.int .i64 k, .int .i64 t] 35)).drewN q) := fun q =>
    look_ok (w := (w.alloc (.cells #[.int .i64 k, .int .i64 t] 35)).drewN q) (own_sameM O1 rfl) TD hwf
  have B1 : Hid (∀ q, Below w.heap.size w ((w.alloc (.cells #[.int .i64 k, .int .i64 t] 35)).drewN q)) := Lib.hid fun q => below_drewN B0 q
  obtain ⟨th, hth⟩ : ∃ th, s.things = th := ⟨_, rfl⟩
  rw [hth] at cn
  rcases st_three HG.out (t := t) with hst | ⟨y, hst, hmem, hy⟩
  · have hf : fnV P s.line t = none := by unfold fnV; rw [if_pos hst]
    rw [hf] at hl
    have hl2 : ∀ q : Nat, (Instr.lookup 37 (.map (some m)) (.int .i64 t) true).run Try.prog ((w.alloc (.cells #[.int .i64 k, .int .i64 t] 35)).drewN q) = .ok (.tuple #[.pointer none, .bool false]) ((w.alloc (.cells #[.int .i64 k, .int .i64 t] 35)).drewN q) := hl
    have HST := Lib.hid hst
    clear hl hf hst HS HM W1 O1 TD D B0 HG
    rcases hk with rfl | rfl | rfl
    · obtain rfl : x = 0 := by
        rw [← hx.out]
        unfold errV
        simp only
        rw [HST.out, if_neg (by omega), if_neg (by omega), if_neg (by simp), if_pos trivial]
      go_enter Try.func20, Try.ntmps20
      go_wp2_with fail
      go_quiet (fail)
      go_wp2_with fail
      go_ret
      exact ⟨rfl, B1.out _⟩
    · obtain rfl : x = 3 := by
        rw [← hx.out]
        unfold errV
        simp only
        rw [HST.out, if_neg (by omega), if_neg (by omega), if_neg (by simp), if_neg (by omega), if_pos trivial, if_pos rfl]
      go_enter Try.func20, Try.ntmps20
      go_wp2_with fail
      go_quiet (fail)
      go_wp2_with fail
      go_ret
      exact ⟨rfl, B1.out _⟩
    · obtain rfl : x = 3 := by
        rw [← hx.out]
        unfold errV
        simp only
        rw [HST.out, if_neg (by omega), if_neg (by omega), if_neg (by simp), if_neg (by omega), if_neg (by omega), if_pos trivial, if_pos rfl]
      go_enter Try.func20, Try.ntmps20
      go_wp2_with fail
      go_quiet (fail)
      go_wp2_with fail
      go_ret
      exact ⟨rfl, B1.out _⟩
  · have hf : fnV P s.line t = some (P t) := by unfold fnV; rw [if_neg (by rw [hst]; simp)]
    rw [hf] at hl
    obtain ⟨_, _, c2, hpl, _⟩ := W1.thrAt hmem
    simp only at c2 hpl
    obtain ⟨p, hp⟩ : ∃ p, P t = p := ⟨_, rfl⟩
    rw [hp] at hl c2 hpl
    have hl2 : ∀ q : Nat, (Instr.lookup 37 (.map (some m)) (.int .i64 t) true).run Try.prog ((w.alloc (.cells #[.int .i64 k, .int .i64 t] 35)).drewN q) = .ok (.tuple #[.pointer (some ⟨p, 0, none⟩), .bool true]) ((w.alloc (.cells #[.int .i64 k, .int .i64 t] 35)).drewN q) := hl
    have HST := Lib.hid hst
    clear hl hf hst HS HM W1 O1 TD D B0 HG hmem hp
    by_cases hy1 : y = 1
    · subst hy1
      have c3 : (w.alloc (.cells #[.int .i64 k, .int .i64 t] 35)).cell? ⟨p, 2, none⟩ = some (.bool true) := c2
      obtain rfl : x = 7 := by
        rw [← hx.out]
        unfold errV
        simp only
        rw [HST.out, if_neg (by omega), if_neg (by omega), if_pos ⟨hk, rfl⟩]
      clear c2 hy
      go_enter Try.func20, Try.ntmps20
      go_wp2_with fail
      go_quiet (fail)
      go_wp2_with fail
      go_ret
      exact ⟨rfl, B1.out _⟩
    · have c3 : (w.alloc (.cells #[.int .i64 k, .int .i64 t] 35)).cell? ⟨p, 2, none⟩ = some (.bool false) := by
        rw [c2]
        rcases hy with rfl | rfl | rfl
        · rfl
        · exact absurd rfl hy1
        · rfl
      have HST2 : Hid (¬ stV s.line t = some 1 ∧ ¬ stV s.line t = none) := Lib.hid ⟨by rw [HST.out]; simpa using hy1, by rw [HST.out]; simp⟩
      clear c2 hy hy1 HST
      rcases hk with rfl | rfl | rfl
      · obtain rfl : x = 0 := by
          rw [← hx.out]
          unfold errV
          simp only
          rw [if_neg (by omega), if_neg (by omega), if_neg (fun h => HST2.out.1 h.2), if_pos trivial]
        go_enter Try.func20, Try.ntmps20
        go_wp2_with fail
        go_quiet (fail)
        go_wp2_with fail
        go_ret
        exact ⟨rfl, B1.out _⟩
      · by_cases h0 : th = 0
        · subst h0
          obtain rfl : x = 6 := by
            rw [← hx.out]
            unfold errV
            simp only
            rw [if_neg (by omega), if_neg (by omega), if_neg (fun h => HST2.out.1 h.2), if_neg (by omega), if_pos trivial, if_neg HST2.out.2, if_pos hth]
          clear hth
          go_enter Try.func20, Try.ntmps20
          go_wp2_with fail
          go_quiet (fail)
          go_wp2_with fail
          go_ret
          exact ⟨rfl, B1.out _⟩
        · obtain rfl : x = 0 := by
            rw [← hx.out]
            unfold errV
            simp only
            rw [if_neg (by omega), if_neg (by omega), if_neg (fun h => HST2.out.1 h.2), if_neg (by omega), if_pos trivial, if_neg HST2.out.2, if_neg (by omega)]
          have h1 : ¬ (th : Int) = 0 := by omega
          have h2 : ((th : Int) == 0) = false := by simpa using h0
          clear hth
          go_enter Try.func20, Try.ntmps20
          go_wp2_with fail
          go_quiet (fail)
          go_wp2_with fail
          go_ret
          exact ⟨rfl, B1.out _⟩
      · obtain rfl : x = 0 := by
          rw [← hx.out]
          unfold errV
          simp only
          rw [if_neg (by omega), if_neg (by omega), if_neg (fun h => HST2.out.1 h.2), if_neg (by omega), if_neg (by omega), if_pos trivial, if_neg HST2.out.2]
        go_enter Try.func20, Try.ntmps20
        go_wp2_with fail
        go_quiet (fail)
        go_wp2_with fail
        go_ret
        exact ⟨rfl, B1.out _⟩
set_option maxHeartbeats 1000000 in
set_option maxRecDepth 100000 in
theorem check_W {w0 w : World} {B m L : Nat} {s : StV} (HS : Hid (QuV w0 w B m L s)) (HG : Hid (GoodV s)) (k t : Int) (x : Int) (hx : Hid (errV s ⟨k, t⟩ = x)) :
    Calls Try.prog 15 #[.pointer (some ⟨B, 0, none⟩), .agg #[.int .i64 k, .int .i64 t]] w fun e w' => e = .returned (.int .i64 x) ∧ Below w.heap.size w w' := by
  have B0 := below_alloc w (.cells #[.int .i64 k, .int .i64 t] 35)
  have Q1 := Lib.hid (HS.out.step B0)
  obtain ⟨t0, t1⟩ := pair_at (heap_alloc_new w (.cells #[.int .i64 k, .int .i64 t] 35))
  have HB := Lib.hid B0
  obtain ⟨P, ov, gv, HM⟩ := Q1.out
  have hBl := HM.lt
  obtain ⟨_, _, cn, _⟩ := HM.cells
  obtain ⟨th, hth⟩ : ∃ th, s.things = th := ⟨_, rfl⟩
  rw [hth] at cn
  have hmost : th ≤ 400 := by rw [← hth]; exact HG.out.most
  clear HM B0
  by_cases k1 : k < 1
  · obtain rfl : x = 5 := by
      rw [← hx.out]
      unfold errV
      rw [if_pos (Or.inl k1)]
    have kd : decide (k < 1) = true := decide_eq_true k1
    go_enter Try.func15, Try.ntmps15
    go_wp2_with fail
    go_ret
    exact ⟨rfl, HB.out⟩
  have kd : decide (k < 1) = false := decide_eq_false k1
  by_cases k5 : 5 < k
  · obtain rfl : x = 5 := by
      rw [← hx.out]
      unfold errV
      rw [if_pos (Or.inr k5)]
    have ke : decide (5 < k) = true := decide_eq_true k5
    go_enter Try.func15, Try.ntmps15
    go_wp2_with fail
    go_ret
    exact ⟨rfl, HB.out⟩
  have ke : decide (5 < k) = false := decide_eq_false k5
  by_cases r1 : t < 0
  · obtain rfl : x = 2 := by
      rw [← hx.out]
      unfold errV
      simp only
      rw [if_neg (by omega), if_pos (Or.inl r1)]
    have rd : decide (t < 0) = true := decide_eq_true r1
    go_enter Try.func15, Try.ntmps15
    go_wp2_with fail
    go_ret
    exact ⟨rfl, HB.out⟩
  have rd : decide (t < 0) = false := decide_eq_false r1
  by_cases r2 : 63 < t
  · obtain rfl : x = 2 := by
      rw [← hx.out]
      unfold errV
      simp only
      rw [if_neg (by omega), if_pos (Or.inr r2)]
    have re : decide (63 < t) = true := decide_eq_true r2
    go_enter Try.func15, Try.ntmps15
    go_wp2_with fail
    go_ret
    exact ⟨rfl, HB.out⟩
  have re : decide (63 < t) = false := decide_eq_false r2
  have ht : 0 ≤ t ∧ t ≤ 63 := by omega
  have hk : k = 1 ∨ k = 2 ∨ k = 3 ∨ k = 4 ∨ k = 5 := by omega
  rcases hk with rfl | rfl | rfl | rfl | rfl
  · go_enter Try.func15, Try.ntmps15
    go_wp2_with (first
      | (go_at_call 20; (with_reducible refine (checkThread_W Q1 HG 1 t (Or.inl rfl) ht x hx).mono ?_); rintro e w2 ⟨rfl, hb⟩; have B2 := Lib.hid (pstep HB.out hb); clear hb)
      | fail)
    go_ret
    exact ⟨rfl, B2.out⟩
  · go_enter Try.func15, Try.ntmps15
    go_wp2_with (first
      | (go_at_call 20; (with_reducible refine (checkThread_W Q1 HG 2 t (Or.inr (Or.inl rfl)) ht x hx).mono ?_); rintro e w2 ⟨rfl, hb⟩; have B2 := Lib.hid (pstep HB.out hb); clear hb)
      | fail)
    go_ret
    exact ⟨rfl, B2.out⟩
  · go_enter Try.func15, Try.ntmps15
    go_wp2_with (first
      | (go_at_call 20; (with_reducible refine (checkThread_W Q1 HG 3 t (Or.inr (Or.inr rfl)) ht x hx).mono ?_); rintro e w2 ⟨rfl, hb⟩; have B2 := Lib.hid (pstep HB.out hb); clear hb)
      | fail)
    go_ret
    exact ⟨rfl, B2.out⟩
  · by_cases h4 : th = 400
    · obtain rfl : x = 4 := by
        rw [← hx.out]
        unfold errV
        simp only
        rw [if_neg (by omega), if_neg (by omega), if_neg (by omega), if_neg (by omega), if_neg (by omega), if_neg (by omega), if_pos trivial, if_pos (by omega)]
      subst h4
      clear hth
      go_enter Try.func15, Try.ntmps15
      go_wp2_with fail
      go_ret
      exact ⟨rfl, HB.out⟩
    · obtain rfl : x = 0 := by
        rw [← hx.out]
        unfold errV
        simp only
        rw [if_neg (by omega), if_neg (by omega), if_neg (by omega), if_neg (by omega), if_neg (by omega), if_neg (by omega), if_pos trivial, if_neg (by omega)]
      have h5 : ¬ (th : Int) = 400 := by omega
      have h6 : ((th : Int) == 400) = false := by simp; omega
      clear hth
      go_enter Try.func15, Try.ntmps15
      go_wp2_with fail
      go_ret
      exact ⟨rfl, HB.out⟩
  · obtain rfl : x = 0 := by
      rw [← hx.out]
      unfold errV
      simp only
      rw [if_neg (by omega), if_neg (by omega), if_neg (by omega), if_neg (by omega), if_neg (by omega), if_neg (by omega), if_neg (by omega)]
    go_enter Try.func15, Try.ntmps15
    go_wp2_with fail
    go_ret
    exact ⟨rfl, HB.out⟩
end Go.Proofs.Ytghonbiiichedaa
