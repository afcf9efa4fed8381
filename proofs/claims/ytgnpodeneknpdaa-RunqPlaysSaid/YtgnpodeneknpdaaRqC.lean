/- Package runq: the walks of check, insert, remove, first. -/
import Derived.Test.YtgnpodeneknpdaaRqB
import Derived.Deep.LoopGhost
namespace Go.Proofs.Ytgnpodeneknpdaa
open Go.RowKit Go.Maps

/-- What a look-up gives. -/
def ptrO : Option Nat → Value
  | none => .pointer none
  | some b => .pointer (some ⟨b, 0, none⟩)
theorem rdP_nil {v : Value} {ps : List MemPlace} (h : rdP v = some (.lit (.int .i64 (-1)), ps)) : v = .pointer none := by
  unfold rdP at h
  split at h
  · rfl
  · simp only [Option.some.injEq, Prod.mk.injEq, DataW.lit.injEq, Lit.int.injEq, true_and] at h
    omega
  · cases h
theorem look_val {D : Dt} {f : Int → Option Nat} {n : Nat} (T : TellsP D f n) {i : Int} {v : Value} {ps : List MemPlace} (hv : rdP v = some (D.atKey (.int .i64 i) (.lit (.int .i64 (-1))), ps)) : v = ptrO (f i) := by
  cases hf : f i with
  | none =>
    rw [atKey_of_not_has (by rw [T.has i, hf]; rfl)] at hv
    exact rdP_nil hv
  | some b =>
    rw [T.at' i b _ hf] at hv
    exact rdP_inv hv
theorem look_ok {w : World} {m L n : Nat} {f : Int → Option Nat} {D : Dt} (O : w.ownsMap Try.prog 3 rdP m L D) (T : TellsP D f n) {i : Int} (hwf : WfI i) :
    (Instr.lookup 53 (.map (some m)) (.int .i64 i) true).run Try.prog w = .ok (.tuple #[ptrO (f i), .bool (f i).isSome]) w := by
  obtain ⟨v, ps, hrun, hv⟩ := O.look_ok lawI Try.underlying53 (zeroP w) (zd := .lit (.int .i64 (-1))) (zp := []) rfl (keyOf_int_mk Try.underlying3 hwf)
  rw [hrun, T.has i, look_val T hv]
theorem look_one {w : World} {m L n : Nat} {f : Int → Option Nat} {D : Dt} (O : w.ownsMap Try.prog 3 rdP m L D) (T : TellsP D f n) {i : Int} (hwf : WfI i) :
    (Instr.lookup 53 (.map (some m)) (.int .i64 i) false).run Try.prog w = .ok (ptrO (f i)) w := by
  obtain ⟨v, ps, hrun, hv⟩ := O.lookup lawI Try.underlying53 (zeroP w) (zd := .lit (.int .i64 (-1))) (zp := []) rfl (keyOf_int_mk Try.underlying3 hwf)
  rw [hrun, look_val T hv]
set_option maxHeartbeats 1000000 in
set_option maxRecDepth 100000 in
theorem check_W {w0 w : World} {B m L : Nat} {s : StU} (HS : Hid (QuS w0 w B m L s)) (k i l : Int) (hwf : WfI i) (x : Int) (hx : Hid (errU s ⟨k, i, l⟩ = x)) :
    Calls Try.prog 25 #[.pointer (some ⟨B, 0, none⟩), .agg #[.int .i64 k, .int .i64 i, .int .i64 l]] w fun e w' => e = .returned (.int .i64 x) ∧ Below w.heap.size w w' := by
  obtain ⟨g, R, tv, HM, HT⟩ := HS.out
  have B0 := below_alloc w (.cells #[.int .i64 k, .int .i64 i, .int .i64 l] 34)
  have W1 := HM.step B0
  have T1 := trio_at (heap_alloc_new w (.cells #[.int .i64 k, .int .i64 i, .int .i64 l] 34))
  have hBl := W1.lt
  have cm := W1.cell W1.rm
  obtain ⟨D, O1, TD⟩ := W1.mp
  have hb0 := HT.held i
  obtain ⟨b, hq⟩ : ∃ b, heldU s i = b := ⟨_, rfl⟩
  rw [hq] at hb0
  have hl : ∀ q : Nat, (Instr.lookup 53 (.map (some m)) (.int .i64 i) true).run Try.prog ((w.alloc (.cells #[.int .i64 k, .int .i64 i, .int .i64 l] 34)).drewN q) = .ok (.tuple #[ptrO (g.f i), .bool b]) ((w.alloc (.cells #[.int .i64 k, .int .i64 i, .int .i64 l] 34)).drewN q) := fun q => by
    rw [← hb0]
    exact look_ok (w := (w.alloc (.cells #[.int .i64 k, .int .i64 i, .int .i64 l] 34)).drewN q) (own_sameM O1 rfl) TD hwf
  obtain ⟨cnt, hcnt⟩ : ∃ cnt, s.list.length = cnt := ⟨_, rfl⟩
  have hlen : ∀ (q : Nat) (ty : TypeId), (Builtin.len_ #[53] ty #[.map (some m)]).run Try.prog ((w.alloc (.cells #[.int .i64 k, .int .i64 i, .int .i64 l] 34)).drewN q) = .ok (.int .i64 (cnt : Int)) ((w.alloc (.cells #[.int .i64 k, .int .i64 i, .int .i64 l] 34)).drewN q) := fun q ty => by
    have h := (own_sameM (w' := (w.alloc (.cells #[.int .i64 k, .int .i64 i, .int .i64 l] 34)).drewN q) O1 rfl).len Try.underlying53 ty
    rw [TD.sz, hcnt] at h
    exact h
  have HQ := Lib.hid hq
  have HC : Hid (s.list = [] ↔ cnt = 0) := Lib.hid (by rw [← hcnt]; exact List.length_eq_zero_iff.symm)
  have B1 : Hid (∀ q, Below w.heap.size w ((w.alloc (.cells #[.int .i64 k, .int .i64 i, .int .i64 l] 34)).drewN q)) := Lib.hid fun q => below_drewN B0 q
  generalize ptrO (g.f i) = v at hl
  clear HM HT HS O1 TD W1 B0 hq hb0 hcnt D hwf
  by_cases k1 : k = 1
  · subst k1
    by_cases r1 : l < 0
    · obtain rfl : x = 2 := by
        rw [← hx.out]
        simp [errU, r1]
      go_enter Try.func25, Try.ntmps25
      go_wp2_with fail
      go_quiet (fail)
      go_wp2_with fail
      go_ret
      exact ⟨rfl, B1.out _⟩
    by_cases r2 : 32 ≤ l
    · have r3 : 31 < l := by omega
      obtain rfl : x = 2 := by
        rw [← hx.out]
        simp [errU, r3]
      go_enter Try.func25, Try.ntmps25
      go_wp2_with fail
      go_quiet (fail)
      go_wp2_with fail
      go_ret
      exact ⟨rfl, B1.out _⟩
    have r3 : ¬ 31 < l := by omega
    cases b with
    | true =>
      obtain rfl : x = 6 := by
        rw [← hx.out]
        simp [errU, r1, r3, HQ.out]
      go_enter Try.func25, Try.ntmps25
      go_wp2_with fail
      go_quiet (fail)
      go_wp2_with fail
      go_ret
      exact ⟨rfl, B1.out _⟩
    | false =>
      obtain rfl : x = 0 := by
        rw [← hx.out]
        simp [errU, r1, r3, HQ.out]
      go_enter Try.func25, Try.ntmps25
      go_wp2_with fail
      go_quiet (fail)
      go_wp2_with fail
      go_ret
      exact ⟨rfl, B1.out _⟩
  by_cases k2 : k = 2
  · subst k2
    by_cases r1 : l < 0
    · obtain rfl : x = 2 := by
        rw [← hx.out]
        simp [errU, r1]
      go_enter Try.func25, Try.ntmps25
      go_wp2_with fail
      go_quiet (fail)
      go_wp2_with fail
      go_ret
      exact ⟨rfl, B1.out _⟩
    by_cases r2 : 32 ≤ l
    · have r3 : 31 < l := by omega
      obtain rfl : x = 2 := by
        rw [← hx.out]
        simp [errU, r3]
      go_enter Try.func25, Try.ntmps25
      go_wp2_with fail
      go_quiet (fail)
      go_wp2_with fail
      go_ret
      exact ⟨rfl, B1.out _⟩
    have r3 : ¬ 31 < l := by omega
    cases b with
    | true =>
      obtain rfl : x = 6 := by
        rw [← hx.out]
        simp [errU, r1, r3, HQ.out]
      go_enter Try.func25, Try.ntmps25
      go_wp2_with fail
      go_quiet (fail)
      go_wp2_with fail
      go_ret
      exact ⟨rfl, B1.out _⟩
    | false =>
      obtain rfl : x = 0 := by
        rw [← hx.out]
        simp [errU, r1, r3, HQ.out]
      go_enter Try.func25, Try.ntmps25
      go_wp2_with fail
      go_quiet (fail)
      go_wp2_with fail
      go_ret
      exact ⟨rfl, B1.out _⟩
  by_cases k3 : k = 3
  · subst k3
    by_cases h0 : cnt = 0
    · subst h0
      have hl0 := HC.out.2 rfl
      obtain rfl : x = 3 := by
        rw [← hx.out]
        simp [errU, hl0]
      go_enter Try.func25, Try.ntmps25
      go_wp2_with fail
      go_quiet (fail)
      go_wp2_with fail
      go_ret
      exact ⟨rfl, B1.out _⟩
    · have h1 : ¬ (cnt : Int) = 0 := by omega
      have h2 : ((cnt : Int) == 0) = false := by simpa using h0
      have hl0 : ¬ s.list = [] := fun e => h0 (HC.out.1 e)
      obtain rfl : x = 0 := by
        rw [← hx.out]
        simp [errU, hl0]
      go_enter Try.func25, Try.ntmps25
      go_wp2_with fail
      go_quiet (fail)
      go_wp2_with fail
      go_ret
      exact ⟨rfl, B1.out _⟩
  by_cases k4 : k = 4
  · subst k4
    cases b with
    | true =>
      obtain rfl : x = 0 := by
        rw [← hx.out]
        simp [errU, HQ.out]
      go_enter Try.func25, Try.ntmps25
      go_wp2_with fail
      go_quiet (fail)
      go_wp2_with fail
      go_ret
      exact ⟨rfl, B1.out _⟩
    | false =>
      obtain rfl : x = 3 := by
        rw [← hx.out]
        simp [errU, HQ.out]
      go_enter Try.func25, Try.ntmps25
      go_wp2_with fail
      go_quiet (fail)
      go_wp2_with fail
      go_ret
      exact ⟨rfl, B1.out _⟩
  have e1 : (k == 1) = false := by simpa using k1
  have e2 : (k == 2) = false := by simpa using k2
  have e3 : (k == 3) = false := by simpa using k3
  have e4 : (k == 4) = false := by simpa using k4
  obtain rfl : x = 5 := by
    rw [← hx.out]
    unfold errU
    rw [if_pos (show k < 1 ∨ 4 < k by omega)]
  go_enter Try.func25, Try.ntmps25
  go_wp2_with fail
  go_quiet (fail)
  go_wp2_with fail
  go_ret
  exact ⟨rfl, B1.out _⟩
/-- What a step leaves. -/
def StepQ (w0 w : World) (B m L : Nat) (s : StU) (e : Ending) (w' : World) : Prop := e = .returned (.tuple #[]) ∧ QuS w0 w' B m L s ∧ KeepQ w w'
end Go.Proofs.Ytgnpodeneknpdaa
