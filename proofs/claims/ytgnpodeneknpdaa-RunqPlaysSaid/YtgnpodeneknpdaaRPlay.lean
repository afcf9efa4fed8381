/- RunqPlays: Play against the reference. -/
import Derived.Test.YtgnpodeneknpdaaMpF
namespace Go.Proofs.Ytgnpodeneknpdaa
open Go.RowKit

set_option maxHeartbeats 4000000 in
set_option maxRecDepth 100000 in
theorem plays_ok {a1 : Option Addr} {c1 n : Nat} {ops : List RuT} (w : World) (HA : Hid (shR.At w a1 c1 ops)) (hm : Hid (ops.length = n)) (hn : n ≤ 5864062014634) (HW : Hid (∀ o ∈ ops, WfI o.i)) :
    Calls Try.prog 3 #[.slice a1 n c1] w fun e w' => e = .returned (.bool true) ∧ Below w.heap.size w w' := by
  obtain ⟨s, hs⟩ : ∃ s, runU newU ops = s := ⟨_, rfl⟩
  obtain ⟨es, he⟩ : ∃ es, errsU newU ops = es := ⟨_, rfl⟩
  obtain ⟨tl, htl⟩ : ∃ tl, s.taken.length = tl := ⟨_, rfl⟩
  obtain ⟨ll, hll⟩ : ∃ ll, s.list.length = ll := ⟨_, rfl⟩
  have hsz := run_sizes hs
  rw [htl, hll, hm.out] at hsz
  have HP1 := Lib.hid (fun (ra : Option Addr) (rc : Nat) X (HX : Hid (shR.At X ra rc ops)) => play_res hm (by omega) HW (Lib.hid he) (Lib.hid hs) (Lib.hid htl) (Lib.hid hll) ra rc X HX)
  unfold PlayN at HP1
  have HP2 := Lib.hid (fun (ra : Option Addr) (rc : Nat) X (HX : Hid (shR.At X ra rc ops)) => mplay_ok X HX hm hn (Lib.hid he) (Lib.hid hs) (Lib.hid htl) (Lib.hid hll))
  unfold MPlayN at HP2
  have HEL : Hid (es.length = n) := Lib.hid (by rw [← he, errsU_len, hm.out])
  have HTL := Lib.hid htl
  have HLL : Hid ((leftU s).length = ll) := Lib.hid (by rw [left_len, hll])
  have hn1 : n ≤ 9223372036854775807 := by omega
  have hn2 : tl ≤ 9223372036854775807 := by omega
  have hn3 : ll ≤ 9223372036854775807 := by omega
  clear hs he htl hll hsz
  go_enter Try.func3, Try.ntmps3
  go_wp2_with (first
    | (go_at_call 9; (with_reducible refine (HP1.out _ _ _ HA).mono ?_); rintro e w1 ⟨E, ta, tc, la, lc, rfl, hE, hT, hL, hb⟩; have B1 := Lib.hid hb; have E1 := Lib.hid hE; have T1 := Lib.hid hT; have L1 := Lib.hid hL; have A1 := Lib.hid (HA.out.step hb); clear hb hE hT hL)
    | (go_at_call 10; (with_reducible refine (HP2.out _ _ _ A1).mono ?_); rintro e w2 ⟨ea, ec, ta2, tc2, la2, lc2, rfl, hE, hT, hL, hb⟩; have B2 := Lib.hid (pstep B1.out hb); have E2 := Lib.hid (E1.out.step hb); have T2 := Lib.hid (T1.out.step hb); have L2 := Lib.hid (L1.out.step hb); have E3 := Lib.hid hE; have T3 := Lib.hid hT; have L3 := Lib.hid hL; clear hb hE hT hL)
    | (go_at_call 11; (with_reducible refine (equalE _ HEL E2 E3 hn1).mono ?_); rintro e w3 ⟨rfl, hb⟩; have B3 := Lib.hid (pstep B2.out hb); have T4 := Lib.hid (T2.out.step hb); have T5 := Lib.hid (T3.out.step hb); have L4 := Lib.hid (L2.out.step hb); have L5 := Lib.hid (L3.out.step hb); clear hb)
    | (go_at_call 12; (with_reducible refine (equalI _ HTL T4 T5 hn2).mono ?_); rintro e w4 ⟨rfl, hb⟩; have B4 := Lib.hid (pstep B3.out hb); have L6 := Lib.hid (L4.out.step hb); have L7 := Lib.hid (L5.out.step hb); clear hb)
    | (go_at_call 12; (with_reducible refine (equalI _ HLL L6 L7 hn3).mono ?_); rintro e w5 ⟨rfl, hb⟩; have B5 := Lib.hid (pstep B4.out hb); clear hb)
    | fail)
  go_ret
  exact ⟨rfl, B5.out⟩
theorem runqPlays_walk (v : Value) (w : World) (h : ArgRus w v) (u : lenOf v ≤ 5864062014634) : Calls Try.prog 3 #[v] w fun e w' => e = .returned (.bool true) ∧ Below w.heap.size w w' := by
  obtain ⟨a1, c1, l, rfl, hA, hwf, _, _⟩ := h
  exact plays_ok w (Lib.hid hA) (Lib.hid rfl) u (Lib.hid hwf)
end Go.Proofs.Ytgnpodeneknpdaa
