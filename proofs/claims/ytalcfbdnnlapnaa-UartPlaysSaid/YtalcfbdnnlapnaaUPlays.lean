/- UartPlays: uart.Play answers what corebellref.PPlay answers. -/
import Derived.Test.YtalcfbdnnlapnaaUarI
namespace Go.Proofs.Ytalcfbdnnlapnaa
open Go.RowKit

set_option maxHeartbeats 4000000 in
set_option maxRecDepth 100000 in
theorem uplays_walk {ad : Option Addr} {cap n : Nat} {ops : List UaT} (w : World) (HA : Hid (shO.At w ad cap ops)) (A B N M l : Nat) (q : Bool) (rd sd inn out : List UInt8) (hA : Hid (rd.length = A)) (hB : Hid (sd.length = B)) (hN : Hid (inn.length = N)) (hM : Hid (out.length = M))
    (HP : Hid (∀ X, Hid (shO.At X ad cap ops) → Calls Try.prog 13 #[.slice ad n cap] X (PlayOut X A B N M l q rd sd inn out)))
    (HR : Hid (∀ X, Hid (shO.At X ad cap ops) → Calls Try.prog 14 #[.slice ad n cap] X (PlayOut X A B N M l q rd sd inn out))) :
    Calls Try.prog 4 #[.slice ad n cap] w fun e w' => e = .returned (.bool true) ∧ Below w.heap.size w w' := by
  have sl : ∀ l, (strB l).toList = l := strB_list
  go_enter Try.func4, Try.ntmps4
  go_wp2_with (first
    | (go_at_call 13; (with_reducible refine (HP.out _ HA).mono ?_); rintro e w1 ⟨ra, rc, sa, sc, ia, ic, oa, oc, rfl, h1, h2, h3, h4, hb⟩; have bl := below_alloc w1 (.cells #[.slice ia N ic, .slice oa M oc, .int .i64 (l : Nat), .bool q] 24); have bb := pstep hb bl; have B1 := Lib.hid bb; have A1 := Lib.hid (HA.out.step bb); have X1 := Lib.hid (heap_alloc_new w1 (.cells #[.slice ia N ic, .slice oa M oc, .int .i64 (l : Nat), .bool q] 24)); have R1 := Lib.hid (h1.step bl); have S1 := Lib.hid (h2.step bl); have I1 := Lib.hid (h3.step bl); have O1 := Lib.hid (h4.step bl); clear h1 h2 h3 h4 hb bl bb)
    | (go_at_call 14; (with_reducible refine (HR.out _ A1).mono ?_); rintro e w2 ⟨ra2, rc2, sa2, sc2, ia2, ic2, oa2, oc2, rfl, h1, h2, h3, h4, hb⟩; have bl := below_alloc w2 (.cells #[.slice ia2 N ic2, .slice oa2 M oc2, .int .i64 (l : Nat), .bool q] 24); have bb := pstep hb bl; have B2 := Lib.hid (pstep B1.out bb); have X2 := heap_step X1.out bb; have G2 := four_at X2; have l2 := heap_lt X2; have c1 := conv_at (R1.out.step bb) hA.out; have c2 := conv_at (S1.out.step bb) hB.out; have c3 := conv_at (h1.step bl) hA.out; have c4 := conv_at (h2.step bl) hB.out; have I2 := Lib.hid (I1.out.step bb); have O2 := Lib.hid (O1.out.step bb); have I3 := Lib.hid (h3.step bl); have O3 := Lib.hid (h4.step bl); clear h1 h2 h3 h4 hb bl bb X2)
    | (go_at_call 12; (with_reducible refine (same_U (l : Nat) q _ hN hM I2 O2 I3 O3).mono ?_); rintro e w3 ⟨rfl, hb⟩; have B3 := Lib.hid (pstep B2.out hb); clear hb)
    | fail)
  go_ret
  exact ⟨rfl, B3.out⟩
theorem uartPlays_walk (v : Value) (w : World) (h : ArgUos w v) (u : lenOf v ≤ 8796093021952) : Calls Try.prog 4 #[v] w fun e w' => e = .returned (.bool true) ∧ Below w.heap.size w w' := by
  obtain ⟨ad, cap, ops, rfl, hA, _, _⟩ := h
  simp only [lenOf] at u
  exact uplays_walk w (Lib.hid hA) _ _ _ _ _ _ _ _ _ _ (Lib.hid rfl) (Lib.hid rfl) (Lib.hid rfl) (Lib.hid rfl)
    (Lib.hid fun X HX => play_W X HX (Lib.hid rfl) (by omega) _ _ _ (Lib.hid rfl) (Lib.hid rfl) (Lib.hid rfl) _ _ _ _ (Lib.hid rfl) (Lib.hid rfl) (Lib.hid rfl) (Lib.hid rfl))
    (Lib.hid fun X HX => pplay_W X HX (Lib.hid rfl) (by omega) _ _ _ (Lib.hid rfl) (Lib.hid rfl) (Lib.hid rfl) _ _ _ _ (Lib.hid rfl) (Lib.hid rfl) (Lib.hid rfl) (Lib.hid rfl))
end Go.Proofs.Ytalcfbdnnlapnaa
