/- The walk of RankPlays. -/
import Derived.Test.YtcnnimhdnmmaoaaRnkP
namespace Go.Proofs.Ytcnnimhdnmmaoaa
open Go.RowKit

set_option maxHeartbeats 1000000 in
set_option maxRecDepth 100000 in
theorem rankPlays_walk (v0 v1 v2 v3 : Value) (w : World) (g0 : ArgInt w v0) (g1 : ArgInt w v1) (g2 : ArgBool w v2) (g3 : ArgOps w v3) (u3 : lenOf v3 ≤ 5864062014634) :
    Calls Try.prog 3 #[v0, v1, v2, v3] w fun e w' => e = .returned (.bool true) ∧ Below w.heap.size w w' := by
  obtain ⟨T, rfl⟩ := g0
  obtain ⟨L, rfl⟩ := g1
  obtain ⟨rk, rfl⟩ := g2
  obtain ⟨ad, cap, ops, rfl, h0, _, _⟩ := g3
  have hm : ops.length ≤ 5864062014634 := u3
  have HA := Lib.hid h0
  by_cases hb : T < 1 ∨ 16 < T ∨ L < 1 ∨ 16 < L
  · have HB := Lib.hid hb
    have N0 : Hid (([] : List Int).length = 0) := Lib.hid rfl
    have N1 : 0 ≤ 9223372036854775807 := by decide
    clear hb h0
    go_enter Try.func3, Try.ntmps3
    go_wp2_with (first
      | (go_at_call 9; (with_reducible refine (play_bad _ _ rk _ _ HB.out).mono ?_); rintro e w2 ⟨rfl, rfl⟩)
      | (go_at_call 10; (with_reducible refine (hplay_bad _ _ rk _ _ HB.out).mono ?_); rintro e w3 ⟨rfl, hb⟩; have B3 := Lib.hid hb; have E3 := Lib.hid (Shape.At.nil (S := shI) w3); clear hb)
      | (go_at_call 11; (with_reducible refine (equalE _ N0 E3 E3 N1).mono ?_); rintro e w4 ⟨rfl, hb⟩; have B4 := Lib.hid (pstep B3.out hb); have E4 := Lib.hid (Shape.At.nil (S := shI) w4); clear hb)
      | (go_at_call 12; (with_reducible refine (equalI _ N0 E4 E4 N1).mono ?_); rintro e w5 ⟨rfl, hb⟩; have B5 := Lib.hid (pstep B4.out hb); have E5 := Lib.hid (Shape.At.nil (S := shI) w5); clear hb)
      | (go_at_call 12; (with_reducible refine (equalI _ N0 E5 E5 N1).mono ?_); rintro e w6 ⟨rfl, hb⟩; have B6 := Lib.hid (pstep B5.out hb); clear hb)
      | fail)
    go_ret
    exact ⟨rfl, B6.out⟩
  · obtain ⟨n, rfl⟩ : ∃ n : Nat, T = n := ⟨T.toNat, by omega⟩
    obtain ⟨K, rfl⟩ : ∃ K : Nat, L = K := ⟨L.toNat, by omega⟩
    have hn1 : 1 ≤ n := by omega
    have hn2 : n ≤ 16 := by omega
    have hK1 : 1 ≤ K := by omega
    have hK2 : K ≤ 16 := by omega
    obtain ⟨⟨es, s⟩, hr⟩ : ∃ r, runK n K rk ops = r := ⟨_, rfl⟩
    have HR := Lib.hid hr
    have hel := runK_len n K rk ops
    rw [hr] at hel
    obtain ⟨m, hmE⟩ : ∃ m, ops.length = m := ⟨_, rfl⟩
    have HL := Lib.hid hmE
    rw [hmE] at hm hel ⊢
    have HEL := Lib.hid hel
    have HKL := Lib.hid (rowL_len s.hold K)
    have HNL := Lib.hid (rowL_len s.wait n)
    have hmm : m ≤ 17592186044416 := by omega
    have hm63 : m ≤ 9223372036854775807 := by omega
    have hK63 : K ≤ 9223372036854775807 := by omega
    have hn63 : n ≤ 9223372036854775807 := by omega
    clear hb h0 hr hmE hel
    go_enter Try.func3, Try.ntmps3
    go_wp2_with (first
      | (go_at_call 9; (with_reducible refine (play_ok n K rk _ HA HL hmm hn1 hn2 hK1 hK2 es s HR).mono ?_); rintro e w2 ⟨E2, H2, T2, rfl, hE, hH, hT, hb⟩; have B2 := Lib.hid hb; have HA2 := Lib.hid (HA.out.step hb); have HE := Lib.hid hE; have HH := Lib.hid hH.list; have HT := Lib.hid hT.list; clear hE hH hT hb)
      | (go_at_call 10; (with_reducible refine (hplay_ok n K rk _ HA2 HL hmm hn1 hn2 hK1 hK2 es s HR).mono ?_); rintro e w3 ⟨ea, ec, ha, hc, wa, wcc, rfl, gE, gH, gT, hb⟩; have B3 := Lib.hid (pstep B2.out hb); have E1 := Lib.hid (HE.out.step hb); have H1 := Lib.hid (HH.out.step hb); have T1 := Lib.hid (HT.out.step hb); have GE := Lib.hid gE; have GH := Lib.hid gH; have GT := Lib.hid gT; clear gE gH gT hb)
      | (go_at_call 11; (with_reducible refine (equalE _ HEL E1 GE hm63).mono ?_); rintro e w4 ⟨rfl, hb⟩; have B4 := Lib.hid (pstep B3.out hb); have H4 := Lib.hid (H1.out.step hb); have GH4 := Lib.hid (GH.out.step hb); have T4 := Lib.hid (T1.out.step hb); have GT4 := Lib.hid (GT.out.step hb); clear hb)
      | (go_at_call 12; (with_reducible refine (equalI _ HKL H4 GH4 hK63).mono ?_); rintro e w5 ⟨rfl, hb⟩; have B5 := Lib.hid (pstep B4.out hb); have T5 := Lib.hid (T4.out.step hb); have GT5 := Lib.hid (GT4.out.step hb); clear hb)
      | (go_at_call 12; (with_reducible refine (equalI _ HNL T5 GT5 hn63).mono ?_); rintro e w6 ⟨rfl, hb⟩; have B6 := Lib.hid (pstep B5.out hb); clear hb)
      | fail)
    go_ret
    exact ⟨rfl, B6.out⟩
end Go.Proofs.Ytcnnimhdnmmaoaa
