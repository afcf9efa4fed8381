/- WheelPlays: wheel.Play and corebellref.KPlay answer alike. -/
import Derived.Test.YtnnphmpodcmmoaaWhlM
namespace Go.Proofs.Ytnnphmpodcmmoaa
open Go.RowKit

section
variable {ad : Option Addr} {cap n : Nat} {ops : List TmT}
set_option maxHeartbeats 2000000 in
set_option maxRecDepth 100000 in
theorem plays_bad (w : World) (h : 400 < n) (hn : n ≤ 9223372036854775807) :
    Calls Try.prog 3 #[.slice ad n cap] w fun e w' => e = .returned (.bool true) ∧ Below w.heap.size w w' := by
  have LE : Hid (([] : List Int).length = 0) := Lib.hid rfl
  have LF : Hid (([] : List FiT).length = 0) := Lib.hid rfl
  have NE : Hid (∀ w : World, shI.At w none 0 []) := Lib.hid fun w => Shape.At.nil w
  have NF : Hid (∀ w : World, shF.At w none 0 []) := Lib.hid fun w => Shape.At.nil w
  have N0 : 0 ≤ 9223372036854775807 := by decide
  have H1 := Lib.hid (play_bad ad cap n w h hn)
  have H2 := Lib.hid (kplay_bad ad cap n w h hn)
  go_enter Try.func3, Try.ntmps3
  go_wp2_with (first
    | (go_at_call 9; (with_reducible refine H1.out.mono ?_); rintro e w2 ⟨rfl, rfl⟩)
    | (go_at_call 10; (with_reducible refine H2.out.mono ?_); rintro e w2 ⟨rfl, rfl⟩)
    | (go_at_call 11; (with_reducible refine (equalE _ LE (Lib.hid (NE.out _)) (Lib.hid (NE.out _)) N0).mono ?_); rintro e w3 ⟨rfl, hb⟩; have B3 := Lib.hid hb; clear hb)
    | (go_at_call 12; (with_reducible refine (equalF _ LF (Lib.hid (NF.out _)) (Lib.hid (NF.out _)) N0).mono ?_); rintro e w4 ⟨rfl, hb⟩; have B4 := Lib.hid (pstep B3.out hb); clear hb)
    | fail)
  go_ret
  exact ⟨rfl, B4.out⟩
set_option maxHeartbeats 2000000 in
set_option maxRecDepth 100000 in
theorem plays_ok (w : World) (HA : Hid (shT.At w ad cap ops)) (hm : Hid (ops.length = n)) (hn : n ≤ 400) (HW : Hid (∀ o ∈ ops, WfI o.i)) :
    Calls Try.prog 3 #[.slice ad n cap] w fun e w' => e = .returned (.bool true) ∧ Below w.heap.size w w' := by
  obtain ⟨FD, hFD⟩ : ∃ FD, (runT newT ops).fired = FD := ⟨_, rfl⟩
  obtain ⟨F, hF⟩ : ∃ F, FD.length = F := ⟨_, rfl⟩
  obtain ⟨N, hN⟩ : ∃ N, (runT newT ops).set.length = N := ⟨_, rfl⟩
  obtain ⟨ES, hES⟩ : ∃ ES, errsT newT ops = ES := ⟨_, rfl⟩
  have hNF : N + F ≤ 400 := by
    have := (bnd_run (ops := ops) bnd_new HW.out).cnt
    rw [hm.out, hFD, hF, hN] at this
    omega
  have hEL : ES.length = n := by rw [← hES, errs_len, hm.out]
  have HP : Hid (∀ X : World, Hid (shT.At X ad cap ops) → Calls Try.prog 9 #[.slice ad n cap] X fun e w' => ∃ E fa fc, e = .returned (.tuple #[.slice (some ⟨E, 0, none⟩) n n, .slice fa F fc, .int .i64 (N : Int), .int .i64 0]) ∧ shI.At w' (some ⟨E, 0, none⟩) n ES ∧ shF.At w' fa fc FD ∧ Below X.heap.size X w') := Lib.hid fun X HX => by
    refine (play_ok X HX hm hn HW).mono ?_
    rintro e w' ⟨E, fa, fc, rfl, h1, h2, h3⟩
    rw [hFD] at h2 ⊢
    rw [hES] at h1
    rw [hF, hN]
    exact ⟨E, fa, fc, rfl, h1, h2, h3⟩
  have HK : Hid (∀ X : World, Hid (shT.At X ad cap ops) → Calls Try.prog 10 #[.slice ad n cap] X fun e w' => ∃ ra rc fa fc, e = .returned (.tuple #[.slice ra n rc, .slice fa F fc, .int .i64 (N : Int), .int .i64 0]) ∧ shI.At w' ra rc ES ∧ shF.At w' fa fc FD ∧ Below X.heap.size X w') := Lib.hid fun X HX => by
    refine (kplay_ok X HX hm hn HW).mono ?_
    rintro e w' ⟨ra, rc, fa, fc, rfl, h1, h2, h3⟩
    rw [hFD] at h2 ⊢
    rw [hES] at h1
    rw [hF, hN]
    exact ⟨ra, rc, fa, fc, rfl, h1, h2, h3⟩
  have HEL := Lib.hid hEL
  have HFL := Lib.hid hF
  have hn2 : n ≤ 9223372036854775807 := by omega
  have hF2 : F ≤ 9223372036854775807 := by omega
  clear hFD hF hN hES hEL hNF
  go_enter Try.func3, Try.ntmps3
  go_wp2_with (first
    | (go_at_call 9; (with_reducible refine (HP.out _ HA).mono ?_); rintro e w2 ⟨E, fa, fc, rfl, hE, hF3, hb⟩; have B2 := Lib.hid hb; have A2 := Lib.hid (HA.out.step hb); have HE := Lib.hid hE; have HF := Lib.hid hF3; clear hb hE hF3)
    | (go_at_call 10; (with_reducible refine (HK.out _ A2).mono ?_); rintro e w3 ⟨ra, rc, ga, gc, rfl, hE, hF3, hb⟩; have B3 := Lib.hid (pstep B2.out hb); have HE3 := Lib.hid (HE.out.step hb); have HF3 := Lib.hid (HF.out.step hb); have GE3 := Lib.hid hE; have GF3 := Lib.hid hF3; clear hb hE hF3)
    | (go_at_call 11; (with_reducible refine (equalE _ HEL HE3 GE3 hn2).mono ?_); rintro e w4 ⟨rfl, hb⟩; have B4 := Lib.hid (pstep B3.out hb); have HF4 := Lib.hid (HF3.out.step hb); have GF4 := Lib.hid (GF3.out.step hb); clear hb)
    | (go_at_call 12; (with_reducible refine (equalF _ HFL HF4 GF4 hF2).mono ?_); rintro e w5 ⟨rfl, hb⟩; have B5 := Lib.hid (pstep B4.out hb); clear hb)
    | fail)
  go_ret
  exact ⟨rfl, B5.out⟩
end
theorem wheelPlays_walk (v : Value) (w : World) (h : ArgTms w v) : Calls Try.prog 3 #[v] w fun e w' => e = .returned (.bool true) ∧ Below w.heap.size w w' := by
  obtain ⟨a1, c1, l, rfl, hA, hW, hn, _⟩ := h
  by_cases h4 : 400 < l.length
  · exact plays_bad w h4 hn
  · exact plays_ok w (Lib.hid hA) (Lib.hid rfl) (by omega) (Lib.hid hW)
end Go.Proofs.Ytnnphmpodcmmoaa
