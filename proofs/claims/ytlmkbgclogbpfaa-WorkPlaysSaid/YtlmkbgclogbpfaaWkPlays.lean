/- WorkPlays: work.Play answers what corebellref.LPlay answers. -/
import Derived.Test.YtlmkbgclogbpfaaWrkH
import Derived.Test.YtlmkbgclogbpfaaWrkO
namespace Go.Proofs.Ytlmkbgclogbpfaa
open Go.RowKit

section
variable {ad : Option Addr} {cap n : Nat} {ops : List WoT}
set_option maxHeartbeats 2000000 in
set_option maxRecDepth 100000 in
theorem wkplays_bad (w : World) (h : 400 < n) (hn : n ≤ 9223372036854775807) :
    Calls Try.prog 3 #[.slice ad n cap] w fun e w' => e = .returned (.bool true) ∧ Below w.heap.size w w' := by
  have N0 : 0 ≤ 9223372036854775807 := by decide
  have L0 : Hid (([] : List Int).length = 0) := Lib.hid rfl
  have A0 : ∀ w : World, Hid (shI.At w none 0 ([] : List Int)) := fun w => Lib.hid (Shape.At.nil w)
  go_enter Try.func3, Try.ntmps3
  go_wp2_with (first
    | (go_at_call 8; (with_reducible refine (play_bad ad cap n _ h hn).mono ?_); rintro e w1 ⟨rfl, rfl⟩)
    | (go_at_call 9; (with_reducible refine (ref_bad ad cap n _ h hn).mono ?_); rintro e w2 ⟨rfl, rfl⟩)
    | (go_at_call 10; (with_reducible refine (equalE _ L0 (A0 _) (A0 _) N0).mono ?_); rintro e w3 ⟨rfl, hb⟩; have B3 := Lib.hid hb; clear hb)
    | (go_at_call 11; (with_reducible refine (equalI _ L0 (A0 _) (A0 _) N0).mono ?_); rintro e w4 ⟨rfl, hb⟩; first | (have B5 := Lib.hid (pstep B4.out hb); clear hb) | (have B4 := Lib.hid (pstep B3.out hb); clear hb))
    | fail)
  go_ret
  exact ⟨rfl, B5.out⟩
set_option maxHeartbeats 2000000 in
set_option maxRecDepth 100000 in
theorem wkplays_ok (w : World) (HA : Hid (shO.At w ad cap ops)) (hm : Hid (ops.length = n)) (hn : n ≤ 400) :
    Calls Try.prog 3 #[.slice ad n cap] w fun e w' => e = .returned (.bool true) ∧ Below w.heap.size w w' := by
  have hal := all_len (ops := ops) good_newO
  rw [hm.out] at hal
  have e0 : (allO newO).length = 0 := rfl
  have hd1 := done_le (runO newO ops)
  have hw1 := wait_le (runO newO ops)
  obtain ⟨s, hs⟩ : ∃ s, runO newO ops = s := ⟨_, rfl⟩
  obtain ⟨es, hes⟩ : ∃ es, errsO newO ops = es := ⟨_, rfl⟩
  have HEL : Hid (es.length = n) := Lib.hid (by rw [← hes, errsO_len, hm.out])
  have HP1 := Lib.hid (fun X (HX : Hid (shO.At X ad cap ops)) => play_ok X HX hm hn)
  have HP2 := Lib.hid (fun X (HX : Hid (shO.At X ad cap ops)) => ref_ok X HX hm hn)
  unfold PlayOut at HP1
  unfold RefOut at HP2
  rw [hs, hes] at HP1 HP2
  rw [hs] at hd1 hw1 hal
  clear hs hes
  obtain ⟨d, c, l⟩ := s
  simp only at hd1 hw1
  obtain ⟨dn, hdn⟩ : ∃ q, d.length = q := ⟨_, rfl⟩
  obtain ⟨wn, hwn⟩ : ∃ q, l.length = q := ⟨_, rfl⟩
  simp only [hdn, hwn] at HP1 HP2
  rw [hdn] at hd1
  rw [hwn] at hw1
  have HDL := Lib.hid hdn
  have HWL := Lib.hid hwn
  have hdb : dn ≤ 9223372036854775807 := by omega
  have hwb : wn ≤ 9223372036854775807 := by omega
  have hnb : n ≤ 9223372036854775807 := by omega
  clear hdn hwn hal e0
  go_enter Try.func3, Try.ntmps3
  go_wp2_with (first
    | (go_at_call 8; (with_reducible refine (HP1.out _ HA).mono ?_); rintro e w1 ⟨E, da, dc, wa, wc, rfl, hE, hD, hW, _, _, hb⟩; have B1 := Lib.hid hb; have A1 := Lib.hid (HA.out.step hb); have E1 := Lib.hid hE; have D1 := Lib.hid hD; have W1 := Lib.hid hW; clear hb hE hD hW)
    | (go_at_call 9; (with_reducible refine (HP2.out _ A1).mono ?_); rintro e w2 ⟨ea, ec, da2, dc2, wa2, wc2, rfl, hE, hD, hW, hb⟩; have B2 := Lib.hid (pstep B1.out hb); have E2 := Lib.hid (E1.out.step hb); have D2 := Lib.hid (D1.out.step hb); have W2 := Lib.hid (W1.out.step hb); have E2' := Lib.hid hE; have D2' := Lib.hid hD; have W2' := Lib.hid hW; clear hb hE hD hW)
    | (go_at_call 10; (with_reducible refine (equalE _ HEL E2 E2' hnb).mono ?_); rintro e w3 ⟨rfl, hb⟩; have B3 := Lib.hid (pstep B2.out hb); have D3 := Lib.hid (D2.out.step hb); have W3 := Lib.hid (W2.out.step hb); have D3' := Lib.hid (D2'.out.step hb); have W3' := Lib.hid (W2'.out.step hb); clear hb)
    | (go_at_call 11; (with_reducible refine (equalI _ HDL D3 D3' hdb).mono ?_); rintro e w4 ⟨rfl, hb⟩; have B4 := Lib.hid (pstep B3.out hb); have W4 := Lib.hid (W3.out.step hb); have W4' := Lib.hid (W3'.out.step hb); clear hb)
    | (go_at_call 11; (with_reducible refine (equalI _ HWL W4 W4' hwb).mono ?_); rintro e w5 ⟨rfl, hb⟩; have B5 := Lib.hid (pstep B4.out hb); clear hb)
    | fail)
  go_ret
  exact ⟨rfl, B5.out⟩
end
theorem workPlays_walk (v : Value) (w : World) (h : ArgWos w v) : Calls Try.prog 3 #[v] w fun e w' => e = .returned (.bool true) ∧ Below w.heap.size w w' := by
  obtain ⟨a1, c1, l, rfl, hA, hn, _⟩ := h
  by_cases h4 : 400 < l.length
  · exact wkplays_bad w h4 hn
  · exact wkplays_ok w (Lib.hid hA) (Lib.hid rfl) (by omega)
end Go.Proofs.Ytlmkbgclogbpfaa
