/- SoftRuns: soft.Right and Run answer what chapter 10 says. -/
import Derived.Test.YtnaplbkigebdiaaSofK
import Derived.Test.YtnaplbkigebdiaaEqN
import Derived.Test.YtnaplbkigebdiaaSofO
namespace Go.Proofs.Ytnaplbkigebdiaa
open Go.RowKit

section
variable {a1 a2 : Option Addr} {c1 c2 n m : Nat} {pd : List Int} {rs : List RaT}
set_option maxHeartbeats 1000000 in
set_option maxRecDepth 100000 in
theorem runs_form (r : Int) (w : World) (HA : Hid (shI.At w a1 c1 pd)) (hm : Hid (pd.length = n)) (hn : n ≤ 17592186044416) (HR : Hid (shR.At w a2 c2 rs)) (hm2 : Hid (rs.length = m)) (hn2 : m ≤ 9223372036854775807) (HV : Hid (¬ RtJ pd rs)) :
    Calls Try.prog 3 #[.slice a1 n c1, .slice a2 m c2, .int .i64 r] w fun e w' => e = .returned (.bool true) ∧ Below w.heap.size w w' := by
  have hn1 : n ≤ 9223372036854775807 := by omega
  go_enter Try.func3, Try.ntmps3
  go_wp2_with (first
    | (go_at_call 8; (with_reducible refine (run_form r _ HA hm hn1 HR hm2 hn2 HV).mono ?_); rintro e w1 ⟨rfl, hb⟩; have B1 := Lib.hid hb; have A1 := Lib.hid (HA.out.step hb); have R1 := Lib.hid (HR.out.step hb); clear hb)
    | (go_at_call 9; (with_reducible refine (jright_N _ A1 hm hn1 R1 hm2 hn2).mono ?_); rintro e w2 ⟨hr, hb⟩; obtain rfl := retB_no hr HV.out; have B2 := Lib.hid (pstep B1.out hb); have A2 := Lib.hid (A1.out.step hb); have R2 := Lib.hid (R1.out.step hb); clear hb hr)
    | (go_at_call 10; (with_reducible refine (right_N _ A2 hm hn1 R2 hm2 hn2).mono ?_); rintro e w3 ⟨hr, hb⟩; obtain rfl := retB_no hr HV.out; have B3 := Lib.hid (pstep B2.out hb); have A3 := Lib.hid (A2.out.step hb); have R3 := Lib.hid (R2.out.step hb); clear hb hr)
    | (go_at_call 9; (with_reducible refine (jright_N _ A3 hm hn1 R3 hm2 hn2).mono ?_); rintro e w4 ⟨hr, hb⟩; obtain rfl := retB_no hr HV.out; have B4 := Lib.hid (pstep B3.out hb); clear hb hr)
    | fail)
  go_ret
  exact ⟨rfl, B4.out⟩
set_option maxHeartbeats 1000000 in
set_option maxRecDepth 100000 in
theorem runs_range (r : Int) (w : World) (HA : Hid (shI.At w a1 c1 pd)) (hm : Hid (pd.length = n)) (hn : n ≤ 17592186044416) (HR : Hid (shR.At w a2 c2 rs)) (hm2 : Hid (rs.length = m)) (hn2 : m ≤ 9223372036854775807) (HV : Hid (RtJ pd rs)) (h : ¬ (0 ≤ r ∧ r ≤ 400)) :
    Calls Try.prog 3 #[.slice a1 n c1, .slice a2 m c2, .int .i64 r] w fun e w' => e = .returned (.bool true) ∧ Below w.heap.size w w' := by
  have hn1 : n ≤ 9223372036854775807 := by omega
  have hcase : decide (r < 0) = true ∨ (decide (r < 0) = false ∧ decide (400 < r) = true) := by
    simp only [decide_eq_true_eq, decide_eq_false_iff_not]; omega
  have H := Lib.hid h
  clear h
  rcases hcase with g1 | ⟨g1, g2⟩
  all_goals go_enter Try.func3, Try.ntmps3
  all_goals go_wp2_with (first
    | (go_at_call 8; (with_reducible refine (run_range r _ HA hm hn1 HR hm2 hn2 HV H.out).mono ?_); rintro e w1 ⟨rfl, hb⟩; have B1 := Lib.hid hb; have A1 := Lib.hid (HA.out.step hb); have R1 := Lib.hid (HR.out.step hb); clear hb)
    | (go_at_call 9; (with_reducible refine (jright_N _ A1 hm hn1 R1 hm2 hn2).mono ?_); rintro e w2 ⟨hr, hb⟩; obtain rfl := retB_yes hr HV.out; have B2 := Lib.hid (pstep B1.out hb); have A2 := Lib.hid (A1.out.step hb); have R2 := Lib.hid (R1.out.step hb); clear hb hr)
    | (go_at_call 10; (with_reducible refine (right_N _ A2 hm hn1 R2 hm2 hn2).mono ?_); rintro e w3 ⟨hr, hb⟩; obtain rfl := retB_yes hr HV.out; have B3 := Lib.hid (pstep B2.out hb); have A3 := Lib.hid (A2.out.step hb); have R3 := Lib.hid (R2.out.step hb); clear hb hr)
    | (go_at_call 9; (with_reducible refine (jright_N _ A3 hm hn1 R3 hm2 hn2).mono ?_); rintro e w4 ⟨hr, hb⟩; obtain rfl := retB_yes hr HV.out; have B4 := Lib.hid (pstep B3.out hb); clear hb hr)
    | fail)
  all_goals go_ret
  all_goals exact ⟨rfl, B4.out⟩
set_option maxHeartbeats 1000000 in
set_option maxRecDepth 100000 in
theorem runs_ok (r : Nat) (w : World) (HA : Hid (shI.At w a1 c1 pd)) (hm : Hid (pd.length = n)) (hn : n ≤ 17592186044416) (HR : Hid (shR.At w a2 c2 rs)) (hm2 : Hid (rs.length = m)) (hn2 : m ≤ 9223372036854775807) (hc2 : m ≤ c2) (HV : Hid (RtJ pd rs)) (hr4 : r ≤ 400) :
    Calls Try.prog 3 #[.slice a1 n c1, .slice a2 m c2, .int .i64 r] w fun e w' => e = .returned (.bool true) ∧ Below w.heap.size w w' := by
  have hn1 : n ≤ 9223372036854775807 := by omega
  have g1 : decide ((r : Int) < 0) = false := decide_eq_false (by omega)
  have g2 : decide (400 < r) = false := decide_eq_false (by omega)
  have g3 : decide ((400 : Int) < (r : Int)) = false := decide_eq_false (by omega)
  have HLN : Hid ((natL (runJ pd rs)).length = (runJ pd rs).length) := Lib.hid (natL_len _)
  have hbig : (runJ pd rs).length ≤ 9223372036854775807 := by have := rd_len HV.out 409; show (rdJ pd rs 409).ran.length ≤ _; omega
  go_enter Try.func3, Try.ntmps3
  go_wp2_with (first
    | (go_at_call 8; (with_reducible refine (run_ok r _ HA hm hn1 HR hm2 hn2 hc2 HV hr4).mono ?_); rintro e w1 ⟨ea, ec, rfl, hE, _, hb⟩; have B1 := Lib.hid hb; have A1 := Lib.hid (HA.out.step hb); have R1 := Lib.hid (HR.out.step hb); have E1 := Lib.hid hE; clear hb hE)
    | (go_at_call 9; (with_reducible refine (jright_N _ A1 hm hn1 R1 hm2 hn2).mono ?_); rintro e w2 ⟨hr, hb⟩; obtain rfl := retB_yes hr HV.out; have B2 := Lib.hid (pstep B1.out hb); have A2 := Lib.hid (A1.out.step hb); have R2 := Lib.hid (R1.out.step hb); have E2 := Lib.hid (E1.out.step hb); clear hb hr)
    | (go_at_call 10; (with_reducible refine (right_N _ A2 hm hn1 R2 hm2 hn2).mono ?_); rintro e w3 ⟨hr, hb⟩; obtain rfl := retB_yes hr HV.out; have B3 := Lib.hid (pstep B2.out hb); have A3 := Lib.hid (A2.out.step hb); have R3 := Lib.hid (R2.out.step hb); have E3 := Lib.hid (E2.out.step hb); clear hb hr)
    | (go_at_call 9; (with_reducible refine (jright_N _ A3 hm hn1 R3 hm2 hn2).mono ?_); rintro e w4 ⟨hr, hb⟩; obtain rfl := retB_yes hr HV.out; have B4 := Lib.hid (pstep B3.out hb); have A4 := Lib.hid (A3.out.step hb); have R4 := Lib.hid (R3.out.step hb); have E4 := Lib.hid (E3.out.step hb); clear hb hr)
    | (go_at_call 11; (with_reducible refine (jrun_N r _ A4 hm hn R4 hm2 HV).mono ?_); rintro e w5 ⟨fa, fc, rfl, hF, hb⟩; have B5 := Lib.hid (pstep B4.out hb); have E5 := Lib.hid (E4.out.step hb); have F5 := Lib.hid hF; clear hb hF)
    | (go_at_call 12; (with_reducible refine (equalI _ HLN E5 F5 hbig).mono ?_); rintro e w6 ⟨rfl, hb⟩; have B6 := Lib.hid (pstep B5.out hb); clear hb)
    | fail)
  go_ret
  exact ⟨by simp, B6.out⟩
theorem softRuns_walk (v u r : Value) (w : World) (h : ArgKs w v) (h2 : ArgRas w u) (hr : ArgInt w r) (hl : lenOf v ≤ 17592186044416) : Calls Try.prog 3 #[v, u, r] w fun e w' => e = .returned (.bool true) ∧ Below w.heap.size w w' := by
  obtain ⟨a1, c1, pd, rfl, hA, hn, _⟩ := h
  obtain ⟨a2, c2, rs, rfl, hR, hn2, hc2⟩ := h2
  obtain ⟨r, rfl⟩ := hr
  simp only [lenOf] at hl
  by_cases q1 : RtJ pd rs
  · by_cases q2 : 0 ≤ r ∧ r ≤ 400
    · obtain ⟨R, rfl⟩ : ∃ R : Nat, r = R := ⟨r.toNat, by omega⟩
      exact runs_ok R w (Lib.hid hA) (Lib.hid rfl) hl (Lib.hid hR) (Lib.hid rfl) hn2 hc2 (Lib.hid q1) (by omega)
    · exact runs_range r w (Lib.hid hA) (Lib.hid rfl) hl (Lib.hid hR) (Lib.hid rfl) hn2 (Lib.hid q1) q2
  · exact runs_form r w (Lib.hid hA) (Lib.hid rfl) hl (Lib.hid hR) (Lib.hid rfl) hn2 (Lib.hid q1)
end
end Go.Proofs.Ytnaplbkigebdiaa
