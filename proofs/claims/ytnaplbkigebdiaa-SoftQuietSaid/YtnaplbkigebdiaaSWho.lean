/- SoftWho: whatever the number of rounds, the same runs in the same order. -/
import Derived.Test.YtnaplbkigebdiaaSofG
import Derived.Test.YtnaplbkigebdiaaSofO
namespace Go.Proofs.Ytnaplbkigebdiaa
open Go.RowKit

section
variable {a1 a2 : Option Addr} {c1 c2 n m : Nat} {pd : List Int} {rs : List RaT}
/-- Where something speaks against it Run answers an error, one and the same in every world. -/
theorem run_bad (r : Int) (a1 a2 : Option Addr) (c1 c2 : Nat) (hm : Hid (pd.length = n)) (hn : n ≤ 9223372036854775807) (hm2 : Hid (rs.length = m)) (hn2 : m ≤ 9223372036854775807) (h : ¬ (RtJ pd rs ∧ 0 ≤ r ∧ r ≤ 400)) :
    ∃ x : Int, (x != 0) = true ∧ (x == 0) = false ∧ ∀ (w : World), Hid (shI.At w a1 c1 pd) → Hid (shR.At w a2 c2 rs) → Calls Try.prog 8 #[.slice a1 n c1, .slice a2 m c2, .int .i64 r] w (RunErr w x) := by
  by_cases hv : RtJ pd rs
  · exact ⟨2, rfl, rfl, fun w HA HR => run_range r w HA hm hn HR hm2 hn2 (Lib.hid hv) fun q => h ⟨hv, q⟩⟩
  · exact ⟨1, rfl, rfl, fun w HA HR => run_form r w HA hm hn HR hm2 hn2 (Lib.hid hv)⟩
theorem natL_hid (pd : List Int) (rs : List RaT) : Hid ((natL (runJ pd rs)).length = (runJ pd rs).length) := Lib.hid (natL_len _)
theorem run_big {pd : List Int} {rs : List RaT} (h : RtJ pd rs) : (runJ pd rs).length ≤ 408 := rd_len h 409
set_option maxHeartbeats 1000000 in
set_option maxRecDepth 100000 in
theorem who_bb (r s : Int) (w : World) (HA : Hid (shI.At w a1 c1 pd)) (hm : Hid (pd.length = n)) (hn : n ≤ 9223372036854775807) (HR : Hid (shR.At w a2 c2 rs)) (hm2 : Hid (rs.length = m)) (hn2 : m ≤ 9223372036854775807) (_ : m ≤ c2) (h : ¬ (RtJ pd rs ∧ 0 ≤ r ∧ r ≤ 400)) (h' : ¬ (RtJ pd rs ∧ 0 ≤ s ∧ s ≤ 400)) :
    Calls Try.prog 5 #[.slice a1 n c1, .slice a2 m c2, .int .i64 r, .int .i64 s] w fun e w' => e = .returned (.bool true) ∧ Below w.heap.size w w' := by
  obtain ⟨x, x1, x2, HX⟩ := run_bad r a1 a2 c1 c2 hm hn hm2 hn2 h
  obtain ⟨y, y1, y2, HY⟩ := run_bad s a1 a2 c1 c2 hm hn hm2 hn2 h'
  clear h h'
  go_enter Try.func5, Try.ntmps5
  go_wp2_with (first
    | (go_at_call 13; (with_reducible refine (alive10_N _).mono ?_); rintro e w1 ⟨rfl, hb⟩; have B1 := Lib.hid hb; have A1 := Lib.hid (HA.out.step hb); have R1 := Lib.hid (HR.out.step hb); clear hb)
    | (go_at_call 8; (with_reducible refine (HX _ A1 R1).mono ?_); rintro e w2 ⟨rfl, hb⟩; have B2 := Lib.hid (pstep B1.out hb); have A2 := Lib.hid (A1.out.step hb); have R2 := Lib.hid (R1.out.step hb); clear hb)
    | (go_at_call 8; (with_reducible refine (HY _ A2 R2).mono ?_); rintro e w3 ⟨rfl, hb⟩; have B3 := Lib.hid (pstep B2.out hb); have A3 := Lib.hid (A2.out.step hb); have R3 := Lib.hid (R2.out.step hb); clear hb)
    | fail)
  go_ret
  exact ⟨rfl, B3.out⟩
set_option maxHeartbeats 1000000 in
set_option maxRecDepth 100000 in
theorem who_bo (r : Int) (s : Nat) (w : World) (HA : Hid (shI.At w a1 c1 pd)) (hm : Hid (pd.length = n)) (hn : n ≤ 9223372036854775807) (HR : Hid (shR.At w a2 c2 rs)) (hm2 : Hid (rs.length = m)) (hn2 : m ≤ 9223372036854775807) (hc2 : m ≤ c2) (h : ¬ (RtJ pd rs ∧ 0 ≤ r ∧ r ≤ 400)) (HV : Hid (RtJ pd rs)) (hs : s ≤ 400) :
    Calls Try.prog 5 #[.slice a1 n c1, .slice a2 m c2, .int .i64 r, .int .i64 s] w fun e w' => e = .returned (.bool true) ∧ Below w.heap.size w w' := by
  obtain ⟨x, x1, x2, HX⟩ := run_bad r a1 a2 c1 c2 hm hn hm2 hn2 h
  clear h
  go_enter Try.func5, Try.ntmps5
  go_wp2_with (first
    | (go_at_call 13; (with_reducible refine (alive10_N _).mono ?_); rintro e w1 ⟨rfl, hb⟩; have B1 := Lib.hid hb; have A1 := Lib.hid (HA.out.step hb); have R1 := Lib.hid (HR.out.step hb); clear hb)
    | (go_at_call 8; (with_reducible refine (HX _ A1 R1).mono ?_); rintro e w2 ⟨rfl, hb⟩; have B2 := Lib.hid (pstep B1.out hb); have A2 := Lib.hid (A1.out.step hb); have R2 := Lib.hid (R1.out.step hb); clear hb)
    | (go_at_call 8; (with_reducible refine (run_ok s _ A2 hm hn R2 hm2 hn2 hc2 HV hs).mono ?_); rintro e w3 ⟨ea3, ec3, rfl, hE, _, hb⟩; have B3 := Lib.hid (pstep B2.out hb); have A3 := Lib.hid (A2.out.step hb); have R3 := Lib.hid (R2.out.step hb); have E3 := Lib.hid hE; have hb3 := hb; clear hE hb)
    | fail)
  go_ret
  exact ⟨rfl, B3.out⟩
set_option maxHeartbeats 1000000 in
set_option maxRecDepth 100000 in
theorem who_ob (r : Nat) (s : Int) (w : World) (HA : Hid (shI.At w a1 c1 pd)) (hm : Hid (pd.length = n)) (hn : n ≤ 9223372036854775807) (HR : Hid (shR.At w a2 c2 rs)) (hm2 : Hid (rs.length = m)) (hn2 : m ≤ 9223372036854775807) (hc2 : m ≤ c2) (h : ¬ (RtJ pd rs ∧ 0 ≤ s ∧ s ≤ 400)) (HV : Hid (RtJ pd rs)) (hr : r ≤ 400) :
    Calls Try.prog 5 #[.slice a1 n c1, .slice a2 m c2, .int .i64 r, .int .i64 s] w fun e w' => e = .returned (.bool true) ∧ Below w.heap.size w w' := by
  obtain ⟨x, x1, x2, HX⟩ := run_bad s a1 a2 c1 c2 hm hn hm2 hn2 h
  clear h
  go_enter Try.func5, Try.ntmps5
  go_wp2_with (first
    | (go_at_call 13; (with_reducible refine (alive10_N _).mono ?_); rintro e w1 ⟨rfl, hb⟩; have B1 := Lib.hid hb; have A1 := Lib.hid (HA.out.step hb); have R1 := Lib.hid (HR.out.step hb); clear hb)
    | (go_at_call 8; (with_reducible refine (run_ok r _ A1 hm hn R1 hm2 hn2 hc2 HV hr).mono ?_); rintro e w2 ⟨ea2, ec2, rfl, hE, _, hb⟩; have B2 := Lib.hid (pstep B1.out hb); have A2 := Lib.hid (A1.out.step hb); have R2 := Lib.hid (R1.out.step hb); have E2 := Lib.hid hE; have hb2 := hb; clear hE hb)
    | (go_at_call 8; (with_reducible refine (HX _ A2 R2).mono ?_); rintro e w3 ⟨rfl, hb⟩; have B3 := Lib.hid (pstep B2.out hb); have A3 := Lib.hid (A2.out.step hb); have R3 := Lib.hid (R2.out.step hb); clear hb)
    | fail)
  go_ret
  exact ⟨rfl, B3.out⟩
set_option maxHeartbeats 1000000 in
set_option maxRecDepth 100000 in
theorem who_oo_gt (r s : Nat) (w : World) (HA : Hid (shI.At w a1 c1 pd)) (hm : Hid (pd.length = n)) (hn : n ≤ 9223372036854775807) (HR : Hid (shR.At w a2 c2 rs)) (hm2 : Hid (rs.length = m)) (hn2 : m ≤ 9223372036854775807) (hc2 : m ≤ c2) (HV : Hid (RtJ pd rs)) (hr : r ≤ 400) (hs : s ≤ 400) (hg : s < r) :
    Calls Try.prog 5 #[.slice a1 n c1, .slice a2 m c2, .int .i64 r, .int .i64 s] w fun e w' => e = .returned (.bool true) ∧ Below w.heap.size w w' := by
  have hgd : decide (s < r) = true := decide_eq_true hg
  have hbig : (runJ pd rs).length ≤ 9223372036854775807 := by have := run_big HV.out; omega
  go_enter Try.func5, Try.ntmps5
  go_wp2_with (first
    | (go_at_call 13; (with_reducible refine (alive10_N _).mono ?_); rintro e w1 ⟨rfl, hb⟩; have B1 := Lib.hid hb; have A1 := Lib.hid (HA.out.step hb); have R1 := Lib.hid (HR.out.step hb); clear hb)
    | (go_at_call 8; (with_reducible refine (run_ok r _ A1 hm hn R1 hm2 hn2 hc2 HV hr).mono ?_); rintro e w2 ⟨ea2, ec2, rfl, hE, _, hb⟩; have B2 := Lib.hid (pstep B1.out hb); have A2 := Lib.hid (A1.out.step hb); have R2 := Lib.hid (R1.out.step hb); have E2 := Lib.hid hE; have hb2 := hb; clear hE hb)
    | (go_at_call 8; (with_reducible refine (run_ok s _ A2 hm hn R2 hm2 hn2 hc2 HV hs).mono ?_); rintro e w3 ⟨ea3, ec3, rfl, hE, _, hb⟩; have B3 := Lib.hid (pstep B2.out hb); have A3 := Lib.hid (A2.out.step hb); have R3 := Lib.hid (R2.out.step hb); have E3 := Lib.hid hE; have hb3 := hb; have E2' := Lib.hid (E2.out.step hb); clear hE hb)
    | (go_at_call 12; (with_reducible refine (equalI _ (natL_hid pd rs) E2' E3 hbig).mono ?_); rintro e w4 ⟨rfl, hb⟩; have B4 := Lib.hid (pstep B3.out hb); clear hb)
    | fail)
  all_goals go_ret
  all_goals exact ⟨by simp [*], B4.out⟩
set_option maxHeartbeats 1000000 in
set_option maxRecDepth 100000 in
theorem who_oo_le (r s : Nat) (w : World) (HA : Hid (shI.At w a1 c1 pd)) (hm : Hid (pd.length = n)) (hn : n ≤ 9223372036854775807) (HR : Hid (shR.At w a2 c2 rs)) (hm2 : Hid (rs.length = m)) (hn2 : m ≤ 9223372036854775807) (hc2 : m ≤ c2) (HV : Hid (RtJ pd rs)) (hr : r ≤ 400) (hs : s ≤ 400) (hg : ¬ s < r) :
    Calls Try.prog 5 #[.slice a1 n c1, .slice a2 m c2, .int .i64 r, .int .i64 s] w fun e w' => e = .returned (.bool true) ∧ Below w.heap.size w w' := by
  have hgd : decide (s < r) = false := decide_eq_false hg
  have hle : decide (firstJ pd rs r ≤ firstJ pd rs s) = true := decide_eq_true (first_mono (by omega))
  have hbig : (runJ pd rs).length ≤ 9223372036854775807 := by have := run_big HV.out; omega
  go_enter Try.func5, Try.ntmps5
  go_wp2_with (first
    | (go_at_call 13; (with_reducible refine (alive10_N _).mono ?_); rintro e w1 ⟨rfl, hb⟩; have B1 := Lib.hid hb; have A1 := Lib.hid (HA.out.step hb); have R1 := Lib.hid (HR.out.step hb); clear hb)
    | (go_at_call 8; (with_reducible refine (run_ok r _ A1 hm hn R1 hm2 hn2 hc2 HV hr).mono ?_); rintro e w2 ⟨ea2, ec2, rfl, hE, _, hb⟩; have B2 := Lib.hid (pstep B1.out hb); have A2 := Lib.hid (A1.out.step hb); have R2 := Lib.hid (R1.out.step hb); have E2 := Lib.hid hE; have hb2 := hb; clear hE hb)
    | (go_at_call 8; (with_reducible refine (run_ok s _ A2 hm hn R2 hm2 hn2 hc2 HV hs).mono ?_); rintro e w3 ⟨ea3, ec3, rfl, hE, _, hb⟩; have B3 := Lib.hid (pstep B2.out hb); have A3 := Lib.hid (A2.out.step hb); have R3 := Lib.hid (R2.out.step hb); have E3 := Lib.hid hE; have hb3 := hb; have E2' := Lib.hid (E2.out.step hb); clear hE hb)
    | (go_at_call 12; (with_reducible refine (equalI _ (natL_hid pd rs) E2' E3 hbig).mono ?_); rintro e w4 ⟨rfl, hb⟩; have B4 := Lib.hid (pstep B3.out hb); clear hb)
    | fail)
  all_goals go_ret
  all_goals exact ⟨by simp [*], B4.out⟩
theorem softWho_walk (v u r s : Value) (w : World) (h : ArgKs w v) (h2 : ArgRas w u) (hr : ArgInt w r) (hs : ArgInt w s) : Calls Try.prog 5 #[v, u, r, s] w fun e w' => e = .returned (.bool true) ∧ Below w.heap.size w w' := by
  obtain ⟨a1, c1, pd, rfl, hA, hn, _⟩ := h
  obtain ⟨a2, c2, rs, rfl, hR, hn2, hc2⟩ := h2
  obtain ⟨r, rfl⟩ := hr
  obtain ⟨s, rfl⟩ := hs
  by_cases q1 : RtJ pd rs ∧ 0 ≤ r ∧ r ≤ 400
  · by_cases q2 : RtJ pd rs ∧ 0 ≤ s ∧ s ≤ 400
    · obtain ⟨R, rfl⟩ : ∃ R : Nat, r = R := ⟨r.toNat, by omega⟩
      obtain ⟨S, rfl⟩ : ∃ S : Nat, s = S := ⟨s.toNat, by omega⟩
      by_cases hg : S < R
      · exact who_oo_gt R S w (Lib.hid hA) (Lib.hid rfl) hn (Lib.hid hR) (Lib.hid rfl) hn2 hc2 (Lib.hid q1.1) (by omega) (by omega) hg
      · exact who_oo_le R S w (Lib.hid hA) (Lib.hid rfl) hn (Lib.hid hR) (Lib.hid rfl) hn2 hc2 (Lib.hid q1.1) (by omega) (by omega) hg
    · obtain ⟨R, rfl⟩ : ∃ R : Nat, r = R := ⟨r.toNat, by omega⟩
      exact who_ob R s w (Lib.hid hA) (Lib.hid rfl) hn (Lib.hid hR) (Lib.hid rfl) hn2 hc2 q2 (Lib.hid q1.1) (by omega)
  · by_cases q2 : RtJ pd rs ∧ 0 ≤ s ∧ s ≤ 400
    · obtain ⟨S, rfl⟩ : ∃ S : Nat, s = S := ⟨s.toNat, by omega⟩
      exact who_bo r S w (Lib.hid hA) (Lib.hid rfl) hn (Lib.hid hR) (Lib.hid rfl) hn2 hc2 q1 (Lib.hid q2.1) (by omega)
    · exact who_bb r s w (Lib.hid hA) (Lib.hid rfl) hn (Lib.hid hR) (Lib.hid rfl) hn2 hc2 q1 q2
end
end Go.Proofs.Ytnaplbkigebdiaa
