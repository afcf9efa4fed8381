/- SoftQuiet: with nothing raised there is one round: each of pending once, rising. -/
import Derived.Test.YtnaplbkigebdiaaSofT
import Derived.Test.YtnaplbkigebdiaaSofW
import Derived.Test.YtnaplbkigebdiaaSWho
import Derived.Test.YtnaplbkigebdiaaSofO
namespace Go.Proofs.Ytnaplbkigebdiaa
open Go.RowKit

section
variable {a1 : Option Addr} {c1 n : Nat} {pd : List Int}
theorem run_zero {a2 : Option Addr} {c2 m : Nat} {rs : List RaT} (w : World) (HA : Hid (shI.At w a1 c1 pd)) (hm : Hid (pd.length = n)) (hn : n ≤ 9223372036854775807) (HR : Hid (shR.At w a2 c2 rs)) (hm2 : Hid (rs.length = m)) (hn2 : m ≤ 9223372036854775807) (hc2 : m ≤ c2) (HV : Hid (RtJ pd rs)) :
    Calls Try.prog 8 #[.slice a1 n c1, .slice a2 m c2, .int .i64 0] w fun e w' => ∃ ea ec, e = .returned (.tuple #[.slice ea (runJ pd rs).length ec, .int .i64 (firstJ pd rs 0 : Int), .int .i64 0]) ∧ shI.At w' ea ec (natL (runJ pd rs)) ∧ (runJ pd rs).length ≤ ec ∧ Below w.heap.size w w' :=
  run_ok 0 w HA hm hn HR hm2 hn2 hc2 HV (by decide)
set_option maxHeartbeats 4000000 in
set_option maxRecDepth 100000 in
theorem quiet_bad (r : Int) (w : World) (HA : Hid (shI.At w a1 c1 pd)) (hm : Hid (pd.length = n)) (hn : n ≤ 17592186044416) (h : ¬ (RtJ pd [] ∧ 0 ≤ r ∧ r ≤ 400)) :
    Calls Try.prog 6 #[.slice a1 n c1, .int .i64 r] w fun e w' => e = .returned (.bool true) ∧ Below w.heap.size w w' := by
  have hn1 : n ≤ 9223372036854775807 := by omega
  obtain ⟨x, x1, x2, HX⟩ := run_bad (pd := pd) (rs := []) (n := n) (m := 0) r a1 none c1 0 hm hn1 (Lib.hid rfl) (by omega) h
  clear h
  go_enter Try.func6, Try.ntmps6
  go_wp2_with (first
    | (go_at_call 13; (with_reducible refine (alive10_N _).mono ?_); rintro e w1 ⟨rfl, hb⟩; have B1 := Lib.hid hb; have A1 := Lib.hid (HA.out.step hb); have R1 : Hid (shR.At w1 none 0 []) := Lib.hid (Shape.At.nil _); clear hb)
    | (go_at_call 8; (with_reducible refine (HX _ A1 R1).mono ?_); rintro e w2 ⟨rfl, hb⟩; have B2 := Lib.hid (pstep B1.out hb); clear hb)
    | fail)
  go_ret
  exact ⟨rfl, B2.out⟩
set_option maxHeartbeats 4000000 in
set_option maxRecDepth 100000 in
theorem quiet_pos_r (r : Nat) (w : World) (HA : Hid (shI.At w a1 c1 pd)) (hm : Hid (pd.length = n)) (hn : n ≤ 17592186044416) (HV : Hid (RtJ pd [])) (hr4 : r ≤ 400) (hp : 0 < n) (h0 : ¬ r = 0) :
    Calls Try.prog 6 #[.slice a1 n c1, .int .i64 r] w fun e w' => e = .returned (.bool true) ∧ Below w.heap.size w w' := by
  have hn1 : n ≤ 9223372036854775807 := by omega
  have h7 := HV.out.1
  obtain ⟨T, hT⟩ : ∃ T, (runJ pd []).length = T := ⟨_, rfl⟩
  have hT4 : T ≤ 408 := by rw [← hT]; exact run_big HV.out
  have hT9 : T ≤ 9223372036854775807 := by omega
  have HTL : Hid ((natL (runJ pd [])).length = T) := Lib.hid (by rw [natL_len, hT])
  have HTR := Lib.hid hT
  have hw := quiet_want h7
  have HWL : Hid ((Lib.compact (sortI pd)).length = T) := Lib.hid (by rw [show Lib.compact (sortI pd) = natL (runJ pd []) from hw.symm]; exact HTL.out)
  have HW := Lib.hid hw
  have HR0 : Hid (([] : List RaT).length = 0) := Lib.hid rfl
  have h00 : 0 ≤ 9223372036854775807 := by omega
  have h01 : 0 ≤ 0 := by omega
  clear hw hT
  have hn8 : n * 8 ≤ 140737488355328 := by omega
  have HSL : Hid ((sortI pd).length = n) := Lib.hid (by rw [sortI_len]; exact hm.out)
  have HF : Hid (firstJ pd [] r = T) := Lib.hid (by rw [quiet_first h7, if_neg h0, HTR.out])
  go_enter Try.func6, Try.ntmps6
  go_wp2_with (first
    | (go_at_call 13; (with_reducible refine (alive10_N _).mono ?_); rintro e w1 ⟨rfl, hb⟩; have B1 := Lib.hid hb; have A1 := Lib.hid (HA.out.step hb); have R1 : Hid (shR.At w1 none 0 []) := Lib.hid (Shape.At.nil _); clear hb)
    | (go_at_call 8; (with_reducible refine (run_ok r _ A1 hm hn1 R1 HR0 h00 h01 HV hr4).mono ?_); rintro e w2 ⟨ea, ec, rfl, hE, _, hb⟩; rw [HF.out, HTR.out]; have B2 := Lib.hid (pstep B1.out hb); have A2 := Lib.hid (A1.out.step hb); have E2 := Lib.hid hE; clear hb hE)
    | (go_at_call 17; (with_reducible refine (values_N _ _ _ _).mono ?_); rintro e w3 ⟨rfl, rfl⟩; have BV := Lib.hid (below_alloc w2 (.cells #[.slice a1 n c1] 22)); have CV := one_at (heap_alloc_new w2 (.cells #[.slice a1 n c1] 22)); have LV : w2.heap.size < (w2.alloc (.cells #[.slice a1 n c1] 22)).heap.size := (by simp))
    | (go_at_call 16; (with_reducible refine (sorted_N w2.heap.size w2 _ A2 hm hp BV hn8 LV CV).mono ?_); rintro e w4 ⟨g, c, rfl, ho, hb⟩; have O4 := Lib.hid ho; have B4 := Lib.hid (pstep B2.out (BV.out.trans (hb.mono BV.out.size))); have Q4 := Lib.hid (BV.out.trans (hb.mono BV.out.size)); have E4 := Lib.hid (E2.out.step (BV.out.trans (hb.mono BV.out.size))); clear ho hb)
    | (go_at_call 15; (with_reducible refine (compact_N _ HSL O4).mono ?_); rintro e w5 ⟨rfl, ha, hg, hbase⟩; rw [HWL.out]; have B5 := Lib.hid (B4.out.grown hg B4.out.size (fun k hk => by cases hk; have h1 := B2.out.size; have h2 := BV.out.size; omega)); have E5 := Lib.hid (E2.out.step (Q4.out.grown hg Q4.out.size (fun k hk => by cases hk; have h2 := BV.out.size; omega))); have C5 : Hid (shI.At w5 (some ⟨g, 0, none⟩) c (natL (runJ pd []))) := Lib.hid (by rw [HW.out]; exact ha); clear ha hg hbase)
    | (go_at_call 12; (with_reducible refine (equalI _ HTL E5 C5 hT9).mono ?_); rintro e w6 ⟨rfl, hb⟩; have B6 := Lib.hid (pstep B5.out hb); clear hb)
    | fail)
  all_goals go_ret
  all_goals exact ⟨by simp [*], B6.out⟩
set_option maxHeartbeats 4000000 in
set_option maxRecDepth 100000 in
theorem quiet_pos_0 (w : World) (HA : Hid (shI.At w a1 c1 pd)) (hm : Hid (pd.length = n)) (hn : n ≤ 17592186044416) (HV : Hid (RtJ pd [])) (hp : 0 < n) :
    Calls Try.prog 6 #[.slice a1 n c1, .int .i64 0] w fun e w' => e = .returned (.bool true) ∧ Below w.heap.size w w' := by
  have hn1 : n ≤ 9223372036854775807 := by omega
  have h7 := HV.out.1
  obtain ⟨T, hT⟩ : ∃ T, (runJ pd []).length = T := ⟨_, rfl⟩
  have hT4 : T ≤ 408 := by rw [← hT]; exact run_big HV.out
  have hT9 : T ≤ 9223372036854775807 := by omega
  have HTL : Hid ((natL (runJ pd [])).length = T) := Lib.hid (by rw [natL_len, hT])
  have HTR := Lib.hid hT
  have hw := quiet_want h7
  have HWL : Hid ((Lib.compact (sortI pd)).length = T) := Lib.hid (by rw [show Lib.compact (sortI pd) = natL (runJ pd []) from hw.symm]; exact HTL.out)
  have HW := Lib.hid hw
  have HR0 : Hid (([] : List RaT).length = 0) := Lib.hid rfl
  have h00 : 0 ≤ 9223372036854775807 := by omega
  have h01 : 0 ≤ 0 := by omega
  clear hw hT
  have hn8 : n * 8 ≤ 140737488355328 := by omega
  have HSL : Hid ((sortI pd).length = n) := Lib.hid (by rw [sortI_len]; exact hm.out)
  have HF : Hid (firstJ pd [] 0 = 0) := Lib.hid rfl
  go_enter Try.func6, Try.ntmps6
  go_wp2_with (first
    | (go_at_call 13; (with_reducible refine (alive10_N _).mono ?_); rintro e w1 ⟨rfl, hb⟩; have B1 := Lib.hid hb; have A1 := Lib.hid (HA.out.step hb); have R1 : Hid (shR.At w1 none 0 []) := Lib.hid (Shape.At.nil _); clear hb)
    | (go_at_call 8; (with_reducible refine (run_zero _ A1 hm hn1 R1 HR0 h00 h01 HV).mono ?_); rintro e w2 ⟨ea, ec, rfl, hE, _, hb⟩; rw [HF.out, HTR.out]; have B2 := Lib.hid (pstep B1.out hb); have A2 := Lib.hid (A1.out.step hb); have E2 := Lib.hid hE; clear hb hE)
    | (go_at_call 17; (with_reducible refine (values_N _ _ _ _).mono ?_); rintro e w3 ⟨rfl, rfl⟩; have BV := Lib.hid (below_alloc w2 (.cells #[.slice a1 n c1] 22)); have CV := one_at (heap_alloc_new w2 (.cells #[.slice a1 n c1] 22)); have LV : w2.heap.size < (w2.alloc (.cells #[.slice a1 n c1] 22)).heap.size := (by simp))
    | (go_at_call 16; (with_reducible refine (sorted_N w2.heap.size w2 _ A2 hm hp BV hn8 LV CV).mono ?_); rintro e w4 ⟨g, c, rfl, ho, hb⟩; have O4 := Lib.hid ho; have B4 := Lib.hid (pstep B2.out (BV.out.trans (hb.mono BV.out.size))); have Q4 := Lib.hid (BV.out.trans (hb.mono BV.out.size)); have E4 := Lib.hid (E2.out.step (BV.out.trans (hb.mono BV.out.size))); clear ho hb)
    | (go_at_call 15; (with_reducible refine (compact_N _ HSL O4).mono ?_); rintro e w5 ⟨rfl, ha, hg, hbase⟩; rw [HWL.out]; have B5 := Lib.hid (B4.out.grown hg B4.out.size (fun k hk => by cases hk; have h1 := B2.out.size; have h2 := BV.out.size; omega)); have E5 := Lib.hid (E2.out.step (Q4.out.grown hg Q4.out.size (fun k hk => by cases hk; have h2 := BV.out.size; omega))); have C5 : Hid (shI.At w5 (some ⟨g, 0, none⟩) c (natL (runJ pd []))) := Lib.hid (by rw [HW.out]; exact ha); clear ha hg hbase)
    | (go_at_call 12; (with_reducible refine (equalI _ HTL E5 C5 hT9).mono ?_); rintro e w6 ⟨rfl, hb⟩; have B6 := Lib.hid (pstep B5.out hb); clear hb)
    | fail)
  all_goals go_ret
  all_goals exact ⟨by simp [*], B6.out⟩
set_option maxHeartbeats 4000000 in
set_option maxRecDepth 100000 in
theorem quiet_nil (r : Nat) (w : World) (HA : Hid (shI.At w a1 c1 pd)) (hm : Hid (pd.length = n)) (hn : n ≤ 17592186044416) (HV : Hid (RtJ pd [])) (hr4 : r ≤ 400) (hp : n = 0) :
    Calls Try.prog 6 #[.slice a1 n c1, .int .i64 r] w fun e w' => e = .returned (.bool true) ∧ Below w.heap.size w w' := by
  have hn1 : n ≤ 9223372036854775807 := by omega
  have h7 := HV.out.1
  obtain ⟨T, hT⟩ : ∃ T, (runJ pd []).length = T := ⟨_, rfl⟩
  have hT4 : T ≤ 408 := by rw [← hT]; exact run_big HV.out
  have hT9 : T ≤ 9223372036854775807 := by omega
  have HTL : Hid ((natL (runJ pd [])).length = T) := Lib.hid (by rw [natL_len, hT])
  have HTR := Lib.hid hT
  have hw := quiet_want h7
  have HWL : Hid ((Lib.compact (sortI pd)).length = T) := Lib.hid (by rw [show Lib.compact (sortI pd) = natL (runJ pd []) from hw.symm]; exact HTL.out)
  have HW := Lib.hid hw
  have HR0 : Hid (([] : List RaT).length = 0) := Lib.hid rfl
  have h00 : 0 ≤ 9223372036854775807 := by omega
  have h01 : 0 ≤ 0 := by omega
  clear hw hT
  subst hp
  have hpd : pd = [] := List.eq_nil_of_length_eq_zero hm.out
  have HNIL : Hid (natL (runJ pd []) = []) := Lib.hid (by rw [hpd] at h7 ⊢; rw [quiet_run h7]; rfl)
  obtain rfl : T = 0 := by rw [← HTL.out, HNIL.out]; rfl
  have HF : Hid (firstJ pd [] r = 0) := Lib.hid (by rw [quiet_first h7, HTR.out]; split <;> rfl)
  go_enter Try.func6, Try.ntmps6
  go_wp2_with (first
    | (go_at_call 13; (with_reducible refine (alive10_N _).mono ?_); rintro e w1 ⟨rfl, hb⟩; have B1 := Lib.hid hb; have A1 := Lib.hid (HA.out.step hb); have R1 : Hid (shR.At w1 none 0 []) := Lib.hid (Shape.At.nil _); clear hb)
    | (go_at_call 8; (with_reducible refine (run_ok r _ A1 hm hn1 R1 HR0 h00 h01 HV hr4).mono ?_); rintro e w2 ⟨ea, ec, rfl, hE, _, hb⟩; rw [HF.out, HTR.out]; have B2 := Lib.hid (pstep B1.out hb); have A2 := Lib.hid (A1.out.step hb); have E2 := Lib.hid hE; clear hb hE)
    | (go_at_call 17; (with_reducible refine (values_N _ _ _ _).mono ?_); rintro e w3 ⟨rfl, rfl⟩; have BV := Lib.hid (below_alloc w2 (.cells #[.slice a1 0 c1] 22)); have CV := one_at (heap_alloc_new w2 (.cells #[.slice a1 0 c1] 22)); have LV : w2.heap.size < (w2.alloc (.cells #[.slice a1 0 c1] 22)).heap.size := (by simp))
    | (go_at_call 16; (with_reducible refine (sorted_0 w2.heap.size w2 _ A2 hm BV LV CV).mono ?_); rintro e w4 ⟨rfl, hb⟩; have B4 := Lib.hid (pstep B2.out (BV.out.trans (hb.mono BV.out.size))); have E4 := Lib.hid (E2.out.step (BV.out.trans (hb.mono BV.out.size))); clear hb)
    | (go_at_call 15; (with_reducible refine (compact_nil _ _ _).mono ?_); rintro e w5 ⟨rfl, rfl⟩; have C5 : Hid (shI.At w5 none 0 (natL (runJ pd []))) := Lib.hid (by rw [HNIL.out]; exact Shape.At.nil _))
    | (go_at_call 12; (with_reducible refine (equalI _ HTL E4 C5 hT9).mono ?_); rintro e w6 ⟨rfl, hb⟩; have B6 := Lib.hid (pstep B4.out hb); clear hb)
    | fail)
  all_goals go_ret
  all_goals exact ⟨by simp [*], B6.out⟩
theorem softQuiet_walk (v r : Value) (w : World) (h : ArgKs w v) (hr : ArgInt w r) (hl : lenOf v ≤ 17592186044416) : Calls Try.prog 6 #[v, r] w fun e w' => e = .returned (.bool true) ∧ Below w.heap.size w w' := by
  obtain ⟨a1, c1, pd, rfl, hA, hn, _⟩ := h
  obtain ⟨r, rfl⟩ := hr
  simp only [lenOf] at hl
  by_cases q1 : RtJ pd [] ∧ 0 ≤ r ∧ r ≤ 400
  · obtain ⟨R, rfl⟩ : ∃ R : Nat, r = R := ⟨r.toNat, by omega⟩
    by_cases h0 : pd.length = 0
    · exact quiet_nil R w (Lib.hid hA) (Lib.hid rfl) hl (Lib.hid q1.1) (by omega) h0
    · by_cases hR : R = 0
      · subst hR
        exact quiet_pos_0 w (Lib.hid hA) (Lib.hid rfl) hl (Lib.hid q1.1) (by omega)
      · exact quiet_pos_r R w (Lib.hid hA) (Lib.hid rfl) hl (Lib.hid q1.1) (by omega) (by omega) hR
  · exact quiet_bad r w (Lib.hid hA) (Lib.hid rfl) hl q1
end
end Go.Proofs.Ytnaplbkigebdiaa
