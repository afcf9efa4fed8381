/- The walk of ChainPlays. -/
import Derived.Test.YtdpfffifhkndlaaChnG
import Derived.Test.YtdpfffifhkndlaaChnH
import Derived.Test.YtdpfffifhkndlaaChnO
namespace Go.Proofs.Ytdpfffifhkndlaa
open Go.RowKit

set_option maxHeartbeats 2000000 in
set_option maxRecDepth 100000 in
theorem plays_form {ad : Option Addr} {cap n : Nat} {l : List HdT} (times : Int) (w : World) (HA : Hid (shH.At w ad cap l)) (hm : Hid (l.length = n)) (hn : n ≤ 9223372036854775807) (hr : Hid (decide (RtI l) = false)) :
    Calls Try.prog 4 #[.slice ad n cap, .int .i64 times] w fun e w' => e = .returned (.bool true) ∧ Below w.heap.size w w' := by
  have heq : ∀ (x y : Int) (b : Bool) (w : World), (Op.equalIn 10000 24 (.agg #[.int .i64 x, .int .i64 y, .bool b]) (.agg #[.int .i64 x, .int .i64 y, .bool b])).run Try.prog w = .ok true w := eq_tally
  go_enter Try.func4, Try.ntmps4
  go_wp2_with (first
    | (go_at_call 14; (with_reducible refine (play_form times _ HA hm hn hr).mono ?_); rintro e w1 ⟨rfl, hb⟩; have B1 := Lib.hid (hb.trans ((below_alloc w1 (.cells #[.int .i64 0, .int .i64 0, .bool false] 24)).mono hb.size)); have U1 := Lib.hid (heap_alloc_new w1 (.cells #[.int .i64 0, .int .i64 0, .bool false] 24)); have HA1 := Lib.hid ((HA.out.step hb).step (below_alloc w1 (.cells #[.int .i64 0, .int .i64 0, .bool false] 24))); clear hb)
    | (go_at_call 11; (with_reducible refine (iright_N _ HA1 hm hn).mono ?_); rintro e w2 ⟨hq, hb⟩; have he := retB_dec hq hr.out; subst he; have B2 := Lib.hid (pstep B1.out hb); have U2 := trio_at (heap_step U1.out hb); clear hb hq)
    | fail)
  go_ret
  exact ⟨rfl, B2.out⟩
set_option maxHeartbeats 2000000 in
set_option maxRecDepth 100000 in
theorem plays_low {ad : Option Addr} {cap n : Nat} {l : List HdT} (times : Int) (w : World) (HA : Hid (shH.At w ad cap l)) (hm : Hid (l.length = n)) (hn : n ≤ 9223372036854775807) (hr : Hid (decide (RtI l) = true)) (ht : Hid (decide (0 ≤ times ∧ times ≤ 400) = false)) (h0 : times < 0) :
    Calls Try.prog 4 #[.slice ad n cap, .int .i64 times] w fun e w' => e = .returned (.bool true) ∧ Below w.heap.size w w' := by
  have heq : ∀ (x y : Int) (b : Bool) (w : World), (Op.equalIn 10000 24 (.agg #[.int .i64 x, .int .i64 y, .bool b]) (.agg #[.int .i64 x, .int .i64 y, .bool b])).run Try.prog w = .ok true w := eq_tally
  have d1 : decide (times < 0) = true := decide_eq_true h0
  go_enter Try.func4, Try.ntmps4
  go_wp2_with (first
    | (go_at_call 14; (with_reducible refine (play_range times _ HA hm hn hr ht).mono ?_); rintro e w1 ⟨rfl, hb⟩; have B1 := Lib.hid (hb.trans ((below_alloc w1 (.cells #[.int .i64 0, .int .i64 0, .bool false] 24)).mono hb.size)); have U1 := Lib.hid (heap_alloc_new w1 (.cells #[.int .i64 0, .int .i64 0, .bool false] 24)); have HA1 := Lib.hid ((HA.out.step hb).step (below_alloc w1 (.cells #[.int .i64 0, .int .i64 0, .bool false] 24))); clear hb)
    | (go_at_call 11; (with_reducible refine (iright_N _ HA1 hm hn).mono ?_); rintro e w2 ⟨hq, hb⟩; have he := retB_dec hq hr.out; subst he; have B2 := Lib.hid (pstep B1.out hb); have U2 := trio_at (heap_step U1.out hb); clear hb hq)
    | fail)
  go_ret
  exact ⟨rfl, B2.out⟩
set_option maxHeartbeats 2000000 in
set_option maxRecDepth 100000 in
theorem plays_high {ad : Option Addr} {cap n : Nat} {l : List HdT} (times : Int) (w : World) (HA : Hid (shH.At w ad cap l)) (hm : Hid (l.length = n)) (hn : n ≤ 9223372036854775807) (hr : Hid (decide (RtI l) = true)) (ht : Hid (decide (0 ≤ times ∧ times ≤ 400) = false)) (h0 : 400 < times) :
    Calls Try.prog 4 #[.slice ad n cap, .int .i64 times] w fun e w' => e = .returned (.bool true) ∧ Below w.heap.size w w' := by
  have heq : ∀ (x y : Int) (b : Bool) (w : World), (Op.equalIn 10000 24 (.agg #[.int .i64 x, .int .i64 y, .bool b]) (.agg #[.int .i64 x, .int .i64 y, .bool b])).run Try.prog w = .ok true w := eq_tally
  have d1 : decide (times < 0) = false := decide_eq_false (by omega)
  have d2 : decide (400 < times) = true := decide_eq_true h0
  go_enter Try.func4, Try.ntmps4
  go_wp2_with (first
    | (go_at_call 14; (with_reducible refine (play_range times _ HA hm hn hr ht).mono ?_); rintro e w1 ⟨rfl, hb⟩; have B1 := Lib.hid (hb.trans ((below_alloc w1 (.cells #[.int .i64 0, .int .i64 0, .bool false] 24)).mono hb.size)); have U1 := Lib.hid (heap_alloc_new w1 (.cells #[.int .i64 0, .int .i64 0, .bool false] 24)); have HA1 := Lib.hid ((HA.out.step hb).step (below_alloc w1 (.cells #[.int .i64 0, .int .i64 0, .bool false] 24))); clear hb)
    | (go_at_call 11; (with_reducible refine (iright_N _ HA1 hm hn).mono ?_); rintro e w2 ⟨hq, hb⟩; have he := retB_dec hq hr.out; subst he; have B2 := Lib.hid (pstep B1.out hb); have U2 := trio_at (heap_step U1.out hb); clear hb hq)
    | fail)
  go_ret
  exact ⟨rfl, B2.out⟩
set_option maxHeartbeats 2000000 in
set_option maxRecDepth 100000 in
theorem plays_ok {ad : Option Addr} {cap n : Nat} {l : List HdT} (T : Nat) (w : World) (HA : Hid (shH.At w ad cap l)) (hm : Hid (l.length = n)) (hr : Hid (decide (RtI l) = true)) (hT : T ≤ 400) :
    Calls Try.prog 4 #[.slice ad n cap, .int .i64 T] w fun e w' => e = .returned (.bool true) ∧ Below w.heap.size w w' := by
  have heq : ∀ (x y : Int) (b : Bool) (w : World), (Op.equalIn 10000 24 (.agg #[.int .i64 x, .int .i64 y, .bool b]) (.agg #[.int .i64 x, .int .i64 y, .bool b])).run Try.prog w = .ok true w := eq_tally
  have HRT := Lib.hid (of_decide_eq_true hr.out)
  have hn : n ≤ 9223372036854775807 := by have := HRT.out.1; have := hm.out; omega
  have d1 : decide ((T : Int) < 0) = false := decide_eq_false (by omega)
  have d2 : decide (400 < (T : Int)) = false := decide_eq_false (by omega)
  obtain ⟨ct, hct⟩ : ∃ ct, cameI l T = ct := ⟨_, rfl⟩
  have HC := Lib.hid hct
  have HML : Hid ((l.map (decN ct)).length = n) := Lib.hid (by rw [List.length_map]; exact hm.out)
  obtain ⟨q, hq⟩ : ∃ q, (waksI l ct).length = q := ⟨_, rfl⟩
  have HWL : Hid ((intL (waksI l ct)).length = q) := Lib.hid (by rw [intL_len]; exact hq)
  have hqn : q ≤ 9223372036854775807 := by
    have h1 := HC.out
    have h2 := most_nonneg l
    have h3 : ct ≤ 400 := by unfold cameI at h1; split at h1 <;> omega
    have := waks_big HWL.out hm.out (by rw [← hm.out]; exact HRT.out.1) h3
    omega
  obtain ⟨nb, hnb⟩ : ∃ nb, (talI l ct).nobody = nb := ⟨_, rfl⟩
  obtain ⟨of, hof⟩ : ∃ of, (talI l ct).off = of := ⟨_, rfl⟩
  have hcc : (talI l ct).came = (ct : Int) := rfl
  have HQ := Lib.hid hq
  have HNB := Lib.hid hnb
  have HOF := Lib.hid hof
  have HCC := Lib.hid hcc
  clear hct hq hnb hof hcc
  go_enter Try.func4, Try.ntmps4
  go_wp2_with (first
    | (go_at_call 14; (with_reducible refine (play_ok T _ HA hm hr hT ct HC).mono ?_); rintro e w1 ⟨ra, rc, wa, wc, he, hA, hW, hb⟩; rw [HQ.out, HNB.out, HOF.out, HCC.out] at he; subst he; have B1 := Lib.hid (hb.trans ((below_alloc w1 (.cells #[.int .i64 (ct : Int), .int .i64 nb, .bool of] 24)).mono hb.size)); have U1 := Lib.hid (heap_alloc_new w1 (.cells #[.int .i64 (ct : Int), .int .i64 nb, .bool of] 24)); have HA1 := Lib.hid ((HA.out.step hb).step (below_alloc w1 (.cells #[.int .i64 (ct : Int), .int .i64 nb, .bool of] 24))); have K1 := Lib.hid (hA.step (below_alloc w1 (.cells #[.int .i64 (ct : Int), .int .i64 nb, .bool of] 24))); have W1 := Lib.hid (hW.step (below_alloc w1 (.cells #[.int .i64 (ct : Int), .int .i64 nb, .bool of] 24))); clear hb hA hW)
    | (go_at_call 11; (with_reducible refine (iright_N _ HA1 hm hn).mono ?_); rintro e w2 ⟨hq, hb⟩; have he := retB_dec hq hr.out; subst he; have B2 := Lib.hid (pstep B1.out hb); have U2 := Lib.hid (heap_step U1.out hb); have HA2 := Lib.hid (HA1.out.step hb); have K2 := Lib.hid (K1.out.step hb); have W2 := Lib.hid (W1.out.step hb); clear hb hq)
    | (go_at_call 15; (with_reducible refine (iplay_N T _ HA2 hm HRT hT ct HC).mono ?_); rintro e w3 ⟨ra2, rc2, wa2, wc2, he, hA, hW, hb⟩; rw [HQ.out, HNB.out, HOF.out, HCC.out] at he; subst he; have B3 := Lib.hid (pstep (pstep B2.out hb) (below_alloc w3 (.cells #[.int .i64 (ct : Int), .int .i64 nb, .bool of] 24))); have U3 := Lib.hid (heap_step (heap_step U2.out hb) (below_alloc w3 (.cells #[.int .i64 (ct : Int), .int .i64 nb, .bool of] 24))); have X3 := Lib.hid (heap_alloc_new w3 (.cells #[.int .i64 (ct : Int), .int .i64 nb, .bool of] 24)); have K3 := Lib.hid ((K2.out.step hb).step (below_alloc w3 (.cells #[.int .i64 (ct : Int), .int .i64 nb, .bool of] 24))); have W3 := Lib.hid ((W2.out.step hb).step (below_alloc w3 (.cells #[.int .i64 (ct : Int), .int .i64 nb, .bool of] 24))); have P3 := Lib.hid (hA.step (below_alloc w3 (.cells #[.int .i64 (ct : Int), .int .i64 nb, .bool of] 24))); have R3 := Lib.hid (hW.step (below_alloc w3 (.cells #[.int .i64 (ct : Int), .int .i64 nb, .bool of] 24))); clear hb hA hW)
    | (go_at_call 12; (with_reducible refine (equalH _ HML K3 P3 hn).mono ?_); rintro e w5 ⟨rfl, hb⟩; have B5 := Lib.hid (pstep B3.out hb); have U5 := Lib.hid (heap_step U3.out hb); have X5 := Lib.hid (heap_step X3.out hb); have W5 := Lib.hid (W3.out.step hb); have R5 := Lib.hid (R3.out.step hb); clear hb)
    | (go_at_call 13; (with_reducible refine (equalI _ HWL W5 R5 hqn).mono ?_); rintro e w6 ⟨rfl, hb⟩; have B6 := Lib.hid (pstep B5.out hb); have U6 := trio_at (heap_step U5.out hb); have X6 := trio_at (heap_step X5.out hb); clear hb)
    | fail)
  go_ret
  exact ⟨rfl, B6.out⟩
/-- ChainPlays, at all arguments. -/
theorem chainPlays_walk (v t : Value) (w : World) (h : ArgHds w v) (ht : ArgInt w t) : Calls Try.prog 4 #[v, t] w fun e w' => e = .returned (.bool true) ∧ Below w.heap.size w w' := by
  obtain ⟨ad, cap, l, rfl, hA, hn, _⟩ := h
  obtain ⟨t, rfl⟩ := ht
  cases hr : decide (RtI l) with
  | false => exact plays_form t w (Lib.hid hA) (Lib.hid rfl) hn (Lib.hid hr)
  | true =>
    by_cases h0 : t < 0
    · exact plays_low t w (Lib.hid hA) (Lib.hid rfl) hn (Lib.hid hr) (Lib.hid (decide_eq_false (by omega))) h0
    · by_cases h4 : 400 < t
      · exact plays_high t w (Lib.hid hA) (Lib.hid rfl) hn (Lib.hid hr) (Lib.hid (decide_eq_false (by omega))) h4
      · obtain ⟨T, rfl⟩ : ∃ T : Nat, t = T := ⟨t.toNat, by omega⟩
        exact plays_ok T w (Lib.hid hA) (Lib.hid rfl) (Lib.hid hr) (by omega)
end Go.Proofs.Ytdpfffifhkndlaa
