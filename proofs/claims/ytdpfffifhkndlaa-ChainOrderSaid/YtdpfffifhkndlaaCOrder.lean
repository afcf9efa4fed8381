/- The walk of ChainOrder. -/
import Derived.Test.YtdpfffifhkndlaaChnR
import Derived.Test.YtdpfffifhkndlaaChnO
namespace Go.Proofs.Ytdpfffifhkndlaa
open Go.RowKit

theorem rt_rev (l : List HdT) : RtI l.reverse ↔ RtI l := by
  unfold RtI
  simp only [List.length_reverse, List.mem_reverse]
theorem rt_rev_dec (l : List HdT) {b : Bool} (h : decide (RtI l) = b) : decide (RtI l.reverse) = b := by
  rw [← h]
  simp only [decide_eq_decide]
  exact rt_rev l
theorem came_rev (l : List HdT) (T : Nat) : cameI l.reverse T = cameI l T := by unfold cameI; rw [most_rev]
theorem tal_rev (l : List HdT) (n : Nat) : talI l.reverse n = talI l n := by unfold talI; rw [most_rev]
set_option maxHeartbeats 2000000 in
set_option maxRecDepth 100000 in
theorem order_form {ad : Option Addr} {cap n : Nat} {l : List HdT} (times : Int) (w : World) (HA : Hid (shH.At w ad cap l)) (hm : Hid (l.length = n)) (hn : n ≤ 8796093022208) (hr : Hid (decide (RtI l) = false)) :
    Calls Try.prog 7 #[.slice ad n cap, .int .i64 times] w fun e w' => e = .returned (.bool true) ∧ Below w.heap.size w w' := by
  have heq : ∀ (x y : Int) (b : Bool) (w : World), (Op.equalIn 10000 24 (.agg #[.int .i64 x, .int .i64 y, .bool b]) (.agg #[.int .i64 x, .int .i64 y, .bool b])).run Try.prog w = .ok true w := eq_tally
  have hn9 : n ≤ 9223372036854775807 := by omega
  have hm2 : Hid (l.reverse.length = n) := Lib.hid (by rw [List.length_reverse]; exact hm.out)
  have hr2 := Lib.hid (rt_rev_dec l hr.out)
  have hl0 : Hid (([] : List HdT).length = 0) := Lib.hid rfl
  have hn0 : 0 ≤ 8796093022208 := by decide
  have hn09 : 0 ≤ 9223372036854775807 := by decide
  go_enter Try.func7, Try.ntmps7
  go_wp2_with (first
    | (go_at_call 16; (with_reducible refine (alive9_N _).mono ?_); rintro e w1 ⟨rfl, hb⟩; have B1 := Lib.hid hb; have HA1 := Lib.hid (HA.out.step hb); clear hb)
    | (go_at_call 19; (with_reducible refine (clone_H l ad n cap _ hm HA1 hn).mono ?_); rintro e w2 ⟨ra, rc, rfl, o2, hb⟩; have O2 := Lib.hid (own_hds o2); have B2 := Lib.hid hb; clear hb o2)
    | (go_at_call 20; (with_reducible refine (reverse_H (W := w1) _ B2 O2 hm hn).mono ?_); rintro e w3 ⟨rfl, o3, hb⟩; have K3 := Lib.hid o3.at; have HA3 := Lib.hid (HA1.out.step hb); have B3 := Lib.hid (pstep B1.out hb); clear hb o3)
    | (go_at_call 14; (with_reducible refine (play_form times _ HA3 hm hn9 hr).mono ?_); rintro e w4 ⟨rfl, hb⟩; have B4 := Lib.hid (pstep (pstep B3.out hb) (below_alloc w4 (.cells #[.int .i64 0, .int .i64 0, .bool false] 24))); have T4 := Lib.hid (heap_alloc_new w4 (.cells #[.int .i64 0, .int .i64 0, .bool false] 24)); have K4 := Lib.hid ((K3.out.step hb).step (below_alloc w4 (.cells #[.int .i64 0, .int .i64 0, .bool false] 24))); clear hb)
    | (go_at_call 14; (with_reducible refine (play_form times _ K4 hm2 hn9 hr2).mono ?_); rintro e w5 ⟨rfl, hb⟩; have B5 := Lib.hid (pstep (pstep B4.out hb) (below_alloc w5 (.cells #[.int .i64 0, .int .i64 0, .bool false] 24))); have T5 := Lib.hid (heap_step (heap_step T4.out hb) (below_alloc w5 (.cells #[.int .i64 0, .int .i64 0, .bool false] 24))); have U5 := Lib.hid (heap_alloc_new w5 (.cells #[.int .i64 0, .int .i64 0, .bool false] 24)); have N5 := Lib.hid (Shape.At.nil (S := shH) (w5.alloc (.cells #[.int .i64 0, .int .i64 0, .bool false] 24))); clear hb)
    | (go_at_call 19; (with_reducible refine (clone_H [] none 0 0 _ hl0 N5 hn0).mono ?_); rintro e w6 ⟨ra6, rc6, rfl, o6, hb⟩; have O6 := Lib.hid (own_hds o6); have B6 := Lib.hid hb; clear hb o6)
    | (go_at_call 20; (with_reducible refine (reverse_H (W := w5.alloc (.cells #[.int .i64 0, .int .i64 0, .bool false] 24)) _ B6 O6 hl0 hn0).mono ?_); rintro e w7 ⟨rfl, o7, hb⟩; have K7 := Lib.hid o7.at; have N7 := Lib.hid (Shape.At.nil (S := shH) w7); have B7 := Lib.hid (pstep B5.out hb); have T7 := Lib.hid (heap_step T5.out hb); have U7 := Lib.hid (heap_step U5.out hb); have C7 := trio_at T7.out; have D7 := trio_at U7.out; clear hb o7)
    | (go_at_call 12; (with_reducible refine (equalH (l := []) _ hl0 N7 K7 hn09).mono ?_); rintro e w8 ⟨rfl, hb⟩; have B8 := Lib.hid (pstep B7.out hb); clear hb)
    | fail)
  go_ret
  exact ⟨rfl, B8.out⟩
set_option maxHeartbeats 2000000 in
set_option maxRecDepth 100000 in
theorem order_range {ad : Option Addr} {cap n : Nat} {l : List HdT} (times : Int) (w : World) (HA : Hid (shH.At w ad cap l)) (hm : Hid (l.length = n)) (hn : n ≤ 8796093022208) (hr : Hid (decide (RtI l) = true)) (ht : Hid (decide (0 ≤ times ∧ times ≤ 400) = false)) :
    Calls Try.prog 7 #[.slice ad n cap, .int .i64 times] w fun e w' => e = .returned (.bool true) ∧ Below w.heap.size w w' := by
  have heq : ∀ (x y : Int) (b : Bool) (w : World), (Op.equalIn 10000 24 (.agg #[.int .i64 x, .int .i64 y, .bool b]) (.agg #[.int .i64 x, .int .i64 y, .bool b])).run Try.prog w = .ok true w := eq_tally
  have hn9 : n ≤ 9223372036854775807 := by omega
  have hm2 : Hid (l.reverse.length = n) := Lib.hid (by rw [List.length_reverse]; exact hm.out)
  have hr2 := Lib.hid (rt_rev_dec l hr.out)
  have hl0 : Hid (([] : List HdT).length = 0) := Lib.hid rfl
  have hn0 : 0 ≤ 8796093022208 := by decide
  have hn09 : 0 ≤ 9223372036854775807 := by decide
  go_enter Try.func7, Try.ntmps7
  go_wp2_with (first
    | (go_at_call 16; (with_reducible refine (alive9_N _).mono ?_); rintro e w1 ⟨rfl, hb⟩; have B1 := Lib.hid hb; have HA1 := Lib.hid (HA.out.step hb); clear hb)
    | (go_at_call 19; (with_reducible refine (clone_H l ad n cap _ hm HA1 hn).mono ?_); rintro e w2 ⟨ra, rc, rfl, o2, hb⟩; have O2 := Lib.hid (own_hds o2); have B2 := Lib.hid hb; clear hb o2)
    | (go_at_call 20; (with_reducible refine (reverse_H (W := w1) _ B2 O2 hm hn).mono ?_); rintro e w3 ⟨rfl, o3, hb⟩; have K3 := Lib.hid o3.at; have HA3 := Lib.hid (HA1.out.step hb); have B3 := Lib.hid (pstep B1.out hb); clear hb o3)
    | (go_at_call 14; (with_reducible refine (play_range times _ HA3 hm hn9 hr ht).mono ?_); rintro e w4 ⟨rfl, hb⟩; have B4 := Lib.hid (pstep (pstep B3.out hb) (below_alloc w4 (.cells #[.int .i64 0, .int .i64 0, .bool false] 24))); have T4 := Lib.hid (heap_alloc_new w4 (.cells #[.int .i64 0, .int .i64 0, .bool false] 24)); have K4 := Lib.hid ((K3.out.step hb).step (below_alloc w4 (.cells #[.int .i64 0, .int .i64 0, .bool false] 24))); clear hb)
    | (go_at_call 14; (with_reducible refine (play_range times _ K4 hm2 hn9 hr2 ht).mono ?_); rintro e w5 ⟨rfl, hb⟩; have B5 := Lib.hid (pstep (pstep B4.out hb) (below_alloc w5 (.cells #[.int .i64 0, .int .i64 0, .bool false] 24))); have T5 := Lib.hid (heap_step (heap_step T4.out hb) (below_alloc w5 (.cells #[.int .i64 0, .int .i64 0, .bool false] 24))); have U5 := Lib.hid (heap_alloc_new w5 (.cells #[.int .i64 0, .int .i64 0, .bool false] 24)); have N5 := Lib.hid (Shape.At.nil (S := shH) (w5.alloc (.cells #[.int .i64 0, .int .i64 0, .bool false] 24))); clear hb)
    | (go_at_call 19; (with_reducible refine (clone_H [] none 0 0 _ hl0 N5 hn0).mono ?_); rintro e w6 ⟨ra6, rc6, rfl, o6, hb⟩; have O6 := Lib.hid (own_hds o6); have B6 := Lib.hid hb; clear hb o6)
    | (go_at_call 20; (with_reducible refine (reverse_H (W := w5.alloc (.cells #[.int .i64 0, .int .i64 0, .bool false] 24)) _ B6 O6 hl0 hn0).mono ?_); rintro e w7 ⟨rfl, o7, hb⟩; have K7 := Lib.hid o7.at; have N7 := Lib.hid (Shape.At.nil (S := shH) w7); have B7 := Lib.hid (pstep B5.out hb); have T7 := Lib.hid (heap_step T5.out hb); have U7 := Lib.hid (heap_step U5.out hb); have C7 := trio_at T7.out; have D7 := trio_at U7.out; clear hb o7)
    | (go_at_call 12; (with_reducible refine (equalH (l := []) _ hl0 N7 K7 hn09).mono ?_); rintro e w8 ⟨rfl, hb⟩; have B8 := Lib.hid (pstep B7.out hb); clear hb)
    | fail)
  go_ret
  exact ⟨rfl, B8.out⟩
set_option maxHeartbeats 2000000 in
set_option maxRecDepth 100000 in
theorem order_ok {ad : Option Addr} {cap n : Nat} {l : List HdT} (T : Nat) (w : World) (HA : Hid (shH.At w ad cap l)) (hm : Hid (l.length = n)) (hr : Hid (decide (RtI l) = true)) (hT : T ≤ 400) :
    Calls Try.prog 7 #[.slice ad n cap, .int .i64 T] w fun e w' => e = .returned (.bool true) ∧ Below w.heap.size w w' := by
  have heq : ∀ (x y : Int) (b : Bool) (w : World), (Op.equalIn 10000 24 (.agg #[.int .i64 x, .int .i64 y, .bool b]) (.agg #[.int .i64 x, .int .i64 y, .bool b])).run Try.prog w = .ok true w := eq_tally
  have hn16 : n ≤ 16 := by rw [← hm.out]; exact (of_decide_eq_true hr.out).1
  have hn : n ≤ 8796093022208 := by omega
  have hn9 : n ≤ 9223372036854775807 := by omega
  have hm2 : Hid (l.reverse.length = n) := Lib.hid (by rw [List.length_reverse]; exact hm.out)
  have hr2 := Lib.hid (rt_rev_dec l hr.out)
  obtain ⟨ct, hct⟩ : ∃ ct, cameI l T = ct := ⟨_, rfl⟩
  have HC := Lib.hid hct
  have HC2 : Hid (cameI l.reverse T = ct) := Lib.hid (by rw [came_rev]; exact hct)
  obtain ⟨q, hq⟩ : ∃ q, (waksI l ct).length = q := ⟨_, rfl⟩
  have HQ := Lib.hid hq
  have HQ2 : Hid ((waksI l.reverse ct).length = q) := Lib.hid (by rw [waks_rev]; exact hq)
  obtain ⟨nb, hnb⟩ : ∃ nb, (talI l ct).nobody = nb := ⟨_, rfl⟩
  obtain ⟨of, hof⟩ : ∃ of, (talI l ct).off = of := ⟨_, rfl⟩
  have hcc : (talI l ct).came = (ct : Int) := rfl
  have HT : Hid (Value.agg #[.int .i64 (talI l ct).came, .int .i64 (talI l ct).nobody, .bool (talI l ct).off] = .agg #[.int .i64 (ct : Int), .int .i64 nb, .bool of]) := Lib.hid (by rw [hcc, hnb, hof])
  have HT2 : Hid (Value.agg #[.int .i64 (talI l.reverse ct).came, .int .i64 (talI l.reverse ct).nobody, .bool (talI l.reverse ct).off] = .agg #[.int .i64 (ct : Int), .int .i64 nb, .bool of]) := Lib.hid (by rw [tal_rev]; exact HT.out)
  have HML : Hid ((l.map (decN ct)).length = n) := Lib.hid (by rw [List.length_map]; exact hm.out)
  have HML2 : Hid ((l.reverse.map (decN ct)).length = n) := Lib.hid (by rw [List.length_map]; exact hm2.out)
  have HRR : Hid ((l.reverse.map (decN ct)).reverse = l.map (decN ct)) := Lib.hid (by rw [← List.map_reverse, List.reverse_reverse])
  have hmm := HRR.out
  clear hct hq hnb hof hcc hmm
  go_enter Try.func7, Try.ntmps7
  go_wp2_with (first
    | (go_at_call 16; (with_reducible refine (alive9_N _).mono ?_); rintro e w1 ⟨rfl, hb⟩; have B1 := Lib.hid hb; have HA1 := Lib.hid (HA.out.step hb); clear hb)
    | (go_at_call 19; (with_reducible refine (clone_H l ad n cap _ hm HA1 hn).mono ?_); rintro e w2 ⟨ra, rc, rfl, o2, hb⟩; have O2 := Lib.hid (own_hds o2); have B2 := Lib.hid hb; clear hb o2)
    | (go_at_call 20; (with_reducible refine (reverse_H (W := w1) _ B2 O2 hm hn).mono ?_); rintro e w3 ⟨rfl, o3, hb⟩; have K3 := Lib.hid o3.at; have HA3 := Lib.hid (HA1.out.step hb); have B3 := Lib.hid (pstep B1.out hb); clear hb o3)
    | (go_at_call 14; (with_reducible refine (play_ok T _ HA3 hm hr hT ct HC).mono ?_); rintro e w4 ⟨ra4, rc4, wa4, wc4, he, hA, _, hb⟩; rw [HQ.out, HT.out] at he; subst he; have B4 := Lib.hid (pstep (pstep B3.out hb) (below_alloc w4 (.cells #[.int .i64 (ct : Int), .int .i64 nb, .bool of] 24))); have T4 := Lib.hid (heap_alloc_new w4 (.cells #[.int .i64 (ct : Int), .int .i64 nb, .bool of] 24)); have K4 := Lib.hid ((K3.out.step hb).step (below_alloc w4 (.cells #[.int .i64 (ct : Int), .int .i64 nb, .bool of] 24))); have A4 := Lib.hid (hA.step (below_alloc w4 (.cells #[.int .i64 (ct : Int), .int .i64 nb, .bool of] 24))); clear hb hA)
    | (go_at_call 14; (with_reducible refine (play_ok T _ K4 hm2 hr2 hT ct HC2).mono ?_); rintro e w5 ⟨ra5, rc5, wa5, wc5, he, hA, _, hb⟩; rw [HQ2.out, HT2.out] at he; subst he; have B5 := Lib.hid (pstep (pstep B4.out hb) (below_alloc w5 (.cells #[.int .i64 (ct : Int), .int .i64 nb, .bool of] 24))); have T5 := Lib.hid (heap_step (heap_step T4.out hb) (below_alloc w5 (.cells #[.int .i64 (ct : Int), .int .i64 nb, .bool of] 24))); have U5 := Lib.hid (heap_alloc_new w5 (.cells #[.int .i64 (ct : Int), .int .i64 nb, .bool of] 24)); have N5 := Lib.hid (hA.step (below_alloc w5 (.cells #[.int .i64 (ct : Int), .int .i64 nb, .bool of] 24))); have A5 := Lib.hid ((A4.out.step hb).step (below_alloc w5 (.cells #[.int .i64 (ct : Int), .int .i64 nb, .bool of] 24))); clear hb hA)
    | (go_at_call 19; (with_reducible refine (clone_H _ ra5 n rc5 _ HML2 N5 hn).mono ?_); rintro e w6 ⟨ra6, rc6, rfl, o6, hb⟩; have O6 := Lib.hid (own_hds o6); have B6 := Lib.hid hb; clear hb o6)
    | (go_at_call 20; (with_reducible refine (reverse_H (W := w5.alloc (.cells #[.int .i64 (ct : Int), .int .i64 nb, .bool of] 24)) _ B6 O6 HML2 hn).mono ?_); rintro e w7 ⟨rfl, o7, hb⟩; rw [HRR.out] at o7; have K7 := Lib.hid o7.at; have N7 := Lib.hid (A5.out.step hb); have B7 := Lib.hid (pstep B5.out hb); have T7 := Lib.hid (heap_step T5.out hb); have U7 := Lib.hid (heap_step U5.out hb); have C7 := trio_at T7.out; have D7 := trio_at U7.out; clear hb o7)
    | (go_at_call 12; (with_reducible refine (equalH _ HML N7 K7 hn9).mono ?_); rintro e w8 ⟨rfl, hb⟩; have B8 := Lib.hid (pstep B7.out hb); clear hb)
    | fail)
  go_ret
  exact ⟨rfl, B8.out⟩
/-- ChainOrder, at all arguments. -/
theorem chainOrder_walk (v t : Value) (w : World) (h : ArgHds w v) (ht : ArgInt w t) (u : lenOf v ≤ 8796093022208) : Calls Try.prog 7 #[v, t] w fun e w' => e = .returned (.bool true) ∧ Below w.heap.size w w' := by
  obtain ⟨ad, cap, l, rfl, hA, _, _⟩ := h
  obtain ⟨t, rfl⟩ := ht
  have hn : l.length ≤ 8796093022208 := u
  cases hr : decide (RtI l) with
  | false => exact order_form t w (Lib.hid hA) (Lib.hid rfl) hn (Lib.hid hr)
  | true =>
    by_cases h0 : 0 ≤ t ∧ t ≤ 400
    · obtain ⟨T, rfl⟩ : ∃ T : Nat, t = T := ⟨t.toNat, by omega⟩
      exact order_ok T w (Lib.hid hA) (Lib.hid rfl) (Lib.hid hr) (by omega)
    · exact order_range t w (Lib.hid hA) (Lib.hid rfl) hn (Lib.hid hr) (Lib.hid (decide_eq_false h0))
end Go.Proofs.Ytdpfffifhkndlaa
