/- RingPlays: the walk. -/
import Derived.Test.YtipkmmajhhcadaaRngF
import Derived.Test.YtipkmmajhhcadaaRngO
import Derived.Test.YtipkmmajhhcadaaRplB
namespace Go.Proofs.Ytipkmmajhhcadaa
open Go.RowKit

theorem rplay_W {ad : Option Addr} {cap m : Nat} {ops : List RoT} (n : Nat) (w : World) (h2 : 2 ≤ n) (h64 : n ≤ 64) (HA : Hid (shRo.At w ad cap ops)) (hm : Hid (ops.length = m)) (hmb : m ≤ 8796093021952) (s : StG) (hs : Hid (runG n newG ops = s)) (es : List Int) (hes : Hid (errsG n newG ops = es)) (A : Nat) (hA : Hid (s.taken.length = A)) :
    Calls Try.prog 12 #[.int .i64 (n : Nat), .slice ad m cap] w (RPlayOut w n m A es s.taken s) := by
  obtain ⟨r, hT, hI⟩ := ring_of h2 ops
  rw [hs.out] at hT hI
  obtain ⟨i1, i2⟩ := idx_out hT hI
  obtain ⟨i3, i4⟩ := hI
  have hgm := gives_le n ops newG
  rw [hs.out, hm.out] at hgm
  have e0 : newG.gives = 0 := rfl
  rw [hA.out] at i3
  have hT' : RgR n r.cs r.give r.take r.work s.wk s.gv := hT
  refine rplay_ok n (n - 1) w h2 h64 (by omega) HA hm hmb s hs es hes A hA (Lib.hid hT'.room) r.give r.take r.work (Lib.hid i1.symm) (Lib.hid i3.symm) (Lib.hid i2.symm) (by omega) (by omega) (Lib.hid hT'.wo) (Lib.hid fun cs hc => ⟨?_, ?_⟩)
  · show RgR n cs r.give r.take r.work s.wk s.gv
    rw [hT'.gi, hT'.wo]
    exact hc
  · exact ⟨by rw [hA.out]; exact i3, i4⟩
set_option maxHeartbeats 2000000 in
set_option maxRecDepth 100000 in
theorem plays_no {ad : Option Addr} {cap m : Nat} (x : Int) (w : World) (hx : ¬ (2 ≤ x ∧ x ≤ 64)) : Calls Try.prog 4 #[.int .i64 x, .slice ad m cap] w fun e w' => e = .returned (.bool true) ∧ Below w.heap.size w w' := by
  go_enter Try.func4, Try.ntmps4
  go_upto_region 3 with (first
    | (go_at_call 15; (with_reducible refine (play_bad x _ hx).mono ?_); rintro e w1 ⟨rfl, hb⟩; have B1 := Lib.hid (pstep hb (below_alloc w1 (.cells #[.slice none 0 0, .int .i64 0, .int .i64 0, .int .i64 0] 24))); clear hb)
    | (go_at_call 12; (with_reducible refine (rplay_bad x _ hx).mono ?_); rintro e w2 ⟨rfl, hb⟩; have B2 := Lib.hid (pstep (pstep B1.out hb) (below_alloc w2 (.cells #[.slice none 0 0, .int .i64 0, .int .i64 0, .int .i64 0] 24))); have HB2 := Lib.hid hb; clear hb)
    | fail)
  have R1 := Lib.hid (heap_step (heap_step (heap_alloc_new w1 (.cells #[.slice none 0 0, .int .i64 0, .int .i64 0, .int .i64 0] 24)) HB2.out) (below_alloc w2 (.cells #[.slice none 0 0, .int .i64 0, .int .i64 0, .int .i64 0] 24)))
  have R2 := Lib.hid (heap_alloc_new w2 (.cells #[.slice none 0 0, .int .i64 0, .int .i64 0, .int .i64 0] 24))
  clear B1 HB2
  generalize w2.alloc (.cells #[.slice none 0 0, .int .i64 0, .int .i64 0, .int .i64 0] 24) = w3 at B2 R1 R2 ⊢
  generalize w2.heap.size = U2 at R2 ⊢
  generalize w1.heap.size = U1 at R1 ⊢
  go_wp2_with (first
    | (go_at_call 16; (with_reducible refine (equalE (n := 0) (l := []) _ (Lib.hid rfl) (Lib.hid (Shape.At.nil (S := shI) _)) (Lib.hid (Shape.At.nil (S := shI) _)) (by decide)).mono ?_); rintro e w4 ⟨rfl, hb⟩; have B4 := Lib.hid (pstep B2.out hb); have S1 := Lib.hid (heap_step R1.out hb); have S2 := Lib.hid (heap_step R2.out hb); clear hb)
    | (go_at_call 17; (with_reducible refine (equalI (n := 0) (l := []) _ (Lib.hid rfl) (Lib.hid (Shape.At.nil (S := shI) _)) (Lib.hid (Shape.At.nil (S := shI) _)) (by decide)).mono ?_); rintro e w5 ⟨rfl, hb⟩; have B5 := Lib.hid (pstep B4.out hb); have Q1 := Lib.hid (heap_step S1.out hb); have Q2 := Lib.hid (heap_step S2.out hb); have G1 := four_at Q1.out; have G2 := four_at Q2.out; have l1 := heap_lt Q1.out; have l2 := heap_lt Q2.out; clear hb)
    | (go_at_call 14; (with_reducible refine (same_R (n := 0) (l := []) _ 0 0 0 (Lib.hid rfl) (Lib.hid (Shape.At.nil (S := shCe) _)) (Lib.hid (Shape.At.nil (S := shCe) _)) (by decide)).mono ?_); rintro e w6 ⟨rfl, hb⟩; have B6 := Lib.hid (pstep B5.out hb); clear hb)
    | fail)
  go_ret
  exact ⟨rfl, B6.out⟩
set_option maxHeartbeats 2000000 in
set_option maxRecDepth 100000 in
theorem plays_yes {ad : Option Addr} {cap m : Nat} {ops : List RoT} (n : Nat) (w : World) (h2 : 2 ≤ n) (h64 : n ≤ 64) (HA : Hid (shRo.At w ad cap ops)) (hm : Hid (ops.length = m)) (hmb : m ≤ 8796093021952) (s : StG) (hs : Hid (runG n newG ops = s)) (es : List Int) (hes : Hid (errsG n newG ops = es)) (HEL : Hid (es.length = m)) (A : Nat) (hA : Hid (s.taken.length = A)) (hAm : A ≤ m) : Calls Try.prog 4 #[.int .i64 (n : Nat), .slice ad m cap] w fun e w' => e = .returned (.bool true) ∧ Below w.heap.size w w' := by
  go_enter Try.func4, Try.ntmps4
  go_upto_region 2 with (first
    | (go_at_call 15; (with_reducible refine (play_ok n _ h2 h64 HA hm (by omega) s hs es hes A hA).mono ?_); rintro e w1 ⟨E, ta, tc, ra, rc, cs, g, t, k, rfl, ht, hi, q1, q2, q3, hb⟩; have HT := Lib.hid ht; have HI := Lib.hid hi; have B0 := Lib.hid hb; have E0 := Lib.hid (err_at q1 m); have T0 := Lib.hid (que_at q2); have C0 := Lib.hid (que_at q3); clear ht hi q1 q2 q3 hb)
    | fail)
  have bl := below_alloc w1 (.cells #[.slice ra n rc, .int .i64 (g : Nat), .int .i64 (t : Nat), .int .i64 (k : Nat)] 24)
  have B1 := Lib.hid (pstep B0.out bl)
  have E1 := Lib.hid (E0.out.step bl)
  have T1 := Lib.hid (T0.out.step bl)
  have C1 := Lib.hid (C0.out.step bl)
  have R1 := Lib.hid (heap_alloc_new w1 (.cells #[.slice ra n rc, .int .i64 (g : Nat), .int .i64 (t : Nat), .int .i64 (k : Nat)] 24))
  have A1 := Lib.hid (HA.out.step B1.out)
  clear bl B0 E0 T0 C0
  generalize w1.alloc (.cells #[.slice ra n rc, .int .i64 (g : Nat), .int .i64 (t : Nat), .int .i64 (k : Nat)] 24) = w2 at B1 E1 T1 C1 R1 A1 ⊢
  generalize w1.heap.size = U1 at R1 ⊢
  go_upto_region 3 with (first
    | (go_at_call 12; (with_reducible refine (rplay_W n _ h2 h64 A1 hm hmb s hs es hes A hA).mono ?_); rintro e w3 ⟨fa, fc, va, vc, xa, xc, cs2, g2, t2, k2, rfl, ht, hi, q1, q2, q3, hb⟩; have HT2 := Lib.hid ht; have HI2 := Lib.hid hi; have B3 := Lib.hid (pstep B1.out hb); have E3 := Lib.hid (E1.out.step hb); have T3 := Lib.hid (T1.out.step hb); have C3 := Lib.hid (C1.out.step hb); have R3 := Lib.hid (heap_step R1.out hb); have F3 := Lib.hid q1; have V3 := Lib.hid q2; have X3 := Lib.hid q3; clear ht hi q1 q2 q3 hb)
    | fail)
  have hu := tells_uniq HT.out HT2.out HI.out HI2.out
  simp only [RiR.mk.injEq] at hu
  obtain ⟨rfl, rfl, rfl, rfl⟩ := hu
  have HCL : Hid (cs.length = n) := Lib.hid HT.out.len
  have bl := below_alloc w3 (.cells #[.slice xa n xc, .int .i64 (g : Nat), .int .i64 (t : Nat), .int .i64 (k : Nat)] 24)
  have B4 := Lib.hid (pstep B3.out bl)
  have E4 := Lib.hid (E3.out.step bl)
  have T4 := Lib.hid (T3.out.step bl)
  have C4 := Lib.hid (C3.out.step bl)
  have R4 := Lib.hid (heap_step R3.out bl)
  have F4 := Lib.hid (F3.out.step bl)
  have V4 := Lib.hid (V3.out.step bl)
  have X4 := Lib.hid (X3.out.step bl)
  have S4 := Lib.hid (heap_alloc_new w3 (.cells #[.slice xa n xc, .int .i64 (g : Nat), .int .i64 (t : Nat), .int .i64 (k : Nat)] 24))
  clear bl B1 E1 T1 C1 R1 A1 B3 E3 T3 C3 R3 F3 V3 X3 HT HI HT2 HI2
  generalize w3.alloc (.cells #[.slice xa n xc, .int .i64 (g : Nat), .int .i64 (t : Nat), .int .i64 (k : Nat)] 24) = w4 at B4 E4 T4 C4 R4 F4 V4 X4 S4 ⊢
  generalize w3.heap.size = U2 at S4 ⊢
  have hm63 : m ≤ 9223372036854775807 := by omega
  have hA63 : A ≤ 9223372036854775807 := by omega
  go_wp2_with (first
    | (go_at_call 16; (with_reducible refine (equalE (n := m) _ HEL E4 F4 hm63).mono ?_); rintro e w5 ⟨rfl, hb⟩; have B5 := Lib.hid (pstep B4.out hb); have T5 := Lib.hid (T4.out.step hb); have V5 := Lib.hid (V4.out.step hb); have C5 := Lib.hid (C4.out.step hb); have X5 := Lib.hid (X4.out.step hb); have R5 := Lib.hid (heap_step R4.out hb); have S5 := Lib.hid (heap_step S4.out hb); clear hb)
    | (go_at_call 17; (with_reducible refine (equalI (n := A) _ hA T5 V5 hA63).mono ?_); rintro e w6 ⟨rfl, hb⟩; have B6 := Lib.hid (pstep B5.out hb); have C6 := Lib.hid (C5.out.step hb); have X6 := Lib.hid (X5.out.step hb); have R6 := Lib.hid (heap_step R5.out hb); have S6 := Lib.hid (heap_step S5.out hb); have G1 := four_at R6.out; have G2 := four_at S6.out; have l1 := heap_lt R6.out; have l2 := heap_lt S6.out; clear hb)
    | (go_at_call 14; (with_reducible refine (same_R _ (g : Int) (t : Int) (k : Int) HCL C6 X6 h64).mono ?_); rintro e w7 ⟨rfl, hb⟩; have B7 := Lib.hid (pstep B6.out hb); clear hb)
    | fail)
  go_ret
  exact ⟨rfl, B7.out⟩
theorem ringPlays_walk (v v1 : Value) (w : World) (h : ArgInt w v) (h1 : ArgRos w v1) (hu : lenOf v1 ≤ 8796093021952) : Calls Try.prog 4 #[v, v1] w fun e w' => e = .returned (.bool true) ∧ Below w.heap.size w w' := by
  obtain ⟨x, rfl⟩ := h
  obtain ⟨ad, cap, ops, rfl, HA, _, _⟩ := h1
  by_cases hx : 2 ≤ x ∧ x ≤ 64
  · obtain ⟨n, rfl⟩ : ∃ n : Nat, x = n := ⟨x.toNat, by omega⟩
    exact plays_yes n w (by omega) (by omega) (Lib.hid HA) (Lib.hid rfl) hu _ (Lib.hid rfl) _ (Lib.hid rfl) (Lib.hid (errsG_len n ops newG)) _ (Lib.hid rfl) (taken_new n ops)
  · exact plays_no x w hx
end Go.Proofs.Ytipkmmajhhcadaa
