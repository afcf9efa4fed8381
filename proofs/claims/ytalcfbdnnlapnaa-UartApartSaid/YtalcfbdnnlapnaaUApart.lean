/- UartApart: in and out do not know of each other. -/
import Derived.Test.YtalcfbdnnlapnaaUarG
import Derived.Test.YtalcfbdnnlapnaaUarO
namespace Go.Proofs.Ytalcfbdnnlapnaa
open Go.RowKit

set_option maxHeartbeats 2000000 in
set_option maxRecDepth 100000 in
theorem apart_err {ia oa : Option Addr} {ic oc : Nat} {inn out : List UInt8} (n m : Nat) (lost : Int) (asks : Bool) (kd : Int) (bb : UInt8) (w : World) (H1 : Hid (shB.At w ia ic inn)) (H2 : Hid (shB.At w oa oc out)) (N M : Nat) (inn' out' : List UInt8) (lost' : Nat) (q : Bool) (y x : Int) (hN : N = 0) (hM : M = 0) (hi : inn' = []) (ho : out' = []) (hl : lost' = 0) (hq : q = false) (hx : (x != 0) = true) (HP : Hid (∀ X, Hid (shB.At X ia ic inn) → Hid (shB.At X oa oc out) → Calls Try.prog 8 #[.agg #[.slice ia n ic, .slice oa m oc, .int .i64 lost, .bool asks], .agg #[.int .i64 kd, .int .u8 (ub bb)]] X (StepOut X N M inn' out' lost' q y x))) :
    Calls Try.prog 6 #[.agg #[.slice ia n ic, .slice oa m oc, .int .i64 lost, .bool asks], .agg #[.int .i64 kd, .int .u8 (ub bb)]] w fun e w' => e = .returned (.bool true) ∧ Below w.heap.size w w' := by
  have B0 := Lib.hid (below_two w (.cells #[.slice ia n ic, .slice oa m oc, .int .i64 lost, .bool asks] 24) (.cells #[.int .i64 kd, .int .u8 (ub bb)] 26))
  have D0 := Lib.hid (heap_step (heap_alloc_new w (.cells #[.slice ia n ic, .slice oa m oc, .int .i64 lost, .bool asks] 24)) (below_alloc _ (.cells #[.int .i64 kd, .int .u8 (ub bb)] 26)))
  have P0 := Lib.hid (heap_alloc2_new w (.cells #[.slice ia n ic, .slice oa m oc, .int .i64 lost, .bool asks] 24) (.cells #[.int .i64 kd, .int .u8 (ub bb)] 26))
  subst hN hM hi ho hl hq
  go_enter Try.func6, Try.ntmps6
  go_wp2_with (first
    | (go_at_call 15; (with_reducible refine (alive16_N _).mono ?_); rintro e w1 ⟨rfl, hb⟩; have B1 := Lib.hid (pstep B0.out hb); have D1 := Lib.hid (heap_step D0.out hb); have P1 := Lib.hid (heap_step P0.out hb); have G1 := four_at D1.out; have T1 := pair_at P1.out; have l0 := heap_lt D1.out; have l1 := heap_lt P1.out; have A1 := Lib.hid (H1.out.step B1.out); have A2 := Lib.hid (H2.out.step B1.out); clear hb)
    | (go_at_call 8; (with_reducible refine (HP.out _ A1 A2).mono ?_); rintro e w2 ⟨xa, xc, ya, yc, rfl, h1, h2, hb⟩; have B2 := Lib.hid (pstep B1.out hb); have D2 := Lib.hid (heap_step D1.out hb); have P2 := Lib.hid (heap_step P1.out hb); have G2 := four_at D2.out; have T2 := pair_at P2.out; have k0 := heap_lt D2.out; have k1 := heap_lt P2.out; have X1 := Lib.hid h1; have X2 := Lib.hid h2; have E1 := Lib.hid (A1.out.step hb); have E2 := Lib.hid (A2.out.step hb); clear h1 h2 hb)
    | (go_at_call 12; (with_reducible refine (same_U (n := 0) (m := 0) (inn := []) (out := []) _ _ _ (Lib.hid rfl) (Lib.hid rfl) (Lib.hid (X1.out.step (below_alloc w2 _))) (Lib.hid (X2.out.step (below_alloc w2 _))) (Lib.hid (Shape.At.nil (S := shB) _)) (Lib.hid (Shape.At.nil (S := shB) _))).mono ?_); rintro e w3 ⟨rfl, hb⟩; have B3 := Lib.hid (pstep (pstep B2.out (below_alloc w2 _)) hb); clear hb)
    | fail)
  go_ret
  exact ⟨rfl, B3.out⟩
set_option maxHeartbeats 2000000 in
set_option maxRecDepth 100000 in
theorem apart_in {ia oa : Option Addr} {ic oc : Nat} {inn out : List UInt8} (n m : Nat) (lost : Int) (asks : Bool) (kd : Int) (bb : UInt8) (w : World) (hm : Hid (out.length = m)) (H1 : Hid (shB.At w ia ic inn)) (H2 : Hid (shB.At w oa oc out)) (N M : Nat) (inn' out' : List UInt8) (lost' : Nat) (q : Bool) (y : Int) (hk : kd = 1 ∨ kd = 2) (ho : out' = out) (hM : M = m) (hr : Hid (rgt N M (lost' : Nat) q = true)) (HP : Hid (∀ X, Hid (shB.At X ia ic inn) → Hid (shB.At X oa oc out) → Calls Try.prog 8 #[.agg #[.slice ia n ic, .slice oa m oc, .int .i64 lost, .bool asks], .agg #[.int .i64 kd, .int .u8 (ub bb)]] X (StepOut X N M inn' out' lost' q y 0))) :
    Calls Try.prog 6 #[.agg #[.slice ia n ic, .slice oa m oc, .int .i64 lost, .bool asks], .agg #[.int .i64 kd, .int .u8 (ub bb)]] w fun e w' => e = .returned (.bool true) ∧ Below w.heap.size w w' := by
  have B0 := Lib.hid (below_two w (.cells #[.slice ia n ic, .slice oa m oc, .int .i64 lost, .bool asks] 24) (.cells #[.int .i64 kd, .int .u8 (ub bb)] 26))
  have D0 := Lib.hid (heap_step (heap_alloc_new w (.cells #[.slice ia n ic, .slice oa m oc, .int .i64 lost, .bool asks] 24)) (below_alloc _ (.cells #[.int .i64 kd, .int .u8 (ub bb)] 26)))
  have P0 := Lib.hid (heap_alloc2_new w (.cells #[.slice ia n ic, .slice oa m oc, .int .i64 lost, .bool asks] 24) (.cells #[.int .i64 kd, .int .u8 (ub bb)] 26))
  have sl : ∀ l, (strB l).toList = l := strB_list
  subst ho hM
  rcases hk with rfl | rfl
  all_goals go_enter Try.func6, Try.ntmps6
  all_goals go_wp2_with (first
    | (go_at_call 15; (with_reducible refine (alive16_N _).mono ?_); rintro e w1 ⟨rfl, hb⟩; have B1 := Lib.hid (pstep B0.out hb); have D1 := Lib.hid (heap_step D0.out hb); have P1 := Lib.hid (heap_step P0.out hb); have G1 := four_at D1.out; have T1 := pair_at P1.out; have l0 := heap_lt D1.out; have l1 := heap_lt P1.out; have A1 := Lib.hid (H1.out.step B1.out); have A2 := Lib.hid (H2.out.step B1.out); clear hb)
    | (go_at_call 8; (with_reducible refine (HP.out _ A1 A2).mono ?_); rintro e w2 ⟨xa, xc, ya, yc, rfl, h1, h2, hb⟩; have B2 := Lib.hid (pstep B1.out hb); have D2 := Lib.hid (heap_step D1.out hb); have P2 := Lib.hid (heap_step P1.out hb); have G2 := four_at D2.out; have T2 := pair_at P2.out; have k0 := heap_lt D2.out; have k1 := heap_lt P2.out; have X1 := Lib.hid h1; have X2 := Lib.hid h2; have E1 := Lib.hid (A1.out.step hb); have E2 := Lib.hid (A2.out.step hb); have c1 : ∀ A, (convert 22 9 (.slice ya M yc)).run Try.prog (w2.alloc A) = .ok (.string (strB out')) (w2.alloc A) := (fun A => conv_at (X2.out.step (below_alloc w2 A)) hm.out); have c2 : ∀ A, (convert 22 9 (.slice oa M oc)).run Try.prog (w2.alloc A) = .ok (.string (strB out')) (w2.alloc A) := (fun A => conv_at (E2.out.step (below_alloc w2 A)) hm.out); clear h1 h2 hb)
    | (go_at_call 10; (with_reducible refine (right_W _ _ N xc M yc (lost' : Nat) q _).mono ?_); rw [hr.out]; rintro e w3 ⟨rfl, hb⟩; have B3 := Lib.hid (pstep (pstep B2.out (below_alloc w2 _)) hb); clear hb)
    | fail)
  all_goals go_ret
  all_goals exact ⟨rfl, B3.out⟩
set_option maxHeartbeats 2000000 in
set_option maxRecDepth 100000 in
theorem apart_out {ia oa : Option Addr} {ic oc : Nat} {inn out : List UInt8} (n m : Nat) (lost : Int) (asks : Bool) (kd : Int) (bb : UInt8) (w : World) (hn : Hid (inn.length = n)) (H1 : Hid (shB.At w ia ic inn)) (H2 : Hid (shB.At w oa oc out)) (N M : Nat) (inn' out' : List UInt8) (lost' : Nat) (q : Bool) (y : Int) (hk : kd = 3 ∨ kd = 4) (hi : inn' = inn) (hN : N = n) (hl : lost = (lost' : Nat)) (hr : Hid (rgt N M (lost' : Nat) q = true)) (HP : Hid (∀ X, Hid (shB.At X ia ic inn) → Hid (shB.At X oa oc out) → Calls Try.prog 8 #[.agg #[.slice ia n ic, .slice oa m oc, .int .i64 lost, .bool asks], .agg #[.int .i64 kd, .int .u8 (ub bb)]] X (StepOut X N M inn' out' lost' q y 0))) :
    Calls Try.prog 6 #[.agg #[.slice ia n ic, .slice oa m oc, .int .i64 lost, .bool asks], .agg #[.int .i64 kd, .int .u8 (ub bb)]] w fun e w' => e = .returned (.bool true) ∧ Below w.heap.size w w' := by
  have B0 := Lib.hid (below_two w (.cells #[.slice ia n ic, .slice oa m oc, .int .i64 lost, .bool asks] 24) (.cells #[.int .i64 kd, .int .u8 (ub bb)] 26))
  have D0 := Lib.hid (heap_step (heap_alloc_new w (.cells #[.slice ia n ic, .slice oa m oc, .int .i64 lost, .bool asks] 24)) (below_alloc _ (.cells #[.int .i64 kd, .int .u8 (ub bb)] 26)))
  have P0 := Lib.hid (heap_alloc2_new w (.cells #[.slice ia n ic, .slice oa m oc, .int .i64 lost, .bool asks] 24) (.cells #[.int .i64 kd, .int .u8 (ub bb)] 26))
  have sl : ∀ l, (strB l).toList = l := strB_list
  subst hi hN hl
  rcases hk with rfl | rfl
  all_goals go_enter Try.func6, Try.ntmps6
  all_goals go_wp2_with (first
    | (go_at_call 15; (with_reducible refine (alive16_N _).mono ?_); rintro e w1 ⟨rfl, hb⟩; have B1 := Lib.hid (pstep B0.out hb); have D1 := Lib.hid (heap_step D0.out hb); have P1 := Lib.hid (heap_step P0.out hb); have G1 := four_at D1.out; have T1 := pair_at P1.out; have l0 := heap_lt D1.out; have l1 := heap_lt P1.out; have A1 := Lib.hid (H1.out.step B1.out); have A2 := Lib.hid (H2.out.step B1.out); clear hb)
    | (go_at_call 8; (with_reducible refine (HP.out _ A1 A2).mono ?_); rintro e w2 ⟨xa, xc, ya, yc, rfl, h1, h2, hb⟩; have B2 := Lib.hid (pstep B1.out hb); have D2 := Lib.hid (heap_step D1.out hb); have P2 := Lib.hid (heap_step P1.out hb); have G2 := four_at D2.out; have T2 := pair_at P2.out; have k0 := heap_lt D2.out; have k1 := heap_lt P2.out; have X1 := Lib.hid h1; have X2 := Lib.hid h2; have E1 := Lib.hid (A1.out.step hb); have E2 := Lib.hid (A2.out.step hb); have c1 : ∀ A, (convert 22 9 (.slice xa N xc)).run Try.prog (w2.alloc A) = .ok (.string (strB inn')) (w2.alloc A) := (fun A => conv_at (X1.out.step (below_alloc w2 A)) hn.out); have c2 : ∀ A, (convert 22 9 (.slice ia N ic)).run Try.prog (w2.alloc A) = .ok (.string (strB inn')) (w2.alloc A) := (fun A => conv_at (E1.out.step (below_alloc w2 A)) hn.out); clear h1 h2 hb)
    | (go_at_call 10; (with_reducible refine (right_W _ _ N xc M yc (lost' : Nat) q _).mono ?_); rw [hr.out]; rintro e w3 ⟨rfl, hb⟩; have B3 := Lib.hid (pstep (pstep B2.out (below_alloc w2 _)) hb); clear hb)
    | fail)
  all_goals go_ret
  all_goals exact ⟨rfl, B3.out⟩
theorem uartApart_walk (v v1 : Value) (w : World) (h : ArgDev w v) (h1 : ArgUo w v1) : Calls Try.prog 6 #[v, v1] w fun e w' => e = .returned (.bool true) ∧ Below w.heap.size w w' := by
  obtain ⟨ia, ic, oa, oc, inn, out, lost, asks, rfl, A1, A2⟩ := h
  obtain ⟨⟨kd, bb⟩, rfl⟩ := h1
  have HP := Lib.hid (fun (X : World) (a1 : Hid (shB.At X ia ic inn)) (a2 : Hid (shB.At X oa oc out)) => step_W inn.length out.length lost asks ⟨kd, bb⟩ X (Lib.hid rfl) (Lib.hid rfl) a1 a2)
  unfold StepAll at HP
  by_cases hx : (resU inn out lost asks ⟨kd, bb⟩).2.2 = 0
  · obtain ⟨hr, he, hs, _⟩ := resU_ok hx
    rw [hx, hs] at HP
    have hg := good_rgt hr
    have hgs : GoodB (doB ⟨inn, out, lost.toNat⟩ ⟨kd, bb⟩) := by
      have h := good_stepB hg ⟨kd, bb⟩
      unfold stepB at h
      rw [if_pos he] at h
      exact h
    have hrs := rgt_good hgs
    have hk := errB_kinds he
    simp only at hk
    have hl0 := (rgt_parts hr).2.2.1
    rcases hk with rfl | rfl | rfl | rfl
    · exact apart_in _ _ lost asks _ bb w (Lib.hid rfl) (Lib.hid A1) (Lib.hid A2) _ _ _ _ _ _ _ (Or.inl rfl) (by rfl) (by rfl) (Lib.hid hrs) HP
    · exact apart_in _ _ lost asks _ bb w (Lib.hid rfl) (Lib.hid A1) (Lib.hid A2) _ _ _ _ _ _ _ (Or.inr rfl) (by rfl) (by rfl) (Lib.hid hrs) HP
    · exact apart_out _ _ lost asks _ bb w (Lib.hid rfl) (Lib.hid A1) (Lib.hid A2) _ _ _ _ _ _ _ (Or.inl rfl) (by rfl) (by rfl) (by show lost = (lost.toNat : Nat); omega) (Lib.hid hrs) HP
    · exact apart_out _ _ lost asks _ bb w (Lib.hid rfl) (Lib.hid A1) (Lib.hid A2) _ _ _ _ _ _ _ (Or.inr rfl) (by rfl) (by rfl) (by show lost = (lost.toNat : Nat); omega) (Lib.hid hrs) HP
  · obtain ⟨hs, _⟩ := resU_no hx
    rw [hs] at HP
    exact apart_err _ _ lost asks _ bb w (Lib.hid A1) (Lib.hid A2) _ _ _ _ _ _ _ _ rfl rfl rfl rfl rfl (by decide) (by simpa using hx) HP
end Go.Proofs.Ytalcfbdnnlapnaa
