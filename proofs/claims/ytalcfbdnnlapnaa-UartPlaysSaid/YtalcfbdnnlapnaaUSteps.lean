/- UartSteps: uart.Right and Step answer what corebellref.PRight and PStep answer. -/
import Derived.Test.YtalcfbdnnlapnaaUarH
import Derived.Test.YtalcfbdnnlapnaaUarO
import Derived.Deep.RegionHeld3
namespace Go.Proofs.Ytalcfbdnnlapnaa
open Go.RowKit

theorem stepall_err {w w' : World} {inn out : List UInt8} {l : Nat} {asks : Bool} {o : UaT} {x : Int} {e : Ending} (hr : rgt inn.length out.length (l : Nat) asks = true) (he : errB ⟨inn, out, l⟩ o = x) (hx : ¬ x = 0) (h : StepOut w 0 0 [] [] 0 false 0 x e w') : StepAll w inn out (l : Nat) asks o e w' := by
  have hl : (l : Int).toNat = l := by omega
  unfold StepAll resU
  rw [if_pos hr, hl, if_neg (by rw [he]; exact hx), he]
  exact h
theorem stepall_ok {w w' : World} {inn out : List UInt8} {l : Nat} {asks : Bool} {o : UaT} {s' : StB} {y : UInt8} {e : Ending} (hr : rgt inn.length out.length (l : Nat) asks = true) (he : errB ⟨inn, out, l⟩ o = 0) (hd : doB ⟨inn, out, l⟩ o = s') (hy : byteB ⟨inn, out, l⟩ o = y) (N M : Nat) (hN : s'.inn.length = N) (hM : s'.out.length = M) (q : Bool) (hq : decide (0 < N) = q) (h : StepOut w N M s'.inn s'.out s'.lost q (ub y) 0 e w') : StepAll w inn out (l : Nat) asks o e w' := by
  have hl : (l : Int).toNat = l := by omega
  subst hd hy hN hM hq
  unfold StepAll resU
  rw [if_pos hr, hl, if_pos he]
  exact h
theorem emp_q {α : Type} [BEq α] (l : List α) : (l == []) = !(decide (0 < l.length)) := by cases l <;> simp
/-- corebellref.PStep, at every device and operation. -/
theorem pstep_W {ia oa : Option Addr} {ic oc : Nat} {inn out : List UInt8} (n m : Nat) (lost : Int) (asks : Bool) (o : UaT) (w : World) (hn : Hid (inn.length = n)) (hm : Hid (out.length = m)) (H1 : Hid (shB.At w ia ic inn)) (H2 : Hid (shB.At w oa oc out)) :
    Calls Try.prog 9 #[.agg #[.slice ia n ic, .slice oa m oc, .int .i64 lost, .bool asks], .agg #[.int .i64 o.k, .int .u8 (ub o.b)]] w (StepAll w inn out lost asks o) := by
  have e1 := hn.out
  have e2 := hm.out
  subst e1 e2
  cases hr : rgt inn.length out.length lost asks with
  | false =>
    have h := pstep_form (ia := ia) (ic := ic) (oa := oa) (oc := oc) lost asks o.k o.b w hr
    unfold StepAll resU
    rw [hr, if_neg (by simp)]
    exact h
  | true =>
    obtain ⟨h1, h2, h3, h4, h5⟩ := rgt_parts hr
    have hg := good_rgt hr
    obtain ⟨l, rfl⟩ : ∃ l : Nat, lost = l := ⟨lost.toNat, by omega⟩
    have hl : (l : Int).toNat = l := by omega
    rw [hl] at hg
    have hl2 : l ≤ 1099511627776 := by omega
    obtain ⟨kd, bb⟩ := o
    by_cases k1 : kd = 1
    · subst k1
      by_cases hf : inn.length < 16
      · refine (pstep_room l asks bb w hr (Lib.hid rfl) (Lib.hid rfl) H1 H2 hf).mono fun e w' h => ?_
        refine stepall_ok hr (s' := ⟨inn ++ [bb], out, l⟩) (y := 0) ?_ ?_ rfl _ _ (by simp) rfl true (by simp) h
        · unfold errB; rw [if_neg (by simp), if_pos rfl, if_neg (fun h => by simp only at h; omega)]
        · unfold doB; rw [if_pos rfl]; simp only; rw [if_pos hf, if_pos hf]
      · by_cases hx : l = 1099511627776
        · refine (pstep_most l asks bb w hr (Lib.hid rfl) (Lib.hid rfl) H1 H2 (Lib.hid (by omega)) (Lib.hid hx)).mono fun e w' h => ?_
          refine stepall_err hr ?_ (by decide) h
          unfold errB mxB; rw [if_neg (by simp), if_pos rfl, if_pos ⟨by simp only; omega, by simp only; omega⟩]
        · refine (pstep_lost l asks bb w hr (Lib.hid rfl) (Lib.hid rfl) H1 H2 (Lib.hid (by omega)) (by omega) (l + 1) (Lib.hid rfl) (decide (0 < inn.length)) (Lib.hid (emp_q inn))).mono fun e w' h => ?_
          refine stepall_ok hr (s' := ⟨inn, out, l + 1⟩) (y := 0) ?_ ?_ rfl _ _ rfl rfl _ rfl h
          · unfold errB mxB; rw [if_neg (by simp), if_pos rfl, if_neg (fun h => by simp only at h; omega)]
          · unfold doB; rw [if_pos rfl]; simp only; rw [if_neg hf, if_neg hf]
    by_cases k2 : kd = 2
    · subst k2
      cases inn with
      | nil =>
        refine (pstep_none2 l asks bb w hr (Lib.hid rfl) (Lib.hid rfl) H1 H2).mono fun e w' h => ?_
        exact stepall_err hr (by unfold errB; simp) (by decide) h
      | cons x r =>
        refine (pstep_read l asks bb w hr (Lib.hid rfl) (Lib.hid rfl) H1 H2 r.length (Lib.hid rfl) (decide (0 < r.length)) (Lib.hid (emp_q r))).mono fun e w' h => ?_
        exact stepall_ok hr (s' := ⟨r, out, l⟩) (y := x) (by unfold errB; simp) rfl rfl _ _ rfl rfl _ rfl h
    by_cases k3 : kd = 3
    · subst k3
      by_cases hf : out.length = 16
      · refine (pstep_full3 l asks bb w hr (Lib.hid rfl) (Lib.hid rfl) H1 H2 (Lib.hid hf)).mono fun e w' h => ?_
        exact stepall_err hr (by unfold errB; simp; omega) (by decide) h
      · refine (pstep_out l asks bb w hr (Lib.hid rfl) (Lib.hid rfl) H1 H2 (by omega) (decide (0 < inn.length)) (Lib.hid (emp_q inn))).mono fun e w' h => ?_
        exact stepall_ok hr (s' := ⟨inn, out ++ [bb], l⟩) (y := 0) (by unfold errB; simp; omega) rfl rfl _ _ rfl (by simp) _ rfl h
    by_cases k4 : kd = 4
    · subst k4
      cases out with
      | nil =>
        refine (pstep_none4 l asks bb w hr (Lib.hid rfl) (Lib.hid rfl) H1 H2).mono fun e w' h => ?_
        exact stepall_err hr (by unfold errB; simp) (by decide) h
      | cons x r =>
        refine (pstep_send l asks bb w hr (Lib.hid rfl) (Lib.hid rfl) H1 H2 r.length (Lib.hid rfl) (decide (0 < inn.length)) (Lib.hid (emp_q inn))).mono fun e w' h => ?_
        exact stepall_ok hr (s' := ⟨inn, r, l⟩) (y := x) (by unfold errB; simp) rfl rfl _ _ rfl rfl _ rfl h
    · refine (pstep_kind l asks bb w hr (Lib.hid rfl) (Lib.hid rfl) H1 H2 kd k1 k2 k3 k4).mono fun e w' h => ?_
      exact stepall_err hr (by unfold errB; rw [if_pos (by simp only; omega)]) (by decide) h
/-- All that the last statement reads. -/
structure SeS (W : World) (C : Nat) (R : Array Value) (A B N M l : Nat) (q : Bool) (xa : Option Addr) (xc : Nat) (xb : Option Addr) (xd : Nat) (ya : Option Addr) (yc : Nat) (yb : Option Addr) (yd : Nat) (inn out : List UInt8) (w : World) : Prop where
  b : Below W.heap.size W w
  c : w.heap[C]? = some (.cells R tU (0, 0))
  a : w.heap[A]? = some (.cells #[.slice xa N xc, .slice xb M xd, .int .i64 (l : Nat), .bool q] tU (0, 0))
  b' : w.heap[B]? = some (.cells #[.slice ya N yc, .slice yb M yd, .int .i64 (l : Nat), .bool q] tU (0, 0))
  a1 : shB.At w xa xc inn
  a2 : shB.At w xb xd out
  b1 : shB.At w ya yc inn
  b2 : shB.At w yb yd out
section
variable {W w w' : World} {C : Nat} {A B N M l : Nat} {q : Bool} {xa : Option Addr} {xc : Nat} {xb : Option Addr} {xd : Nat} {ya : Option Addr} {yc : Nat} {yb : Option Addr} {yd : Nat} {inn out : List UInt8} {ia oa : Option Addr} {n ic m oc : Nat} {lost : Int} {asks : Bool}
theorem SeS.step {R : Array Value} (h : SeS W C R A B N M l q xa xc xb xd ya yc yb yd inn out w) (hb : Below w.heap.size w w') : SeS W C R A B N M l q xa xc xb xd ya yc yb yd inn out w' :=
  ⟨pstep h.b hb, heap_step h.c hb, heap_step h.a hb, heap_step h.b' hb, h.a1.step hb, h.a2.step hb, h.b1.step hb, h.b2.step hb⟩
theorem SeS.drew {R : Array Value} (h : SeS W C R A B N M l q xa xc xb xd ya yc yb yd inn out w) : SeS W C R A B N M l q xa xc xb xd ya yc yb yd inn out w.drew := h.step (Below.refl w.heap.size w).drew
theorem SeS.all {x y z u : Value} (h : SeS W C #[x, y, z, u] A B N M l q xa xc xb xd ya yc yb yd inn out w) : SeS W C #[x, y, z, u] A B N M l q xa xc xb xd ya yc yb yd inn out w ∧ (w.cell? ⟨C, 0, none⟩ = some x ∧ w.cell? ⟨C, 1, none⟩ = some y ∧ w.cell? ⟨C, 2, none⟩ = some z ∧ w.cell? ⟨C, 3, none⟩ = some u) ∧ (w.cell? ⟨A, 0, none⟩ = some (.slice xa N xc) ∧ w.cell? ⟨A, 1, none⟩ = some (.slice xb M xd) ∧ w.cell? ⟨A, 2, none⟩ = some (.int .i64 (l : Nat)) ∧ w.cell? ⟨A, 3, none⟩ = some (.bool q)) ∧ (w.cell? ⟨B, 0, none⟩ = some (.slice ya N yc) ∧ w.cell? ⟨B, 1, none⟩ = some (.slice yb M yd) ∧ w.cell? ⟨B, 2, none⟩ = some (.int .i64 (l : Nat)) ∧ w.cell? ⟨B, 3, none⟩ = some (.bool q)) :=
  ⟨h, four_at h.c, four_at h.a, four_at h.b'⟩
theorem se_right (w : World) (r : Bool) (hr : Hid (rgt n m lost asks = r)) (h : SeS W C #[.slice ia n ic, .slice oa m oc, .int .i64 lost, .bool asks] A B N M l q xa xc xb xd ya yc yb yd inn out w) :
    Calls Try.prog 10 #[.agg #[.slice ia n ic, .slice oa m oc, .int .i64 lost, .bool asks]] w fun e w' => e = .returned (.bool r) ∧ SeS W C #[.slice ia n ic, .slice oa m oc, .int .i64 lost, .bool asks] A B N M l q xa xc xb xd ya yc yb yd inn out w' :=
  (right_W ia oa n ic m oc lost asks w).mono fun _ _ ⟨h1, h2⟩ => ⟨by rw [h1, hr.out], h.step h2⟩
theorem se_pright (w : World) (r : Bool) (hr : Hid (rgt n m lost asks = r)) (h : SeS W C #[.slice ia n ic, .slice oa m oc, .int .i64 lost, .bool asks] A B N M l q xa xc xb xd ya yc yb yd inn out w) :
    Calls Try.prog 11 #[.agg #[.slice ia n ic, .slice oa m oc, .int .i64 lost, .bool asks]] w fun e w' => e = .returned (.bool r) ∧ SeS W C #[.slice ia n ic, .slice oa m oc, .int .i64 lost, .bool asks] A B N M l q xa xc xb xd ya yc yb yd inn out w' :=
  (pright_W ia oa n ic m oc lost asks w).mono fun _ _ ⟨h1, h2⟩ => ⟨by rw [h1, hr.out], h.step h2⟩
theorem se_same {R : Array Value} (w : World) (hn : Hid (inn.length = N)) (hm : Hid (out.length = M)) (h : SeS W C R A B N M l q xa xc xb xd ya yc yb yd inn out w) :
    Calls Try.prog 12 #[.agg #[.slice xa N xc, .slice xb M xd, .int .i64 (l : Nat), .bool q], .agg #[.slice ya N yc, .slice yb M yd, .int .i64 (l : Nat), .bool q]] w fun e w' => e = .returned (.bool true) ∧ SeS W C R A B N M l q xa xc xb xd ya yc yb yd inn out w' :=
  (same_U (l : Nat) q w hn hm (Lib.hid h.a1) (Lib.hid h.a2) (Lib.hid h.b1) (Lib.hid h.b2)).mono fun _ _ ⟨h1, h2⟩ => ⟨h1, h.step h2⟩
end
set_option maxHeartbeats 4000000 in
set_option maxRecDepth 100000 in
theorem steps_walk {ia oa : Option Addr} {ic oc : Nat} {inn out : List UInt8} (n m : Nat) (lost : Int) (asks : Bool) (kd : Int) (bb : UInt8) (w : World) (H1 : Hid (shB.At w ia ic inn)) (H2 : Hid (shB.At w oa oc out)) (N M l : Nat) (q : Bool) (inn' out' : List UInt8) (y x : Int) (hN : Hid (inn'.length = N)) (hM : Hid (out'.length = M))
    (HP : Hid (∀ X, Hid (shB.At X ia ic inn) → Hid (shB.At X oa oc out) → Calls Try.prog 8 #[.agg #[.slice ia n ic, .slice oa m oc, .int .i64 lost, .bool asks], .agg #[.int .i64 kd, .int .u8 (ub bb)]] X (StepOut X N M inn' out' l q y x)))
    (HR : Hid (∀ X, Hid (shB.At X ia ic inn) → Hid (shB.At X oa oc out) → Calls Try.prog 9 #[.agg #[.slice ia n ic, .slice oa m oc, .int .i64 lost, .bool asks], .agg #[.int .i64 kd, .int .u8 (ub bb)]] X (StepOut X N M inn' out' l q y x))) :
    Calls Try.prog 3 #[.agg #[.slice ia n ic, .slice oa m oc, .int .i64 lost, .bool asks], .agg #[.int .i64 kd, .int .u8 (ub bb)]] w fun e w' => e = .returned (.bool true) ∧ Below w.heap.size w w' := by
  have B0 := Lib.hid (below_two w (.cells #[.slice ia n ic, .slice oa m oc, .int .i64 lost, .bool asks] 24) (.cells #[.int .i64 kd, .int .u8 (ub bb)] 26))
  have D0 := Lib.hid (heap_step (heap_alloc_new w (.cells #[.slice ia n ic, .slice oa m oc, .int .i64 lost, .bool asks] 24)) (below_alloc _ (.cells #[.int .i64 kd, .int .u8 (ub bb)] 26)))
  have P0 := Lib.hid (heap_alloc2_new w (.cells #[.slice ia n ic, .slice oa m oc, .int .i64 lost, .bool asks] 24) (.cells #[.int .i64 kd, .int .u8 (ub bb)] 26))
  have A0 := Lib.hid (H1.out.step B0.out)
  have C0 := Lib.hid (H2.out.step B0.out)
  go_enter Try.func3, Try.ntmps3
  go_upto_region 3 with (first
    | (go_at_call 8; (with_reducible refine (HP.out _ A0 C0).mono ?_); rintro e w1 ⟨xa, xc, xb, xd, rfl, h1, h2, hb, _, _⟩; have bl := below_alloc w1 (.cells #[.slice xa N xc, .slice xb M xd, .int .i64 (l : Nat), .bool q] 24); have bb := pstep hb bl; have B1 := Lib.hid (pstep B0.out bb); have D1 := Lib.hid (heap_step D0.out bb); have P1 := Lib.hid (heap_step P0.out bb); have G1 := four_at D1.out; have T1 := pair_at P1.out; have l1 := heap_lt D1.out; have k1 := heap_lt P1.out; have A1 := Lib.hid (A0.out.step bb); have C1 := Lib.hid (C0.out.step bb); have X1 := Lib.hid (heap_alloc_new w1 (.cells #[.slice xa N xc, .slice xb M xd, .int .i64 (l : Nat), .bool q] 24)); have U1 := Lib.hid (h1.step bl); have V1 := Lib.hid (h2.step bl); clear h1 h2 hb bl bb)
    | (go_at_call 9; (with_reducible refine (HR.out _ A1 C1).mono ?_); rintro e w2 ⟨ya, yc, yb, yd, rfl, h1, h2, hb, _, _⟩; have bl := below_alloc w2 (.cells #[.slice ya N yc, .slice yb M yd, .int .i64 (l : Nat), .bool q] 24); have bb := pstep hb bl; have B2 := Lib.hid (pstep B1.out bb); have D2 := Lib.hid (heap_step D1.out bb); have X2 := Lib.hid (heap_step X1.out bb); have U2 := Lib.hid (U1.out.step bb); have V2 := Lib.hid (V1.out.step bb); have Y2 := Lib.hid (heap_alloc_new w2 (.cells #[.slice ya N yc, .slice yb M yd, .int .i64 (l : Nat), .bool q] 24)); have U3 := Lib.hid (h1.step bl); have V3 := Lib.hid (h2.step bl); clear h1 h2 hb bl bb)
    | fail)
  have PS : SeS w w.heap.size #[.slice ia n ic, .slice oa m oc, .int .i64 lost, .bool asks] w1.heap.size w2.heap.size N M l q xa xc xb xd ya yc yb yd inn' out' (w2.alloc (.cells #[.slice ya N yc, .slice yb M yd, .int .i64 (l : Nat), .bool q] 24)) := ⟨B2.out, D2.out, X2.out, Y2.out, U2.out, V2.out, U3.out, V3.out⟩
  have PSd := PS.drew
  obtain ⟨r, hr⟩ : ∃ r, rgt n m lost asks = r := ⟨_, rfl⟩
  have HRR := Lib.hid hr
  clear B0 D0 P0 A0 C0 B1 D1 P1 G1 T1 l1 k1 A1 C1 X1 U1 V1 B2 D2 X2 U2 V2 Y2 U3 V3 PS hr
  generalize w2.alloc (.cells #[.slice ya N yc, .slice yb M yd, .int .i64 (l : Nat), .bool q] 24) = w5 at PSd ⊢
  generalize w1.heap.size = A at PSd ⊢
  generalize w2.heap.size = B at PSd ⊢
  generalize hC : w.heap.size = C at PSd ⊢
  go_region_held3 (fun w' => SeS w C #[.slice ia n ic, .slice oa m oc, .int .i64 lost, .bool asks] A B N M l q xa xc xb xd ya yc yb yd inn' out' w' ∧ (w'.cell? ⟨C, 0, none⟩ = some (.slice ia n ic) ∧ w'.cell? ⟨C, 1, none⟩ = some (.slice oa m oc) ∧ w'.cell? ⟨C, 2, none⟩ = some (.int .i64 lost) ∧ w'.cell? ⟨C, 3, none⟩ = some (.bool asks)) ∧ (w'.cell? ⟨A, 0, none⟩ = some (.slice xa N xc) ∧ w'.cell? ⟨A, 1, none⟩ = some (.slice xb M xd) ∧ w'.cell? ⟨A, 2, none⟩ = some (.int .i64 (l : Nat)) ∧ w'.cell? ⟨A, 3, none⟩ = some (.bool q)) ∧ (w'.cell? ⟨B, 0, none⟩ = some (.slice ya N yc) ∧ w'.cell? ⟨B, 1, none⟩ = some (.slice yb M yd) ∧ w'.cell? ⟨B, 2, none⟩ = some (.int .i64 (l : Nat)) ∧ w'.cell? ⟨B, 3, none⟩ = some (.bool q)))
    ((refine SeS.all ?_; with_reducible assumption))
    (first
      | (go_at_call 10; (with_reducible refine (se_right (W := w) _ r HRR (by with_reducible assumption)).mono ?_); rintro e x1 ⟨rfl, TT⟩)
      | (go_at_call 11; (with_reducible refine (se_pright (W := w) _ r HRR (by with_reducible assumption)).mono ?_); rintro e x1 ⟨rfl, TT⟩)
      | (go_at_call 12; (with_reducible refine (se_same (W := w) _ hN hM (by with_reducible assumption)).mono ?_); rintro e x1 ⟨rfl, TT⟩))
  all_goals go_wp2_with fail
  all_goals go_ret
  all_goals exact ⟨rfl, (by assumption : SeS w C #[.slice ia n ic, .slice oa m oc, .int .i64 lost, .bool asks] A B N M l q xa xc xb xd ya yc yb yd inn' out' _).b⟩
theorem uartSteps_walk (v v1 : Value) (w : World) (h : ArgDev w v) (h1 : ArgUo w v1) : Calls Try.prog 3 #[v, v1] w fun e w' => e = .returned (.bool true) ∧ Below w.heap.size w w' := by
  obtain ⟨ia, ic, oa, oc, inn, out, lost, asks, rfl, A1, A2⟩ := h
  obtain ⟨⟨kd, bb⟩, rfl⟩ := h1
  have HP := Lib.hid (fun (X : World) (a1 : Hid (shB.At X ia ic inn)) (a2 : Hid (shB.At X oa oc out)) => step_W inn.length out.length lost asks ⟨kd, bb⟩ X (Lib.hid rfl) (Lib.hid rfl) a1 a2)
  have HR := Lib.hid (fun (X : World) (a1 : Hid (shB.At X ia ic inn)) (a2 : Hid (shB.At X oa oc out)) => pstep_W inn.length out.length lost asks ⟨kd, bb⟩ X (Lib.hid rfl) (Lib.hid rfl) a1 a2)
  unfold StepAll at HP HR
  exact steps_walk _ _ lost asks kd bb w (Lib.hid A1) (Lib.hid A2) _ _ _ _ _ _ _ _ (Lib.hid rfl) (Lib.hid rfl) HP HR
end Go.Proofs.Ytalcfbdnnlapnaa
