/- Package uart's reference: corebellref.PStep. -/
import Derived.Test.YtalcfbdnnlapnaaUAsA
import Derived.Laws.Concat
import Derived.Deep.RegionLaw
namespace Go.Proofs.Ytalcfbdnnlapnaa
open Go.RowKit

/-- '[]byte(s)' at the list of a plain region's operations. -/
theorem wpList_bytes {ops : Array Oper} {rest : List Oper} {o : Oper} {a : Act} {w : World} {Q : Exit → Act → World → Prop} (hgd : o.guard = none) (x : Operand) (ho : o.op = .convert 9 22 x) (l : List UInt8) (n : Nat) (hn : Hid (l.length = n)) (hx : a.eval x = .string (strB l))
    (h : ∀ c w', shB.At w' (some ⟨w.heap.size, 0, none⟩) c l → Below w.heap.size w w' → wpList Try.prog ops Q rest (a.put o.dst (.slice (some ⟨w.heap.size, 0, none⟩) n c)) w') : wpList Try.prog ops Q (o :: rest) a w := by
  refine wpList_plain hgd fun K hK => ?_
  obtain ⟨c, w', hr, h1, h2, _⟩ := conv_back w l
  rw [hn.out] at hr
  unfold Oper.wp execOp
  simp only [ho, hx, Sem.run_bind, Sem.run_pure, Result.andThen_ok, hr]
  exact hK _ _ (h c w' h1 h2)
theorem str_index (x : UInt8) (r : List UInt8) (W : World) : (Instr.index 9 (.string (strB (x :: r))) (.int .i64 0)).run Try.prog W = .ok (.int .u8 (ub x)) W := by
  rw [run_index_string W _ _ _ _ Try.underlying9, dif_pos ⟨by omega, by rw [strB_size]; simp⟩]
  rfl
theorem str_tail (x : UInt8) (r : List UInt8) (W : World) : (Instr.slice 9 (.string (strB (x :: r))) (some (.int .i64 1)) none none).run Try.prog W = .ok (.string (strB r)) W := by
  rw [run_slice_string_from_if W _ _ _ _ Try.underlying9, if_pos ⟨by omega, by rw [strB_size]; simp; omega⟩]
  have := strB_drop (x :: r) 1
  simp only [List.drop_succ_cons, List.drop_zero] at this
  rw [← this]
  rfl
theorem str_add (a b : List UInt8) (W : World) (h : a.length + b.length ≤ 9223372036854775807) : (Op.stringOp .add (strB a) (strB b)).run Try.prog W = .ok (.string (strB (a ++ b))) W := by
  rw [run_string_add_sum W _ _ (by rw [strB_size, strB_size]; exact h), strB_add]
set_option maxHeartbeats 2000000 in
set_option maxRecDepth 100000 in
theorem pstep_form {ia oa : Option Addr} {n ic m oc : Nat} (lost : Int) (asks : Bool) (kd : Int) (bb : UInt8) (w : World) (hr : rgt n m lost asks = false) :
    Calls Try.prog 9 #[.agg #[.slice ia n ic, .slice oa m oc, .int .i64 lost, .bool asks], .agg #[.int .i64 kd, .int .u8 (ub bb)]] w (StepOut w 0 0 [] [] 0 false 0 1) := by
  have hx := Lib.hid (sp_new w (.slice ia n ic) (.slice oa m oc) lost asks kd (ub bb))
  have hbx := Lib.hid (below_three w (.cells #[.slice ia n ic, .slice oa m oc, .int .i64 lost, .bool asks] 24) (.cells #[.int .i64 kd, .int .u8 (ub bb)] 26) (.cells #[.slice none 0 0, .slice none 0 0, .int .i64 0, .bool false] 24))
  go_enter Try.func9, Try.ntmps9
  go_upto_region 1 with fail
  generalize ((w.alloc (.cells #[.slice ia n ic, .slice oa m oc, .int .i64 lost, .bool asks] 24)).alloc (.cells #[.int .i64 kd, .int .u8 (ub bb)] 26)).alloc (.cells #[.slice none 0 0, .slice none 0 0, .int .i64 0, .bool false] 24) = X at hx hbx ⊢
  have G0 := four_at hx.out.d
  have T0 := pair_at hx.out.o
  have l0 := heap_lt hx.out.d
  have l1 := heap_lt hx.out.o
  go_wp2_with (first
    | (go_at_call 11; (with_reducible refine (pright_W _ _ n ic m oc lost asks _).mono ?_); rw [hr]; rintro e w1 ⟨rfl, hb⟩; have S1 := Lib.hid (hx.out.step hb); have B1 := Lib.hid (pstep hbx.out hb); have G1 := four_at S1.out.d; have T1 := pair_at S1.out.o; have Z1 := four_at S1.out.z; have F1 := (fun i => frozen_of_row w1 (w.heap.size + 1 + 1) i _ _ S1.out.z); have k0 := heap_lt S1.out.d; have k1 := heap_lt S1.out.o; have k2 := heap_lt S1.out.z; clear hb)
    | fail)
  refine bodyPost_ret (results_row_tmp2 rfl _ _ (w.heap.size + 1 + 1) 24 #[.slice none 0 0, .slice none 0 0, .int .i64 0, .bool false] (0, 0) _ rfl (four_set S1.out.z) Try.underlying24 rfl size_dev) rfl ?_
  exact step_none rfl (four_below _ _ _ _ B1.out (by omega))
set_option maxHeartbeats 2000000 in
set_option maxRecDepth 100000 in
theorem pstep_room {ia oa : Option Addr} {n ic m oc : Nat} {inn out : List UInt8} (lost : Nat) (asks : Bool) (bb : UInt8) (w : World) (hr : rgt n m (lost : Nat) asks = true) (hn : Hid (inn.length = n)) (hm : Hid (out.length = m)) (H1 : Hid (shB.At w ia ic inn)) (H2 : Hid (shB.At w oa oc out)) (h16 : n < 16) :
    Calls Try.prog 9 #[.agg #[.slice ia n ic, .slice oa m oc, .int .i64 (lost : Nat), .bool asks], .agg #[.int .i64 1, .int .u8 (ub bb)]] w (StepOut w (n + 1) m (inn ++ [bb]) out lost true 0 0) := by
  have hx := Lib.hid (sp_new w (.slice ia n ic) (.slice oa m oc) (lost : Nat) asks 1 (ub bb))
  have hbx := Lib.hid (below_three w (.cells #[.slice ia n ic, .slice oa m oc, .int .i64 (lost : Nat), .bool asks] 24) (.cells #[.int .i64 1, .int .u8 (ub bb)] 26) (.cells #[.slice none 0 0, .slice none 0 0, .int .i64 0, .bool false] 24))
  go_enter Try.func9, Try.ntmps9
  go_upto_region 1 with fail
  generalize ((w.alloc (.cells #[.slice ia n ic, .slice oa m oc, .int .i64 (lost : Nat), .bool asks] 24)).alloc (.cells #[.int .i64 1, .int .u8 (ub bb)] 26)).alloc (.cells #[.slice none 0 0, .slice none 0 0, .int .i64 0, .bool false] 24) = X at hx hbx ⊢
  have G0 := four_at hx.out.d
  have T0 := pair_at hx.out.o
  have l0 := heap_lt hx.out.d
  have l1 := heap_lt hx.out.o
  go_upto_region 3 with (first
    | (go_at_call 11; (with_reducible refine (pright_W _ _ n ic m oc (lost : Nat) asks _).mono ?_); rw [hr]; rintro e w1 ⟨rfl, hb⟩; have S1 := Lib.hid (hx.out.step hb); have B1 := Lib.hid (pstep hbx.out hb); have G1 := four_at S1.out.d; have T1 := pair_at S1.out.o; have Z1 := four_at S1.out.z; have F1 := (fun i => frozen_of_row w1 (w.heap.size + 1 + 1) i _ _ S1.out.z); have k0 := heap_lt S1.out.d; have k1 := heap_lt S1.out.o; have k2 := heap_lt S1.out.z; clear hb)
    | fail)
  have c1 : ∀ q, (convert 22 9 (.slice ia n ic)).run Try.prog (w1.drewN q) = .ok (.string (strB inn)) (w1.drewN q) := fun q => conv_at (H1.out.step (below_drewN B1.out q)) hn.out
  have c2 : ∀ q, (convert 22 9 (.slice oa m oc)).run Try.prog (w1.drewN q) = .ok (.string (strB out)) (w1.drewN q) := fun q => conv_at (H2.out.step (below_drewN B1.out q)) hm.out
  clear G0 T0 l0 l1 hx hbx
  go_quiet (fail)
  go_upto_region 6 with fail
  have S3 := Lib.hid (S1.out.step (below_drewN (Below.refl _ _) nq))
  have B3 := Lib.hid (below_drewN B1.out nq)
  clear c1 c2 G1 T1 Z1 F1 k0 k1 k2 S1 B1
  generalize w1.drewN nq = w3 at S3 B3 ⊢
  have S4 := Lib.hid (S3.out.step (below_alloc w3 (.cells #[.int .u8 (ub bb)] 5)))
  have B4 := Lib.hid (pstep B3.out (below_alloc w3 (.cells #[.int .u8 (ub bb)] 5)))
  have c3 : (convert 22 9 (.slice (some ⟨w3.heap.size, 0, none⟩) 1 1)).run Try.prog (w3.alloc (.cells #[.int .u8 (ub bb)] 5)) = .ok (.string (strB [bb])) (w3.alloc (.cells #[.int .u8 (ub bb)] 5)) := conv_at (byte_lit w3 bb 1) rfl
  have T3 := pair_at S3.out.o
  have k3 := heap_lt S3.out.o
  go_upto_region 8 with fail
  clear c3 T3 k3 S3 B3
  generalize w3.alloc (.cells #[.int .u8 (ub bb)] 5) = w4 at S4 B4 ⊢
  have T4 := pair_at S4.out.o
  have k4 := heap_lt S4.out.o
  have Z4 := four_at S4.out.z
  have F4 := fun i => frozen_of_row w4 (w.heap.size + 1 + 1) i _ _ S4.out.z
  have z4 := heap_lt S4.out.z
  have sl : ∀ l, (strB l).toList = l := strB_list
  have sz1 : (strB inn).size = n := (strB_size _).trans hn.out
  have sz2 : (strB out).size = m := (strB_size _).trans hm.out
  have h1 : decide ((n : Int) < 16) = true := by simp; omega
  have ad : ∀ W, (Op.stringOp .add (strB inn) (strB [bb])).run Try.prog W = .ok (.string (strB (inn ++ [bb]))) W := fun W => str_add inn [bb] W (by rw [hn.out]; simp; omega)
  have e1 : ((inn ++ [bb]) == []) = false := by simp
  have e2 : (inn ++ [bb]).isEmpty = false := by simp
  have HN1 : Hid ((inn ++ [bb]).length = n + 1) := Lib.hid (by rw [List.length_append, hn.out]; rfl)
  have HN2 : Hid ((out).length = m) := hm
  go_wp2_with (first
    | (refine wpList_bytes rfl _ rfl (inn ++ [bb]) (n + 1) HN1 rfl ?_; intro ca w5 a5 b5; have A5 := Lib.hid a5; have D5 := Lib.hid b5; have S5 := Lib.hid (S4.out.step b5); clear a5 b5)
    | (refine wpList_bytes rfl _ rfl (out) (m) HN2 rfl ?_; intro cb w6 a6 b6; have A6 := Lib.hid (A5.out.step b6); have C6 := Lib.hid a6; have S6 := Lib.hid (S5.out.step b6); have B6 := Lib.hid (pstep (pstep B4.out D5.out) b6); have Z6 := four_at S6.out.z; have F6 := (fun i => frozen_of_row w6 (w.heap.size + 1 + 1) i _ _ S6.out.z); have z6 := heap_lt S6.out.z; clear a6 b6)
    | fail)
  refine bodyPost_ret (results_row_tmp2 rfl _ _ (w.heap.size + 1 + 1) 24 #[.slice (some ⟨w4.heap.size, 0, none⟩) (n + 1) ca, .slice (some ⟨w5.heap.size, 0, none⟩) (m) cb, .int .i64 (lost : Nat), .bool true] (0, 0) _ rfl (four_set S6.out.z) Try.underlying24 rfl size_dev) rfl ?_
  have y4 := heap_lt S4.out.z
  have y5 := heap_lt S5.out.z
  have x4 := B4.out.size
  have x5 := D5.out.size
  exact ⟨_, _, _, _, rfl, at_four A6.out _ _ _ _ (fun _ a ha => by cases ha; simp only; omega), at_four C6.out _ _ _ _ (fun _ a ha => by cases ha; simp only; omega), four_below _ _ _ _ B6.out (by omega), (fun g hg => by simp only [Value.ownBlock, Option.some.injEq] at hg; omega), (fun g hg => by simp only [Value.ownBlock, Option.some.injEq] at hg; omega)⟩
set_option maxHeartbeats 2000000 in
set_option maxRecDepth 100000 in
theorem pstep_most {ia oa : Option Addr} {n ic m oc : Nat} {inn out : List UInt8} (lost : Nat) (asks : Bool) (bb : UInt8) (w : World) (hr : rgt n m (lost : Nat) asks = true) (hn : Hid (inn.length = n)) (hm : Hid (out.length = m)) (H1 : Hid (shB.At w ia ic inn)) (H2 : Hid (shB.At w oa oc out)) (h16 : Hid (n = 16)) (hl : Hid (lost = 1099511627776)) :
    Calls Try.prog 9 #[.agg #[.slice ia n ic, .slice oa m oc, .int .i64 (lost : Nat), .bool asks], .agg #[.int .i64 1, .int .u8 (ub bb)]] w (StepOut w 0 0 [] [] 0 false 0 4) := by
  have hx := Lib.hid (sp_new w (.slice ia n ic) (.slice oa m oc) (lost : Nat) asks 1 (ub bb))
  have hbx := Lib.hid (below_three w (.cells #[.slice ia n ic, .slice oa m oc, .int .i64 (lost : Nat), .bool asks] 24) (.cells #[.int .i64 1, .int .u8 (ub bb)] 26) (.cells #[.slice none 0 0, .slice none 0 0, .int .i64 0, .bool false] 24))
  go_enter Try.func9, Try.ntmps9
  go_upto_region 1 with fail
  generalize ((w.alloc (.cells #[.slice ia n ic, .slice oa m oc, .int .i64 (lost : Nat), .bool asks] 24)).alloc (.cells #[.int .i64 1, .int .u8 (ub bb)] 26)).alloc (.cells #[.slice none 0 0, .slice none 0 0, .int .i64 0, .bool false] 24) = X at hx hbx ⊢
  have G0 := four_at hx.out.d
  have T0 := pair_at hx.out.o
  have l0 := heap_lt hx.out.d
  have l1 := heap_lt hx.out.o
  go_upto_region 3 with (first
    | (go_at_call 11; (with_reducible refine (pright_W _ _ n ic m oc (lost : Nat) asks _).mono ?_); rw [hr]; rintro e w1 ⟨rfl, hb⟩; have S1 := Lib.hid (hx.out.step hb); have B1 := Lib.hid (pstep hbx.out hb); have G1 := four_at S1.out.d; have T1 := pair_at S1.out.o; have Z1 := four_at S1.out.z; have F1 := (fun i => frozen_of_row w1 (w.heap.size + 1 + 1) i _ _ S1.out.z); have k0 := heap_lt S1.out.d; have k1 := heap_lt S1.out.o; have k2 := heap_lt S1.out.z; clear hb)
    | fail)
  have c1 : ∀ q, (convert 22 9 (.slice ia n ic)).run Try.prog (w1.drewN q) = .ok (.string (strB inn)) (w1.drewN q) := fun q => conv_at (H1.out.step (below_drewN B1.out q)) hn.out
  have c2 : ∀ q, (convert 22 9 (.slice oa m oc)).run Try.prog (w1.drewN q) = .ok (.string (strB out)) (w1.drewN q) := fun q => conv_at (H2.out.step (below_drewN B1.out q)) hm.out
  clear G0 T0 l0 l1 hx hbx
  go_quiet (fail)
  go_upto_region 6 with fail
  have S3 := Lib.hid (S1.out.step (below_drewN (Below.refl _ _) nq))
  have B3 := Lib.hid (below_drewN B1.out nq)
  clear c1 c2 G1 T1 Z1 F1 k0 k1 k2 S1 B1
  generalize w1.drewN nq = w3 at S3 B3 ⊢
  have S4 := Lib.hid (S3.out.step (below_alloc w3 (.cells #[.int .u8 (ub bb)] 5)))
  have B4 := Lib.hid (pstep B3.out (below_alloc w3 (.cells #[.int .u8 (ub bb)] 5)))
  have c3 : (convert 22 9 (.slice (some ⟨w3.heap.size, 0, none⟩) 1 1)).run Try.prog (w3.alloc (.cells #[.int .u8 (ub bb)] 5)) = .ok (.string (strB [bb])) (w3.alloc (.cells #[.int .u8 (ub bb)] 5)) := conv_at (byte_lit w3 bb 1) rfl
  have T3 := pair_at S3.out.o
  have k3 := heap_lt S3.out.o
  go_upto_region 8 with fail
  clear c3 T3 k3 S3 B3
  generalize w3.alloc (.cells #[.int .u8 (ub bb)] 5) = w4 at S4 B4 ⊢
  have T4 := pair_at S4.out.o
  have k4 := heap_lt S4.out.o
  have Z4 := four_at S4.out.z
  have F4 := fun i => frozen_of_row w4 (w.heap.size + 1 + 1) i _ _ S4.out.z
  have z4 := heap_lt S4.out.z
  have sl : ∀ l, (strB l).toList = l := strB_list
  have sz1 : (strB inn).size = n := (strB_size _).trans hn.out
  have sz2 : (strB out).size = m := (strB_size _).trans hm.out
  have h1 : decide ((n : Int) < 16) = false := by have := h16.out; simp; omega
  have h2 : ((lost : Int) == 1099511627776) = true := by have := hl.out; simp; omega
  go_wp2_with fail
  refine bodyPost_ret (results_row_tmp2 rfl _ _ (w.heap.size + 1 + 1) 24 #[.slice none 0 0, .slice none 0 0, .int .i64 0, .bool false] (0, 0) _ rfl (four_set S4.out.z) Try.underlying24 rfl size_dev) rfl ?_
  exact step_none rfl (four_below _ _ _ _ B4.out (by omega))
set_option maxHeartbeats 2000000 in
set_option maxRecDepth 100000 in
theorem pstep_lost {ia oa : Option Addr} {n ic m oc : Nat} {inn out : List UInt8} (lost : Nat) (asks : Bool) (bb : UInt8) (w : World) (hr : rgt n m (lost : Nat) asks = true) (hn : Hid (inn.length = n)) (hm : Hid (out.length = m)) (H1 : Hid (shB.At w ia ic inn)) (H2 : Hid (shB.At w oa oc out)) (h16 : Hid (n = 16)) (hl : lost < 1099511627776) (l2 : Nat) (hl2 : Hid (lost + 1 = l2)) (q : Bool) (hq : Hid ((inn == []) = !q)) :
    Calls Try.prog 9 #[.agg #[.slice ia n ic, .slice oa m oc, .int .i64 (lost : Nat), .bool asks], .agg #[.int .i64 1, .int .u8 (ub bb)]] w (StepOut w n m inn out l2 q 0 0) := by
  have hx := Lib.hid (sp_new w (.slice ia n ic) (.slice oa m oc) (lost : Nat) asks 1 (ub bb))
  have hbx := Lib.hid (below_three w (.cells #[.slice ia n ic, .slice oa m oc, .int .i64 (lost : Nat), .bool asks] 24) (.cells #[.int .i64 1, .int .u8 (ub bb)] 26) (.cells #[.slice none 0 0, .slice none 0 0, .int .i64 0, .bool false] 24))
  go_enter Try.func9, Try.ntmps9
  go_upto_region 1 with fail
  generalize ((w.alloc (.cells #[.slice ia n ic, .slice oa m oc, .int .i64 (lost : Nat), .bool asks] 24)).alloc (.cells #[.int .i64 1, .int .u8 (ub bb)] 26)).alloc (.cells #[.slice none 0 0, .slice none 0 0, .int .i64 0, .bool false] 24) = X at hx hbx ⊢
  have G0 := four_at hx.out.d
  have T0 := pair_at hx.out.o
  have l0 := heap_lt hx.out.d
  have l1 := heap_lt hx.out.o
  go_upto_region 3 with (first
    | (go_at_call 11; (with_reducible refine (pright_W _ _ n ic m oc (lost : Nat) asks _).mono ?_); rw [hr]; rintro e w1 ⟨rfl, hb⟩; have S1 := Lib.hid (hx.out.step hb); have B1 := Lib.hid (pstep hbx.out hb); have G1 := four_at S1.out.d; have T1 := pair_at S1.out.o; have Z1 := four_at S1.out.z; have F1 := (fun i => frozen_of_row w1 (w.heap.size + 1 + 1) i _ _ S1.out.z); have k0 := heap_lt S1.out.d; have k1 := heap_lt S1.out.o; have k2 := heap_lt S1.out.z; clear hb)
    | fail)
  have c1 : ∀ q, (convert 22 9 (.slice ia n ic)).run Try.prog (w1.drewN q) = .ok (.string (strB inn)) (w1.drewN q) := fun q => conv_at (H1.out.step (below_drewN B1.out q)) hn.out
  have c2 : ∀ q, (convert 22 9 (.slice oa m oc)).run Try.prog (w1.drewN q) = .ok (.string (strB out)) (w1.drewN q) := fun q => conv_at (H2.out.step (below_drewN B1.out q)) hm.out
  clear G0 T0 l0 l1 hx hbx
  go_quiet (fail)
  go_upto_region 6 with fail
  have S3 := Lib.hid (S1.out.step (below_drewN (Below.refl _ _) nq))
  have B3 := Lib.hid (below_drewN B1.out nq)
  clear c1 c2 G1 T1 Z1 F1 k0 k1 k2 S1 B1
  generalize w1.drewN nq = w3 at S3 B3 ⊢
  have S4 := Lib.hid (S3.out.step (below_alloc w3 (.cells #[.int .u8 (ub bb)] 5)))
  have B4 := Lib.hid (pstep B3.out (below_alloc w3 (.cells #[.int .u8 (ub bb)] 5)))
  have c3 : (convert 22 9 (.slice (some ⟨w3.heap.size, 0, none⟩) 1 1)).run Try.prog (w3.alloc (.cells #[.int .u8 (ub bb)] 5)) = .ok (.string (strB [bb])) (w3.alloc (.cells #[.int .u8 (ub bb)] 5)) := conv_at (byte_lit w3 bb 1) rfl
  have T3 := pair_at S3.out.o
  have k3 := heap_lt S3.out.o
  go_upto_region 8 with fail
  clear c3 T3 k3 S3 B3
  generalize w3.alloc (.cells #[.int .u8 (ub bb)] 5) = w4 at S4 B4 ⊢
  have T4 := pair_at S4.out.o
  have k4 := heap_lt S4.out.o
  have Z4 := four_at S4.out.z
  have F4 := fun i => frozen_of_row w4 (w.heap.size + 1 + 1) i _ _ S4.out.z
  have z4 := heap_lt S4.out.z
  have sl : ∀ l, (strB l).toList = l := strB_list
  have sz1 : (strB inn).size = n := (strB_size _).trans hn.out
  have sz2 : (strB out).size = m := (strB_size _).trans hm.out
  have h1 : decide ((n : Int) < 16) = false := by have := h16.out; simp; omega
  have h2 : ((lost : Int) == 1099511627776) = false := by simp; omega
  have h3 : IntKind.i64.wrap ((lost : Int) + 1) = (l2 : Int) := by have := hl2.out; rw [IntKind.wrap_i64]; omega
  have q1 : (inn == []) = !q := hq.out
  have q2 : inn.isEmpty = !q := by cases inn <;> simpa using hq.out
  clear hl
  have HN1 : Hid ((inn).length = n) := hn
  have HN2 : Hid ((out).length = m) := hm
  go_wp2_with (first
    | (refine wpList_bytes rfl _ rfl (inn) (n) HN1 rfl ?_; intro ca w5 a5 b5; have A5 := Lib.hid a5; have D5 := Lib.hid b5; have S5 := Lib.hid (S4.out.step b5); clear a5 b5)
    | (refine wpList_bytes rfl _ rfl (out) (m) HN2 rfl ?_; intro cb w6 a6 b6; have A6 := Lib.hid (A5.out.step b6); have C6 := Lib.hid a6; have S6 := Lib.hid (S5.out.step b6); have B6 := Lib.hid (pstep (pstep B4.out D5.out) b6); have Z6 := four_at S6.out.z; have F6 := (fun i => frozen_of_row w6 (w.heap.size + 1 + 1) i _ _ S6.out.z); have z6 := heap_lt S6.out.z; clear a6 b6)
    | fail)
  refine bodyPost_ret (results_row_tmp2 rfl _ _ (w.heap.size + 1 + 1) 24 #[.slice (some ⟨w4.heap.size, 0, none⟩) (n) ca, .slice (some ⟨w5.heap.size, 0, none⟩) (m) cb, .int .i64 (l2 : Nat), .bool q] (0, 0) _ rfl (four_set S6.out.z) Try.underlying24 rfl size_dev) rfl ?_
  have y4 := heap_lt S4.out.z
  have y5 := heap_lt S5.out.z
  have x4 := B4.out.size
  have x5 := D5.out.size
  exact ⟨_, _, _, _, rfl, at_four A6.out _ _ _ _ (fun _ a ha => by cases ha; simp only; omega), at_four C6.out _ _ _ _ (fun _ a ha => by cases ha; simp only; omega), four_below _ _ _ _ B6.out (by omega), (fun g hg => by simp only [Value.ownBlock, Option.some.injEq] at hg; omega), (fun g hg => by simp only [Value.ownBlock, Option.some.injEq] at hg; omega)⟩
set_option maxHeartbeats 2000000 in
set_option maxRecDepth 100000 in
theorem pstep_none2 {ia oa : Option Addr} {n ic m oc : Nat} {out : List UInt8} (lost : Nat) (asks : Bool) (bb : UInt8) (w : World) (hr : rgt n m (lost : Nat) asks = true) (hn : Hid (([] : List UInt8).length = n)) (hm : Hid (out.length = m)) (H1 : Hid (shB.At w ia ic ([] : List UInt8))) (H2 : Hid (shB.At w oa oc out))  :
    Calls Try.prog 9 #[.agg #[.slice ia n ic, .slice oa m oc, .int .i64 (lost : Nat), .bool asks], .agg #[.int .i64 2, .int .u8 (ub bb)]] w (StepOut w 0 0 [] [] 0 false 0 3) := by
  have hx := Lib.hid (sp_new w (.slice ia n ic) (.slice oa m oc) (lost : Nat) asks 2 (ub bb))
  have hbx := Lib.hid (below_three w (.cells #[.slice ia n ic, .slice oa m oc, .int .i64 (lost : Nat), .bool asks] 24) (.cells #[.int .i64 2, .int .u8 (ub bb)] 26) (.cells #[.slice none 0 0, .slice none 0 0, .int .i64 0, .bool false] 24))
  go_enter Try.func9, Try.ntmps9
  go_upto_region 1 with fail
  generalize ((w.alloc (.cells #[.slice ia n ic, .slice oa m oc, .int .i64 (lost : Nat), .bool asks] 24)).alloc (.cells #[.int .i64 2, .int .u8 (ub bb)] 26)).alloc (.cells #[.slice none 0 0, .slice none 0 0, .int .i64 0, .bool false] 24) = X at hx hbx ⊢
  have G0 := four_at hx.out.d
  have T0 := pair_at hx.out.o
  have l0 := heap_lt hx.out.d
  have l1 := heap_lt hx.out.o
  go_upto_region 3 with (first
    | (go_at_call 11; (with_reducible refine (pright_W _ _ n ic m oc (lost : Nat) asks _).mono ?_); rw [hr]; rintro e w1 ⟨rfl, hb⟩; have S1 := Lib.hid (hx.out.step hb); have B1 := Lib.hid (pstep hbx.out hb); have G1 := four_at S1.out.d; have T1 := pair_at S1.out.o; have Z1 := four_at S1.out.z; have F1 := (fun i => frozen_of_row w1 (w.heap.size + 1 + 1) i _ _ S1.out.z); have k0 := heap_lt S1.out.d; have k1 := heap_lt S1.out.o; have k2 := heap_lt S1.out.z; clear hb)
    | fail)
  have c1 : ∀ q, (convert 22 9 (.slice ia n ic)).run Try.prog (w1.drewN q) = .ok (.string (strB ([] : List UInt8))) (w1.drewN q) := fun q => conv_at (H1.out.step (below_drewN B1.out q)) hn.out
  have c2 : ∀ q, (convert 22 9 (.slice oa m oc)).run Try.prog (w1.drewN q) = .ok (.string (strB out)) (w1.drewN q) := fun q => conv_at (H2.out.step (below_drewN B1.out q)) hm.out
  clear G0 T0 l0 l1 hx hbx
  go_quiet (fail)
  go_upto_region 6 with fail
  have S3 := Lib.hid (S1.out.step (below_drewN (Below.refl _ _) nq))
  have B3 := Lib.hid (below_drewN B1.out nq)
  clear c1 c2 G1 T1 Z1 F1 k0 k1 k2 S1 B1
  generalize w1.drewN nq = w3 at S3 B3 ⊢
  have S4 := Lib.hid (S3.out.step (below_alloc w3 (.cells #[.int .u8 (ub bb)] 5)))
  have B4 := Lib.hid (pstep B3.out (below_alloc w3 (.cells #[.int .u8 (ub bb)] 5)))
  have c3 : (convert 22 9 (.slice (some ⟨w3.heap.size, 0, none⟩) 1 1)).run Try.prog (w3.alloc (.cells #[.int .u8 (ub bb)] 5)) = .ok (.string (strB [bb])) (w3.alloc (.cells #[.int .u8 (ub bb)] 5)) := conv_at (byte_lit w3 bb 1) rfl
  have T3 := pair_at S3.out.o
  have k3 := heap_lt S3.out.o
  go_upto_region 8 with fail
  clear c3 T3 k3 S3 B3
  generalize w3.alloc (.cells #[.int .u8 (ub bb)] 5) = w4 at S4 B4 ⊢
  have T4 := pair_at S4.out.o
  have k4 := heap_lt S4.out.o
  have Z4 := four_at S4.out.z
  have F4 := fun i => frozen_of_row w4 (w.heap.size + 1 + 1) i _ _ S4.out.z
  have z4 := heap_lt S4.out.z
  have sl : ∀ l, (strB l).toList = l := strB_list
  have sz1 : (strB ([] : List UInt8)).size = n := (strB_size _).trans hn.out
  have sz2 : (strB out).size = m := (strB_size _).trans hm.out
  go_wp2_with fail
  refine bodyPost_ret (results_row_tmp2 rfl _ _ (w.heap.size + 1 + 1) 24 #[.slice none 0 0, .slice none 0 0, .int .i64 0, .bool false] (0, 0) _ rfl (four_set S4.out.z) Try.underlying24 rfl size_dev) rfl ?_
  exact step_none rfl (four_below _ _ _ _ B4.out (by omega))
set_option maxHeartbeats 2000000 in
set_option maxRecDepth 100000 in
theorem pstep_read {ia oa : Option Addr} {n ic m oc : Nat} {x : UInt8} {r out : List UInt8} (lost : Nat) (asks : Bool) (bb : UInt8) (w : World) (hr : rgt n m (lost : Nat) asks = true) (hn : Hid ((x :: r).length = n)) (hm : Hid (out.length = m)) (H1 : Hid (shB.At w ia ic (x :: r))) (H2 : Hid (shB.At w oa oc out)) (j : Nat) (hj : Hid (r.length = j)) (q : Bool) (hq : Hid ((r == []) = !q)) :
    Calls Try.prog 9 #[.agg #[.slice ia n ic, .slice oa m oc, .int .i64 (lost : Nat), .bool asks], .agg #[.int .i64 2, .int .u8 (ub bb)]] w (StepOut w j m r out lost q (ub x) 0) := by
  have hx := Lib.hid (sp_new w (.slice ia n ic) (.slice oa m oc) (lost : Nat) asks 2 (ub bb))
  have hbx := Lib.hid (below_three w (.cells #[.slice ia n ic, .slice oa m oc, .int .i64 (lost : Nat), .bool asks] 24) (.cells #[.int .i64 2, .int .u8 (ub bb)] 26) (.cells #[.slice none 0 0, .slice none 0 0, .int .i64 0, .bool false] 24))
  go_enter Try.func9, Try.ntmps9
  go_upto_region 1 with fail
  generalize ((w.alloc (.cells #[.slice ia n ic, .slice oa m oc, .int .i64 (lost : Nat), .bool asks] 24)).alloc (.cells #[.int .i64 2, .int .u8 (ub bb)] 26)).alloc (.cells #[.slice none 0 0, .slice none 0 0, .int .i64 0, .bool false] 24) = X at hx hbx ⊢
  have G0 := four_at hx.out.d
  have T0 := pair_at hx.out.o
  have l0 := heap_lt hx.out.d
  have l1 := heap_lt hx.out.o
  go_upto_region 3 with (first
    | (go_at_call 11; (with_reducible refine (pright_W _ _ n ic m oc (lost : Nat) asks _).mono ?_); rw [hr]; rintro e w1 ⟨rfl, hb⟩; have S1 := Lib.hid (hx.out.step hb); have B1 := Lib.hid (pstep hbx.out hb); have G1 := four_at S1.out.d; have T1 := pair_at S1.out.o; have Z1 := four_at S1.out.z; have F1 := (fun i => frozen_of_row w1 (w.heap.size + 1 + 1) i _ _ S1.out.z); have k0 := heap_lt S1.out.d; have k1 := heap_lt S1.out.o; have k2 := heap_lt S1.out.z; clear hb)
    | fail)
  have c1 : ∀ q, (convert 22 9 (.slice ia n ic)).run Try.prog (w1.drewN q) = .ok (.string (strB (x :: r))) (w1.drewN q) := fun q => conv_at (H1.out.step (below_drewN B1.out q)) hn.out
  have c2 : ∀ q, (convert 22 9 (.slice oa m oc)).run Try.prog (w1.drewN q) = .ok (.string (strB out)) (w1.drewN q) := fun q => conv_at (H2.out.step (below_drewN B1.out q)) hm.out
  clear G0 T0 l0 l1 hx hbx
  go_quiet (fail)
  go_upto_region 6 with fail
  have S3 := Lib.hid (S1.out.step (below_drewN (Below.refl _ _) nq))
  have B3 := Lib.hid (below_drewN B1.out nq)
  clear c1 c2 G1 T1 Z1 F1 k0 k1 k2 S1 B1
  generalize w1.drewN nq = w3 at S3 B3 ⊢
  have S4 := Lib.hid (S3.out.step (below_alloc w3 (.cells #[.int .u8 (ub bb)] 5)))
  have B4 := Lib.hid (pstep B3.out (below_alloc w3 (.cells #[.int .u8 (ub bb)] 5)))
  have c3 : (convert 22 9 (.slice (some ⟨w3.heap.size, 0, none⟩) 1 1)).run Try.prog (w3.alloc (.cells #[.int .u8 (ub bb)] 5)) = .ok (.string (strB [bb])) (w3.alloc (.cells #[.int .u8 (ub bb)] 5)) := conv_at (byte_lit w3 bb 1) rfl
  have T3 := pair_at S3.out.o
  have k3 := heap_lt S3.out.o
  go_upto_region 8 with fail
  clear c3 T3 k3 S3 B3
  generalize w3.alloc (.cells #[.int .u8 (ub bb)] 5) = w4 at S4 B4 ⊢
  have T4 := pair_at S4.out.o
  have k4 := heap_lt S4.out.o
  have Z4 := four_at S4.out.z
  have F4 := fun i => frozen_of_row w4 (w.heap.size + 1 + 1) i _ _ S4.out.z
  have z4 := heap_lt S4.out.z
  have sl : ∀ l, (strB l).toList = l := strB_list
  have sz1 : (strB (x :: r)).size = n := (strB_size _).trans hn.out
  have sz2 : (strB out).size = m := (strB_size _).trans hm.out
  have ix := fun W => str_index x r W
  have sx := fun W => str_tail x r W
  have q1 : (r == []) = !q := hq.out
  have q2 : r.isEmpty = !q := by cases r <;> simpa using hq.out
  have sz3 : (1 : Int) ≤ ((strB (x :: r)).size : Int) := by rw [strB_size]; simp; omega
  go_wp2_with fail
  go_quiet (fail)
  have S7 := Lib.hid (S4.out.step (below_drewN (Below.refl _ _) nq))
  have B7 := Lib.hid (below_drewN B4.out nq)
  clear T4 k4 Z4 F4 z4 S4 B4 ix sx
  generalize w4.drewN nq = w7 at S7 B7 ⊢
  have T7 := pair_at S7.out.o
  have k7 := heap_lt S7.out.o
  have HN1 : Hid ((r).length = j) := hj
  have HN2 : Hid ((out).length = m) := hm
  go_wp2_with (first
    | (refine wpList_bytes rfl _ rfl (r) (j) HN1 rfl ?_; intro ca w5 a5 b5; have A5 := Lib.hid a5; have D5 := Lib.hid b5; have S5 := Lib.hid (S7.out.step b5); clear a5 b5)
    | (refine wpList_bytes rfl _ rfl (out) (m) HN2 rfl ?_; intro cb w6 a6 b6; have A6 := Lib.hid (A5.out.step b6); have C6 := Lib.hid a6; have S6 := Lib.hid (S5.out.step b6); have B6 := Lib.hid (pstep (pstep B7.out D5.out) b6); have Z6 := four_at S6.out.z; have F6 := (fun i => frozen_of_row w6 (w.heap.size + 1 + 1) i _ _ S6.out.z); have z6 := heap_lt S6.out.z; clear a6 b6)
    | fail)
  refine bodyPost_ret (results_row_tmp2 rfl _ _ (w.heap.size + 1 + 1) 24 #[.slice (some ⟨w7.heap.size, 0, none⟩) (j) ca, .slice (some ⟨w5.heap.size, 0, none⟩) (m) cb, .int .i64 (lost : Nat), .bool q] (0, 0) _ rfl (four_set S6.out.z) Try.underlying24 rfl size_dev) rfl ?_
  have y4 := heap_lt S7.out.z
  have y5 := heap_lt S5.out.z
  have x4 := B7.out.size
  have x5 := D5.out.size
  exact ⟨_, _, _, _, rfl, at_four A6.out _ _ _ _ (fun _ a ha => by cases ha; simp only; omega), at_four C6.out _ _ _ _ (fun _ a ha => by cases ha; simp only; omega), four_below _ _ _ _ B6.out (by omega), (fun g hg => by simp only [Value.ownBlock, Option.some.injEq] at hg; omega), (fun g hg => by simp only [Value.ownBlock, Option.some.injEq] at hg; omega)⟩
set_option maxHeartbeats 2000000 in
set_option maxRecDepth 100000 in
theorem pstep_none4 {ia oa : Option Addr} {n ic m oc : Nat} {inn : List UInt8} (lost : Nat) (asks : Bool) (bb : UInt8) (w : World) (hr : rgt n m (lost : Nat) asks = true) (hn : Hid (inn.length = n)) (hm : Hid (([] : List UInt8).length = m)) (H1 : Hid (shB.At w ia ic inn)) (H2 : Hid (shB.At w oa oc ([] : List UInt8)))  :
    Calls Try.prog 9 #[.agg #[.slice ia n ic, .slice oa m oc, .int .i64 (lost : Nat), .bool asks], .agg #[.int .i64 4, .int .u8 (ub bb)]] w (StepOut w 0 0 [] [] 0 false 0 3) := by
  have hx := Lib.hid (sp_new w (.slice ia n ic) (.slice oa m oc) (lost : Nat) asks 4 (ub bb))
  have hbx := Lib.hid (below_three w (.cells #[.slice ia n ic, .slice oa m oc, .int .i64 (lost : Nat), .bool asks] 24) (.cells #[.int .i64 4, .int .u8 (ub bb)] 26) (.cells #[.slice none 0 0, .slice none 0 0, .int .i64 0, .bool false] 24))
  go_enter Try.func9, Try.ntmps9
  go_upto_region 1 with fail
  generalize ((w.alloc (.cells #[.slice ia n ic, .slice oa m oc, .int .i64 (lost : Nat), .bool asks] 24)).alloc (.cells #[.int .i64 4, .int .u8 (ub bb)] 26)).alloc (.cells #[.slice none 0 0, .slice none 0 0, .int .i64 0, .bool false] 24) = X at hx hbx ⊢
  have G0 := four_at hx.out.d
  have T0 := pair_at hx.out.o
  have l0 := heap_lt hx.out.d
  have l1 := heap_lt hx.out.o
  go_upto_region 3 with (first
    | (go_at_call 11; (with_reducible refine (pright_W _ _ n ic m oc (lost : Nat) asks _).mono ?_); rw [hr]; rintro e w1 ⟨rfl, hb⟩; have S1 := Lib.hid (hx.out.step hb); have B1 := Lib.hid (pstep hbx.out hb); have G1 := four_at S1.out.d; have T1 := pair_at S1.out.o; have Z1 := four_at S1.out.z; have F1 := (fun i => frozen_of_row w1 (w.heap.size + 1 + 1) i _ _ S1.out.z); have k0 := heap_lt S1.out.d; have k1 := heap_lt S1.out.o; have k2 := heap_lt S1.out.z; clear hb)
    | fail)
  have c1 : ∀ q, (convert 22 9 (.slice ia n ic)).run Try.prog (w1.drewN q) = .ok (.string (strB inn)) (w1.drewN q) := fun q => conv_at (H1.out.step (below_drewN B1.out q)) hn.out
  have c2 : ∀ q, (convert 22 9 (.slice oa m oc)).run Try.prog (w1.drewN q) = .ok (.string (strB ([] : List UInt8))) (w1.drewN q) := fun q => conv_at (H2.out.step (below_drewN B1.out q)) hm.out
  clear G0 T0 l0 l1 hx hbx
  go_quiet (fail)
  go_upto_region 6 with fail
  have S3 := Lib.hid (S1.out.step (below_drewN (Below.refl _ _) nq))
  have B3 := Lib.hid (below_drewN B1.out nq)
  clear c1 c2 G1 T1 Z1 F1 k0 k1 k2 S1 B1
  generalize w1.drewN nq = w3 at S3 B3 ⊢
  have S4 := Lib.hid (S3.out.step (below_alloc w3 (.cells #[.int .u8 (ub bb)] 5)))
  have B4 := Lib.hid (pstep B3.out (below_alloc w3 (.cells #[.int .u8 (ub bb)] 5)))
  have c3 : (convert 22 9 (.slice (some ⟨w3.heap.size, 0, none⟩) 1 1)).run Try.prog (w3.alloc (.cells #[.int .u8 (ub bb)] 5)) = .ok (.string (strB [bb])) (w3.alloc (.cells #[.int .u8 (ub bb)] 5)) := conv_at (byte_lit w3 bb 1) rfl
  have T3 := pair_at S3.out.o
  have k3 := heap_lt S3.out.o
  go_upto_region 8 with fail
  clear c3 T3 k3 S3 B3
  generalize w3.alloc (.cells #[.int .u8 (ub bb)] 5) = w4 at S4 B4 ⊢
  have T4 := pair_at S4.out.o
  have k4 := heap_lt S4.out.o
  have Z4 := four_at S4.out.z
  have F4 := fun i => frozen_of_row w4 (w.heap.size + 1 + 1) i _ _ S4.out.z
  have z4 := heap_lt S4.out.z
  have sl : ∀ l, (strB l).toList = l := strB_list
  have sz1 : (strB inn).size = n := (strB_size _).trans hn.out
  have sz2 : (strB ([] : List UInt8)).size = m := (strB_size _).trans hm.out
  go_wp2_with fail
  refine bodyPost_ret (results_row_tmp2 rfl _ _ (w.heap.size + 1 + 1) 24 #[.slice none 0 0, .slice none 0 0, .int .i64 0, .bool false] (0, 0) _ rfl (four_set S4.out.z) Try.underlying24 rfl size_dev) rfl ?_
  exact step_none rfl (four_below _ _ _ _ B4.out (by omega))
set_option maxHeartbeats 2000000 in
set_option maxRecDepth 100000 in
theorem pstep_send {ia oa : Option Addr} {n ic m oc : Nat} {x : UInt8} {inn r : List UInt8} (lost : Nat) (asks : Bool) (bb : UInt8) (w : World) (hr : rgt n m (lost : Nat) asks = true) (hn : Hid (inn.length = n)) (hm : Hid ((x :: r).length = m)) (H1 : Hid (shB.At w ia ic inn)) (H2 : Hid (shB.At w oa oc (x :: r))) (j : Nat) (hj : Hid (r.length = j)) (q : Bool) (hq : Hid ((inn == []) = !q)) :
    Calls Try.prog 9 #[.agg #[.slice ia n ic, .slice oa m oc, .int .i64 (lost : Nat), .bool asks], .agg #[.int .i64 4, .int .u8 (ub bb)]] w (StepOut w n j inn r lost q (ub x) 0) := by
  have hx := Lib.hid (sp_new w (.slice ia n ic) (.slice oa m oc) (lost : Nat) asks 4 (ub bb))
  have hbx := Lib.hid (below_three w (.cells #[.slice ia n ic, .slice oa m oc, .int .i64 (lost : Nat), .bool asks] 24) (.cells #[.int .i64 4, .int .u8 (ub bb)] 26) (.cells #[.slice none 0 0, .slice none 0 0, .int .i64 0, .bool false] 24))
  go_enter Try.func9, Try.ntmps9
  go_upto_region 1 with fail
  generalize ((w.alloc (.cells #[.slice ia n ic, .slice oa m oc, .int .i64 (lost : Nat), .bool asks] 24)).alloc (.cells #[.int .i64 4, .int .u8 (ub bb)] 26)).alloc (.cells #[.slice none 0 0, .slice none 0 0, .int .i64 0, .bool false] 24) = X at hx hbx ⊢
  have G0 := four_at hx.out.d
  have T0 := pair_at hx.out.o
  have l0 := heap_lt hx.out.d
  have l1 := heap_lt hx.out.o
  go_upto_region 3 with (first
    | (go_at_call 11; (with_reducible refine (pright_W _ _ n ic m oc (lost : Nat) asks _).mono ?_); rw [hr]; rintro e w1 ⟨rfl, hb⟩; have S1 := Lib.hid (hx.out.step hb); have B1 := Lib.hid (pstep hbx.out hb); have G1 := four_at S1.out.d; have T1 := pair_at S1.out.o; have Z1 := four_at S1.out.z; have F1 := (fun i => frozen_of_row w1 (w.heap.size + 1 + 1) i _ _ S1.out.z); have k0 := heap_lt S1.out.d; have k1 := heap_lt S1.out.o; have k2 := heap_lt S1.out.z; clear hb)
    | fail)
  have c1 : ∀ q, (convert 22 9 (.slice ia n ic)).run Try.prog (w1.drewN q) = .ok (.string (strB inn)) (w1.drewN q) := fun q => conv_at (H1.out.step (below_drewN B1.out q)) hn.out
  have c2 : ∀ q, (convert 22 9 (.slice oa m oc)).run Try.prog (w1.drewN q) = .ok (.string (strB (x :: r))) (w1.drewN q) := fun q => conv_at (H2.out.step (below_drewN B1.out q)) hm.out
  clear G0 T0 l0 l1 hx hbx
  go_quiet (fail)
  go_upto_region 6 with fail
  have S3 := Lib.hid (S1.out.step (below_drewN (Below.refl _ _) nq))
  have B3 := Lib.hid (below_drewN B1.out nq)
  clear c1 c2 G1 T1 Z1 F1 k0 k1 k2 S1 B1
  generalize w1.drewN nq = w3 at S3 B3 ⊢
  have S4 := Lib.hid (S3.out.step (below_alloc w3 (.cells #[.int .u8 (ub bb)] 5)))
  have B4 := Lib.hid (pstep B3.out (below_alloc w3 (.cells #[.int .u8 (ub bb)] 5)))
  have c3 : (convert 22 9 (.slice (some ⟨w3.heap.size, 0, none⟩) 1 1)).run Try.prog (w3.alloc (.cells #[.int .u8 (ub bb)] 5)) = .ok (.string (strB [bb])) (w3.alloc (.cells #[.int .u8 (ub bb)] 5)) := conv_at (byte_lit w3 bb 1) rfl
  have T3 := pair_at S3.out.o
  have k3 := heap_lt S3.out.o
  go_upto_region 8 with fail
  clear c3 T3 k3 S3 B3
  generalize w3.alloc (.cells #[.int .u8 (ub bb)] 5) = w4 at S4 B4 ⊢
  have T4 := pair_at S4.out.o
  have k4 := heap_lt S4.out.o
  have Z4 := four_at S4.out.z
  have F4 := fun i => frozen_of_row w4 (w.heap.size + 1 + 1) i _ _ S4.out.z
  have z4 := heap_lt S4.out.z
  have sl : ∀ l, (strB l).toList = l := strB_list
  have sz1 : (strB inn).size = n := (strB_size _).trans hn.out
  have sz2 : (strB (x :: r)).size = m := (strB_size _).trans hm.out
  have ix := fun W => str_index x r W
  have sx := fun W => str_tail x r W
  have q1 : (inn == []) = !q := hq.out
  have q2 : inn.isEmpty = !q := by cases inn <;> simpa using hq.out
  go_wp2_with fail
  go_quiet (fail)
  have S7 := Lib.hid (S4.out.step (below_drewN (Below.refl _ _) nq))
  have B7 := Lib.hid (below_drewN B4.out nq)
  clear T4 k4 Z4 F4 z4 S4 B4 ix sx
  generalize w4.drewN nq = w7 at S7 B7 ⊢
  have T7 := pair_at S7.out.o
  have k7 := heap_lt S7.out.o
  have HN1 : Hid ((inn).length = n) := hn
  have HN2 : Hid ((r).length = j) := hj
  go_wp2_with (first
    | (refine wpList_bytes rfl _ rfl (inn) (n) HN1 rfl ?_; intro ca w5 a5 b5; have A5 := Lib.hid a5; have D5 := Lib.hid b5; have S5 := Lib.hid (S7.out.step b5); clear a5 b5)
    | (refine wpList_bytes rfl _ rfl (r) (j) HN2 rfl ?_; intro cb w6 a6 b6; have A6 := Lib.hid (A5.out.step b6); have C6 := Lib.hid a6; have S6 := Lib.hid (S5.out.step b6); have B6 := Lib.hid (pstep (pstep B7.out D5.out) b6); have Z6 := four_at S6.out.z; have F6 := (fun i => frozen_of_row w6 (w.heap.size + 1 + 1) i _ _ S6.out.z); have z6 := heap_lt S6.out.z; clear a6 b6)
    | fail)
  refine bodyPost_ret (results_row_tmp2 rfl _ _ (w.heap.size + 1 + 1) 24 #[.slice (some ⟨w7.heap.size, 0, none⟩) (n) ca, .slice (some ⟨w5.heap.size, 0, none⟩) (j) cb, .int .i64 (lost : Nat), .bool q] (0, 0) _ rfl (four_set S6.out.z) Try.underlying24 rfl size_dev) rfl ?_
  have y4 := heap_lt S7.out.z
  have y5 := heap_lt S5.out.z
  have x4 := B7.out.size
  have x5 := D5.out.size
  exact ⟨_, _, _, _, rfl, at_four A6.out _ _ _ _ (fun _ a ha => by cases ha; simp only; omega), at_four C6.out _ _ _ _ (fun _ a ha => by cases ha; simp only; omega), four_below _ _ _ _ B6.out (by omega), (fun g hg => by simp only [Value.ownBlock, Option.some.injEq] at hg; omega), (fun g hg => by simp only [Value.ownBlock, Option.some.injEq] at hg; omega)⟩
set_option maxHeartbeats 2000000 in
set_option maxRecDepth 100000 in
theorem pstep_full3 {ia oa : Option Addr} {n ic m oc : Nat} {inn out : List UInt8} (lost : Nat) (asks : Bool) (bb : UInt8) (w : World) (hr : rgt n m (lost : Nat) asks = true) (hn : Hid (inn.length = n)) (hm : Hid (out.length = m)) (H1 : Hid (shB.At w ia ic inn)) (H2 : Hid (shB.At w oa oc out)) (h16 : Hid (m = 16)) :
    Calls Try.prog 9 #[.agg #[.slice ia n ic, .slice oa m oc, .int .i64 (lost : Nat), .bool asks], .agg #[.int .i64 3, .int .u8 (ub bb)]] w (StepOut w 0 0 [] [] 0 false 0 7) := by
  have hx := Lib.hid (sp_new w (.slice ia n ic) (.slice oa m oc) (lost : Nat) asks 3 (ub bb))
  have hbx := Lib.hid (below_three w (.cells #[.slice ia n ic, .slice oa m oc, .int .i64 (lost : Nat), .bool asks] 24) (.cells #[.int .i64 3, .int .u8 (ub bb)] 26) (.cells #[.slice none 0 0, .slice none 0 0, .int .i64 0, .bool false] 24))
  go_enter Try.func9, Try.ntmps9
  go_upto_region 1 with fail
  generalize ((w.alloc (.cells #[.slice ia n ic, .slice oa m oc, .int .i64 (lost : Nat), .bool asks] 24)).alloc (.cells #[.int .i64 3, .int .u8 (ub bb)] 26)).alloc (.cells #[.slice none 0 0, .slice none 0 0, .int .i64 0, .bool false] 24) = X at hx hbx ⊢
  have G0 := four_at hx.out.d
  have T0 := pair_at hx.out.o
  have l0 := heap_lt hx.out.d
  have l1 := heap_lt hx.out.o
  go_upto_region 3 with (first
    | (go_at_call 11; (with_reducible refine (pright_W _ _ n ic m oc (lost : Nat) asks _).mono ?_); rw [hr]; rintro e w1 ⟨rfl, hb⟩; have S1 := Lib.hid (hx.out.step hb); have B1 := Lib.hid (pstep hbx.out hb); have G1 := four_at S1.out.d; have T1 := pair_at S1.out.o; have Z1 := four_at S1.out.z; have F1 := (fun i => frozen_of_row w1 (w.heap.size + 1 + 1) i _ _ S1.out.z); have k0 := heap_lt S1.out.d; have k1 := heap_lt S1.out.o; have k2 := heap_lt S1.out.z; clear hb)
    | fail)
  have c1 : ∀ q, (convert 22 9 (.slice ia n ic)).run Try.prog (w1.drewN q) = .ok (.string (strB inn)) (w1.drewN q) := fun q => conv_at (H1.out.step (below_drewN B1.out q)) hn.out
  have c2 : ∀ q, (convert 22 9 (.slice oa m oc)).run Try.prog (w1.drewN q) = .ok (.string (strB out)) (w1.drewN q) := fun q => conv_at (H2.out.step (below_drewN B1.out q)) hm.out
  clear G0 T0 l0 l1 hx hbx
  go_quiet (fail)
  go_upto_region 6 with fail
  have S3 := Lib.hid (S1.out.step (below_drewN (Below.refl _ _) nq))
  have B3 := Lib.hid (below_drewN B1.out nq)
  clear c1 c2 G1 T1 Z1 F1 k0 k1 k2 S1 B1
  generalize w1.drewN nq = w3 at S3 B3 ⊢
  have S4 := Lib.hid (S3.out.step (below_alloc w3 (.cells #[.int .u8 (ub bb)] 5)))
  have B4 := Lib.hid (pstep B3.out (below_alloc w3 (.cells #[.int .u8 (ub bb)] 5)))
  have c3 : (convert 22 9 (.slice (some ⟨w3.heap.size, 0, none⟩) 1 1)).run Try.prog (w3.alloc (.cells #[.int .u8 (ub bb)] 5)) = .ok (.string (strB [bb])) (w3.alloc (.cells #[.int .u8 (ub bb)] 5)) := conv_at (byte_lit w3 bb 1) rfl
  have T3 := pair_at S3.out.o
  have k3 := heap_lt S3.out.o
  go_upto_region 8 with fail
  clear c3 T3 k3 S3 B3
  generalize w3.alloc (.cells #[.int .u8 (ub bb)] 5) = w4 at S4 B4 ⊢
  have T4 := pair_at S4.out.o
  have k4 := heap_lt S4.out.o
  have Z4 := four_at S4.out.z
  have F4 := fun i => frozen_of_row w4 (w.heap.size + 1 + 1) i _ _ S4.out.z
  have z4 := heap_lt S4.out.z
  have sl : ∀ l, (strB l).toList = l := strB_list
  have sz1 : (strB inn).size = n := (strB_size _).trans hn.out
  have sz2 : (strB out).size = m := (strB_size _).trans hm.out
  have h1 : ((m : Int) == 16) = true := by have := h16.out; simp; omega
  go_wp2_with fail
  refine bodyPost_ret (results_row_tmp2 rfl _ _ (w.heap.size + 1 + 1) 24 #[.slice none 0 0, .slice none 0 0, .int .i64 0, .bool false] (0, 0) _ rfl (four_set S4.out.z) Try.underlying24 rfl size_dev) rfl ?_
  exact step_none rfl (four_below _ _ _ _ B4.out (by omega))
set_option maxHeartbeats 2000000 in
set_option maxRecDepth 100000 in
theorem pstep_out {ia oa : Option Addr} {n ic m oc : Nat} {inn out : List UInt8} (lost : Nat) (asks : Bool) (bb : UInt8) (w : World) (hr : rgt n m (lost : Nat) asks = true) (hn : Hid (inn.length = n)) (hm : Hid (out.length = m)) (H1 : Hid (shB.At w ia ic inn)) (H2 : Hid (shB.At w oa oc out)) (h16 : m < 16) (q : Bool) (hq : Hid ((inn == []) = !q)) :
    Calls Try.prog 9 #[.agg #[.slice ia n ic, .slice oa m oc, .int .i64 (lost : Nat), .bool asks], .agg #[.int .i64 3, .int .u8 (ub bb)]] w (StepOut w n (m + 1) inn (out ++ [bb]) lost q 0 0) := by
  have hx := Lib.hid (sp_new w (.slice ia n ic) (.slice oa m oc) (lost : Nat) asks 3 (ub bb))
  have hbx := Lib.hid (below_three w (.cells #[.slice ia n ic, .slice oa m oc, .int .i64 (lost : Nat), .bool asks] 24) (.cells #[.int .i64 3, .int .u8 (ub bb)] 26) (.cells #[.slice none 0 0, .slice none 0 0, .int .i64 0, .bool false] 24))
  go_enter Try.func9, Try.ntmps9
  go_upto_region 1 with fail
  generalize ((w.alloc (.cells #[.slice ia n ic, .slice oa m oc, .int .i64 (lost : Nat), .bool asks] 24)).alloc (.cells #[.int .i64 3, .int .u8 (ub bb)] 26)).alloc (.cells #[.slice none 0 0, .slice none 0 0, .int .i64 0, .bool false] 24) = X at hx hbx ⊢
  have G0 := four_at hx.out.d
  have T0 := pair_at hx.out.o
  have l0 := heap_lt hx.out.d
  have l1 := heap_lt hx.out.o
  go_upto_region 3 with (first
    | (go_at_call 11; (with_reducible refine (pright_W _ _ n ic m oc (lost : Nat) asks _).mono ?_); rw [hr]; rintro e w1 ⟨rfl, hb⟩; have S1 := Lib.hid (hx.out.step hb); have B1 := Lib.hid (pstep hbx.out hb); have G1 := four_at S1.out.d; have T1 := pair_at S1.out.o; have Z1 := four_at S1.out.z; have F1 := (fun i => frozen_of_row w1 (w.heap.size + 1 + 1) i _ _ S1.out.z); have k0 := heap_lt S1.out.d; have k1 := heap_lt S1.out.o; have k2 := heap_lt S1.out.z; clear hb)
    | fail)
  have c1 : ∀ q, (convert 22 9 (.slice ia n ic)).run Try.prog (w1.drewN q) = .ok (.string (strB inn)) (w1.drewN q) := fun q => conv_at (H1.out.step (below_drewN B1.out q)) hn.out
  have c2 : ∀ q, (convert 22 9 (.slice oa m oc)).run Try.prog (w1.drewN q) = .ok (.string (strB out)) (w1.drewN q) := fun q => conv_at (H2.out.step (below_drewN B1.out q)) hm.out
  clear G0 T0 l0 l1 hx hbx
  go_quiet (fail)
  go_upto_region 6 with fail
  have S3 := Lib.hid (S1.out.step (below_drewN (Below.refl _ _) nq))
  have B3 := Lib.hid (below_drewN B1.out nq)
  clear c1 c2 G1 T1 Z1 F1 k0 k1 k2 S1 B1
  generalize w1.drewN nq = w3 at S3 B3 ⊢
  have S4 := Lib.hid (S3.out.step (below_alloc w3 (.cells #[.int .u8 (ub bb)] 5)))
  have B4 := Lib.hid (pstep B3.out (below_alloc w3 (.cells #[.int .u8 (ub bb)] 5)))
  have c3 : (convert 22 9 (.slice (some ⟨w3.heap.size, 0, none⟩) 1 1)).run Try.prog (w3.alloc (.cells #[.int .u8 (ub bb)] 5)) = .ok (.string (strB [bb])) (w3.alloc (.cells #[.int .u8 (ub bb)] 5)) := conv_at (byte_lit w3 bb 1) rfl
  have T3 := pair_at S3.out.o
  have k3 := heap_lt S3.out.o
  go_upto_region 8 with fail
  clear c3 T3 k3 S3 B3
  generalize w3.alloc (.cells #[.int .u8 (ub bb)] 5) = w4 at S4 B4 ⊢
  have T4 := pair_at S4.out.o
  have k4 := heap_lt S4.out.o
  have Z4 := four_at S4.out.z
  have F4 := fun i => frozen_of_row w4 (w.heap.size + 1 + 1) i _ _ S4.out.z
  have z4 := heap_lt S4.out.z
  have sl : ∀ l, (strB l).toList = l := strB_list
  have sz1 : (strB inn).size = n := (strB_size _).trans hn.out
  have sz2 : (strB out).size = m := (strB_size _).trans hm.out
  have h1 : ((m : Int) == 16) = false := by simp; omega
  have ad : ∀ W, (Op.stringOp .add (strB out) (strB [bb])).run Try.prog W = .ok (.string (strB (out ++ [bb]))) W := fun W => str_add out [bb] W (by rw [hm.out]; simp; omega)
  have q1 : (inn == []) = !q := hq.out
  have q2 : inn.isEmpty = !q := by cases inn <;> simpa using hq.out
  have HN1 : Hid ((inn).length = n) := hn
  have HN2 : Hid ((out ++ [bb]).length = m + 1) := Lib.hid (by rw [List.length_append, hm.out]; rfl)
  go_wp2_with (first
    | (refine wpList_bytes rfl _ rfl (inn) (n) HN1 rfl ?_; intro ca w5 a5 b5; have A5 := Lib.hid a5; have D5 := Lib.hid b5; have S5 := Lib.hid (S4.out.step b5); clear a5 b5)
    | (refine wpList_bytes rfl _ rfl (out ++ [bb]) (m + 1) HN2 rfl ?_; intro cb w6 a6 b6; have A6 := Lib.hid (A5.out.step b6); have C6 := Lib.hid a6; have S6 := Lib.hid (S5.out.step b6); have B6 := Lib.hid (pstep (pstep B4.out D5.out) b6); have Z6 := four_at S6.out.z; have F6 := (fun i => frozen_of_row w6 (w.heap.size + 1 + 1) i _ _ S6.out.z); have z6 := heap_lt S6.out.z; clear a6 b6)
    | fail)
  refine bodyPost_ret (results_row_tmp2 rfl _ _ (w.heap.size + 1 + 1) 24 #[.slice (some ⟨w4.heap.size, 0, none⟩) (n) ca, .slice (some ⟨w5.heap.size, 0, none⟩) (m + 1) cb, .int .i64 (lost : Nat), .bool q] (0, 0) _ rfl (four_set S6.out.z) Try.underlying24 rfl size_dev) rfl ?_
  have y4 := heap_lt S4.out.z
  have y5 := heap_lt S5.out.z
  have x4 := B4.out.size
  have x5 := D5.out.size
  exact ⟨_, _, _, _, rfl, at_four A6.out _ _ _ _ (fun _ a ha => by cases ha; simp only; omega), at_four C6.out _ _ _ _ (fun _ a ha => by cases ha; simp only; omega), four_below _ _ _ _ B6.out (by omega), (fun g hg => by simp only [Value.ownBlock, Option.some.injEq] at hg; omega), (fun g hg => by simp only [Value.ownBlock, Option.some.injEq] at hg; omega)⟩
set_option maxHeartbeats 2000000 in
set_option maxRecDepth 100000 in
theorem pstep_kind {ia oa : Option Addr} {n ic m oc : Nat} {inn out : List UInt8} (lost : Nat) (asks : Bool) (bb : UInt8) (w : World) (hr : rgt n m (lost : Nat) asks = true) (hn : Hid (inn.length = n)) (hm : Hid (out.length = m)) (H1 : Hid (shB.At w ia ic inn)) (H2 : Hid (shB.At w oa oc out)) (kd : Int) (kk1 : ¬ kd = 1) (kk2 : ¬ kd = 2) (kk3 : ¬ kd = 3) (kk4 : ¬ kd = 4) :
    Calls Try.prog 9 #[.agg #[.slice ia n ic, .slice oa m oc, .int .i64 (lost : Nat), .bool asks], .agg #[.int .i64 kd, .int .u8 (ub bb)]] w (StepOut w 0 0 [] [] 0 false 0 5) := by
  have hx := Lib.hid (sp_new w (.slice ia n ic) (.slice oa m oc) (lost : Nat) asks kd (ub bb))
  have hbx := Lib.hid (below_three w (.cells #[.slice ia n ic, .slice oa m oc, .int .i64 (lost : Nat), .bool asks] 24) (.cells #[.int .i64 kd, .int .u8 (ub bb)] 26) (.cells #[.slice none 0 0, .slice none 0 0, .int .i64 0, .bool false] 24))
  go_enter Try.func9, Try.ntmps9
  go_upto_region 1 with fail
  generalize ((w.alloc (.cells #[.slice ia n ic, .slice oa m oc, .int .i64 (lost : Nat), .bool asks] 24)).alloc (.cells #[.int .i64 kd, .int .u8 (ub bb)] 26)).alloc (.cells #[.slice none 0 0, .slice none 0 0, .int .i64 0, .bool false] 24) = X at hx hbx ⊢
  have G0 := four_at hx.out.d
  have T0 := pair_at hx.out.o
  have l0 := heap_lt hx.out.d
  have l1 := heap_lt hx.out.o
  go_upto_region 3 with (first
    | (go_at_call 11; (with_reducible refine (pright_W _ _ n ic m oc (lost : Nat) asks _).mono ?_); rw [hr]; rintro e w1 ⟨rfl, hb⟩; have S1 := Lib.hid (hx.out.step hb); have B1 := Lib.hid (pstep hbx.out hb); have G1 := four_at S1.out.d; have T1 := pair_at S1.out.o; have Z1 := four_at S1.out.z; have F1 := (fun i => frozen_of_row w1 (w.heap.size + 1 + 1) i _ _ S1.out.z); have k0 := heap_lt S1.out.d; have k1 := heap_lt S1.out.o; have k2 := heap_lt S1.out.z; clear hb)
    | fail)
  have c1 : ∀ q, (convert 22 9 (.slice ia n ic)).run Try.prog (w1.drewN q) = .ok (.string (strB inn)) (w1.drewN q) := fun q => conv_at (H1.out.step (below_drewN B1.out q)) hn.out
  have c2 : ∀ q, (convert 22 9 (.slice oa m oc)).run Try.prog (w1.drewN q) = .ok (.string (strB out)) (w1.drewN q) := fun q => conv_at (H2.out.step (below_drewN B1.out q)) hm.out
  clear G0 T0 l0 l1 hx hbx
  go_quiet (fail)
  go_upto_region 6 with fail
  have S3 := Lib.hid (S1.out.step (below_drewN (Below.refl _ _) nq))
  have B3 := Lib.hid (below_drewN B1.out nq)
  clear c1 c2 G1 T1 Z1 F1 k0 k1 k2 S1 B1
  generalize w1.drewN nq = w3 at S3 B3 ⊢
  have S4 := Lib.hid (S3.out.step (below_alloc w3 (.cells #[.int .u8 (ub bb)] 5)))
  have B4 := Lib.hid (pstep B3.out (below_alloc w3 (.cells #[.int .u8 (ub bb)] 5)))
  have c3 : (convert 22 9 (.slice (some ⟨w3.heap.size, 0, none⟩) 1 1)).run Try.prog (w3.alloc (.cells #[.int .u8 (ub bb)] 5)) = .ok (.string (strB [bb])) (w3.alloc (.cells #[.int .u8 (ub bb)] 5)) := conv_at (byte_lit w3 bb 1) rfl
  have T3 := pair_at S3.out.o
  have k3 := heap_lt S3.out.o
  go_upto_region 8 with fail
  clear c3 T3 k3 S3 B3
  generalize w3.alloc (.cells #[.int .u8 (ub bb)] 5) = w4 at S4 B4 ⊢
  have T4 := pair_at S4.out.o
  have k4 := heap_lt S4.out.o
  have Z4 := four_at S4.out.z
  have F4 := fun i => frozen_of_row w4 (w.heap.size + 1 + 1) i _ _ S4.out.z
  have z4 := heap_lt S4.out.z
  have sl : ∀ l, (strB l).toList = l := strB_list
  have sz1 : (strB inn).size = n := (strB_size _).trans hn.out
  have sz2 : (strB out).size = m := (strB_size _).trans hm.out
  have g1 : (kd == 1) = false := by simpa using kk1
  have g2 : (kd == 2) = false := by simpa using kk2
  have g3 : (kd == 3) = false := by simpa using kk3
  have g4 : (kd == 4) = false := by simpa using kk4
  go_wp2_with fail
  refine bodyPost_ret (results_row_tmp2 rfl _ _ (w.heap.size + 1 + 1) 24 #[.slice none 0 0, .slice none 0 0, .int .i64 0, .bool false] (0, 0) _ rfl (four_set S4.out.z) Try.underlying24 rfl size_dev) rfl ?_
  exact step_none rfl (four_below _ _ _ _ B4.out (by omega))
end Go.Proofs.Ytalcfbdnnlapnaa
