/- UartAsks: the walk. -/
import Derived.Test.YtalcfbdnnlapnaaUAsA
import Derived.Deep.RegionLaw
namespace Go.Proofs.Ytalcfbdnnlapnaa
open Go.RowKit

set_option maxHeartbeats 4000000 in
set_option maxRecDepth 100000 in
theorem asks_bad {ia oa : Option Addr} {n ic m oc : Nat} (lost : Int) (asks : Bool) (w : World) (hr : rgt n m lost asks = false) :
    Calls Try.prog 7 #[.agg #[.slice ia n ic, .slice oa m oc, .int .i64 lost, .bool asks]] w fun e w' => e = .returned (.bool true) ∧ Below w.heap.size w w' := by
  have B0 := Lib.hid (below_alloc w (.cells #[.slice ia n ic, .slice oa m oc, .int .i64 lost, .bool asks] 24))
  have D0 := Lib.hid (heap_alloc_new w (.cells #[.slice ia n ic, .slice oa m oc, .int .i64 lost, .bool asks] 24))
  go_enter Try.func7, Try.ntmps7
  go_wp2_with (first
    | (go_at_call 15; (with_reducible refine (alive16_N _).mono ?_); rintro e w1 ⟨rfl, hb⟩; have B1 := Lib.hid (pstep B0.out hb); have D1 := Lib.hid (heap_step D0.out hb); have G1 := four_at D1.out; have l0 := heap_lt D1.out; clear hb)
    | (go_at_call 10; (with_reducible refine (right_W _ _ n ic m oc lost asks _).mono ?_); rw [hr]; rintro e w2 ⟨rfl, hb⟩; have B2 := Lib.hid (pstep B1.out hb); have D2 := Lib.hid (heap_step D1.out hb); have G2 := four_at D2.out; have l2 := heap_lt D2.out; clear hb)
    | fail)
  go_ret
  exact ⟨rfl, B2.out⟩
theorem below_al {W : Nat} {w w' : World} (h : Below W w w') (A : Obj) (hw : W ≤ w'.heap.size) : Below W w (w'.alloc A) := h.alloc hw A
set_option maxHeartbeats 4000000 in
set_option maxRecDepth 100000 in
theorem asks_walk {ia oa : Option Addr} {n ic m oc : Nat} {inn out : List UInt8} (lost : Nat) (q : Bool) (w : World) (hn : Hid (inn.length = n)) (hm : Hid (out.length = m)) (H1 : Hid (shB.At w ia ic inn)) (H2 : Hid (shB.At w oa oc out)) (hr : rgt n m (lost : Nat) q = true) (h1 : n ≤ 16) (h2 : m ≤ 16) (h3 : lost ≤ 1099511627776) (hq : Hid (q = decide (0 < n))) :
    Calls Try.prog 7 #[.agg #[.slice ia n ic, .slice oa m oc, .int .i64 (lost : Nat), .bool q]] w fun e w' => e = .returned (.bool true) ∧ Below w.heap.size w w' := by
  obtain ⟨i0, hi, hz0, hz1, hz2⟩ := info_parts' info_byte
  have B0 := Lib.hid (below_alloc w (.cells #[.slice ia n ic, .slice oa m oc, .int .i64 (lost : Nat), .bool q] 24))
  have D0 := Lib.hid (heap_alloc_new w (.cells #[.slice ia n ic, .slice oa m oc, .int .i64 (lost : Nat), .bool q] 24))
  go_enter Try.func7, Try.ntmps7
  go_upto_region 8 with (first
    | (go_at_call 15; (with_reducible refine (alive16_N _).mono ?_); rintro e w1 ⟨rfl, hb⟩; have B1 := Lib.hid (pstep B0.out hb); have D1 := Lib.hid (heap_step D0.out hb); have G1 := four_at D1.out; have l0 := heap_lt D1.out; clear hb)
    | (go_at_call 10; (with_reducible refine (right_W _ _ n ic m oc (lost : Nat) q _).mono ?_); rw [hr]; rintro e w2 ⟨rfl, hb⟩; have B2 := Lib.hid (pstep B1.out hb); have D2 := Lib.hid (heap_step D1.out hb); have G2 := four_at D2.out; have l2 := heap_lt D2.out; clear hb)
    | fail)
  have L3 : LpA w (w2.alloc (.cells #[.slice ia n ic, .slice oa m oc, .int .i64 (lost : Nat), .bool q] 24)) w2.heap.size #[.slice ia n ic, .slice oa m oc, .int .i64 (lost : Nat), .bool q] ia ic oa oc (.slice none 0 0) n 0 m lost inn [] out :=
    ⟨below_al B2.out _ B2.out.size, l2, heap_step D2.out (below_alloc w2 _), by rw [← hq.out]; exact heap_alloc_new w2 _, ⟨(H1.out.step B2.out).step (below_alloc w2 _), fun _ g hg => by cases hg⟩, ⟨(H2.out.step B2.out).step (below_alloc w2 _), fun _ g hg => by cases hg⟩, que_nil _ _ _ _, hn.out⟩
  have HL3 := Lib.hid L3
  clear L3 hr B1 D1 G1 l0 B2 D2 G2 l2
  generalize w2.alloc (.cells #[.slice ia n ic, .slice oa m oc, .int .i64 (lost : Nat), .bool q] 24) = w3 at HL3 ⊢
  generalize w2.heap.size = V at HL3 ⊢
  go_wp2_with fail
  go_loopw [3, 17] (fun gv iv wr => ∃ (i j : Nat) (rest got : List UInt8) (va : Option Addr) (vc : Nat) (ya : Option Addr) (yc : Nat), i ≤ 16 ∧ iv = .int .i64 i ∧ Hid (i + j = n) ∧ Hid (inn = got ++ rest) ∧ Hid (LpA w wr V #[.slice ia n ic, .slice oa m oc, .int .i64 (lost : Nat), .bool q] va vc ya yc gv j i m lost rest got out)) (fun _ iv _ => 16 - (intOf iv).toNat)
  case atStart => exact ⟨0, n, inn, [], ia, ic, oa, oc, by omega, rfl, Lib.hid (by omega), Lib.hid rfl, HL3⟩
  case round =>
    clear HL3
    obtain ⟨i, j, rest, got, va, vc, ya, yc, hi16, rfl, hij, hsp, HL⟩ := hrel
    by_cases hlt : i < 16
    · have hd16 : decide ((i : Int) < 16) = true := by simp; omega
      cases j with
      | zero =>
        obtain rfl : n = i := by have := hij.out; omega
        obtain rfl : rest = [] := List.eq_nil_of_length_eq_zero HL.out.l
        obtain rfl : got = inn := by rw [hsp.out]; simp
        have hgl := que_len HL.out.g
        obtain ⟨ga, gc, rfl, _⟩ := que_shape HL.out.g
        have HG := Lib.hid (que_at HL.out.g)
        clear hsp
        have VV := HL.out.v
        rw [decide_eq_false (show ¬ 0 < 0 by omega)] at VV
        have V1 := four_at VV
        have v1 := heap_lt VV
        have HVV := Lib.hid VV
        have HUU := Lib.hid HL.out.u
        have U1 := four_at HUU.out
        have u1 := heap_lt HUU.out
        have HY := Lib.hid HL.out.a2.a
        have HXA := Lib.hid HL.out.a1.a
        have HBB := Lib.hid HL.out.b
        have sl : ∀ l, (strB l).toList = l := strB_list
        go_wp2_with (first
          | (go_at_call 8; (with_reducible refine (end_W lost h2 h3 _ hm HXA HY).mono ?_); rintro e w8 ⟨xa, xc, xb, xd, rfl, _, _, hb, _, _⟩; have B8 := Lib.hid (pstep HBB.out hb); have V8 := four_at (heap_step HVV.out hb); have v8 := heap_lt (heap_step HVV.out hb); have U8 := four_at (heap_step HUU.out hb); have u8 := heap_lt (heap_step HUU.out hb); have c1 : ∀ A, (convert 22 9 (.slice ga n gc)).run Try.prog (w8.alloc A) = .ok (.string (strB got)) (w8.alloc A) := (fun A => conv_at (HG.out.step (below_al hb A hb.size)) hgl); have c2 : ∀ A, (convert 22 9 (.slice ia n ic)).run Try.prog (w8.alloc A) = .ok (.string (strB got)) (w8.alloc A) := (fun A => conv_at (H1.out.step (below_al B8.out A B8.out.size)) hn.out); have c3 : ∀ A, (convert 22 9 (.slice ya m yc)).run Try.prog (w8.alloc A) = .ok (.string (strB out)) (w8.alloc A) := (fun A => conv_at (HY.out.step (below_al hb A hb.size)) hm.out); have c4 : ∀ A, (convert 22 9 (.slice oa m oc)).run Try.prog (w8.alloc A) = .ok (.string (strB out)) (w8.alloc A) := (fun A => conv_at (H2.out.step (below_al B8.out A B8.out.size)) hm.out); clear hb)
          | fail)
        go_ret
        exact ⟨rfl, below_al B8.out _ B8.out.size⟩
      | succ j =>
        cases rest with
        | nil => exact absurd HL.out.l (by simp)
        | cons x r =>
          have hrl : r.length = j := by have := HL.out.l; simpa using this
          have HRL := Lib.hid hrl
          have hgl := que_len HL.out.g
          obtain ⟨ga, gc, rfl, _⟩ := que_shape HL.out.g
          have hj1 : j + 1 ≤ 16 := by have := hij.out; omega
          have VV := HL.out.v
          rw [decide_eq_true (show 0 < j + 1 by omega)] at VV
          have V1 := four_at VV
          have v1 := heap_lt VV
          have HXA := Lib.hid HL.out.a1.a
          have HYA := Lib.hid HL.out.a2.a
          obtain ⟨q', hq'⟩ : ∃ q', decide (0 < j) = q' := ⟨_, rfl⟩
          have RW := Lib.hid (fun (X : World) => read_W (ia := va) (ic := vc) (oa := ya) (oc := yc) (x := x) lost hj1 h2 h3 X HRL hm)
          rw [hq'] at RW
          have HQ' := Lib.hid hq'
          clear hrl VV hgl hq'
          go_upto_region 13 with (first
            | (go_at_call 8; (with_reducible refine (RW.out _ HXA HYA).mono ?_); rintro e w5 ⟨xa, xc, xb, xd, rfl, r1, r2, hb, f1, f2⟩; have L5 := Lib.hid (HL.out.step hb); have R1 := Lib.hid (Rd.mk (gv := .slice ga i gc) (j := j) r1 (fun _ g hg1 hg2 => by have := (que_lt HL.out.g hg1).2; have := f1 g hg2; omega)); have R2 := Lib.hid (Rd.mk (gv := .slice ga i gc) (j := m) r2 (fun _ g hg1 hg2 => by have := (que_lt HL.out.g hg1).2; have := f2 g hg2; omega)); clear r1 r2 hb f1 f2)
            | fail)
          have bl := below_alloc w5 (.cells #[.slice xa j xc, .slice xb m xd, .int .i64 (lost : Nat), .bool q'] 24)
          have L6 := Lib.hid (L5.out.step bl)
          have R61 := Lib.hid (R1.out.step bl)
          have R62 := Lib.hid (R2.out.step bl)
          have T6 := Lib.hid (heap_alloc_new w5 (.cells #[.slice xa j xc, .slice xb m xd, .int .i64 (lost : Nat), .bool q'] 24))
          clear bl L5 R1 R2 HL HXA HYA RW V1 v1
          generalize w5.alloc (.cells #[.slice xa j xc, .slice xb m xd, .int .i64 (lost : Nat), .bool q'] 24) = w6 at L6 R61 R62 T6 ⊢
          generalize w5.heap.size = T at T6 ⊢
          have V6 := four_at L6.out.v
          have F6 := fun k => frozen_of_row w6 V k _ _ L6.out.v
          have v6 := heap_lt L6.out.v
          have C6 := four_at T6.out
          have t6 := heap_lt T6.out
          have b1 : Below w6.heap.size w6 (w6.alloc (.cells #[.int .u8 (ub x)] 5)).drew := (below_alloc w6 _).drew
          have LA := Lib.hid (L6.out.step b1)
          have TA := Lib.hid (heap_step T6.out b1)
          have XA : Hid (shB.At (w6.alloc (.cells #[.int .u8 (ub x)] 5)).drew (some ⟨w6.heap.size, 0, none⟩) 1 [x]) := Lib.hid (byte_lit w6 x 1)
          have RA1 := Lib.hid (R61.out.step b1)
          have RA2 := Lib.hid (R62.out.step b1)
          have sA := LA.out.b.size
          clear b1
          go_region_law (first
            | (refine step_append_que shB rfl _ _ 22 rfl w.heap.size 5 i0 _ 1 Try.underlying22 hi hz0 hz1 hz2 rfl (.slice ga i gc) i got [x] rfl LA.out.g (some ⟨w6.heap.size, 0, none⟩) 1 1 rfl (Lib.hid rfl) XA.out (by unfold maxLen; omega) (by omega) sA ?_; intro ra rc w9 own9 grow9 new9; have hf9 : Fr _ (Value.slice ga i gc) (Value.slice ra (i + 1) rc) := fun g hg => (new9 g hg).imp id (fun e => by rw [e]; exact Nat.le_refl _); have L9 := Lib.hid (LA.out.told grow9 own9 hf9); have R91 := Lib.hid (RA1.out.told grow9 hf9); have R92 := Lib.hid (RA2.out.told grow9 hf9); have T9 := Lib.hid ((grow9.block _ (heap_lt TA.out) (fun e => que_apart LA.out.g _ _ _ TA.out (by decide) e.symm)).trans TA.out); have V9 := four_at L9.out.v; have F9 := (fun k => frozen_of_row w9 V k _ _ L9.out.v); have v9 := heap_lt L9.out.v; have C9 := four_at T9.out; have t9 := heap_lt T9.out; clear own9 grow9 new9 hf9)
            | fail)
          all_goals go_wp2_with fail
          all_goals go_roundw
          all_goals first
            | exact ⟨i + 1, j, r, got ++ [x], xa, xc, xb, xd, by omega, by go_num, Lib.hid (by have := hij.out; omega), Lib.hid (by rw [hsp.out, List.append_assoc]; rfl), Lib.hid (by have h := L9.out.put R91.out R92.out HRL.out; rw [HQ'.out] at h; exact h)⟩
            | (simp [intOf]; omega)
    · obtain rfl : i = 16 := by omega
      obtain rfl : j = 0 := by have := hij.out; omega
      obtain rfl : n = 16 := by have := hij.out; omega
      obtain rfl : rest = [] := List.eq_nil_of_length_eq_zero HL.out.l
      obtain rfl : got = inn := by rw [hsp.out]; simp
      have hgl := que_len HL.out.g
      obtain ⟨ga, gc, rfl, _⟩ := que_shape HL.out.g
      have HG := Lib.hid (que_at HL.out.g)
      clear hsp
      have VV := HL.out.v
      rw [decide_eq_false (show ¬ 0 < 0 by omega)] at VV
      have V1 := four_at VV
      have v1 := heap_lt VV
      have HVV := Lib.hid VV
      have HUU := Lib.hid HL.out.u
      have U1 := four_at HUU.out
      have u1 := heap_lt HUU.out
      have HY := Lib.hid HL.out.a2.a
      have HXA := Lib.hid HL.out.a1.a
      have HBB := Lib.hid HL.out.b
      have sl : ∀ l, (strB l).toList = l := strB_list
      go_wp2_with (first
        | (go_at_call 8; (with_reducible refine (end_W lost h2 h3 _ hm HXA HY).mono ?_); rintro e w8 ⟨xa, xc, xb, xd, rfl, _, _, hb, _, _⟩; have B8 := Lib.hid (pstep HBB.out hb); have V8 := four_at (heap_step HVV.out hb); have v8 := heap_lt (heap_step HVV.out hb); have U8 := four_at (heap_step HUU.out hb); have u8 := heap_lt (heap_step HUU.out hb); have c1 : ∀ A, (convert 22 9 (.slice ga 16 gc)).run Try.prog (w8.alloc A) = .ok (.string (strB got)) (w8.alloc A) := (fun A => conv_at (HG.out.step (below_al hb A hb.size)) hgl); have c2 : ∀ A, (convert 22 9 (.slice ia 16 ic)).run Try.prog (w8.alloc A) = .ok (.string (strB got)) (w8.alloc A) := (fun A => conv_at (H1.out.step (below_al B8.out A B8.out.size)) hn.out); have c3 : ∀ A, (convert 22 9 (.slice ya m yc)).run Try.prog (w8.alloc A) = .ok (.string (strB out)) (w8.alloc A) := (fun A => conv_at (HY.out.step (below_al hb A hb.size)) hm.out); have c4 : ∀ A, (convert 22 9 (.slice oa m oc)).run Try.prog (w8.alloc A) = .ok (.string (strB out)) (w8.alloc A) := (fun A => conv_at (H2.out.step (below_al B8.out A B8.out.size)) hm.out); clear hb)
        | fail)
      go_ret
      exact ⟨rfl, below_al B8.out _ B8.out.size⟩
theorem uartAsks_walk (v : Value) (w : World) (h : ArgDev w v) : Calls Try.prog 7 #[v] w fun e w' => e = .returned (.bool true) ∧ Below w.heap.size w w' := by
  obtain ⟨ia, ic, oa, oc, inn, out, lost, asks, rfl, A1, A2⟩ := h
  cases hr : rgt inn.length out.length lost asks with
  | false => exact asks_bad lost asks w hr
  | true =>
    obtain ⟨h1, h2, h3, h4, h5⟩ := rgt_parts hr
    obtain ⟨l, rfl⟩ : ∃ l : Nat, lost = l := ⟨lost.toNat, by omega⟩
    exact asks_walk l asks w (Lib.hid rfl) (Lib.hid rfl) (Lib.hid A1) (Lib.hid A2) hr h1 h2 (by omega) (Lib.hid h5)
end Go.Proofs.Ytalcfbdnnlapnaa
