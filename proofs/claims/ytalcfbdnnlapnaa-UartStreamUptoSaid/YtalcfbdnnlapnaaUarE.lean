/- Package uart: the walk of Step. -/
import Derived.Test.YtalcfbdnnlapnaaUarD
namespace Go.Proofs.Ytalcfbdnnlapnaa
open Go.RowKit

/-- The slice lies in what is new. -/
def Fs (w : World) (v : Value) : Prop := ∀ g, v.ownBlock = some g → w.heap.size ≤ g
/-- What a step answers: the device, a byte, an error. -/
def StepOut (w : World) (n m : Nat) (inn out : List UInt8) (lost : Nat) (q : Bool) (y x : Int) (e : Ending) (w' : World) : Prop :=
  ∃ ia ic oa oc, e = .returned (.tuple #[.agg #[.slice ia n ic, .slice oa m oc, .int .i64 (lost : Nat), .bool q], .int .u8 y, .int .i64 x]) ∧ shB.At w' ia ic inn ∧ shB.At w' oa oc out ∧ Below w.heap.size w w' ∧ Fs w (.slice ia n ic) ∧ Fs w (.slice oa m oc)
theorem step_none {w w' : World} {x : Int} {e : Ending} (he : e = .returned (.tuple #[.agg #[.slice none 0 0, .slice none 0 0, .int .i64 0, .bool false], .int .u8 0, .int .i64 x])) (hb : Below w.heap.size w w') : StepOut w 0 0 [] [] 0 false 0 x e w' :=
  ⟨none, 0, none, 0, he, Shape.At.nil w', Shape.At.nil w', hb, (fun g hg => by cases hg), (fun g hg => by cases hg)⟩
section
variable {w wx : World} {iv ov : Value} {lost : Int} {asks : Bool} {k b : Int}
theorem Sp.set0 (h : Sp w wx iv ov lost asks k b) (v : Value) : Sp w (wx.setCell ⟨w.heap.size, 0, none⟩ v) v ov lost asks k b :=
  ⟨heap_setCell_same _ _ 0 _ _ _ h.d, (Below.heap_setCell _ _ _ _ (by simp)).trans h.o, (Below.heap_setCell _ _ _ _ (by simp; omega)).trans h.z⟩
theorem Sp.set1 (h : Sp w wx iv ov lost asks k b) (v : Value) : Sp w (wx.setCell ⟨w.heap.size, 1, none⟩ v) iv v lost asks k b :=
  ⟨heap_setCell_same _ _ 1 _ _ _ h.d, (Below.heap_setCell _ _ _ _ (by simp)).trans h.o, (Below.heap_setCell _ _ _ _ (by simp; omega)).trans h.z⟩
end
/-- perform, all by names. -/
theorem perform_N {w0 w : World} {ia oa : Option Addr} {ic oc : Nat} {s : StB} (o : UaT) (n m n' m' lost : Nat) (hls : s.lost = lost) (hg : GoodB s) (he : errB s o = 0) (hn : Hid (s.inn.length = n)) (hm : Hid (s.out.length = m)) (H : Hid (DevQ w0 w (.slice ia n ic) (.slice oa m oc) n m s.inn s.out)) (hn' : Hid ((doB s o).inn.length = n')) (hm' : Hid ((doB s o).out.length = m')) (asks : Bool) (l' : Nat) (hl' : (doB s o).lost = l') (y : UInt8) (hy : byteB s o = y) (q : Bool) (hq : decide (0 < n') = q) (inn' : List UInt8) (hi' : (doB s o).inn = inn') (out' : List UInt8) (ho' : (doB s o).out = out') :
    Calls Try.prog 19 #[.agg #[.slice ia n ic, .slice oa m oc, .int .i64 (lost : Nat), .bool asks], .agg #[.int .i64 o.k, .int .u8 (ub o.b)]] w (PerfOut w0 w (.slice ia n ic) (.slice oa m oc) n' m' inn' out' l' q (ub y)) := by
  subst hls hl' hy hq hi' ho'
  exact perform_W o n m n' m' hg he hn hm H hn' hm' asks
set_option maxHeartbeats 1000000 in
set_option maxRecDepth 100000 in
theorem step_form {ia oa : Option Addr} {n ic m oc : Nat} (lost : Int) (asks : Bool) (o : UaT) (w : World) (hr : rgt n m lost asks = false) :
    Calls Try.prog 8 #[.agg #[.slice ia n ic, .slice oa m oc, .int .i64 lost, .bool asks], .agg #[.int .i64 o.k, .int .u8 (ub o.b)]] w (StepOut w 0 0 [] [] 0 false 0 1) := by
  have hx := Lib.hid (sp_new w (.slice ia n ic) (.slice oa m oc) lost asks o.k (ub o.b))
  have hbx := Lib.hid (below_three w (.cells #[.slice ia n ic, .slice oa m oc, .int .i64 lost, .bool asks] 24) (.cells #[.int .i64 o.k, .int .u8 (ub o.b)] 26) (.cells #[.slice none 0 0, .slice none 0 0, .int .i64 0, .bool false] 24))
  go_enter Try.func8, Try.ntmps8
  go_upto_region 1 with fail
  generalize ((w.alloc (.cells #[.slice ia n ic, .slice oa m oc, .int .i64 lost, .bool asks] 24)).alloc (.cells #[.int .i64 o.k, .int .u8 (ub o.b)] 26)).alloc (.cells #[.slice none 0 0, .slice none 0 0, .int .i64 0, .bool false] 24) = X at hx hbx ⊢
  have G0 := four_at hx.out.d
  have T0 := pair_at hx.out.o
  have l0 := heap_lt hx.out.d
  have l1 := heap_lt hx.out.o
  go_wp2_with (first
    | (go_at_call 10; (with_reducible refine (right_W _ _ n ic m oc lost asks _).mono ?_); rintro e w1 ⟨rfl, hb⟩; rw [hr]; have S1 := Lib.hid (hx.out.step hb); have B1 := Lib.hid (pstep hbx.out hb); have G1 := four_at S1.out.d; have T1 := pair_at S1.out.o; have Z1 := four_at S1.out.z; have F1 := (fun i => frozen_of_row w1 (w.heap.size + 1 + 1) i _ _ S1.out.z); have k0 := heap_lt S1.out.d; have k1 := heap_lt S1.out.o; have k2 := heap_lt S1.out.z; clear hb)
    | fail)
  refine bodyPost_ret (results_row_tmp2 rfl _ _ (w.heap.size + 1 + 1) 24 #[.slice none 0 0, .slice none 0 0, .int .i64 0, .bool false] (0, 0) _ rfl (four_set S1.out.z) Try.underlying24 rfl size_dev) rfl ?_
  exact step_none rfl (four_below _ _ _ _ B1.out (by omega))
set_option maxHeartbeats 1000000 in
set_option maxRecDepth 100000 in
theorem step_err {ia oa : Option Addr} {n ic m oc : Nat} (lost : Nat) (asks : Bool) (o : UaT) (w : World) (h16n : n ≤ 16) (h16m : m ≤ 16) (hll : lost ≤ 1099511627776) (hr : rgt n m (lost : Nat) asks = true) (x : Int) (HX : Hid (errU n m lost o.k = x)) (hx0 : (x != 0) = true) :
    Calls Try.prog 8 #[.agg #[.slice ia n ic, .slice oa m oc, .int .i64 (lost : Nat), .bool asks], .agg #[.int .i64 o.k, .int .u8 (ub o.b)]] w (StepOut w 0 0 [] [] 0 false 0 x) := by
  have hx := Lib.hid (sp_new w (.slice ia n ic) (.slice oa m oc) (lost : Nat) asks o.k (ub o.b))
  have hbx := Lib.hid (below_three w (.cells #[.slice ia n ic, .slice oa m oc, .int .i64 (lost : Nat), .bool asks] 24) (.cells #[.int .i64 o.k, .int .u8 (ub o.b)] 26) (.cells #[.slice none 0 0, .slice none 0 0, .int .i64 0, .bool false] 24))
  go_enter Try.func8, Try.ntmps8
  go_upto_region 1 with fail
  generalize ((w.alloc (.cells #[.slice ia n ic, .slice oa m oc, .int .i64 (lost : Nat), .bool asks] 24)).alloc (.cells #[.int .i64 o.k, .int .u8 (ub o.b)] 26)).alloc (.cells #[.slice none 0 0, .slice none 0 0, .int .i64 0, .bool false] 24) = X at hx hbx ⊢
  have G0 := four_at hx.out.d
  have T0 := pair_at hx.out.o
  have l0 := heap_lt hx.out.d
  have l1 := heap_lt hx.out.o
  go_wp2_with (first
    | (go_at_call 10; (with_reducible refine (right_W _ _ n ic m oc (lost : Nat) asks _).mono ?_); rintro e w1 ⟨rfl, hb⟩; rw [hr]; have S1 := Lib.hid (hx.out.step hb); have B1 := Lib.hid (pstep hbx.out hb); have G1 := four_at S1.out.d; have T1 := pair_at S1.out.o; have Z1 := four_at S1.out.z; have F1 := (fun i => frozen_of_row w1 (w.heap.size + 1 + 1) i _ _ S1.out.z); have k0 := heap_lt S1.out.d; have k1 := heap_lt S1.out.o; have k2 := heap_lt S1.out.z; clear hb)
    | (go_at_call 17; (with_reducible refine (check_W _ _ n ic m oc lost asks o.k (ub o.b) _ h16n h16m hll x HX).mono ?_); rintro e w2 ⟨rfl, hb⟩; have S2 := Lib.hid (S1.out.step hb); have B2 := Lib.hid (pstep B1.out hb); have G2 := four_at S2.out.d; have Z2 := four_at S2.out.z; have F2 := (fun i => frozen_of_row w2 (w.heap.size + 1 + 1) i _ _ S2.out.z); have F3 := (fun i => frozen_of_row w2 w.heap.size i _ _ S2.out.d); have j0 := heap_lt S2.out.d; have j2 := heap_lt S2.out.z; clear hb)
    | fail)
  refine bodyPost_ret (results_row_tmp2 rfl _ _ (w.heap.size + 1 + 1) 24 #[.slice none 0 0, .slice none 0 0, .int .i64 0, .bool false] (0, 0) _ rfl (four_set S2.out.z) Try.underlying24 rfl size_dev) rfl ?_
  exact step_none rfl (four_below _ _ _ _ B2.out (by omega))
set_option maxHeartbeats 1000000 in
set_option maxRecDepth 100000 in
theorem step_ok {ia oa : Option Addr} {n ic m oc : Nat} {s : StB} (o : UaT) (w : World) (lost : Nat) (asks : Bool) (h16n : n ≤ 16) (h16m : m ≤ 16) (hll : lost ≤ 1099511627776) (hr : rgt n m (lost : Nat) asks = true) (hls : Hid (s.lost = lost)) (hg : Hid (GoodB s)) (he : Hid (errB s o = 0)) (n' m' : Nat) (hn : Hid (s.inn.length = n)) (hm : Hid (s.out.length = m)) (H1 : Hid (shB.At w ia ic s.inn)) (H2 : Hid (shB.At w oa oc s.out)) (hn' : Hid ((doB s o).inn.length = n')) (hm' : Hid ((doB s o).out.length = m')) (l' : Nat) (hl' : Hid ((doB s o).lost = l')) (y : UInt8) (hy : Hid (byteB s o = y)) (HX : Hid (errU n m lost o.k = 0)) (q : Bool) (hq : Hid (decide (0 < n') = q)) (inn' out' : List UInt8) (hi' : Hid ((doB s o).inn = inn')) (ho' : Hid ((doB s o).out = out')) :
    Calls Try.prog 8 #[.agg #[.slice ia n ic, .slice oa m oc, .int .i64 (lost : Nat), .bool asks], .agg #[.int .i64 o.k, .int .u8 (ub o.b)]] w (StepOut w n' m' inn' out' l' q (ub y) 0) := by
  have hx := Lib.hid (sp_new w (.slice ia n ic) (.slice oa m oc) (lost : Nat) asks o.k (ub o.b))
  have hbx := Lib.hid (below_three w (.cells #[.slice ia n ic, .slice oa m oc, .int .i64 (lost : Nat), .bool asks] 24) (.cells #[.int .i64 o.k, .int .u8 (ub o.b)] 26) (.cells #[.slice none 0 0, .slice none 0 0, .int .i64 0, .bool false] 24))
  go_enter Try.func8, Try.ntmps8
  go_upto_region 1 with fail
  generalize ((w.alloc (.cells #[.slice ia n ic, .slice oa m oc, .int .i64 (lost : Nat), .bool asks] 24)).alloc (.cells #[.int .i64 o.k, .int .u8 (ub o.b)] 26)).alloc (.cells #[.slice none 0 0, .slice none 0 0, .int .i64 0, .bool false] 24) = X at hx hbx ⊢
  have G0 := four_at hx.out.d
  have T0 := pair_at hx.out.o
  have l0 := heap_lt hx.out.d
  have l1 := heap_lt hx.out.o
  have A0 := Lib.hid (H1.out.step hbx.out)
  have C0 := Lib.hid (H2.out.step hbx.out)
  have hnb : n ≤ 140737488351232 := by omega
  have hmb : m ≤ 140737488351232 := by omega
  go_upto_region 6 with (first
    | (go_at_call 10; (with_reducible refine (right_W _ _ n ic m oc (lost : Nat) asks _).mono ?_); rintro e w1 ⟨rfl, hb⟩; rw [hr]; have A0B := Lib.hid hb; have S1 := Lib.hid (hx.out.step hb); have B1 := Lib.hid (pstep hbx.out hb); have G1 := four_at S1.out.d; have T1 := pair_at S1.out.o; have Z1 := four_at S1.out.z; have F1 := (fun i => frozen_of_row w1 (w.heap.size + 1 + 1) i _ _ S1.out.z); have k0 := heap_lt S1.out.d; have k1 := heap_lt S1.out.o; have k2 := heap_lt S1.out.z; clear hb)
    | (go_at_call 17; (with_reducible refine (check_W _ _ n ic m oc lost asks o.k (ub o.b) _ h16n h16m hll 0 HX).mono ?_); rintro e w2 ⟨rfl, hb⟩; have A1B := Lib.hid hb; have S2 := Lib.hid (S1.out.step hb); have B2 := Lib.hid (pstep B1.out hb); have G2 := four_at S2.out.d; have Z2 := four_at S2.out.z; have F2 := (fun i => frozen_of_row w2 (w.heap.size + 1 + 1) i _ _ S2.out.z); have F3 := (fun i => frozen_of_row w2 w.heap.size i _ _ S2.out.d); have j0 := heap_lt S2.out.d; have j2 := heap_lt S2.out.z; clear hb)
    | fail)
  have A2 := Lib.hid ((A0.out.step A0B.out).step A1B.out)
  have hmle := B2.out.size
  clear G0 T0 l0 l1 G1 T1 Z1 F1 k0 k1 k2 A0B A1B C0 A0 hx hbx
  go_upto_region 8 with (first
    | (go_at_call 18; (with_reducible refine (clone_B s.inn ia n ic _ hn A2 hnb).mono ?_); rintro e w3 ⟨ra3, rc3, rfl, o3, hb⟩; have S3 := Lib.hid (S2.out.step hb); have B3 := Lib.hid (pstep B2.out hb); have O3 := Lib.hid (own_base o3 B2.out.size); have G3 := four_at S3.out.d; have F4 := (fun i => frozen_of_row w3 w.heap.size i _ _ S3.out.d); have i0 := heap_lt S3.out.d; have S4 := Lib.hid (S3.out.set0 (.slice ra3 n rc3)); have B4 : Hid (Below w.heap.size w (w3.setCell ⟨w.heap.size, 0, none⟩ (.slice ra3 n rc3))) := Lib.hid (B3.out.setCell (Nat.le_refl _) _); have C4 := Lib.hid (H2.out.step B4.out); have O4 := Lib.hid (own_set O3.out (own_ne O3.out S3.out.d (by decide)) (a := ⟨w.heap.size, 0, none⟩) (.slice ra3 n rc3)); clear o3 hb)
    | (go_at_call 18; (with_reducible refine (clone_B s.out oa m oc _ hm C4 hmb).mono ?_); rintro e w5 ⟨ra5, rc5, rfl, o5, hb⟩; have S5 := Lib.hid (S4.out.step hb); have B5 := Lib.hid (pstep B4.out hb); have G5 := four_at S5.out.d; have F6 := (fun i => frozen_of_row w5 w.heap.size i _ _ S5.out.d); have i1 := heap_lt S5.out.d; have O5 := Lib.hid (own_step O4.out hb); have P5 := Lib.hid o5; clear o5 hb)
    | fail)
  have S6 := Lib.hid (S5.out.set1 (.slice ra5 m rc5))
  have D6 : Hid (DevQ w (w5.setCell ⟨w.heap.size, 1, none⟩ (.slice ra5 m rc5)) (.slice ra3 n rc3) (.slice ra5 m rc5) n m s.inn s.out) := Lib.hid
    ⟨B5.out.setCell (Nat.le_refl _) _, que_set (que_own O5.out hn.out) (own_ne O5.out S5.out.d (by decide)) _, que_set (que_base (que_own P5.out hm.out) B4.out.size) (own_ne P5.out S5.out.d (by decide)) _, fun g h1 h2 => by
      have q1 := (own_lt O4.out h1).2
      have q2 := (own_lt P5.out h2).1
      omega⟩
  clear G3 F4 i0 G5 F6 i1 S3 S4 S5 O3 O4 O5 P5 B3 B4 B5 C4 A2 G2 Z2 F2 F3 j0 j2 S2 B2 S1 B1 hmle
  generalize w5.setCell ⟨w.heap.size, 1, none⟩ (.slice ra5 m rc5) = w6 at S6 D6 ⊢
  have G6 := four_at S6.out.d
  have T6 := pair_at S6.out.o
  have h0 := heap_lt S6.out.d
  have h1 := heap_lt S6.out.o
  have RP := Lib.hid (perform_N o n m n' m' lost hls.out hg.out he.out hn hm D6 hn' hm' asks l' hl'.out y hy.out q hq.out inn' hi'.out out' ho'.out)
  have A1 := Lib.hid (que_apart D6.out.i)
  have A2 := Lib.hid (que_apart D6.out.o)
  go_wp2_with (first
    | (go_at_call 19; (with_reducible refine RP.out.mono ?_); rintro e w7 ⟨pa, pc, qa, qc, rfl, d7, k7, _, _⟩; have S7 := Lib.hid (S6.out.kp k7 A1.out A2.out); have D7 := Lib.hid d7; have Z7 := four_at S7.out.z; have F7 := (fun i => frozen_of_row w7 (w.heap.size + 1 + 1) i _ _ S7.out.z); have h7 := heap_lt S7.out.z; clear d7 k7)
    | fail)
  have n2 := que_ne D7.out.i S7.out.z (by decide)
  have n4 := que_ne D7.out.o S7.out.z (by decide)
  have D9 := (D7.out.four (B := w.heap.size + 1 + 1) (by omega) n2 n4 (.slice pa n' pc) (.slice qa m' qc) (.int .i64 (l' : Nat)) (.bool q)).step (below_alloc _ (.cells #[.slice pa n' pc, .slice qa m' qc, .int .i64 (l' : Nat), .bool q] 24))
  have hz8 := heap_step (four_set (x' := .slice pa n' pc) (y' := .slice qa m' qc) (z' := .int .i64 (l' : Nat)) (u' := .bool q) S7.out.z) (below_alloc _ (.cells #[.slice pa n' pc, .slice qa m' qc, .int .i64 (l' : Nat), .bool q] 24))
  refine bodyPost_ret (results_row_tmp2 rfl _ _ (w.heap.size + 1 + 1) 24 #[.slice pa n' pc, .slice qa m' qc, .int .i64 (l' : Nat), .bool q] (0, 0) _ rfl hz8 Try.underlying24 rfl size_dev) rfl ?_
  exact ⟨pa, pc, qa, qc, rfl, que_at D9.i, que_at D9.o, D9.b, (fun g hg => (que_lt D9.i hg).1), (fun g hg => (que_lt D9.o hg).1)⟩
/-- What a step makes of a device and an operation. -/
def resU (inn out : List UInt8) (lost : Int) (asks : Bool) (o : UaT) : StB × UInt8 × Int :=
  if rgt inn.length out.length lost asks = true then
    if errB ⟨inn, out, lost.toNat⟩ o = 0 then (doB ⟨inn, out, lost.toNat⟩ o, byteB ⟨inn, out, lost.toNat⟩ o, 0) else (newB, 0, errB ⟨inn, out, lost.toNat⟩ o)
  else (newB, 0, 1)
/-- The whole, in one form for all arguments. -/
def StepAll (w : World) (inn out : List UInt8) (lost : Int) (asks : Bool) (o : UaT) (e : Ending) (w' : World) : Prop :=
  StepOut w (resU inn out lost asks o).1.inn.length (resU inn out lost asks o).1.out.length (resU inn out lost asks o).1.inn (resU inn out lost asks o).1.out (resU inn out lost asks o).1.lost (decide (0 < (resU inn out lost asks o).1.inn.length)) (ub (resU inn out lost asks o).2.1) (resU inn out lost asks o).2.2 e w'
theorem rgt_parts {n m : Nat} {lost : Int} {asks : Bool} (h : rgt n m lost asks = true) : n ≤ 16 ∧ m ≤ 16 ∧ 0 ≤ lost ∧ lost ≤ 1099511627776 ∧ asks = decide (0 < n) := of_decide_eq_true h
theorem good_rgt {inn out : List UInt8} {lost : Int} {asks : Bool} (h : rgt inn.length out.length lost asks = true) : GoodB ⟨inn, out, lost.toNat⟩ := by
  obtain ⟨h1, h2, h3, h4, _⟩ := rgt_parts h
  exact ⟨h1, h2, by simp only [mxB]; omega⟩
/-- uart.Step, at every device and operation. -/
theorem step_W {ia oa : Option Addr} {ic oc : Nat} {inn out : List UInt8} (n m : Nat) (lost : Int) (asks : Bool) (o : UaT) (w : World) (hn : Hid (inn.length = n)) (hm : Hid (out.length = m)) (H1 : Hid (shB.At w ia ic inn)) (H2 : Hid (shB.At w oa oc out)) :
    Calls Try.prog 8 #[.agg #[.slice ia n ic, .slice oa m oc, .int .i64 lost, .bool asks], .agg #[.int .i64 o.k, .int .u8 (ub o.b)]] w (StepAll w inn out lost asks o) := by
  have e1 := hn.out
  have e2 := hm.out
  subst e1 e2
  unfold StepAll resU
  cases hr : rgt inn.length out.length lost asks with
  | false =>
    rw [if_neg (by simp)]
    exact step_form lost asks o w hr
  | true =>
    rw [if_pos rfl]
    obtain ⟨h1, h2, h3, h4, h5⟩ := rgt_parts hr
    have hg := good_rgt hr
    obtain ⟨l, rfl⟩ : ∃ l : Nat, lost = l := ⟨lost.toNat, by omega⟩
    have hl : (l : Int).toNat = l := by omega
    rw [hl] at hg ⊢
    have hl2 : l ≤ 1099511627776 := by omega
    by_cases he : errB ⟨inn, out, l⟩ o = 0
    · rw [if_pos he]
      exact step_ok (s := ⟨inn, out, l⟩) o w l asks h1 h2 hl2 hr (Lib.hid rfl) (Lib.hid hg) (Lib.hid he) _ _ (Lib.hid rfl) (Lib.hid rfl) H1 H2 (Lib.hid rfl) (Lib.hid rfl) _ (Lib.hid rfl) _ (Lib.hid rfl) (Lib.hid (by rw [← he, errU_eq])) _ (Lib.hid rfl) _ _ (Lib.hid rfl) (Lib.hid rfl)
    · rw [if_neg he]
      exact step_err l asks o w h1 h2 hl2 hr _ (Lib.hid (by rw [errU_eq])) (by simpa using he)
end Go.Proofs.Ytalcfbdnnlapnaa
