/- Package uart: the walk of perform. -/
import Derived.Test.YtalcfbdnnlapnaaUarC
namespace Go.Proofs.Ytalcfbdnnlapnaa
open Go.RowKit

def PerfOut (w0 w : World) (iv ov : Value) (n' m' : Nat) (inn' out' : List UInt8) (lost' : Nat) (q : Bool) (y : Int) (e : Ending) (w' : World) : Prop :=
  ∃ ia ic oa oc, e = .returned (.tuple #[.agg #[.slice ia n' ic, .slice oa m' oc, .int .i64 (lost' : Nat), .bool q], .int .u8 y]) ∧ DevQ w0 w' (.slice ia n' ic) (.slice oa m' oc) n' m' inn' out' ∧ Kp w w' iv.ownBlock ov.ownBlock ∧ Fr w iv (.slice ia n' ic) ∧ Fr w ov (.slice oa m' oc)
theorem Sp.kp {w wx wy : World} {iv ov : Value} {lost : Int} {asks : Bool} {k b : Int} (h : Sp w wx iv ov lost asks k b) {r1 r2 : Option Nat} (hk : Kp wx wy r1 r2) (h1 : ∀ B t cs, wx.heap[B]? = some (.cells cs t (0, 0)) → ¬ t = tB → r1 ≠ some B) (h2 : ∀ B t cs, wx.heap[B]? = some (.cells cs t (0, 0)) → ¬ t = tB → r2 ≠ some B) : Sp w wy iv ov lost asks k b :=
  ⟨(hk.blk _ (heap_lt h.d) (h1 _ _ _ h.d (by decide)) (h2 _ _ _ h.d (by decide))).trans h.d, (hk.blk _ (heap_lt h.o) (h1 _ _ _ h.o (by decide)) (h2 _ _ _ h.o (by decide))).trans h.o, (hk.blk _ (heap_lt h.z) (h1 _ _ _ h.z (by decide)) (h2 _ _ _ h.z (by decide))).trans h.z⟩
theorem Sp.put {w wx : World} {iv ov : Value} {lost : Int} {asks : Bool} {k b : Int} (h : Sp w wx iv ov lost asks k b) (x y : Value) (l : Int) (a : Bool) : Sp w ((((wx.setCell ⟨w.heap.size, 0, none⟩ x).setCell ⟨w.heap.size, 1, none⟩ y).setCell ⟨w.heap.size, 2, none⟩ (.int .i64 l)).setCell ⟨w.heap.size, 3, none⟩ (.bool a)) x y l a k b :=
  ⟨four_set h.d, (four_other wx x y _ _ (by omega)).trans h.o, (four_other wx x y _ _ (by omega)).trans h.z⟩
theorem drew_heap (w : World) : w.drew.heap = w.heap := rfl
theorem four_drew {w : World} {b : Nat} {x y z u x' y' z' u' : Value} {T : TypeId} (h : w.heap[b]? = some (.cells #[x, y, z, u] T (0, 0))) : ((((w.setCell ⟨b, 0, none⟩ x').setCell ⟨b, 1, none⟩ y').setCell ⟨b, 2, none⟩ z').setCell ⟨b, 3, none⟩ u').drew.heap[b]? = some (.cells #[x', y', z', u'] T (0, 0)) := by
  rw [drew_heap]; exact four_set h
theorem DevQ.drew {w0 w : World} {iv ov : Value} {n m : Nat} {inn out : List UInt8} (h : DevQ w0 w iv ov n m inn out) : DevQ w0 w.drew iv ov n m inn out := h.step ((Below.refl _ _).drew)
theorem Kp.drew {w w' : World} {r1 r2 : Option Nat} (h : Kp w w' r1 r2) : Kp w w'.drew r1 r2 := ⟨h.sz, h.blk⟩
theorem fr_le {w X : World} {v v' : Value} (h : Fr X v v') (hb : w.heap.size ≤ X.heap.size) : Fr w v v' := fun g hg => (h g hg).imp id (fun e => Nat.le_trans hb e)
set_option maxHeartbeats 1000000 in
set_option maxRecDepth 100000 in
theorem perf_in {w0 w : World} {ia oa : Option Addr} {n ic m oc : Nat} {inn out : List UInt8} (lost : Nat) (asks : Bool) (b : UInt8) (H : Hid (DevQ w0 w (.slice ia n ic) (.slice oa m oc) n m inn out)) (n' : Nat) (inn' : List UInt8) (lost' : Nat) (hpos : 0 < n') (HR : Hid (∀ X, Below w.heap.size w X → Calls Try.prog 23 #[.agg #[.slice ia n ic, .slice oa m oc, .int .i64 (lost : Nat), .bool asks], .int .u8 (ub b)] X (RecvOut w0 X (.slice ia n ic) (.slice oa m oc) m out n' inn' lost' asks))) :
    Calls Try.prog 19 #[.agg #[.slice ia n ic, .slice oa m oc, .int .i64 (lost : Nat), .bool asks], .agg #[.int .i64 1, .int .u8 (ub b)]] w (PerfOut w0 w (.slice ia n ic) (.slice oa m oc) n' m inn' out lost' true 0) := by
  have hx := Lib.hid (sp_new w (.slice ia n ic) (.slice oa m oc) lost asks 1 (ub b))
  have hbx := Lib.hid (below_three w (.cells #[.slice ia n ic, .slice oa m oc, .int .i64 (lost : Nat), .bool asks] 24) (.cells #[.int .i64 1, .int .u8 (ub b)] 26) (.cells #[.slice none 0 0, .slice none 0 0, .int .i64 0, .bool false] 24))
  have hsx : (((w.alloc (.cells #[.slice ia n ic, .slice oa m oc, .int .i64 (lost : Nat), .bool asks] 24)).alloc (.cells #[.int .i64 1, .int .u8 (ub b)] 26)).alloc (.cells #[.slice none 0 0, .slice none 0 0, .int .i64 0, .bool false] 24)).heap.size = w.heap.size + 1 + 1 + 1 := by simp
  go_enter Try.func19, Try.ntmps19
  go_upto_region 1 with fail
  generalize ((w.alloc (.cells #[.slice ia n ic, .slice oa m oc, .int .i64 (lost : Nat), .bool asks] 24)).alloc (.cells #[.int .i64 1, .int .u8 (ub b)] 26)).alloc (.cells #[.slice none 0 0, .slice none 0 0, .int .i64 0, .bool false] 24) = X at hx hbx hsx ⊢
  have G0 := four_at hx.out.d
  have T0 := pair_at hx.out.o
  have Z0 := four_at hx.out.z
  have F0 := fun i => frozen_of_row X w.heap.size i _ _ hx.out.d
  have F2 := fun i => frozen_of_row X (w.heap.size + 1 + 1) i _ _ hx.out.z
  have l0 := heap_lt hx.out.d
  have l1 := heap_lt hx.out.o
  have l2 := heap_lt hx.out.z
  have DX := Lib.hid (H.out.step hbx.out)
  have hw0 : w0.heap.size ≤ w.heap.size := H.out.b.size
  have KX := Lib.hid (kp_below hbx.out (Value.slice ia n ic).ownBlock (Value.slice oa m oc).ownBlock)
  have nd1 := Lib.hid (que_ne DX.out.i hx.out.d (by decide))
  have nd2 := Lib.hid (que_ne DX.out.o hx.out.d (by decide))
  have nz1 := Lib.hid (que_ne DX.out.i hx.out.z (by decide))
  have nz2 := Lib.hid (que_ne DX.out.o hx.out.z (by decide))
  have RX := Lib.hid (HR.out X hbx.out)
  have A1 := Lib.hid (que_apart DX.out.i)
  have A2 := Lib.hid (que_apart DX.out.o)
  have h5 : decide ((n' : Int) > 0) = true := by simp; omega
  clear HR
  go_upto_region 11 with (first
    | (go_at_call 23; (with_reducible refine RX.out.mono ?_); rintro e w5 ⟨ra, rc, rfl, D5, K5, R5⟩; have S5 := Lib.hid (hx.out.kp K5 A1.out A2.out); have D5 := Lib.hid D5; have K5 := Lib.hid K5; have R5 := Lib.hid R5; have G5 := four_at S5.out.d; have F5 := (fun i => frozen_of_row w5 w.heap.size i _ _ S5.out.d); have l5 := heap_lt S5.out.d)
    | fail)
  have n1 := que_ne D5.out.i S5.out.d (by decide)
  have n2 := que_ne D5.out.i S5.out.z (by decide)
  have n3 := que_ne D5.out.o S5.out.d (by decide)
  have n4 := que_ne D5.out.o S5.out.z (by decide)
  have S6 := Lib.hid (S5.out.put (.slice ra n' rc) (.slice oa m oc) (lost' : Nat) asks)
  have D6 := Lib.hid (D5.out.four (B := w.heap.size) hw0 n1 n3 (.slice ra n' rc) (.slice oa m oc) (.int .i64 (lost' : Nat)) (.bool asks))
  have K6 := Lib.hid ((KX.out.trans K5.out).four (B := w.heap.size) (Nat.le_refl _) (.slice ra n' rc) (.slice oa m oc) (.int .i64 (lost' : Nat)) (.bool asks))
  generalize (((w5.setCell ⟨w.heap.size, 0, none⟩ (.slice ra n' rc)).setCell ⟨w.heap.size, 1, none⟩ (.slice oa m oc)).setCell ⟨w.heap.size, 2, none⟩ (.int .i64 (lost' : Nat))).setCell ⟨w.heap.size, 3, none⟩ (.bool asks) = w6 at S6 D6 K6 ⊢
  have N1 := Lib.hid n1
  have N2 := Lib.hid n2
  have N3 := Lib.hid n3
  have N4 := Lib.hid n4
  clear n1 n2 n3 n4 G5 F5 l5 G0 T0 Z0 F0 F2 l0 l1 l2 hsx
  have G7 := four_at S6.out.d
  have Z7 := four_at S6.out.z
  have F7 := fun i => frozen_of_row w6 w.heap.size i _ _ S6.out.d
  have F8 := fun i => frozen_of_row w6 (w.heap.size + 1 + 1) i _ _ S6.out.z
  have l7 := heap_lt S6.out.d
  have l8 := heap_lt S6.out.z
  go_wp2_with fail
  have hz6 := (Below.heap_setCell w6 ⟨w.heap.size, 3, none⟩ (.bool true) (w.heap.size + 1 + 1) (by simp; omega)).trans S6.out.z
  refine bodyPost_ret (results_row_tmp1 rfl _ _ (w.heap.size + 1 + 1) 24 #[.slice ra n' rc, .slice oa m oc, .int .i64 (lost' : Nat), .bool true] (0, 0) _ rfl (four_set hz6) Try.underlying24 rfl size_dev) rfl ?_
  exact ⟨ra, rc, oa, oc, rfl, (D6.out.set (B := w.heap.size) hw0 N1.out N3.out 3 _).four (B := w.heap.size + 1 + 1) (by omega) N2.out N4.out _ _ _ _, (K6.out.set (B := w.heap.size) (Nat.le_refl _) _).four (B := w.heap.size + 1 + 1) (by omega) _ _ _ _, fr_le R5.out hbx.out.size, fr_refl _ _⟩
set_option maxHeartbeats 1000000 in
set_option maxRecDepth 100000 in
theorem perf_read {w0 w : World} {ia oa : Option Addr} {n j ic m oc : Nat} {r out : List UInt8} {x : UInt8} (lost : Nat) (asks : Bool) (b : UInt8) (H : Hid (DevQ w0 w (.slice ia n ic) (.slice oa m oc) n m (x :: r) out)) (hj : n = j + 1) (q : Bool) (hq : Hid (decide (0 < j) = q)) (hn16 : j ≤ 9223372036854775807) :
    Calls Try.prog 19 #[.agg #[.slice ia n ic, .slice oa m oc, .int .i64 (lost : Nat), .bool asks], .agg #[.int .i64 2, .int .u8 (ub b)]] w (PerfOut w0 w (.slice ia n ic) (.slice oa m oc) j m r out lost q (ub x)) := by
  subst hj
  have hx := Lib.hid (sp_new w (.slice ia (j + 1) ic) (.slice oa m oc) lost asks 2 (ub b))
  have hbx := Lib.hid (below_three w (.cells #[.slice ia (j + 1) ic, .slice oa m oc, .int .i64 (lost : Nat), .bool asks] 24) (.cells #[.int .i64 2, .int .u8 (ub b)] 26) (.cells #[.slice none 0 0, .slice none 0 0, .int .i64 0, .bool false] 24))
  have hsx : (((w.alloc (.cells #[.slice ia (j + 1) ic, .slice oa m oc, .int .i64 (lost : Nat), .bool asks] 24)).alloc (.cells #[.int .i64 2, .int .u8 (ub b)] 26)).alloc (.cells #[.slice none 0 0, .slice none 0 0, .int .i64 0, .bool false] 24)).heap.size = w.heap.size + 1 + 1 + 1 := by simp
  go_enter Try.func19, Try.ntmps19
  go_upto_region 1 with fail
  generalize ((w.alloc (.cells #[.slice ia (j + 1) ic, .slice oa m oc, .int .i64 (lost : Nat), .bool asks] 24)).alloc (.cells #[.int .i64 2, .int .u8 (ub b)] 26)).alloc (.cells #[.slice none 0 0, .slice none 0 0, .int .i64 0, .bool false] 24) = X at hx hbx hsx ⊢
  have G0 := four_at hx.out.d
  have T0 := pair_at hx.out.o
  have Z0 := four_at hx.out.z
  have F0 := fun i => frozen_of_row X w.heap.size i _ _ hx.out.d
  have F2 := fun i => frozen_of_row X (w.heap.size + 1 + 1) i _ _ hx.out.z
  have l0 := heap_lt hx.out.d
  have l1 := heap_lt hx.out.o
  have l2 := heap_lt hx.out.z
  have DX := Lib.hid (H.out.step hbx.out)
  have hw0 : w0.heap.size ≤ w.heap.size := H.out.b.size
  have KX := Lib.hid (kp_below hbx.out (Value.slice ia (j + 1) ic).ownBlock (Value.slice oa m oc).ownBlock)
  have nd1 := Lib.hid (que_ne DX.out.i hx.out.d (by decide))
  have nd2 := Lib.hid (que_ne DX.out.o hx.out.d (by decide))
  have nz1 := Lib.hid (que_ne DX.out.i hx.out.z (by decide))
  have nz2 := Lib.hid (que_ne DX.out.o hx.out.z (by decide))
  have hQ := DX.out.i
  obtain ⟨_, _, hv, hnc, _, _, _⟩ := que_shape hQ
  simp only [Value.slice.injEq, true_and] at hv
  obtain ⟨rfl, rfl⟩ := hv
  obtain ⟨bb, off, rfl, hbl, c0⟩ := at_byte (que_at hQ) (k := 0) (x := x) rfl
  rw [Nat.add_zero] at c0
  have HQ := Lib.hid hQ
  have hmd : decide (0 < j + 1) = true := decide_eq_true (by omega)
  have hm0 : (0 : Int) < ((j + 1 : Nat) : Int) := by omega
  have hq1 : decide ((j : Int) > 0) = q := by rw [← hq.out]; simp
  have hq2 : decide (0 < j) = q := hq.out
  have BD := Lib.hid ((Below.refl X.heap.size X).drew)
  clear hQ
  by_cases hc1 : ic = 1
  · subst hc1
    obtain rfl : j = 0 := by omega
    obtain rfl : q = false := by rw [← hq.out]; rfl
    obtain rfl : r = [] := List.eq_nil_of_length_eq_zero (by have := que_len HQ.out; simpa using this)
    go_wp2_with fail
    go_region
    go_wp2_with fail
    have hz6 := (Below.heap_setCell (X.setCell ⟨w.heap.size, 0, none⟩ (.slice (some ⟨bb, off, none⟩) 0 0)) ⟨w.heap.size, 3, none⟩ (.bool false) (w.heap.size + 1 + 1) (by simp; omega)).trans ((Below.heap_setCell X ⟨w.heap.size, 0, none⟩ (.slice (some ⟨bb, off, none⟩) 0 0) (w.heap.size + 1 + 1) (by simp; omega)).trans hx.out.z)
    refine bodyPost_ret (results_row_tmp1 rfl _ _ (w.heap.size + 1 + 1) 24 #[.slice (some ⟨bb, off, none⟩) 0 0, .slice oa m oc, .int .i64 (lost : Nat), .bool false] (0, 0) _ rfl (four_drew hz6) Try.underlying24 rfl size_dev) rfl ?_
    have D1 : DevQ w0 X (.slice (some ⟨bb, off, none⟩) 0 0) (.slice oa m oc) 0 m [] out := ⟨DX.out.b, que_end HQ.out, DX.out.o, DX.out.ap⟩
    exact ⟨_, _, _, _, rfl, (((D1.set (B := w.heap.size) hw0 nd1.out nd2.out _ _).set (B := w.heap.size) hw0 nd1.out nd2.out _ _).four (B := w.heap.size + 1 + 1) (by omega) nz1.out nz2.out _ _ _ _).drew, (((KX.out.set (B := w.heap.size) (Nat.le_refl _) _).set (B := w.heap.size) (Nat.le_refl _) _).four (B := w.heap.size + 1 + 1) (by omega) _ _ _ _).drew, fun _ hg => Or.inl hg, fr_refl _ _⟩
  · have hc2 : decide (1 = ic) = false := decide_eq_false (fun e => hc1 e.symm)
    have hc3 : 1 ≤ j + 1 := by omega
    go_wp2_with fail
    go_region
    go_wp2_with fail
    have hz6 := (Below.heap_setCell (X.setCell ⟨w.heap.size, 0, none⟩ (.slice (some ⟨bb, off + 1, none⟩) j (ic - 1))) ⟨w.heap.size, 3, none⟩ (.bool q) (w.heap.size + 1 + 1) (by simp; omega)).trans ((Below.heap_setCell X ⟨w.heap.size, 0, none⟩ (.slice (some ⟨bb, off + 1, none⟩) j (ic - 1)) (w.heap.size + 1 + 1) (by simp; omega)).trans hx.out.z)
    refine bodyPost_ret (results_row_tmp1 rfl _ _ (w.heap.size + 1 + 1) 24 #[.slice (some ⟨bb, off + 1, none⟩) j (ic - 1), .slice oa m oc, .int .i64 (lost : Nat), .bool q] (0, 0) _ rfl (four_drew hz6) Try.underlying24 rfl size_dev) rfl ?_
    have D1 : DevQ w0 X (.slice (some ⟨bb, off + 1, none⟩) j (ic - 1)) (.slice oa m oc) j m r out := ⟨DX.out.b, que_drop HQ.out 1 hc3, DX.out.o, DX.out.ap⟩
    exact ⟨_, _, _, _, rfl, (((D1.set (B := w.heap.size) hw0 nd1.out nd2.out _ _).set (B := w.heap.size) hw0 nd1.out nd2.out _ _).four (B := w.heap.size + 1 + 1) (by omega) nz1.out nz2.out _ _ _ _).drew, (((KX.out.set (B := w.heap.size) (Nat.le_refl _) _).set (B := w.heap.size) (Nat.le_refl _) _).four (B := w.heap.size + 1 + 1) (by omega) _ _ _ _).drew, fun _ hg => Or.inl hg, fr_refl _ _⟩
set_option maxHeartbeats 1000000 in
set_option maxRecDepth 100000 in
theorem perf_send {w0 w : World} {ia oa : Option Addr} {n ic m j oc : Nat} {inn r : List UInt8} {x : UInt8} (lost : Nat) (asks : Bool) (b : UInt8) (H : Hid (DevQ w0 w (.slice ia n ic) (.slice oa m oc) n m inn (x :: r))) (hj : m = j + 1) (q : Bool) (hq : Hid (decide (0 < n) = q)) :
    Calls Try.prog 19 #[.agg #[.slice ia n ic, .slice oa m oc, .int .i64 (lost : Nat), .bool asks], .agg #[.int .i64 4, .int .u8 (ub b)]] w (PerfOut w0 w (.slice ia n ic) (.slice oa m oc) n j inn r lost q (ub x)) := by
  subst hj
  have hx := Lib.hid (sp_new w (.slice ia n ic) (.slice oa (j + 1) oc) lost asks 4 (ub b))
  have hbx := Lib.hid (below_three w (.cells #[.slice ia n ic, .slice oa (j + 1) oc, .int .i64 (lost : Nat), .bool asks] 24) (.cells #[.int .i64 4, .int .u8 (ub b)] 26) (.cells #[.slice none 0 0, .slice none 0 0, .int .i64 0, .bool false] 24))
  have hsx : (((w.alloc (.cells #[.slice ia n ic, .slice oa (j + 1) oc, .int .i64 (lost : Nat), .bool asks] 24)).alloc (.cells #[.int .i64 4, .int .u8 (ub b)] 26)).alloc (.cells #[.slice none 0 0, .slice none 0 0, .int .i64 0, .bool false] 24)).heap.size = w.heap.size + 1 + 1 + 1 := by simp
  go_enter Try.func19, Try.ntmps19
  go_upto_region 1 with fail
  generalize ((w.alloc (.cells #[.slice ia n ic, .slice oa (j + 1) oc, .int .i64 (lost : Nat), .bool asks] 24)).alloc (.cells #[.int .i64 4, .int .u8 (ub b)] 26)).alloc (.cells #[.slice none 0 0, .slice none 0 0, .int .i64 0, .bool false] 24) = X at hx hbx hsx ⊢
  have G0 := four_at hx.out.d
  have T0 := pair_at hx.out.o
  have Z0 := four_at hx.out.z
  have F0 := fun i => frozen_of_row X w.heap.size i _ _ hx.out.d
  have F2 := fun i => frozen_of_row X (w.heap.size + 1 + 1) i _ _ hx.out.z
  have l0 := heap_lt hx.out.d
  have l1 := heap_lt hx.out.o
  have l2 := heap_lt hx.out.z
  have DX := Lib.hid (H.out.step hbx.out)
  have hw0 : w0.heap.size ≤ w.heap.size := H.out.b.size
  have KX := Lib.hid (kp_below hbx.out (Value.slice ia n ic).ownBlock (Value.slice oa (j + 1) oc).ownBlock)
  have nd1 := Lib.hid (que_ne DX.out.i hx.out.d (by decide))
  have nd2 := Lib.hid (que_ne DX.out.o hx.out.d (by decide))
  have nz1 := Lib.hid (que_ne DX.out.i hx.out.z (by decide))
  have nz2 := Lib.hid (que_ne DX.out.o hx.out.z (by decide))
  have hQ := DX.out.o
  obtain ⟨_, _, hv, hnc, _, _, _⟩ := que_shape hQ
  simp only [Value.slice.injEq, true_and] at hv
  obtain ⟨rfl, rfl⟩ := hv
  obtain ⟨bb, off, rfl, hbl, c0⟩ := at_byte (que_at hQ) (k := 0) (x := x) rfl
  rw [Nat.add_zero] at c0
  have HQ := Lib.hid hQ
  have hmd : decide (0 < j + 1) = true := decide_eq_true (by omega)
  have hm0 : (0 : Int) < ((j + 1 : Nat) : Int) := by omega
  have hq1 : decide ((n : Int) > 0) = q := by rw [← hq.out]; simp
  have hq2 : decide (0 < n) = q := hq.out
  have BD := Lib.hid ((Below.refl X.heap.size X).drew)
  clear hQ
  by_cases hc1 : oc = 1
  · subst hc1
    obtain rfl : j = 0 := by omega
    obtain rfl : r = [] := List.eq_nil_of_length_eq_zero (by have := que_len HQ.out; simpa using this)
    go_wp2_with fail
    go_region
    go_wp2_with fail
    have hz6 := (Below.heap_setCell (X.setCell ⟨w.heap.size, 1, none⟩ (.slice (some ⟨bb, off, none⟩) 0 0)) ⟨w.heap.size, 3, none⟩ (.bool q) (w.heap.size + 1 + 1) (by simp; omega)).trans ((Below.heap_setCell X ⟨w.heap.size, 1, none⟩ (.slice (some ⟨bb, off, none⟩) 0 0) (w.heap.size + 1 + 1) (by simp; omega)).trans hx.out.z)
    refine bodyPost_ret (results_row_tmp1 rfl _ _ (w.heap.size + 1 + 1) 24 #[.slice ia n ic, .slice (some ⟨bb, off, none⟩) 0 0, .int .i64 (lost : Nat), .bool q] (0, 0) _ rfl (four_drew hz6) Try.underlying24 rfl size_dev) rfl ?_
    have D1 : DevQ w0 X (.slice ia n ic) (.slice (some ⟨bb, off, none⟩) 0 0) n 0 inn [] := ⟨DX.out.b, DX.out.i, que_end HQ.out, DX.out.ap⟩
    exact ⟨_, _, _, _, rfl, (((D1.set (B := w.heap.size) hw0 nd1.out nd2.out _ _).set (B := w.heap.size) hw0 nd1.out nd2.out _ _).four (B := w.heap.size + 1 + 1) (by omega) nz1.out nz2.out _ _ _ _).drew, (((KX.out.set (B := w.heap.size) (Nat.le_refl _) _).set (B := w.heap.size) (Nat.le_refl _) _).four (B := w.heap.size + 1 + 1) (by omega) _ _ _ _).drew, fr_refl _ _, fun _ hg => Or.inl hg⟩
  · have hc2 : decide (1 = oc) = false := decide_eq_false (fun e => hc1 e.symm)
    have hc3 : 1 ≤ j + 1 := by omega
    go_wp2_with fail
    go_region
    go_wp2_with fail
    have hz6 := (Below.heap_setCell (X.setCell ⟨w.heap.size, 1, none⟩ (.slice (some ⟨bb, off + 1, none⟩) j (oc - 1))) ⟨w.heap.size, 3, none⟩ (.bool q) (w.heap.size + 1 + 1) (by simp; omega)).trans ((Below.heap_setCell X ⟨w.heap.size, 1, none⟩ (.slice (some ⟨bb, off + 1, none⟩) j (oc - 1)) (w.heap.size + 1 + 1) (by simp; omega)).trans hx.out.z)
    refine bodyPost_ret (results_row_tmp1 rfl _ _ (w.heap.size + 1 + 1) 24 #[.slice ia n ic, .slice (some ⟨bb, off + 1, none⟩) j (oc - 1), .int .i64 (lost : Nat), .bool q] (0, 0) _ rfl (four_drew hz6) Try.underlying24 rfl size_dev) rfl ?_
    have D1 : DevQ w0 X (.slice ia n ic) (.slice (some ⟨bb, off + 1, none⟩) j (oc - 1)) n j inn r := ⟨DX.out.b, DX.out.i, que_drop HQ.out 1 hc3, DX.out.ap⟩
    exact ⟨_, _, _, _, rfl, (((D1.set (B := w.heap.size) hw0 nd1.out nd2.out _ _).set (B := w.heap.size) hw0 nd1.out nd2.out _ _).four (B := w.heap.size + 1 + 1) (by omega) nz1.out nz2.out _ _ _ _).drew, (((KX.out.set (B := w.heap.size) (Nat.le_refl _) _).set (B := w.heap.size) (Nat.le_refl _) _).four (B := w.heap.size + 1 + 1) (by omega) _ _ _ _).drew, fr_refl _ _, fun _ hg => Or.inl hg⟩
set_option maxHeartbeats 1000000 in
set_option maxRecDepth 100000 in
theorem perf_out {w0 w : World} {ia oa : Option Addr} {n ic m oc : Nat} {inn out : List UInt8} (lost : Nat) (asks : Bool) (b : UInt8) (H : Hid (DevQ w0 w (.slice ia n ic) (.slice oa m oc) n m inn out)) (hm16 : m < 16) (q : Bool) (hq : Hid (decide (0 < n) = q)) :
    Calls Try.prog 19 #[.agg #[.slice ia n ic, .slice oa m oc, .int .i64 (lost : Nat), .bool asks], .agg #[.int .i64 3, .int .u8 (ub b)]] w (PerfOut w0 w (.slice ia n ic) (.slice oa m oc) n (m + 1) inn (out ++ [b]) lost q 0) := by
  obtain ⟨i0, hi, hz0, hz1, hz2⟩ := info_parts' info_byte
  have hx := Lib.hid (sp_new w (.slice ia n ic) (.slice oa m oc) lost asks 3 (ub b))
  have hbx := Lib.hid (below_three w (.cells #[.slice ia n ic, .slice oa m oc, .int .i64 (lost : Nat), .bool asks] 24) (.cells #[.int .i64 3, .int .u8 (ub b)] 26) (.cells #[.slice none 0 0, .slice none 0 0, .int .i64 0, .bool false] 24))
  have hsx : (((w.alloc (.cells #[.slice ia n ic, .slice oa m oc, .int .i64 (lost : Nat), .bool asks] 24)).alloc (.cells #[.int .i64 3, .int .u8 (ub b)] 26)).alloc (.cells #[.slice none 0 0, .slice none 0 0, .int .i64 0, .bool false] 24)).heap.size = w.heap.size + 1 + 1 + 1 := by simp
  go_enter Try.func19, Try.ntmps19
  go_upto_region 1 with fail
  generalize ((w.alloc (.cells #[.slice ia n ic, .slice oa m oc, .int .i64 (lost : Nat), .bool asks] 24)).alloc (.cells #[.int .i64 3, .int .u8 (ub b)] 26)).alloc (.cells #[.slice none 0 0, .slice none 0 0, .int .i64 0, .bool false] 24) = X at hx hbx hsx ⊢
  have G0 := four_at hx.out.d
  have T0 := pair_at hx.out.o
  have Z0 := four_at hx.out.z
  have F0 := fun i => frozen_of_row X w.heap.size i _ _ hx.out.d
  have F2 := fun i => frozen_of_row X (w.heap.size + 1 + 1) i _ _ hx.out.z
  have l0 := heap_lt hx.out.d
  have l1 := heap_lt hx.out.o
  have l2 := heap_lt hx.out.z
  have DX := Lib.hid (H.out.step hbx.out)
  have hw0 : w0.heap.size ≤ w.heap.size := H.out.b.size
  have KX := Lib.hid (kp_below hbx.out (Value.slice ia n ic).ownBlock (Value.slice oa m oc).ownBlock)
  have nd1 := Lib.hid (que_ne DX.out.i hx.out.d (by decide))
  have nd2 := Lib.hid (que_ne DX.out.o hx.out.d (by decide))
  have nz1 := Lib.hid (que_ne DX.out.i hx.out.z (by decide))
  have nz2 := Lib.hid (que_ne DX.out.o hx.out.z (by decide))
  have hq1 : decide ((n : Int) > 0) = q := by rw [← hq.out]; simp
  have hq2 : decide (0 < n) = q := hq.out
  have bl := below_alloc X (.cells #[.int .u8 (ub b)] 5)
  have D2 := Lib.hid (DX.out.step bl)
  have X2 := Lib.hid (hx.out.step bl)
  have L2 := Lib.hid (byte_lit X b 1)
  have hs0 := D2.out.b.size
  have HFR := Lib.hid (que_apart D2.out.o)
  have K1 := Lib.hid (KX.out.trans (kp_below bl _ _))
  have HSX := Lib.hid hsx
  clear bl hsx
  go_wp2_with (first
    | (at_builtin; refine wpList_append_que shB rfl _ _ 22 rfl w0.heap.size 5 i0 _ 1 Try.underlying22 hi hz0 hz1 hz2 rfl (.slice oa m oc) m out [b] rfl D2.out.o (some ⟨X.heap.size, 0, none⟩) 1 1 rfl (Lib.hid rfl) L2.out (by unfold maxLen; omega) (by omega) hs0 ?_; intro ra rc w4 own4 grow4 new4; have X4 := Lib.hid (X2.out.grown grow4 HFR.out); have G4 := four_at X4.out.d; have G5 := four_at X4.out.z; have F4 := (fun i => frozen_of_row w4 w.heap.size i _ _ X4.out.d); have F5 := (fun i => frozen_of_row w4 (w.heap.size + 1 + 1) i _ _ X4.out.z); have l4 := heap_lt X4.out.d; have l5 := heap_lt X4.out.z; have P4 := Lib.hid own4; have E4 := Lib.hid grow4; have N4 := Lib.hid new4; clear own4 grow4 new4)
    | fail)
  have hz6 := (Below.heap_setCell (w4.setCell ⟨w.heap.size, 1, none⟩ (.slice ra (m + 1) rc)) ⟨w.heap.size, 3, none⟩ (.bool q) (w.heap.size + 1 + 1) (by simp; omega)).trans ((Below.heap_setCell w4 ⟨w.heap.size, 1, none⟩ (.slice ra (m + 1) rc) (w.heap.size + 1 + 1) (by simp; omega)).trans X4.out.z)
  refine bodyPost_ret (results_row_tmp1 rfl _ _ (w.heap.size + 1 + 1) 24 #[.slice ia n ic, .slice ra (m + 1) rc, .int .i64 (lost : Nat), .bool q] (0, 0) _ rfl (four_set hz6) Try.underlying24 rfl size_dev) rfl ?_
  have hfr : Fr (X.alloc (.cells #[.int .u8 (ub b)] 5)) (.slice oa m oc) (.slice ra (m + 1) rc) := fun g hg => (N4.out g hg).imp id (fun e => by rw [e]; exact Nat.le_refl _)
  have D4 := D2.out.putO P4.out E4.out hfr
  have n1 := que_ne D4.i X4.out.d (by decide)
  have n2 := que_ne D4.i X4.out.z (by decide)
  have n3 := que_ne D4.o X4.out.d (by decide)
  have n4 := que_ne D4.o X4.out.z (by decide)
  exact ⟨_, _, _, _, rfl, ((D4.set (B := w.heap.size) hw0 n1 n3 _ _).set (B := w.heap.size) hw0 n1 n3 _ _).four (B := w.heap.size + 1 + 1) (by omega) n2 n4 _ _ _ _, (((K1.out.trans (kp_right E4.out _)).set (B := w.heap.size) (Nat.le_refl _) _).set (B := w.heap.size) (Nat.le_refl _) _).four (B := w.heap.size + 1 + 1) (by omega) _ _ _ _, fr_refl _ _, fun g hg => (hfr g hg).imp id (fun h => by simp at h; have := hbx.out.size; omega)⟩
/-- uart.perform, where the operation is in order. -/
theorem perform_W {w0 w : World} {ia oa : Option Addr} {ic oc : Nat} {s : StB} (o : UaT) (n m n' m' : Nat) (hg : GoodB s) (he : errB s o = 0) (hn : Hid (s.inn.length = n)) (hm : Hid (s.out.length = m)) (H : Hid (DevQ w0 w (.slice ia n ic) (.slice oa m oc) n m s.inn s.out)) (hn' : Hid ((doB s o).inn.length = n')) (hm' : Hid ((doB s o).out.length = m')) (asks : Bool) :
    Calls Try.prog 19 #[.agg #[.slice ia n ic, .slice oa m oc, .int .i64 (s.lost : Nat), .bool asks], .agg #[.int .i64 o.k, .int .u8 (ub o.b)]] w (PerfOut w0 w (.slice ia n ic) (.slice oa m oc) n' m' (doB s o).inn (doB s o).out (doB s o).lost (decide (0 < n')) (ub (byteB s o))) := by
  obtain ⟨k, b⟩ := o
  obtain ⟨inn, out, lost⟩ := s
  have h1 := hn.out
  have h2 := hm.out
  have h3 := hg.inn
  have h4 := hg.lost
  have h5 := hn'.out
  have h6 := hm'.out
  simp only at h1 h2 h3 h4
  unfold mxB at h4
  subst h1 h2
  rcases errB_kinds he with e | e | e | e <;> simp only at e <;> subst e
  · have hr := errB_1 he rfl
    simp only [mxB] at hr
    by_cases hf : inn.length < 16
    · have hd : doB ⟨inn, out, lost⟩ ⟨1, b⟩ = ⟨inn ++ [b], out, lost⟩ := by unfold doB; rw [if_pos rfl]; simp only; rw [if_pos hf, if_pos hf]
      rw [hd] at h5 h6 ⊢
      simp only [List.length_append, List.length_cons, List.length_nil] at h5 h6
      subst h5 h6
      rw [decide_eq_true (show 0 < inn.length + (0 + 1) by omega)]
      exact perf_in lost asks b H (inn.length + 1) (inn ++ [b]) lost (by omega) (Lib.hid fun X hX => recv_room lost asks b (Lib.hid (H.out.step hX)) hf)
    · have hd : doB ⟨inn, out, lost⟩ ⟨1, b⟩ = ⟨inn, out, lost + 1⟩ := by unfold doB; rw [if_pos rfl]; simp only; rw [if_neg hf, if_neg hf]
      rw [hd] at h5 h6 ⊢
      simp only at h5 h6
      subst h5 h6
      rw [decide_eq_true (show 0 < inn.length by omega)]
      exact perf_in lost asks b H inn.length inn (lost + 1) (by omega) (Lib.hid fun X hX => recv_full lost asks b (Lib.hid (H.out.step hX)) (Lib.hid (decide_eq_true (by omega))) (by omega) _ rfl)
  · have hr := errB_2 he rfl
    cases inn with
    | nil => exact absurd rfl hr
    | cons x r =>
      have hd : doB ⟨x :: r, out, lost⟩ ⟨2, b⟩ = ⟨r, out, lost⟩ := rfl
      rw [hd] at h5 h6 ⊢
      simp only at h5 h6
      subst h5 h6
      exact perf_read lost asks b H rfl _ (Lib.hid rfl) (by simp only [List.length_cons] at h3; omega)
  · have hr := errB_3 he rfl
    have hd : doB ⟨inn, out, lost⟩ ⟨3, b⟩ = ⟨inn, out ++ [b], lost⟩ := rfl
    rw [hd] at h5 h6 ⊢
    simp only [List.length_append, List.length_cons, List.length_nil] at h5 h6
    subst h5 h6
    exact perf_out lost asks b H hr _ (Lib.hid rfl)
  · have hr := errB_4 he rfl
    cases out with
    | nil => exact absurd rfl hr
    | cons x r =>
      have hd : doB ⟨inn, x :: r, lost⟩ ⟨4, b⟩ = ⟨inn, r, lost⟩ := rfl
      rw [hd] at h5 h6 ⊢
      simp only at h5 h6
      subst h5 h6
      exact perf_send lost asks b H rfl _ (Lib.hid rfl)
end Go.Proofs.Ytalcfbdnnlapnaa
