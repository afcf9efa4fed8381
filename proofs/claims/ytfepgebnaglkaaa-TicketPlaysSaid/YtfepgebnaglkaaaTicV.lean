/- The walks of ticket.Right, check, perform. -/
import Derived.Test.YtfepgebnaglkaaaTicU
import Derived.Test.YtfepgebnaglkaaaRowL
namespace Go.Proofs.Ytfepgebnaglkaaa
open Go.RowKit

theorem rt_iff (l : LockT) : Rt l ↔ (0 ≤ l.now ∧ l.now ≤ l.next ∧ l.next ≤ 1099511627776) ∧ TickOk l ∧ InsOk l 8 := by
  constructor
  · intro h
    exact ⟨⟨h.lo, h.le, h.hi⟩, ⟨h.all, h.rng, h.one⟩, fun c hc hi => (h.ins c hc hi).1⟩
  · rintro ⟨⟨h1, h2, h3⟩, ⟨h4, h5, h6⟩, h7⟩
    exact ⟨h1, h2, h3, h4, h5, h6, fun c hc hi => ⟨h7 c hc hi, by have := h7 c hc hi; omega⟩⟩
theorem heap_step {w w' : World} {k : Nat} {o : Obj} (h : w.heap[k]? = some o) (hb : Below w.heap.size w w') : w'.heap[k]? = some o := by
  rw [hb.block k (Array.getElem?_eq_some_iff.1 h).1]; exact h

set_option maxHeartbeats 1000000 in
set_option maxRecDepth 100000 in
theorem right_core (l : LockT) (n nx : Int) (R : Array Value) (HR : Hid (lockRow l = R)) (HN : Hid (l.now = n)) (HX : Hid (l.next = nx)) (w : World) :
    Calls Try.prog 12 #[.agg R] w fun e w' => RetB (Rt l) e ∧ Below w.heap.size w w' := by
  have HS : Hid (R.size = 18) := Lib.hid (by rw [← HR.out]; rfl)
  have q0 : R[0]? = some (.int .i64 nx) := by rw [← HR.out, ← HX.out]; rfl
  have q1 : R[1]? = some (.int .i64 n) := by rw [← HR.out, ← HN.out]; rfl
  have B0 := Lib.hid (below_alloc w (.cells R 25))
  have L0 := Lib.hid (heap_alloc_new w (.cells R 25))
  by_cases h0 : n < 0
  · go_enter Try.func12, Try.ntmps12
    go_wp2_with fail
    go_ret
    exact ⟨⟨_, rfl, (fun h => by cases h), fun h => by have := h.lo; rw [HN.out] at this; omega⟩, B0.out⟩
  by_cases h1 : nx < n
  · go_enter Try.func12, Try.ntmps12
    go_wp2_with fail
    go_ret
    exact ⟨⟨_, rfl, (fun h => by cases h), fun h => by have := h.le; rw [HN.out, HX.out] at this; omega⟩, B0.out⟩
  by_cases h2 : 1099511627776 < nx
  · go_enter Try.func12, Try.ntmps12
    go_wp2_with fail
    go_ret
    exact ⟨⟨_, rfl, (fun h => by cases h), fun h => by have := h.hi; rw [HX.out] at this; omega⟩, B0.out⟩
  go_enter Try.func12, Try.ntmps12
  go_wp2_with (first
    | (refine wpList_load_row rfl 25 _ rfl w.heap.size rfl 25 R (0, 0) _ L0.out Try.underlying25 rfl (by rw [size_lock, HS.out]) ?_)
    | (refine wpList_load_row_g rfl 25 _ rfl w.heap.size rfl 25 R (0, 0) _ L1.out Try.underlying25 rfl (by rw [size_lock, HS.out]) ?_)
    | (go_at_call 20; (with_reducible refine (tickets_core l n nx R HR HN HX (by omega) (by omega) (by omega) _).mono ?_); rintro e w1 ⟨⟨b1, rfl, hb1⟩, hb⟩; have B1 := Lib.hid (pstep B0.out hb); have L1 := Lib.hid (heap_step L0.out hb); have HB1 := Lib.hid hb1; clear hb hb1; cases b1)
    | (go_at_call 21; (with_reducible refine (inside_core l R HR _).mono ?_); rintro e w2 ⟨⟨b2, rfl, hb2⟩, hb⟩; have B2 := Lib.hid (pstep B1.out hb); have HB2 := Lib.hid hb2; clear hb hb2)
    | fail)
  · go_ret
    exact ⟨⟨_, rfl, (fun h => by cases h), fun h => by have := HB1.out.2 ((rt_iff l).1 h).2.1; cases this⟩, B1.out⟩
  · go_ret
    refine ⟨⟨_, rfl, ?_⟩, B2.out⟩
    rw [HB2.out, rt_iff]
    exact ⟨fun h => ⟨by rw [HN.out, HX.out]; omega, HB1.out.1 (by simp), h⟩, fun h => h.2.2⟩
end Go.Proofs.Ytfepgebnaglkaaa
