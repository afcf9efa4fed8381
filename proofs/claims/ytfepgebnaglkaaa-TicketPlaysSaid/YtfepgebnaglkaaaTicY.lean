/- The walk of ticket.Step. -/
import Derived.Test.YtfepgebnaglkaaaTicX
namespace Go.Proofs.Ytfepgebnaglkaaa
open Go.RowKit

/-- Is the lock right? -/
noncomputable def okT (l : LockT) : Bool := @decide (Rt l) (Classical.propDecidable _)
theorem okT_true {l : LockT} : okT l = true ↔ Rt l := by unfold okT; exact @decide_eq_true_iff _ (Classical.propDecidable _)
theorem okT_false {l : LockT} (h : ¬ Rt l) : okT l = false := by
  cases e : okT l with
  | false => rfl
  | true => exact absurd (okT_true.1 e) h
/-- What a step answers. -/
noncomputable def stepT (l : LockT) (k c : Int) : LockT × Bool × Int :=
  if errT (okT l) l k c = 0 then (newT l k c.toNat, inT l k c.toNat, 0) else (lz, false, errT (okT l) l k c)
/-- The boxes of the lock, of the operation, of the result. -/
structure Sb (w wx : World) (R Z : Array Value) (k c : Int) : Prop where
  b : Below w.heap.size w wx
  r : wx.heap[w.heap.size]? = some (.cells R 25 (0, 0))
  o : wx.heap[w.heap.size + 1]? = some (.cells #[.int .i64 k, .int .i64 c] 27 (0, 0))
  z : wx.heap[w.heap.size + 1 + 1]? = some (.cells Z 25 (0, 0))
theorem Sb.step {w wx wy : World} {R Z : Array Value} {k c : Int} (h : Sb w wx R Z k c) (hb : Below wx.heap.size wx wy) : Sb w wy R Z k c :=
  ⟨pstep h.b hb, heap_step h.r hb, heap_step h.o hb, heap_step h.z hb⟩
theorem Sb.ops {w wx : World} {R Z : Array Value} {k c : Int} (h : Sb w wx R Z k c) : wx.cell? ⟨w.heap.size + 1, 0, none⟩ = some (.int .i64 k) ∧ wx.cell? ⟨w.heap.size + 1, 1, none⟩ = some (.int .i64 c) := by
  refine ⟨?_, ?_⟩ <;> (rw [cell_of_row _ _ _ _ _ _ h.o]; rfl)
theorem Sb.lt {w wx : World} {R Z : Array Value} {k c : Int} (h : Sb w wx R Z k c) : w.heap.size + 1 + 1 < wx.heap.size := (Array.getElem?_eq_some_iff.1 h.z).1
theorem heap3_mid (w : World) (a b c : Obj) : (((w.alloc a).alloc b).alloc c).heap[w.heap.size + 1]? = some b := by
  have := heap_under (w.alloc a) b c
  simpa only [World.size_alloc] using this
theorem sb_new (w : World) (R Z : Array Value) (k c : Int) : Sb w (((w.alloc (.cells R 25)).alloc (.cells #[.int .i64 k, .int .i64 c] 27)).alloc (.cells Z 25)) R Z k c :=
  ⟨below_three w _ _ _, heap3_first w _ _ _, heap3_mid w _ _ _, heap3_new w _ _ _⟩
theorem right_L (l : LockT) (R : Array Value) (HR : Hid (lockRow l = R)) (w : World) :
    Calls Try.prog 12 #[.agg R] w fun e w' => RetB (Rt l) e ∧ Below w.heap.size w w' := right_core l _ _ R HR (Lib.hid rfl) (Lib.hid rfl) w
theorem right_Y (l : LockT) (R : Array Value) (HR : Hid (lockRow l = R)) (w : World) (b : Bool) (hb : Hid (okT l = b)) :
    Calls Try.prog 12 #[.agg R] w fun e w' => e = .returned (.bool b) ∧ Below w.heap.size w w' := by
  refine (right_L l R HR w).mono ?_
  rintro e w' ⟨⟨b', rfl, h⟩, hw⟩
  refine ⟨?_, hw⟩
  have : b' = b := by
    rw [← hb.out, Bool.eq_iff_iff, h, okT_true]
  rw [this]
theorem perform_R (l : LockT) (k : Int) (n : Nat) (R : Array Value) (HR : Hid (lockRow l = R)) (hr : Rt l) (ho : OkT l k n) (w : World) :
    Calls Try.prog 19 #[.agg R, .agg #[.int .i64 k, .int .i64 n]] w fun e w' => e = .returned (.agg (lockRow (newT l k n))) ∧ Below w.heap.size w w' := by
  have hlo := hr.lo
  have hle := hr.le
  have hhi := hr.hi
  obtain ⟨hn, ⟨rfl, _, _⟩ | ⟨rfl, _⟩ | ⟨rfl, _⟩⟩ := ho
  · exact perform_ask l n R _ (zero_of_info info_lock).1 (Lib.hid rfl) HR hn _ (Lib.hid rfl) (by omega) (by omega) w
  · exact perform_look l n R _ (zero_of_info info_lock).1 (Lib.hid rfl) HR hn w
  · exact perform_free l n R _ (zero_of_info info_lock).1 (Lib.hid rfl) HR hn _ (Lib.hid rfl) (by omega) (by omega) w
theorem perform_Y (l : LockT) (k c : Int) (n : Nat) (hc : Hid ((n : Int) = c)) (R R' : Array Value) (HR : Hid (lockRow l = R)) (HR' : Hid (lockRow (newT l k n) = R')) (hr : Hid (Rt l)) (ho : Hid (OkT l k n)) (w : World) :
    Calls Try.prog 19 #[.agg R, .agg #[.int .i64 k, .int .i64 c]] w fun e w' => e = .returned (.agg R') ∧ Below w.heap.size w w' := by
  rw [← hc.out, ← HR'.out]
  exact perform_R l k n R HR hr.out ho.out w

end Go.Proofs.Ytfepgebnaglkaaa
