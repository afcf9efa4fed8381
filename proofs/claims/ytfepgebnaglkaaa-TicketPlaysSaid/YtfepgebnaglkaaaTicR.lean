/- Package ticket: a lock as a row of eighteen cells; rows stored and loaded whole; the walk of ticket.New. -/
import Derived.Test.YtfepgebnaglkaaaProg
import Derived.Test.YtfepgebnaglkaaaTicQ
import Derived.WalkKit
import Derived.Below
import Derived.Lib.Hide
import Derived.Laws.Rows
import Derived.Laws.OwnMore
import Derived.WalkSmall
import Derived.Deep.WholeRow
import Derived.Outline
namespace Go.Proofs.Ytfepgebnaglkaaa
open Go.RowKit

theorem pstep {W w w' : World} (h : Below W.heap.size W w) (hb : Below w.heap.size w w') : Below W.heap.size W w' := h.trans (hb.mono h.size)
theorem bat' {w w1 : World} (hb : Below w.heap.size w w1) (b : Nat) (h : b < w.heap.size) : (∀ o, w1.cell? ⟨b, o, none⟩ = w.cell? ⟨b, o, none⟩) ∧ (∀ o, w1.frozen? ⟨b, o, none⟩ = w.frozen? ⟨b, o, none⟩) ∧ b < w1.heap.size :=
  ⟨fun o => hb.cell (p := ⟨b, o, none⟩) h, fun o => hb.frozen (p := ⟨b, o, none⟩) h, Nat.lt_of_lt_of_le h hb.size⟩
theorem below_alloc (w : World) (o : Obj) : Below w.heap.size w (w.alloc o) := (Below.refl _ _).alloc (Nat.le_refl _) o
/-- A lock as a row of cells. -/
def lockRow (l : LockT) : Array Value := #[.int .i64 l.next, .int .i64 l.now, .int .i64 (l.mine 0), .int .i64 (l.mine 1), .int .i64 (l.mine 2), .int .i64 (l.mine 3), .int .i64 (l.mine 4), .int .i64 (l.mine 5), .int .i64 (l.mine 6), .int .i64 (l.mine 7), .bool (l.inn 0), .bool (l.inn 1), .bool (l.inn 2), .bool (l.inn 3), .bool (l.inn 4), .bool (l.inn 5), .bool (l.inn 6), .bool (l.inn 7)]
theorem lockRow_size (l : LockT) : (lockRow l).size = 18 := rfl
theorem lockRow_next (l : LockT) : (lockRow l)[0]? = some (.int .i64 l.next) := rfl
theorem lockRow_now (l : LockT) : (lockRow l)[1]? = some (.int .i64 l.now) := rfl
theorem eight_cases {c : Nat} (h : c < 8) : c = 0 ∨ c = 1 ∨ c = 2 ∨ c = 3 ∨ c = 4 ∨ c = 5 ∨ c = 6 ∨ c = 7 := by omega
theorem lockRow_mine (l : LockT) {c : Nat} (h : c < 8) : (lockRow l)[2 + c]? = some (.int .i64 (l.mine c)) := by
  rcases eight_cases h with rfl | rfl | rfl | rfl | rfl | rfl | rfl | rfl <;> rfl
theorem lockRow_inn (l : LockT) {c : Nat} (h : c < 8) : (lockRow l)[10 + c]? = some (.bool (l.inn c)) := by
  rcases eight_cases h with rfl | rfl | rfl | rfl | rfl | rfl | rfl | rfl <;> rfl
theorem lockRow_one (l : LockT) : ∀ v ∈ (lockRow l).toList, v.oneCell' = true := by
  intro v hv
  simp [lockRow] at hv
  rcases hv with rfl | rfl | rfl | rfl | rfl | rfl | rfl | rfl | rfl | rfl | rfl | rfl | rfl | rfl | rfl | rfl | rfl | rfl <;> rfl
theorem set_next (l : LockT) (v : Int) : (lockRow l).setIfInBounds 0 (.int .i64 v) = lockRow { l with next := v } := rfl
theorem set_now (l : LockT) (v : Int) : (lockRow l).setIfInBounds 1 (.int .i64 v) = lockRow { l with now := v } := rfl
theorem set_mine (l : LockT) {c : Nat} (h : c < 8) (v : Int) : (lockRow l).setIfInBounds (2 + c) (.int .i64 v) = lockRow { l with mine := upI l.mine c v } := by
  rcases eight_cases h with rfl | rfl | rfl | rfl | rfl | rfl | rfl | rfl <;> rfl
theorem set_inn (l : LockT) {c : Nat} (h : c < 8) (v : Bool) : (lockRow l).setIfInBounds (10 + c) (.bool v) = lockRow { l with inn := upB l.inn c v } := by
  rcases eight_cases h with rfl | rfl | rfl | rfl | rfl | rfl | rfl | rfl <;> rfl
theorem Same8.row {a b : LockT} (h : Same8 a b) : lockRow a = lockRow b := by
  obtain ⟨⟨e1, e2⟩, e3, e4⟩ := h
  unfold lockRow
  rw [e1, e2, e3 0 (by decide), e3 1 (by decide), e3 2 (by decide), e3 3 (by decide), e3 4 (by decide), e3 5 (by decide), e3 6 (by decide), e3 7 (by decide), e4 0 (by decide), e4 1 (by decide), e4 2 (by decide), e4 3 (by decide), e4 4 (by decide), e4 5 (by decide), e4 6 (by decide), e4 7 (by decide)]
theorem row_same8 {a b : LockT} (h : lockRow a = lockRow b) : Same8 a b := by
  have e : ∀ i : Nat, (lockRow a)[i]? = (lockRow b)[i]? := fun i => by rw [h]
  refine ⟨⟨?_, ?_⟩, fun c hc => ?_, fun c hc => ?_⟩
  · simpa [lockRow_next] using e 0
  · simpa [lockRow_now] using e 1
  · have := e (2 + c); rw [lockRow_mine a hc, lockRow_mine b hc] at this; simpa using this
  · have := e (10 + c); rw [lockRow_inn a hc, lockRow_inn b hc] at this; simpa using this
def ini (k : Nat) : LockT := ⟨0, 0, fun c => if c < k then -1 else 0, fun _ => false⟩
theorem ini_at (k c : Nat) : (ini k).mine c = if c < k then -1 else 0 := rfl
def lz : LockT := ⟨0, 0, fun _ => 0, fun _ => false⟩
theorem info_lock : (Try.prog.info? 25).map (fun i => (i.zero, i.size)) = some (some (.agg (lockRow lz)), 18) := by kernel_rfl
theorem size_lock : (Try.prog.info? 25).map (·.size) = some 18 := (zero_of_info info_lock).2
theorem heap_under (W : World) (o o' : Obj) : ((W.alloc o).alloc o').heap[W.heap.size]? = some o := heap_alloc2_old W o o'
theorem setRow_under (W : World) (c c' : Array Value) (t : TypeId) (o : Obj) : ((W.alloc (.cells c t)).alloc o).setRow W.heap.size c' = (W.alloc (.cells c' t)).alloc o := by
  simp only [World.setRow, World.alloc]
  congr 1
  apply Array.ext_getElem?
  intro i
  rw [Array.getElem?_modify]
  by_cases h : W.heap.size = i
  · subst h
    simp [Array.getElem?_push]
  · have h' : ¬ i = W.heap.size := fun e => h e.symm
    simp [h, h', Array.getElem?_push]
/-- A whole row into the block that was made last, and into the one before it. -/
theorem store_last (T : TypeId) (Z C : Array Value) (hs : Z.size = C.size) (h1 : ∀ v ∈ C.toList, v.oneCell' = true) (W : World) :
    (storeCells ⟨W.heap.size, 0, none⟩ C.toList).run Try.prog (W.alloc (.cells Z T)) = .ok () (W.alloc (.cells C T)) := by
  have h := run_storeCells_from (P := Try.prog) W.heap.size T C.toList 0 Z _ (heap_alloc_new W _) (by simp [hs]) h1
  rw [World.setRow_alloc_new] at h
  simpa using h
theorem store_under (T : TypeId) (Z C : Array Value) (hs : Z.size = C.size) (h1 : ∀ v ∈ C.toList, v.oneCell' = true) (W : World) (o : Obj) :
    (storeCells ⟨W.heap.size, 0, none⟩ C.toList).run Try.prog ((W.alloc (.cells Z T)).alloc o) = .ok () ((W.alloc (.cells C T)).alloc o) := by
  have h := run_storeCells_from (P := Try.prog) W.heap.size T C.toList 0 Z _ (heap_under W _ o) (by simp [hs]) h1
  rw [setRow_under] at h
  simpa using h

set_option maxHeartbeats 1000000 in
set_option maxRecDepth 100000 in
theorem new_core (Z : Array Value) (hz : ∀ w, (zeroValue 25).run Try.prog w = .ok (.agg Z) w) (HZ : Hid (Z = lockRow lz)) (w : World) :
    Calls Try.prog 16 #[] w fun e w' => e = .returned (.agg (lockRow l0)) ∧ Below w.heap.size w w' := by
  go_enter Try.func16, Try.ntmps16
  go_wp2_with fail
  go_loopw [3] (fun i wr => ∃ (k : Nat) (C : Array Value), k ≤ 8 ∧ i = .int .i64 k ∧ Hid (C = lockRow (ini k)) ∧ wr = (w.alloc (.cells Z 25)).alloc (.cells C 25)) (fun i _ => 8 - (intOf i).toNat)
  case atStart => exact ⟨0, Z, by omega, rfl, Lib.hid (HZ.out.trans rfl), rfl⟩
  case round =>
    obtain ⟨k, C, hk, rfl, HC, rfl⟩ := hrel
    by_cases hlt : k < 8
    · have hv : C[2 + k]? = some (.int .i64 0) := by
        rw [HC.out, lockRow_mine _ hlt, ini_at, if_neg (by omega)]
      go_wp2_with fail
      go_roundw
      case rel =>
        refine ⟨k + 1, _, by omega, by go_num, ?_, rfl⟩
        refine Lib.hid ?_
        rw [HC.out, set_mine _ hlt]
        refine Same8.row ⟨⟨rfl, rfl⟩, fun c hc => ?_, fun _ _ => rfl⟩
        show upI (ini k).mine k (-1) c = _
        rw [ini_at]
        by_cases e : c = k
        · rw [e, upI_same, if_pos (by omega)]
        · rw [upI_other e, ini_at]
          by_cases q : c < k
          · rw [if_pos q, if_pos (by omega)]
          · rw [if_neg q, if_neg (by omega)]
      case measure => simp [intOf]; omega
    · obtain rfl : k = 8 := by omega
      have hC : C = lockRow l0 := HC.out.trans (Same8.row ⟨⟨rfl, rfl⟩, fun c hc => if_pos hc, fun _ _ => rfl⟩)
      have HS := Lib.hid (show C.size = 18 by rw [hC]; rfl)
      have hst := store_under 25 Z C (by rw [HS.out, HZ.out]; rfl) (by rw [hC]; exact lockRow_one _) w (.cells C 25)
      have HLD := Lib.hid (heap_alloc2_new w (.cells Z 25) (.cells C 25))
      have HR := Lib.hid (heap_under w (.cells C 25) (.cells C 25))
      have HCE := Lib.hid hC
      clear hlt hk HC hC
      go_wp2_with (first
        | (refine wpList_load_row rfl 25 _ rfl (w.heap.size + 1) rfl 25 C (0, 0) _ HLD.out Try.underlying25 rfl (by rw [size_lock, HS.out]) ?_)
        | fail)
      refine bodyPost_ret (v := .agg C) ?_ rfl ⟨by rw [← HCE.out], ?_⟩
      · exact results_cell_row (fn := Try.f16) rfl _ _ w.heap.size 25 C (0, 0) _ rfl HR.out Try.underlying25 rfl (by rw [size_lock, HS.out])
      · exact (below_alloc w _).alloc (by simp) _
theorem new_R (w : World) : Calls Try.prog 16 #[] w fun e w' => e = .returned (.agg (lockRow l0)) ∧ Below w.heap.size w w' :=
  new_core _ (zero_of_info info_lock).1 (Lib.hid rfl) w
end Go.Proofs.Ytfepgebnaglkaaa
