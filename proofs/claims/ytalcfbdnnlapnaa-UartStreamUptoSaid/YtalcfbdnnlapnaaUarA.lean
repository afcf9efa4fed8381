/- Package uart in memory: operations, devices by value; the walks of full, checkFirst, Right; corebellref.PRight, SameUart. -/
import Derived.Test.YtalcfbdnnlapnaaUarP
import Derived.Test.YtalcfbdnnlapnaaByt
import Derived.StillTailTactics
import Derived.BigQuiet
import Derived.Deep.QuietTactic
namespace Go.Proofs.Ytalcfbdnnlapnaa
open Go.RowKit

def shO : Shape UaT := ⟨2, fun r => [.int .i64 r.k, .int .u8 (ub r.b)], fun _ => rfl, fun _ u hu => by simp at hu; rcases hu with rfl | rfl <;> rfl, by decide⟩
theorem info_op : (Try.prog.info? 26).map (fun i => (i.zero, i.size, i.bytes)) = some (some (.agg #[.int .i64 0, .int .u8 0]), 2, 16) := by kernel_rfl
theorem info_dev : (Try.prog.info? 24).map (fun i => (i.zero, i.size, i.bytes)) = some (some (.agg #[.slice none 0 0, .slice none 0 0, .int .i64 0, .bool false]), 4, 64) := by kernel_rfl
theorem size_dev : (Try.prog.info? 24).map (·.size) = some 4 := by kernel_rfl
theorem at_op {w : World} {ad : Option Addr} {cap k : Nat} {l : List UaT} {f : UaT} (h : shO.At w ad cap l) (hk : l[k]? = some f) : ∃ b off, ad = some ⟨b, off, none⟩ ∧ b < w.heap.size ∧ w.cell? ⟨b, off + k * 2, none⟩ = some (.int .i64 f.k) ∧ w.cell? ⟨b, off + k * 2 + 1, none⟩ = some (.int .u8 (ub f.b)) := by
  have hkl := (List.getElem?_eq_some_iff.1 hk).1
  obtain ⟨b, off, e, hb, hl⟩ := h.2 (by omega)
  have h0 := shO.flat_at l k 0 f hk (by decide)
  have h1 := shO.flat_at l k 1 f hk (by decide)
  have hs : shO.size = 2 := rfl
  rw [hs] at h0 h1 hl
  refine ⟨b, off, e, hb, ?_, ?_⟩
  · rw [show off + k * 2 = off + (k * 2 + 0) from rfl, hl _ (by omega), h0]; rfl
  · rw [Nat.add_assoc, hl _ (by omega), h1]; rfl
theorem four_at {w : World} {b : Nat} {x y z u : Value} {t : TypeId} {fr : Nat × Nat} (h : w.heap[b]? = some (.cells #[x, y, z, u] t fr)) : w.cell? ⟨b, 0, none⟩ = some x ∧ w.cell? ⟨b, 1, none⟩ = some y ∧ w.cell? ⟨b, 2, none⟩ = some z ∧ w.cell? ⟨b, 3, none⟩ = some u := by
  refine ⟨?_, ?_, ?_, ?_⟩ <;> (rw [cell_of_row _ _ _ _ _ _ h]; rfl)
theorem four_set {w : World} {b : Nat} {x y z u x' y' z' u' : Value} {T : TypeId} (h : w.heap[b]? = some (.cells #[x, y, z, u] T (0, 0))) : ((((w.setCell ⟨b, 0, none⟩ x').setCell ⟨b, 1, none⟩ y').setCell ⟨b, 2, none⟩ z').setCell ⟨b, 3, none⟩ u').heap[b]? = some (.cells #[x', y', z', u'] T (0, 0)) :=
  heap_setCell_same _ b 3 _ _ u' (heap_setCell_same _ b 2 _ _ z' (heap_setCell_same _ b 1 _ _ y' (heap_setCell_same _ b 0 _ _ x' h)))
theorem four_below {w wx : World} {b : Nat} (x y z u : Value) (h : Below w.heap.size w wx) (hb : w.heap.size ≤ b) : Below w.heap.size w ((((wx.setCell ⟨b, 0, none⟩ x).setCell ⟨b, 1, none⟩ y).setCell ⟨b, 2, none⟩ z).setCell ⟨b, 3, none⟩ u) :=
  (((h.setCell hb _).setCell hb _).setCell hb _).setCell hb _
theorem four_other (w : World) {b k : Nat} (x y z u : Value) (h : k ≠ b) : ((((w.setCell ⟨b, 0, none⟩ x).setCell ⟨b, 1, none⟩ y).setCell ⟨b, 2, none⟩ z).setCell ⟨b, 3, none⟩ u).heap[k]? = w.heap[k]? :=
  (Below.heap_setCell _ _ _ _ h).trans ((Below.heap_setCell _ _ _ _ h).trans ((Below.heap_setCell _ _ _ _ h).trans (Below.heap_setCell _ _ _ _ h)))
set_option maxHeartbeats 1000000 in
set_option maxRecDepth 100000 in
theorem full_W (ad : Option Addr) (cap n : Nat) (w : World) (x : Bool) (hx : Hid (decide (n = 16) = x)) : Calls Try.prog 21 #[.slice ad n cap] w fun e w' => e = .returned (.bool x) ∧ w' = w := by
  by_cases h : n = 16
  · subst h
    have e1 : x = true := by rw [← hx.out]; rfl
    subst e1
    go_enter Try.func21, Try.ntmps21
    go_wp2_with fail
    go_ret
    exact ⟨rfl, rfl⟩
  · have h2 : ((n : Int) == 16) = false := by simp; omega
    have e1 : x = false := by rw [← hx.out]; simpa using h
    subst e1
    go_enter Try.func21, Try.ntmps21
    go_wp2_with fail
    go_ret
    exact ⟨rfl, rfl⟩
set_option maxHeartbeats 1000000 in
set_option maxRecDepth 100000 in
theorem first_W (ad : Option Addr) (cap n : Nat) (w : World) (x : Int) (hx : Hid ((if n = 0 then 3 else 0) = x)) : Calls Try.prog 22 #[.slice ad n cap] w fun e w' => e = .returned (.int .i64 x) ∧ w' = w := by
  by_cases h : n = 0
  · subst h
    have e1 : x = 3 := by rw [← hx.out]; rfl
    subst e1
    go_enter Try.func22, Try.ntmps22
    go_wp2_with fail
    go_ret
    exact ⟨rfl, rfl⟩
  · have h2 : ((n : Int) == 0) = false := by simp; omega
    have e1 : x = 0 := by rw [← hx.out, if_neg h]
    subst e1
    go_enter Try.func22, Try.ntmps22
    go_wp2_with fail
    go_ret
    exact ⟨rfl, rfl⟩
/-- Is it right? -/
def rgt (n m : Nat) (lost : Int) (asks : Bool) : Bool := decide (n ≤ 16 ∧ m ≤ 16 ∧ 0 ≤ lost ∧ lost ≤ 1099511627776 ∧ asks = decide (0 < n))
set_option maxHeartbeats 1000000 in
set_option maxRecDepth 100000 in
theorem right_W (ia oa : Option Addr) (n ic m oc : Nat) (lost : Int) (asks : Bool) (w : World) : Calls Try.prog 10 #[.agg #[.slice ia n ic, .slice oa m oc, .int .i64 lost, .bool asks]] w fun e w' => e = .returned (.bool (rgt n m lost asks)) ∧ Below w.heap.size w w' := by
  have B0 := below_alloc w (.cells #[.slice ia n ic, .slice oa m oc, .int .i64 lost, .bool asks] 24)
  by_cases h1 : n ≤ 16
  · have h1' : decide ((n : Int) > 16) = false := by simp; omega
    by_cases h2 : m ≤ 16
    · have h2' : decide ((m : Int) > 16) = false := by simp; omega
      by_cases h3 : 0 ≤ lost
      · by_cases h4 : lost ≤ 1099511627776
        · by_cases h5 : 0 < n
          · have h5' : decide ((n : Int) > 0) = true := by simp; omega
            have e1 : rgt n m lost asks = asks := by unfold rgt; cases asks <;> simp [h1, h2, h3, h4, h5]
            rw [e1]
            clear e1
            cases asks
            all_goals go_enter Try.func10, Try.ntmps10
            all_goals go_wp2_with fail
            all_goals go_ret
            all_goals exact ⟨rfl, B0⟩
          · obtain rfl : n = 0 := by omega
            have e1 : rgt 0 m lost asks = !asks := by unfold rgt; cases asks <;> simp [h2, h3, h4]
            rw [e1]
            clear e1
            cases asks
            all_goals go_enter Try.func10, Try.ntmps10
            all_goals go_wp2_with fail
            all_goals go_ret
            all_goals exact ⟨rfl, B0⟩
        · have e1 : rgt n m lost asks = false := decide_eq_false (fun h => h4 h.2.2.2.1)
          rw [e1]
          clear e1
          go_enter Try.func10, Try.ntmps10
          go_wp2_with fail
          go_ret
          exact ⟨rfl, B0⟩
      · have e1 : rgt n m lost asks = false := decide_eq_false (fun h => h3 h.2.2.1)
        rw [e1]
        clear e1
        go_enter Try.func10, Try.ntmps10
        go_wp2_with fail
        go_ret
        exact ⟨rfl, B0⟩
    · have h2' : decide ((m : Int) > 16) = true := by simp; omega
      have e1 : rgt n m lost asks = false := decide_eq_false (fun h => h2 h.2.1)
      rw [e1]
      clear e1
      go_enter Try.func10, Try.ntmps10
      go_wp2_with fail
      go_ret
      exact ⟨rfl, B0⟩
  · have h1' : decide ((n : Int) > 16) = true := by simp; omega
    have e1 : rgt n m lost asks = false := decide_eq_false (fun h => h1 h.1)
    rw [e1]
    clear e1
    go_enter Try.func10, Try.ntmps10
    go_wp2_with fail
    go_ret
    exact ⟨rfl, B0⟩
end Go.Proofs.Ytalcfbdnnlapnaa
