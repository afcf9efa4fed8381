/- The walk of corebelllaw.BitsMix: bits.Both and Either answer what A1 says: it returns true for every two sets. -/
import Derived.Test.YtcpoakikeahjeaaMixA
import Derived.Test.YtcpoakikeahjeaaMixO
import Derived.Test.YtcpoakikeahjeaaEq
namespace Go.Proofs.Ytcpoakikeahjeaa
open Go.RowKit

theorem ag_eq {x0 x1 x2 x3 y0 y1 y2 y3 : Int} (h0 : x0 = y0) (h1 : x1 = y1) (h2 : x2 = y2) (h3 : x3 = y3) :
    Ending.returned (.agg #[.int .u64 x0, .int .u64 x1, .int .u64 x2, .int .u64 x3]) = .returned (.agg #[.int .u64 y0, .int .u64 y1, .int .u64 y2, .int .u64 y3]) := by
  rw [h0, h1, h2, h3]
theorem and_nat {a b : Nat} (ha : a < 2 ^ 64) (hb : b < 2 ^ 64) : Go.bits .and .u64 (a : Int) (b : Int) = ((a &&& b : Nat) : Int) := u64_and_nat a b ha hb
theorem or_nat {a b : Nat} (ha : a < 2 ^ 64) (hb : b < 2 ^ 64) : Go.bits .or .u64 (a : Int) (b : Int) = ((a ||| b : Nat) : Int) := u64_or_nat a b ha hb
theorem wof_eq {p : Nat → Bool} {a b c d : Nat} (h : Ok a b c d) (hp : ∀ m, m < 256 → p m = mem a b c d m) : wof p 0 = a ∧ wof p 1 = b ∧ wof p 2 = c ∧ wof p 3 = d :=
  set_ext (wof_ok p) h (fun m hm => by rw [mem_wof p m hm, hp m hm])

theorem bothR (a0 a1 a2 a3 b0 b1 b2 b3 r0 r1 r2 r3 : Nat) (w : World) (h0 : Hid (Ok a0 a1 a2 a3)) (h0' : Hid (Ok b0 b1 b2 b3)) (hr : Hid (a0 &&& b0 = r0 ∧ a1 &&& b1 = r1 ∧ a2 &&& b2 = r2 ∧ a3 &&& b3 = r3)) :
    Calls Try.prog 4 #[.agg #[.int .u64 a0, .int .u64 a1, .int .u64 a2, .int .u64 a3], .agg #[.int .u64 b0, .int .u64 b1, .int .u64 b2, .int .u64 b3]] w fun e w' => e = .returned (.agg #[.int .u64 r0, .int .u64 r1, .int .u64 r2, .int .u64 r3]) ∧ Below w.heap.size w w' := by
  obtain ⟨rfl, rfl, rfl, rfl⟩ := hr.out
  have h := h0.out
  have h' := h0'.out
  refine (both_any a0 a1 a2 a3 b0 b1 b2 b3 w).mono ?_
  rintro e w' ⟨rfl, hb⟩
  exact ⟨ag_eq (and_nat h.1 h'.1) (and_nat h.2.1 h'.2.1) (and_nat h.2.2.1 h'.2.2.1) (and_nat h.2.2.2 h'.2.2.2), hb⟩
theorem bothM (a0 a1 a2 a3 b0 b1 b2 b3 r0 r1 r2 r3 : Nat) (w : World) (h0 : Hid (Ok a0 a1 a2 a3)) (h0' : Hid (Ok b0 b1 b2 b3)) (hr : Hid (a0 &&& b0 = r0 ∧ a1 &&& b1 = r1 ∧ a2 &&& b2 = r2 ∧ a3 &&& b3 = r3)) :
    Calls Try.prog 5 #[.agg #[.int .u64 a0, .int .u64 a1, .int .u64 a2, .int .u64 a3], .agg #[.int .u64 b0, .int .u64 b1, .int .u64 b2, .int .u64 b3], .func (.func 6) #[] #[]] w fun e w' => e = .returned (.agg #[.int .u64 r0, .int .u64 r1, .int .u64 r2, .int .u64 r3]) ∧ Below w.heap.size w w' := by
  obtain ⟨rfl, rfl, rfl, rfl⟩ := hr.out
  have h := h0.out
  have h' := h0'.out
  have e := wof_eq (p := fun m => mem a0 a1 a2 a3 m && mem b0 b1 b2 b3 m) h.both (fun m _ => (mem_both a0 a1 a2 a3 b0 b1 b2 b3 m).symm)
  have hm := mix_and a0 a1 a2 a3 b0 b1 b2 b3 _ _ _ (zero_of_info info_row).1 (size_boolsOf _ _) w h0 h0' rfl rfl (by rw [Hid, size_row, size_boolsOf]) (by rw [Hid, size_row, size_boolsOf]) (by rw [Hid, size_boolsOf, size_boolsOf]) (by rw [Hid, size_boolsOf, size_boolsOf]) (bools_all _ _) (bools_all _ _)
  rw [e.1, e.2.1, e.2.2.1, e.2.2.2] at hm
  exact hm

theorem eitherR (a0 a1 a2 a3 b0 b1 b2 b3 r0 r1 r2 r3 : Nat) (w : World) (h0 : Hid (Ok a0 a1 a2 a3)) (h0' : Hid (Ok b0 b1 b2 b3)) (hr : Hid (a0 ||| b0 = r0 ∧ a1 ||| b1 = r1 ∧ a2 ||| b2 = r2 ∧ a3 ||| b3 = r3)) :
    Calls Try.prog 7 #[.agg #[.int .u64 a0, .int .u64 a1, .int .u64 a2, .int .u64 a3], .agg #[.int .u64 b0, .int .u64 b1, .int .u64 b2, .int .u64 b3]] w fun e w' => e = .returned (.agg #[.int .u64 r0, .int .u64 r1, .int .u64 r2, .int .u64 r3]) ∧ Below w.heap.size w w' := by
  obtain ⟨rfl, rfl, rfl, rfl⟩ := hr.out
  have h := h0.out
  have h' := h0'.out
  refine (either_any a0 a1 a2 a3 b0 b1 b2 b3 w).mono ?_
  rintro e w' ⟨rfl, hb⟩
  exact ⟨ag_eq (or_nat h.1 h'.1) (or_nat h.2.1 h'.2.1) (or_nat h.2.2.1 h'.2.2.1) (or_nat h.2.2.2 h'.2.2.2), hb⟩
theorem eitherM (a0 a1 a2 a3 b0 b1 b2 b3 r0 r1 r2 r3 : Nat) (w : World) (h0 : Hid (Ok a0 a1 a2 a3)) (h0' : Hid (Ok b0 b1 b2 b3)) (hr : Hid (a0 ||| b0 = r0 ∧ a1 ||| b1 = r1 ∧ a2 ||| b2 = r2 ∧ a3 ||| b3 = r3)) :
    Calls Try.prog 5 #[.agg #[.int .u64 a0, .int .u64 a1, .int .u64 a2, .int .u64 a3], .agg #[.int .u64 b0, .int .u64 b1, .int .u64 b2, .int .u64 b3], .func (.func 8) #[] #[]] w fun e w' => e = .returned (.agg #[.int .u64 r0, .int .u64 r1, .int .u64 r2, .int .u64 r3]) ∧ Below w.heap.size w w' := by
  obtain ⟨rfl, rfl, rfl, rfl⟩ := hr.out
  have h := h0.out
  have h' := h0'.out
  have e := wof_eq (p := fun m => mem a0 a1 a2 a3 m || mem b0 b1 b2 b3 m) (h.either h') (fun m _ => (mem_either a0 a1 a2 a3 b0 b1 b2 b3 m).symm)
  have hm := mix_or a0 a1 a2 a3 b0 b1 b2 b3 _ _ _ (zero_of_info info_row).1 (size_boolsOf _ _) w h0 h0' rfl rfl (by rw [Hid, size_row, size_boolsOf]) (by rw [Hid, size_row, size_boolsOf]) (by rw [Hid, size_boolsOf, size_boolsOf]) (by rw [Hid, size_boolsOf, size_boolsOf]) (bools_all _ _) (bools_all _ _)
  rw [e.1, e.2.1, e.2.2.1, e.2.2.2] at hm
  exact hm

/-- Two sets in variables of their own, and nothing that was there has turned. -/
def Pair (W : World) (a0 a1 a2 a3 b0 b1 b2 b3 : Nat) (w : World) : Prop := w.heap[W.heap.size]? = some (.cells #[.int .u64 a0, .int .u64 a1, .int .u64 a2, .int .u64 a3] 24 (0, 0)) ∧ w.heap[W.heap.size + 1]? = some (.cells #[.int .u64 b0, .int .u64 b1, .int .u64 b2, .int .u64 b3] 24 (0, 0)) ∧ Below W.heap.size W w
theorem Pair.step {W w w' : World} {a0 a1 a2 a3 b0 b1 b2 b3 : Nat} (h : Pair W a0 a1 a2 a3 b0 b1 b2 b3 w) (hb : Below w.heap.size w w') : Pair W a0 a1 a2 a3 b0 b1 b2 b3 w' :=
  ⟨(hb.block _ ((Array.getElem?_eq_some_iff.1 h.1).1)).trans h.1, (hb.block _ ((Array.getElem?_eq_some_iff.1 h.2.1).1)).trans h.2.1, h.2.2.trans (hb.mono h.2.2.size)⟩
theorem Pair.drew {W w : World} {a0 a1 a2 a3 b0 b1 b2 b3 : Nat} (h : Pair W a0 a1 a2 a3 b0 b1 b2 b3 w) : Pair W a0 a1 a2 a3 b0 b1 b2 b3 w.drew := ⟨h.1, h.2.1, h.2.2.drew⟩
theorem Pair.all {w w' : World} {a0 a1 a2 a3 b0 b1 b2 b3 : Nat} (h : Pair w a0 a1 a2 a3 b0 b1 b2 b3 w') : Pair w a0 a1 a2 a3 b0 b1 b2 b3 w' ∧ w'.cell? ⟨w.heap.size, 0, none⟩ = some (.int .u64 a0) ∧ w'.cell? ⟨w.heap.size, 1, none⟩ = some (.int .u64 a1) ∧ w'.cell? ⟨w.heap.size, 2, none⟩ = some (.int .u64 a2) ∧ w'.cell? ⟨w.heap.size, 3, none⟩ = some (.int .u64 a3) ∧ w'.cell? ⟨w.heap.size + 1, 0, none⟩ = some (.int .u64 b0) ∧ w'.cell? ⟨w.heap.size + 1, 1, none⟩ = some (.int .u64 b1) ∧ w'.cell? ⟨w.heap.size + 1, 2, none⟩ = some (.int .u64 b2) ∧ w'.cell? ⟨w.heap.size + 1, 3, none⟩ = some (.int .u64 b3) := by
  have ea := row_cells h.1
  have eb := row_cells h.2.1
  exact ⟨h, ea.1, ea.2.1, ea.2.2.1, ea.2.2.2, eb.1, eb.2.1, eb.2.2.1, eb.2.2.2⟩

set_option maxHeartbeats 16000000 in
set_option maxRecDepth 100000 in
theorem mix_walk (a0 a1 a2 a3 b0 b1 b2 b3 x0 x1 x2 x3 o0 o1 o2 o3 : Nat) (w : World) (Oa : Hid (Ok a0 a1 a2 a3)) (Ob : Hid (Ok b0 b1 b2 b3))
    (Hx : Hid (a0 &&& b0 = x0 ∧ a1 &&& b1 = x1 ∧ a2 &&& b2 = x2 ∧ a3 &&& b3 = x3)) (Ho : Hid (a0 ||| b0 = o0 ∧ a1 ||| b1 = o1 ∧ a2 ||| b2 = o2 ∧ a3 ||| b3 = o3)) :
    Calls Try.prog 3 #[.agg #[.int .u64 a0, .int .u64 a1, .int .u64 a2, .int .u64 a3], .agg #[.int .u64 b0, .int .u64 b1, .int .u64 b2, .int .u64 b3]] w fun e w' => e = .returned (.bool true) ∧ Below w.heap.size w w' := by
  have heq : ∀ (x0 x1 x2 x3 y0 y1 y2 y3 : Int) (w : World), (Op.equalIn 10000 24 (.agg #[.int .u64 x0, .int .u64 x1, .int .u64 x2, .int .u64 x3]) (.agg #[.int .u64 y0, .int .u64 y1, .int .u64 y2, .int .u64 y3])).run Try.prog w = .ok (x0 == y0 && (x1 == y1 && (x2 == y2 && x3 == y3))) w := eq_bits
  have T0 : Pair w a0 a1 a2 a3 b0 b1 b2 b3 ((w.alloc (.cells #[.int .u64 a0, .int .u64 a1, .int .u64 a2, .int .u64 a3] 24)).alloc (.cells #[.int .u64 b0, .int .u64 b1, .int .u64 b2, .int .u64 b3] 24)) := by
    refine ⟨?_, ?_, ((Below.refl _ _).alloc (Nat.le_refl _) _).alloc (by simp) _⟩
    · rw [Below.heap_alloc _ _ _ (by simp)]
      exact heap_alloc_new w _
    · have := heap_alloc_new (w.alloc (.cells #[.int .u64 a0, .int .u64 a1, .int .u64 a2, .int .u64 a3] 24)) (.cells #[.int .u64 b0, .int .u64 b1, .int .u64 b2, .int .u64 b3] 24)
      rwa [World.size_alloc] at this
  have T0d := T0.drew
  go_enter Try.func3, Try.ntmps3
  go_wp2_with fail
  go_region_held3 (fun w' => Pair w a0 a1 a2 a3 b0 b1 b2 b3 w' ∧ w'.cell? ⟨w.heap.size, 0, none⟩ = some (.int .u64 a0) ∧ w'.cell? ⟨w.heap.size, 1, none⟩ = some (.int .u64 a1) ∧ w'.cell? ⟨w.heap.size, 2, none⟩ = some (.int .u64 a2) ∧ w'.cell? ⟨w.heap.size, 3, none⟩ = some (.int .u64 a3) ∧ w'.cell? ⟨w.heap.size + 1, 0, none⟩ = some (.int .u64 b0) ∧ w'.cell? ⟨w.heap.size + 1, 1, none⟩ = some (.int .u64 b1) ∧ w'.cell? ⟨w.heap.size + 1, 2, none⟩ = some (.int .u64 b2) ∧ w'.cell? ⟨w.heap.size + 1, 3, none⟩ = some (.int .u64 b3))
    ((refine Pair.all ?_; with_reducible assumption))
    (first
      | (go_at_call 4; ((with_reducible refine (bothR a0 a1 a2 a3 b0 b1 b2 b3 x0 x1 x2 x3 _ Oa Ob Hx).mono ?_); rintro e w1 ⟨rfl, hb⟩; have TT := Pair.step (by with_reducible assumption) hb; clear hb))
      | (go_at_call 5; ((with_reducible refine (bothM a0 a1 a2 a3 b0 b1 b2 b3 x0 x1 x2 x3 _ Oa Ob Hx).mono ?_); rintro e w1 ⟨rfl, hb⟩; have TT := Pair.step (by with_reducible assumption) hb; clear hb))
      | (go_at_call 7; ((with_reducible refine (eitherR a0 a1 a2 a3 b0 b1 b2 b3 o0 o1 o2 o3 _ Oa Ob Ho).mono ?_); rintro e w1 ⟨rfl, hb⟩; have TT := Pair.step (by with_reducible assumption) hb; clear hb))
      | (go_at_call 5; ((with_reducible refine (eitherM a0 a1 a2 a3 b0 b1 b2 b3 o0 o1 o2 o3 _ Oa Ob Ho).mono ?_); rintro e w1 ⟨rfl, hb⟩; have TT := Pair.step (by with_reducible assumption) hb; clear hb)))
  all_goals go_wp2_with fail
  all_goals go_ret
  all_goals exact ⟨rfl, (by assumption : Pair w a0 a1 a2 a3 b0 b1 b2 b3 _).2.2⟩

theorem bitsMix_walk (a0 a1 a2 a3 b0 b1 b2 b3 : Nat) (w : World) (ha : Ok a0 a1 a2 a3) (hb : Ok b0 b1 b2 b3) :
    Calls Try.prog 3 #[.agg #[.int .u64 a0, .int .u64 a1, .int .u64 a2, .int .u64 a3], .agg #[.int .u64 b0, .int .u64 b1, .int .u64 b2, .int .u64 b3]] w fun e w' => e = .returned (.bool true) ∧ Below w.heap.size w w' :=
  mix_walk a0 a1 a2 a3 b0 b1 b2 b3 _ _ _ _ _ _ _ _ w ha hb ⟨rfl, rfl, rfl, rfl⟩ ⟨rfl, rfl, rfl, rfl⟩
end Go.Proofs.Ytcpoakikeahjeaa
