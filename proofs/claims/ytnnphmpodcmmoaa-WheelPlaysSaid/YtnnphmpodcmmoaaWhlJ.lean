/- Package wheel: slices.Equal on error codes and on what fired, where they are alike; corebellkeep.alive11. -/
import Derived.Test.YtnnphmpodcmmoaaWhlI
namespace Go.Proofs.Ytnnphmpodcmmoaa
open Go.RowKit

set_option maxHeartbeats 1000000 in
set_option maxRecDepth 100000 in
theorem equalE {a1 a2 : Option Addr} {c1 c2 n : Nat} {l : List Int} (w : World) (hl : Hid (l.length = n)) (H1 : Hid (shI.At w a1 c1 l)) (H2 : Hid (shI.At w a2 c2 l)) (hn : n ≤ 9223372036854775807) :
    Calls Try.prog 11 #[.slice a1 n c1, .slice a2 n c2] w fun e w' => e = .returned (.bool true) ∧ Below w.heap.size w w' := by
  go_enter Try.func11, Try.ntmps11
  go_wp2_with fail
  go_loopw [13] (fun i wr => ∃ k : Nat, k ≤ n ∧ i = .int .i64 k ∧ ∃ q, wr = w.drewN q) (fun i _ => n - (intOf i).toNat)
  case atStart => exact ⟨0, Nat.zero_le _, rfl, 0, rfl⟩
  case round =>
    obtain ⟨k, hk, rfl, q, rfl⟩ := hrel
    by_cases hlt : k < n
    · obtain ⟨x, hx⟩ : ∃ x, l[k]? = some x := ⟨l[k]'(by rw [hl.out]; exact hlt), List.getElem?_eq_getElem _⟩
      obtain ⟨b, off, rfl, _, c0⟩ := at_int H1.out hx
      obtain ⟨b2, off2, rfl, _, c1⟩ := at_int H2.out hx
      clear hx
      go_wp2_with fail
      go_quiet (fail)
      go_wp2_with fail
      go_roundw
      case rel => exact ⟨k + 1, by omega, by go_num, _, rfl⟩
      case measure => simp [intOf]; omega
    · obtain rfl : k = n := by omega
      clear hlt hk
      go_wp2_with fail
      go_ret
      exact ⟨rfl, below_drewN (Below.refl _ _) _⟩
theorem eq_fired (x y : Int) (w : World) : (Op.equalIn 10000 31 (.agg #[.int .i64 x, .int .i64 y]) (.agg #[.int .i64 x, .int .i64 y])).run Try.prog w = .ok true w := by
  have e : ∀ (x : Int) (w : World), (Op.equalIn 9999 3 (.int .i64 x) (.int .i64 x)).run Try.prog w = .ok true w := fun x w => by rw [run_equalIn_int w 9998 _ _ _ x x Try.underlying3]; simp
  rw [Op.equalIn]
  simp only [Sem.run_bind, run_underlying Try.underlying31, Result.andThen_ok]
  have hs : Try.prog.stoodInHeld 31 = false := by kernel_rfl
  have p0 : ∀ w : World, (part 3 #[.int .i64 x, .int .i64 y] 0).run Try.prog w = .ok (.int .i64 x) w := fun w => by simp [part, Try.isAgg3, Sem.run_bind]
  have p1 : ∀ w : World, (part 3 #[.int .i64 x, .int .i64 y] 1).run Try.prog w = .ok (.int .i64 y) w := fun w => by simp [part, Try.isAgg3, Sem.run_bind]
  simp [hs, Sem.run_bind, p0, p1, e]
set_option maxHeartbeats 1000000 in
set_option maxRecDepth 100000 in
theorem equalF {a1 a2 : Option Addr} {c1 c2 n : Nat} {l : List FiT} (w : World) (hl : Hid (l.length = n)) (H1 : Hid (shF.At w a1 c1 l)) (H2 : Hid (shF.At w a2 c2 l)) (hn : n ≤ 9223372036854775807) :
    Calls Try.prog 12 #[.slice a1 n c1, .slice a2 n c2] w fun e w' => e = .returned (.bool true) ∧ Below w.heap.size w w' := by
  have heq : ∀ (x y : Int) (w : World), (Op.equalIn 10000 31 (.agg #[.int .i64 x, .int .i64 y]) (.agg #[.int .i64 x, .int .i64 y])).run Try.prog w = .ok true w := eq_fired
  go_enter Try.func12, Try.ntmps12
  go_wp2_with fail
  go_loopw [13] (fun i wr => ∃ k : Nat, k ≤ n ∧ i = .int .i64 k ∧ ∃ q, wr = w.drewN q) (fun i _ => n - (intOf i).toNat)
  case atStart => exact ⟨0, Nat.zero_le _, rfl, 0, rfl⟩
  case round =>
    obtain ⟨k, hk, rfl, q, rfl⟩ := hrel
    by_cases hlt : k < n
    · obtain ⟨f, hf⟩ : ∃ f, l[k]? = some f := ⟨l[k]'(by rw [hl.out]; exact hlt), List.getElem?_eq_getElem _⟩
      obtain ⟨b, off, rfl, _, c0, c1⟩ := at_fi H1.out hf
      obtain ⟨b2, off2, rfl, _, e0, e1⟩ := at_fi H2.out hf
      obtain ⟨x, y⟩ := f
      simp only at c0 c1 e0 e1
      generalize (x : Int) = z at c0 e0
      clear hf
      go_wp2_with fail
      go_quiet (fail)
      go_wp2_with fail
      go_roundw
      case rel => exact ⟨k + 1, by omega, by go_num, _, rfl⟩
      case measure => simp [intOf]; omega
    · obtain rfl : k = n := by omega
      clear hlt hk
      go_wp2_with fail
      go_ret
      exact ⟨rfl, below_drewN (Below.refl _ _) _⟩
def alT : List TmT := [⟨1, 7, 100⟩, ⟨1, 3, 9⟩, ⟨3, 0, 9⟩, ⟨1, 4, 91⟩, ⟨3, 0, 95⟩, ⟨1, 4, 5⟩]
def alF : List FiT := [(9, 3), (100, 4), (100, 7)]
theorem al_fired : (runT newT alT).fired = alF := by decide
theorem al_set : (runT newT alT).set.length = 1 := by decide
theorem al_wf : ∀ o ∈ alT, WfI o.i := by
  intro o ho
  simp only [alT, List.mem_cons, List.not_mem_nil, or_false] at ho
  unfold WfI
  rcases ho with rfl | rfl | rfl | rfl | rfl | rfl <;> decide
theorem alPlay {b : Nat} (w : World) (HA : Hid (shT.At w (some ⟨b, 0, none⟩) 6 alT)) :
    Calls Try.prog 9 #[.slice (some ⟨b, 0, none⟩) 6 6] w fun e w' => ∃ E fa fc, e = .returned (.tuple #[.slice (some ⟨E, 0, none⟩) 6 6, .slice fa 3 fc, .int .i64 1, .int .i64 0]) ∧ shF.At w' fa fc alF ∧ Below w.heap.size w w' := by
  refine (play_ok w HA (Lib.hid rfl) (by decide) (Lib.hid al_wf)).mono ?_
  rintro e w' ⟨E, fa, fc, rfl, _, h2, h3⟩
  rw [al_fired] at h2 ⊢
  rw [al_set]
  exact ⟨E, fa, fc, rfl, h2, h3⟩
set_option maxHeartbeats 1000000 in
set_option maxRecDepth 100000 in
theorem alive11_N (w : World) : Calls Try.prog 13 #[] w fun e w' => e = .returned (.bool true) ∧ Below w.heap.size w w' := by
  have B0 := Lib.hid (below_alloc w (.cells (shT.flat alT).toArray 36))
  have HO : Hid (shT.At (w.alloc (.cells (shT.flat alT).toArray 36)) (some ⟨w.heap.size, 0, none⟩) 6 alT) := Lib.hid (Shape.At.lit alT (heap_alloc_new w _))
  have L3 : Hid (alF.length = 3) := Lib.hid rfl
  have N3 : 3 ≤ 9223372036854775807 := by decide
  have eT : (shT.flat alT).toArray = #[.int .i64 1, .int .i64 7, .int .i64 100, .int .i64 1, .int .i64 3, .int .i64 9, .int .i64 3, .int .i64 0, .int .i64 9, .int .i64 1, .int .i64 4, .int .i64 91, .int .i64 3, .int .i64 0, .int .i64 95, .int .i64 1, .int .i64 4, .int .i64 5] := rfl
  rw [eT] at B0 HO
  have HF : Hid (∀ w : World, shF.At (w.alloc (.cells #[.int .i64 9, .int .i64 3, .int .i64 100, .int .i64 4, .int .i64 100, .int .i64 7] 31)) (some ⟨w.heap.size, 0, none⟩) 3 alF) := Lib.hid fun w => Shape.At.lit alF (heap_alloc_new w _)
  go_enter Try.func13, Try.ntmps13
  go_wp2_with (first
    | (go_at_call 9; (with_reducible refine (alPlay _ HO).mono ?_); rintro e w1 ⟨E, fa, fc, rfl, hF, hb⟩; have B1 := Lib.hid ((pstep B0.out hb).trans ((below_alloc w1 (.cells #[.int .i64 9, .int .i64 3, .int .i64 100, .int .i64 4, .int .i64 100, .int .i64 7] 31)).mono (pstep B0.out hb).size)); have W1 := Lib.hid (hF.step (below_alloc w1 (.cells #[.int .i64 9, .int .i64 3, .int .i64 100, .int .i64 4, .int .i64 100, .int .i64 7] 31))); have X1 := Lib.hid (HF.out w1); clear hb hF)
    | (go_at_call 12; (with_reducible refine (equalF _ L3 W1 X1 N3).mono ?_); rintro e w2 ⟨rfl, hb⟩; have B2 := Lib.hid (pstep B1.out hb); clear hb)
    | fail)
  go_ret
  exact ⟨rfl, B2.out⟩
end Go.Proofs.Ytnnphmpodcmmoaa
