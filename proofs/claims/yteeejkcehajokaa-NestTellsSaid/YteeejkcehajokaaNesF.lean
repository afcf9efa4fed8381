/- Package nest: corebellref.SameCore on cores that are the same, slices.Equal on error codes, corebellkeep.alive7. -/
import Derived.Test.YteeejkcehajokaaNesE
import Derived.StillTailTactics
namespace Go.Proofs.Yteeejkcehajokaa
open Go.RowKit

theorem eq_frame (x y : Bool) (w : World) : (Op.equalIn 10000 43 (.agg #[.bool x, .bool y]) (.agg #[.bool x, .bool y])).run Try.prog w = .ok true w := by
  have e : ∀ (x : Bool) (w : World), (Op.equalIn 9999 4 (.bool x) (.bool x)).run Try.prog w = .ok true w := fun x w => by rw [run_equalIn_bool w 9998 _ x x Try.underlying4]; simp
  rw [Op.equalIn]
  simp only [Sem.run_bind, run_underlying Try.underlying43, Result.andThen_ok]
  have hs : Try.prog.stoodInHeld 43 = false := by kernel_rfl
  have p0 : ∀ w : World, (part 4 #[.bool x, .bool y] 0).run Try.prog w = .ok (.bool x) w := fun w => by simp [part, Try.isAgg4, Sem.run_bind]
  have p1 : ∀ w : World, (part 4 #[.bool x, .bool y] 1).run Try.prog w = .ok (.bool y) w := fun w => by simp [part, Try.isAgg4, Sem.run_bind]
  simp [hs, Sem.run_bind, p0, p1, e]
set_option maxHeartbeats 1000000 in
set_option maxRecDepth 100000 in
theorem same_N {a1 a2 : Option Addr} {c1 c2 n : Nat} {l : List FrT} (on : Bool) (w : World) (hl : Hid (l.length = n)) (H1 : Hid (shF.At w a1 c1 l)) (H2 : Hid (shF.At w a2 c2 l)) (hn : n ≤ 9223372036854775807) :
    Calls Try.prog 13 #[.agg #[.bool on, .slice a1 n c1], .agg #[.bool on, .slice a2 n c2]] w fun e w' => e = .returned (.bool true) ∧ Below w.heap.size w w' := by
  have heq : ∀ (x y : Bool) (w : World), (Op.equalIn 10000 43 (.agg #[.bool x, .bool y]) (.agg #[.bool x, .bool y])).run Try.prog w = .ok true w := eq_frame
  have BB := Lib.hid (below_two w (.cells #[.bool on, .slice a1 n c1] 24) (.cells #[.bool on, .slice a2 n c2] 24))
  go_enter Try.func13, Try.ntmps13
  go_wp2_with fail
  go_loopw [23] (fun i wr => ∃ k : Nat, k ≤ n ∧ i = .int .i64 k ∧ ∃ q, wr = ((w.alloc (.cells #[.bool on, .slice a1 n c1] 24)).alloc (.cells #[.bool on, .slice a2 n c2] 24)).drewN q) (fun i _ => n - (intOf i).toNat)
  case atStart => exact ⟨0, Nat.zero_le _, rfl, 0, rfl⟩
  case round =>
    obtain ⟨k, hk, rfl, q, rfl⟩ := hrel
    by_cases hlt : k < n
    · obtain ⟨f, hf⟩ : ∃ f, l[k]? = some f := ⟨l[k]'(by rw [hl.out]; exact hlt), List.getElem?_eq_getElem _⟩
      obtain ⟨b, off, rfl, hb, d0, d1⟩ := at_fr H1.out hf
      obtain ⟨b2, off2, rfl, hb2, e0, e1⟩ := at_fr H2.out hf
      obtain ⟨x, y⟩ := f
      simp only at d0 d1 e0 e1
      clear hf
      go_wp2_with fail
      go_quiet (fail)
      go_wp2_with fail
      go_roundw
      case rel => exact ⟨k + 1, by omega, by go_num, _, rfl⟩
      case measure => simp [intOf]; omega
    · obtain rfl : k = n := by omega
      clear hlt hk
      go_wp2_with fail
      go_ret
      exact ⟨rfl, below_drewN BB.out _⟩
set_option maxHeartbeats 1000000 in
set_option maxRecDepth 100000 in
theorem equalE {a1 a2 : Option Addr} {c1 c2 n : Nat} {l : List Int} (w : World) (hl : Hid (l.length = n)) (H1 : Hid (shI.At w a1 c1 l)) (H2 : Hid (shI.At w a2 c2 l)) (hn : n ≤ 9223372036854775807) :
    Calls Try.prog 14 #[.slice a1 n c1, .slice a2 n c2] w fun e w' => e = .returned (.bool true) ∧ Below w.heap.size w w' := by
  go_enter Try.func14, Try.ntmps14
  go_wp2_with fail
  go_loopw [13] (fun i wr => ∃ k : Nat, k ≤ n ∧ i = .int .i64 k ∧ ∃ q, wr = w.drewN q) (fun i _ => n - (intOf i).toNat)
  case atStart => exact ⟨0, Nat.zero_le _, rfl, 0, rfl⟩
  case round =>
    obtain ⟨k, hk, rfl, q, rfl⟩ := hrel
    by_cases hlt : k < n
    · obtain ⟨x, hx⟩ : ∃ x, l[k]? = some x := ⟨l[k]'(by rw [hl.out]; exact hlt), List.getElem?_eq_getElem _⟩
      obtain ⟨b, off, rfl, _, c0⟩ := at_int H1.out hx
      obtain ⟨b2, off2, rfl, _, c1⟩ := at_int H2.out hx
      clear hx
      go_wp2_with fail
      go_quiet (fail)
      go_wp2_with fail
      go_roundw
      case rel => exact ⟨k + 1, by omega, by go_num, _, rfl⟩
      case measure => simp [intOf]; omega
    · obtain rfl : k = n := by omega
      clear hlt hk
      go_wp2_with fail
      go_ret
      exact ⟨rfl, below_drewN (Below.refl _ _) _⟩
def alK : List Int := [3, 1, 3, 4, 2, 4]
def alE : List Int := [0, 0, 7, 8, 0, 0]
theorem al_run : runN alK = (alE, ⟨true, []⟩) := by
  simp [runN, alK, alE, stepRN, errN, newN, pushN, popN, c0N]
theorem lit6 (w : World) (a b c d e f : Int) (T cap : Nat) : shI.At (w.alloc (.cells #[.int .i64 a, .int .i64 b, .int .i64 c, .int .i64 d, .int .i64 e, .int .i64 f] T)) (some ⟨w.heap.size, 0, none⟩) cap [a, b, c, d, e, f] :=
  Shape.At.lit [a, b, c, d, e, f] (heap_alloc_new w _)
set_option maxHeartbeats 1000000 in
set_option maxRecDepth 100000 in
theorem alive7_N (w : World) : Calls Try.prog 15 #[] w fun e w' => e = .returned (.bool true) ∧ Below w.heap.size w w' := by
  have B0 := Lib.hid (below_alloc w (.cells #[.int .i64 3, .int .i64 1, .int .i64 3, .int .i64 4, .int .i64 2, .int .i64 4] 3))
  have K1 : Hid (([3, 1, 3, 4, 2, 4] : List Int).length = 6) := Lib.hid rfl
  have K2 : 6 ≤ 17592186044416 := by decide
  have K22 : 6 ≤ 9223372036854775807 := by decide
  have K3 : Hid (runN [3, 1, 3, 4, 2, 4] = (alE, ⟨true, []⟩)) := Lib.hid al_run
  have K4 : Hid (([] : List FrT).length = 0) := Lib.hid rfl
  have K5 : Hid (alE.length = 6) := Lib.hid rfl
  have K8 : 0 ≤ 9223372036854775807 := by decide
  have HK := Lib.hid (lit6 w 3 1 3 4 2 4 3 6)
  go_enter Try.func15, Try.ntmps15
  go_wp2_with (first
    | (go_at_call 9; (with_reducible refine (play_N (ks := [3, 1, 3, 4, 2, 4]) _ HK K1 K2 alE true [] 0 K3 K4).mono ?_); rintro e w1 ⟨ea, ec, ra, rc, rfl, hE, hF, hb⟩; have B1 := Lib.hid (pstep (pstep B0.out hb) (below_two w1 (.cells #[.bool true, .slice ra 0 rc] 24) (.cells #[.int .i64 0, .int .i64 0, .int .i64 7, .int .i64 8, .int .i64 0, .int .i64 0] 26))); have HE1 := Lib.hid (hE.step (below_two w1 (.cells #[.bool true, .slice ra 0 rc] 24) (.cells #[.int .i64 0, .int .i64 0, .int .i64 7, .int .i64 8, .int .i64 0, .int .i64 0] 26))); have HL1 := Lib.hid (lit6 (w1.alloc (.cells #[.bool true, .slice ra 0 rc] 24)) 0 0 7 8 0 0 26 6); have HF1 := Lib.hid (hF.step (below_two w1 (.cells #[.bool true, .slice ra 0 rc] 24) (.cells #[.int .i64 0, .int .i64 0, .int .i64 7, .int .i64 8, .int .i64 0, .int .i64 0] 26))); have C1 := Lib.hid (heap_step (heap_alloc_new w1 (.cells #[.bool true, .slice ra 0 rc] 24)) (below_alloc _ (.cells #[.int .i64 0, .int .i64 0, .int .i64 7, .int .i64 8, .int .i64 0, .int .i64 0] 26))); clear hb hE hF)
    | (go_at_call 14; simp only [World.size_alloc] at HL1; (with_reducible refine (equalE (l := alE) _ K5 HE1 HL1 K22).mono ?_); rintro e w2 ⟨rfl, hb⟩; have B2 := Lib.hid (pstep B1.out hb); have C2 := pair_at (heap_step C1.out hb); have HF2 := Lib.hid (HF1.out.step hb); have HN2 := Lib.hid (Shape.At.nil (S := shF) w2); clear hb)
    | (go_at_call 13; (with_reducible refine (same_N (l := []) true _ K4 HF2 HN2 K8).mono ?_); rintro e w3 ⟨rfl, hb⟩; have B3 := Lib.hid (pstep B2.out hb); clear hb)
    | fail)
  go_ret
  exact ⟨rfl, B3.out⟩
end Go.Proofs.Yteeejkcehajokaa
