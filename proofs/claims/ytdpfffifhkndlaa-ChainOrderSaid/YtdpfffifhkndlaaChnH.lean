/- Package chain: slices.Equal on numbers and on handlers, '==' on tallies, corebellkeep.left and alive9. -/
import Derived.Test.YtdpfffifhkndlaaChnE
import Derived.BigQuiet
import Derived.Deep.QuietTactic
namespace Go.Proofs.Ytdpfffifhkndlaa
open Go.RowKit

set_option maxHeartbeats 1000000 in
set_option maxRecDepth 100000 in
theorem equalI {a1 a2 : Option Addr} {c1 c2 n : Nat} {l : List Int} (w : World) (hl : Hid (l.length = n)) (H1 : Hid (shI.At w a1 c1 l)) (H2 : Hid (shI.At w a2 c2 l)) (hn : n ≤ 9223372036854775807) :
    Calls Try.prog 13 #[.slice a1 n c1, .slice a2 n c2] w fun e w' => e = .returned (.bool true) ∧ Below w.heap.size w w' := by
  go_enter Try.func13, Try.ntmps13
  go_wp2_with fail
  go_loopw [13] (fun i wr => ∃ k : Nat, k ≤ n ∧ i = .int .i64 k ∧ ∃ q, wr = w.drewN q) (fun i _ => n - (intOf i).toNat)
  case atStart => exact ⟨0, Nat.zero_le _, rfl, 0, rfl⟩
  case round =>
    obtain ⟨k, hk, rfl, q, rfl⟩ := hrel
    by_cases hlt : k < n
    · obtain ⟨x, hx⟩ : ∃ x, l[k]? = some x := ⟨l[k]'(by rw [hl.out]; exact hlt), List.getElem?_eq_getElem _⟩
      obtain ⟨b, off, rfl, _, c0⟩ := at_int H1.out hx
      obtain ⟨b2, off2, rfl, _, c1⟩ := at_int H2.out hx
      clear hx
      go_wp2_with fail
      go_quiet (fail)
      go_wp2_with fail
      go_roundw
      case rel => exact ⟨k + 1, by omega, by go_num, _, rfl⟩
      case measure => simp [intOf]; omega
    · obtain rfl : k = n := by omega
      clear hlt hk
      go_wp2_with fail
      go_ret
      exact ⟨rfl, below_drewN (Below.refl _ _) _⟩
theorem eq_handler (x y : Int) (w : World) : (Op.equalIn 10000 32 (.agg #[.int .i64 x, .int .i64 y]) (.agg #[.int .i64 x, .int .i64 y])).run Try.prog w = .ok true w := by
  have e : ∀ (x : Int) (w : World), (Op.equalIn 9999 3 (.int .i64 x) (.int .i64 x)).run Try.prog w = .ok true w := fun x w => by rw [run_equalIn_int w 9998 _ _ _ x x Try.underlying3]; simp
  rw [Op.equalIn]
  simp only [Sem.run_bind, run_underlying Try.underlying32, Result.andThen_ok]
  have hs : Try.prog.stoodInHeld 32 = false := by kernel_rfl
  have p0 : ∀ w : World, (part 3 #[.int .i64 x, .int .i64 y] 0).run Try.prog w = .ok (.int .i64 x) w := fun w => by simp [part, Try.isAgg3, Sem.run_bind]
  have p1 : ∀ w : World, (part 3 #[.int .i64 x, .int .i64 y] 1).run Try.prog w = .ok (.int .i64 y) w := fun w => by simp [part, Try.isAgg3, Sem.run_bind]
  simp [hs, Sem.run_bind, p0, p1, e]
theorem eq_tally (x y : Int) (b : Bool) (w : World) : (Op.equalIn 10000 24 (.agg #[.int .i64 x, .int .i64 y, .bool b]) (.agg #[.int .i64 x, .int .i64 y, .bool b])).run Try.prog w = .ok true w := by
  have e : ∀ (x : Int) (w : World), (Op.equalIn 9999 3 (.int .i64 x) (.int .i64 x)).run Try.prog w = .ok true w := fun x w => by rw [run_equalIn_int w 9998 _ _ _ x x Try.underlying3]; simp
  have eb : ∀ (x : Bool) (w : World), (Op.equalIn 9999 4 (.bool x) (.bool x)).run Try.prog w = .ok true w := fun x w => by rw [run_equalIn_bool w 9998 _ x x Try.underlying4]; simp
  rw [Op.equalIn]
  simp only [Sem.run_bind, run_underlying Try.underlying24, Result.andThen_ok]
  have hs : Try.prog.stoodInHeld 24 = false := by kernel_rfl
  have p0 : ∀ w : World, (part 3 #[.int .i64 x, .int .i64 y, .bool b] 0).run Try.prog w = .ok (.int .i64 x) w := fun w => by simp [part, Try.isAgg3, Sem.run_bind]
  have p1 : ∀ w : World, (part 3 #[.int .i64 x, .int .i64 y, .bool b] 1).run Try.prog w = .ok (.int .i64 y) w := fun w => by simp [part, Try.isAgg3, Sem.run_bind]
  have p2 : ∀ w : World, (part 4 #[.int .i64 x, .int .i64 y, .bool b] 2).run Try.prog w = .ok (.bool b) w := fun w => by simp [part, Try.isAgg4, Sem.run_bind]
  simp [hs, Sem.run_bind, p0, p1, p2, e, eb]
set_option maxHeartbeats 1000000 in
set_option maxRecDepth 100000 in
theorem equalH {a1 a2 : Option Addr} {c1 c2 n : Nat} {l : List HdT} (w : World) (hl : Hid (l.length = n)) (H1 : Hid (shH.At w a1 c1 l)) (H2 : Hid (shH.At w a2 c2 l)) (hn : n ≤ 9223372036854775807) :
    Calls Try.prog 12 #[.slice a1 n c1, .slice a2 n c2] w fun e w' => e = .returned (.bool true) ∧ Below w.heap.size w w' := by
  have heq : ∀ (x y : Int) (w : World), (Op.equalIn 10000 32 (.agg #[.int .i64 x, .int .i64 y]) (.agg #[.int .i64 x, .int .i64 y])).run Try.prog w = .ok true w := eq_handler
  go_enter Try.func12, Try.ntmps12
  go_wp2_with fail
  go_loopw [13] (fun i wr => ∃ k : Nat, k ≤ n ∧ i = .int .i64 k ∧ ∃ q, wr = w.drewN q) (fun i _ => n - (intOf i).toNat)
  case atStart => exact ⟨0, Nat.zero_le _, rfl, 0, rfl⟩
  case round =>
    obtain ⟨k, hk, rfl, q, rfl⟩ := hrel
    by_cases hlt : k < n
    · obtain ⟨f, hf⟩ : ∃ f, l[k]? = some f := ⟨l[k]'(by rw [hl.out]; exact hlt), List.getElem?_eq_getElem _⟩
      obtain ⟨b, off, rfl, _, c0, c1⟩ := at_hd H1.out hf
      obtain ⟨b2, off2, rfl, _, e0, e1⟩ := at_hd H2.out hf
      obtain ⟨x, y⟩ := f
      simp only at c0 c1 e0 e1
      clear hf
      go_wp2_with fail
      go_quiet (fail)
      go_wp2_with fail
      go_roundw
      case rel => exact ⟨k + 1, by omega, by go_num, _, rfl⟩
      case measure => simp [intOf]; omega
    · obtain rfl : k = n := by omega
      clear hlt hk
      go_wp2_with fail
      go_ret
      exact ⟨rfl, below_drewN (Below.refl _ _) _⟩
theorem left_append : ∀ l m : List HdT, leftI (l ++ m) = leftI l + leftI m
  | [], m => by simp [leftI]
  | h :: l, m => by simp only [List.cons_append, leftI, left_append l m]; omega
theorem left_next {l : List HdT} {k : Nat} {f : HdT} (hf : l[k]? = some f) : leftI (l.take (k + 1)) = leftI (l.take k) + f.left := by
  rw [take_next hf, left_append]; simp [leftI]
theorem left_big : ∀ {l : List HdT}, (∀ h ∈ l, 0 ≤ h.left ∧ h.left ≤ 1099511627776) → 0 ≤ leftI l ∧ leftI l ≤ l.length * 1099511627776
  | [], _ => by simp [leftI]
  | h :: l, hl => by
    have h1 := left_big (l := l) fun x hx => hl x (List.mem_cons_of_mem _ hx)
    have h2 := hl h List.mem_cons_self
    simp only [leftI, List.length_cons]
    omega
theorem left_take {l : List HdT} (hr : RtI l) (k : Nat) : 0 ≤ leftI (l.take k) ∧ leftI (l.take k) ≤ 17592186044416 := by
  have h1 := left_big (l := l.take k) fun x hx => (hr.2 x (List.mem_of_mem_take hx)).2
  have h2 : (l.take k).length ≤ l.length := by rw [List.length_take]; omega
  have h3 := hr.1
  omega
set_option maxHeartbeats 1000000 in
set_option maxRecDepth 100000 in
theorem left_N {ad : Option Addr} {cap n : Nat} {l : List HdT} (w : World) (HA : Hid (shH.At w ad cap l)) (hm : Hid (l.length = n)) (HR : Hid (RtI l)) (v : Int) (hv : Hid (leftI l = v)) :
    Calls Try.prog 18 #[.slice ad n cap] w fun e w' => e = .returned (.int .i64 v) ∧ Below w.heap.size w w' := by
  have hn16 : n ≤ 16 := by rw [← hm.out]; exact HR.out.1
  go_enter Try.func18, Try.ntmps18
  go_wp2_with fail
  go_loopw [3, 8] (fun s i wr => ∃ (k : Nat) (x : Int), k ≤ n ∧ i = .int .i64 k ∧ s = .int .i64 x ∧ Hid (leftI (l.take k) = x) ∧ Hid (Below w.heap.size w wr)) (fun _ i _ => n - (intOf i).toNat)
  case atStart => exact ⟨0, 0, Nat.zero_le _, rfl, rfl, Lib.hid rfl, Lib.hid (Below.refl _ _)⟩
  case round =>
    obtain ⟨k, x, hk, rfl, rfl, HX, HB⟩ := hrel
    by_cases hlt : k < n
    · obtain ⟨f, hf⟩ : ∃ f, l[k]? = some f := ⟨l[k]'(by rw [hm.out]; exact hlt), List.getElem?_eq_getElem _⟩
      obtain ⟨b, off, rfl, hb, c0, c1⟩ := at_hd (HA.out.step HB.out) hf
      have h1 := left_take HR.out k
      rw [HX.out] at h1
      obtain ⟨_, h2, h3⟩ := rt_at HR.out hf
      have HX2 : Hid (leftI (l.take (k + 1)) = x + f.left) := Lib.hid (by rw [left_next hf, HX.out])
      obtain ⟨p, y⟩ := f
      simp only at c0 c1 h2 h3
      have BN := Lib.hid (pstep HB.out (below_alloc wr (.cells #[.int .i64 p, .int .i64 y] 32)))
      clear hf
      go_wp2_with fail
      go_roundw
      case rel => exact ⟨k + 1, x + y, by omega, by go_num, rfl, HX2, BN⟩
      case measure => simp [intOf]; omega
    · obtain rfl : k = n := by omega
      obtain rfl : x = v := by rw [← HX.out, ← hv.out, ← hm.out, List.take_length]
      go_wp2_with fail
      go_ret
      exact ⟨rfl, HB.out⟩
def alH : List HdT := [⟨1, 1⟩, ⟨2, 2⟩]
theorem al_rt : RtI alH := by decide
theorem al_came : cameI alH 9 = 7 := by decide
theorem al_waks : intL (waksI alH 7) = [1, 1] := by decide
theorem al_tal : (talI alH 7).came = 7 ∧ (talI alH 7).nobody = 5 ∧ (talI alH 7).off = true := by decide
theorem lit2 (w : World) (a b : Int) (T cap : Nat) : shI.At (w.alloc (.cells #[.int .i64 a, .int .i64 b] T)) (some ⟨w.heap.size, 0, none⟩) cap [a, b] :=
  Shape.At.lit [a, b] (heap_alloc_new w _)
theorem alPlay {b : Nat} (w : World) (HA : Hid (shH.At w (some ⟨b, 0, none⟩) 2 alH)) :
    Calls Try.prog 14 #[.slice (some ⟨b, 0, none⟩) 2 2, .int .i64 9] w fun e w' => ∃ ra rc wa wc, e = .returned (.tuple #[.slice ra 2 rc, .slice wa 2 wc, .agg #[.int .i64 7, .int .i64 5, .bool true], .int .i64 0]) ∧ shI.At w' wa wc [1, 1] ∧ Below w.heap.size w w' := by
  refine (play_ok 9 w HA (Lib.hid rfl) (Lib.hid (decide_eq_true al_rt)) (by decide) 7 (Lib.hid al_came)).mono ?_
  rintro e w' ⟨ra, rc, wa, wc, rfl, _, h2, h3⟩
  have hl : (waksI alH 7).length = 2 := by decide
  rw [al_tal.1, al_tal.2.1, al_tal.2.2, hl]
  rw [al_waks] at h2
  exact ⟨ra, rc, wa, wc, rfl, h2, h3⟩
set_option maxHeartbeats 1000000 in
set_option maxRecDepth 100000 in
theorem alive9_N (w : World) : Calls Try.prog 16 #[] w fun e w' => e = .returned (.bool true) ∧ Below w.heap.size w w' := by
  have heq : ∀ (x y : Int) (b : Bool) (w : World), (Op.equalIn 10000 24 (.agg #[.int .i64 x, .int .i64 y, .bool b]) (.agg #[.int .i64 x, .int .i64 y, .bool b])).run Try.prog w = .ok true w := eq_tally
  have B0 := Lib.hid (below_alloc w (.cells #[.int .i64 1, .int .i64 1, .int .i64 2, .int .i64 2] 32))
  have HO : Hid (shH.At (w.alloc (.cells #[.int .i64 1, .int .i64 1, .int .i64 2, .int .i64 2] 32)) (some ⟨w.heap.size, 0, none⟩) 2 alH) := Lib.hid (Shape.At.lit alH (heap_alloc_new w _))
  have L2 : Hid (([1, 1] : List Int).length = 2) := Lib.hid rfl
  have N2 : 2 ≤ 9223372036854775807 := by decide
  go_enter Try.func16, Try.ntmps16
  go_wp2_with (first
    | (go_at_call 14; (with_reducible refine (alPlay _ HO).mono ?_); rintro e w1 ⟨ra, rc, wa, wc, rfl, hW, hb⟩; have B1 := Lib.hid ((pstep B0.out hb).trans (below_two w1 (.cells #[.int .i64 7, .int .i64 5, .bool true] 24) (.cells #[.int .i64 1, .int .i64 1] 3) |>.mono (pstep B0.out hb).size)); have T1 := Lib.hid (heap_step (heap_alloc_new w1 (.cells #[.int .i64 7, .int .i64 5, .bool true] 24)) (below_alloc _ (.cells #[.int .i64 1, .int .i64 1] 3))); have W1 := Lib.hid (hW.step (below_two w1 (.cells #[.int .i64 7, .int .i64 5, .bool true] 24) (.cells #[.int .i64 1, .int .i64 1] 3))); have X1 := Lib.hid (lit2 (w1.alloc (.cells #[.int .i64 7, .int .i64 5, .bool true] 24)) 1 1 3 2); simp only [World.size_alloc] at X1; clear hb hW)
    | (go_at_call 13; (with_reducible refine (equalI _ L2 W1 X1 N2).mono ?_); rintro e w2 ⟨rfl, hb⟩; have B2 := Lib.hid (pstep B1.out hb); have T2 := trio_at (heap_step T1.out hb); clear hb)
    | fail)
  go_ret
  exact ⟨rfl, B2.out⟩
end Go.Proofs.Ytdpfffifhkndlaa
