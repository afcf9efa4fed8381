/- Package runq: slices.Equal where they are alike, slices.Clone; corebellkeep.alive13. -/
import Derived.Test.YtgnpodeneknpdaaRqJ
import Derived.Test.YtgnpodeneknpdaaEqN
import Derived.Lib.SliceRun
namespace Go.Proofs.Ytgnpodeneknpdaa
open Go.RowKit

set_option maxHeartbeats 1000000 in
set_option maxRecDepth 100000 in
theorem equalE {a1 a2 : Option Addr} {c1 c2 n : Nat} {l : List Int} (w : World) (hl : Hid (l.length = n)) (H1 : Hid (shI.At w a1 c1 l)) (H2 : Hid (shI.At w a2 c2 l)) (hn : n ≤ 9223372036854775807) :
    Calls Try.prog 11 #[.slice a1 n c1, .slice a2 n c2] w fun e w' => e = .returned (.bool true) ∧ Below w.heap.size w w' := by
  go_enter Try.func11, Try.ntmps11
  go_wp2_with fail
  go_loopw [13] (fun i wr => ∃ k : Nat, k ≤ n ∧ i = .int .i64 k ∧ ∃ q, wr = w.drewN q) (fun i _ => n - (intOf i).toNat)
  case atStart => exact ⟨0, Nat.zero_le _, rfl, 0, rfl⟩
  case round =>
    obtain ⟨k, hk, rfl, q, rfl⟩ := hrel
    by_cases hlt : k < n
    · obtain ⟨x, hx⟩ : ∃ x, l[k]? = some x := ⟨l[k]'(by rw [hl.out]; exact hlt), List.getElem?_eq_getElem _⟩
      obtain ⟨b, off, rfl, _, c0⟩ := at_int H1.out hx
      obtain ⟨b2, off2, rfl, _, c1⟩ := at_int H2.out hx
      clear hx
      go_wp2_with fail
      go_quiet (fail)
      go_wp2_with fail
      go_roundw
      case rel => exact ⟨k + 1, by omega, by go_num, _, rfl⟩
      case measure => simp [intOf]; omega
    · obtain rfl : k = n := by omega
      clear hlt hk
      go_wp2_with fail
      go_ret
      exact ⟨rfl, below_drewN (Below.refl _ _) _⟩
set_option maxHeartbeats 1000000 in
set_option maxRecDepth 100000 in
theorem clone_R (xs : List RuT) (sa : Option Addr) (n c : Nat) (w : World) (H1 : Hid (xs.length = n)) (HA : Hid (shR.At w sa c xs)) (hn : n ≤ 5864062014634) :
    Calls Try.prog 14 #[.slice sa n c] w fun e w' => ∃ ra rc, e = .returned (.slice ra n rc) ∧ w'.ownsRow w.heap.size 34 3 (.slice ra n rc) n (shR.flat xs) ∧ Below w.heap.size w w' := by
  obtain ⟨i0, hi, hz0, hz1, hz2⟩ := info_parts' info_ru
  have qn : ∀ (w : World) (a : Option Addr) (n c n' c' : Nat), (binOp .eql 22 (.slice a n c) (.slice none n' c')).run Try.prog w = .ok (.bool a.isNone) w := fun w a n c n' c' => Lib.run_eql_slice_nil w _ _ a n c n' c' Try.underlying22
  cases sa with
  | none =>
    obtain ⟨rfl, hx⟩ := HA.out.1 rfl
    have hn0 : n = 0 := by rw [← H1.out, hx]; rfl
    subst hn0 hx
    clear HA H1
    go_enter Try.func14, Try.ntmps14
    go_wp2_with fail
    go_ret
    exact ⟨_, _, rfl, World.ownsRow_nil _ _ _ _, Below.refl _ _⟩
  | some a =>
    have hown : (w.alloc (.cells #[] 34)).ownsRow w.heap.size 34 3 (.slice (some ⟨w.heap.size, 0, none⟩) 0 0) 0 [] := World.ownsRow_made w #[] 0 (Nat.le_refl _) (by decide) rfl
    have HO := Lib.hid hown
    have HA2 := Lib.hid (HA.out.step (below_alloc w (.cells #[] 34)))
    clear hown
    go_enter Try.func14, Try.ntmps14
    go_wp2_with (first
      | (at_builtin; refine wpList_append_at shR rfl _ _ 22 rfl w.heap.size 34 i0 _ 24 Try.underlying22 hi hz0 hz1 hz2 rfl (.slice (some ⟨w.heap.size, 0, none⟩) 0 0) [] xs rfl HO.out (some a) n c rfl H1 HA2.out ?h63 ?hby ?hba ?_)
      | fail)
    case h63 => simp; unfold maxLen; omega
    case hby => simp; omega
    case hba => simp
    intro ra rc w3 own3 grow3 _
    have B3 : Below w.heap.size w w3 := (below_alloc w _).grown grow3 (by simp) (fun k hk => by simp [Value.ownBlock] at hk; omega)
    have O3 := Lib.hid own3
    clear own3 grow3
    go_wp2_with fail
    go_ret
    exact ⟨_, _, rfl, O3.out, B3⟩
set_option maxHeartbeats 1000000 in
set_option maxRecDepth 100000 in
theorem clone_I (xs : List Int) (sa : Option Addr) (n c : Nat) (w : World) (H1 : Hid (xs.length = n)) (HA : Hid (shI.At w sa c xs)) (hn : n ≤ 10000000000000) :
    Calls Try.prog 18 #[.slice sa n c] w fun e w' => ∃ ra rc, e = .returned (.slice ra n rc) ∧ w'.ownsRow w.heap.size 3 1 (.slice ra n rc) n (shI.flat xs) ∧ Below w.heap.size w w' := by
  obtain ⟨i0, hi, hz0, hz1, hz2⟩ := info_parts' info_int
  have qn : ∀ (w : World) (a : Option Addr) (n c n' c' : Nat), (binOp .eql 24 (.slice a n c) (.slice none n' c')).run Try.prog w = .ok (.bool a.isNone) w := fun w a n c n' c' => Lib.run_eql_slice_nil w _ _ a n c n' c' Try.underlying24
  cases sa with
  | none =>
    obtain ⟨rfl, hx⟩ := HA.out.1 rfl
    have hn0 : n = 0 := by rw [← H1.out, hx]; rfl
    subst hn0 hx
    clear HA H1
    go_enter Try.func18, Try.ntmps18
    go_wp2_with fail
    go_ret
    exact ⟨_, _, rfl, World.ownsRow_nil _ _ _ _, Below.refl _ _⟩
  | some a =>
    have hown : (w.alloc (.cells #[] 3)).ownsRow w.heap.size 3 1 (.slice (some ⟨w.heap.size, 0, none⟩) 0 0) 0 [] := World.ownsRow_made w #[] 0 (Nat.le_refl _) (by decide) rfl
    have HO := Lib.hid hown
    have HA2 := Lib.hid (HA.out.step (below_alloc w (.cells #[] 3)))
    clear hown
    go_enter Try.func18, Try.ntmps18
    go_wp2_with (first
      | (at_builtin; refine wpList_append_at shI rfl _ _ 24 rfl w.heap.size 3 i0 _ 8 Try.underlying24 hi hz0 hz1 hz2 rfl (.slice (some ⟨w.heap.size, 0, none⟩) 0 0) [] xs rfl HO.out (some a) n c rfl H1 HA2.out ?h63 ?hby ?hba ?_)
      | fail)
    case h63 => simp; unfold maxLen; omega
    case hby => simp; omega
    case hba => simp
    intro ra rc w3 own3 grow3 _
    have B3 : Below w.heap.size w w3 := (below_alloc w _).grown grow3 (by simp) (fun k hk => by simp [Value.ownBlock] at hk; omega)
    have O3 := Lib.hid own3
    clear own3 grow3
    go_wp2_with fail
    go_ret
    exact ⟨_, _, rfl, O3.out, B3⟩
/-- A reading of what lay there before stays while a row that was made later grows. -/
theorem Shape.At.same_grown {α : Type} {S : Shape α} {w0 w w' : World} {ad : Option Addr} {cap e n sz : Nat} {l : List α} {v : Value} {xs : List Value} (h : S.At w ad cap l) (ho : w.ownsRow w0.heap.size e sz v n xs) (hg : w.grownBy w' v.ownBlock) (h0 : S.At w0 ad cap l) : S.At w' ad cap l :=
  ⟨h.1, fun h1 => by
    obtain ⟨b, off, e, hlt, hl⟩ := h.2 h1
    obtain ⟨b0, off0, e', hlt0, _⟩ := h0.2 h1
    rw [e] at e'
    cases e'
    refine ⟨b, off, e, Nat.lt_of_lt_of_le hlt hg.size, fun k hk => ?_⟩
    have : w'.heap[b]? = w.heap[b]? := hg.block b hlt (fun q => by have := (own_lt ho q.symm).1; omega)
    exact (World.cell?_of_block (a := ⟨b, off + k, none⟩) this).trans (hl k hk)⟩
theorem ru_oneAt (X : World) (a : RuT) (cap : Nat) : shR.At (X.alloc (.cells #[.int .i64 a.k, .int .i64 a.i, .int .i64 a.l] 34)) (some ⟨X.heap.size, 0, none⟩) cap [a] :=
  Shape.At.lit (S := shR) [a] (heap_alloc_new X _)
theorem made6 : (madeCells (Value.int .i64 0).cells (6 * 1)).toList = shI.flat [0, 0, 0, 0, 0, 0] := by kernel_rfl
def alR : List RuT := [⟨1, 4, 2⟩, ⟨1, 5, 2⟩, ⟨2, 6, 2⟩, ⟨1, 7, 30⟩, ⟨3, 0, 0⟩, ⟨3, 0, 0⟩]
theorem al_errs : errsU newU alR = [0, 0, 0, 0, 0, 0] := by decide
theorem al_run : (runU newU alR).taken = [7, 6] ∧ leftU (runU newU alR) = [4, 5] ∧ (runU newU alR).list.length = 2 := by decide
theorem al_wf : ∀ o ∈ alR, WfI o.i := by
  intro o ho
  simp only [alR, List.mem_cons, List.not_mem_nil, or_false] at ho
  unfold WfI
  rcases ho with rfl | rfl | rfl | rfl | rfl | rfl <;> decide
theorem alPlay {b : Nat} (w : World) (HA : Hid (shR.At w (some ⟨b, 0, none⟩) 6 alR)) :
    Calls Try.prog 9 #[.slice (some ⟨b, 0, none⟩) 6 6] w fun e w' => ∃ E ta tc la lc, e = .returned (.tuple #[.slice (some ⟨E, 0, none⟩) 6 6, .slice ta 2 tc, .slice la 2 lc]) ∧ shI.At w' (some ⟨E, 0, none⟩) 6 [0, 0, 0, 0, 0, 0] ∧ shI.At w' ta tc [7, 6] ∧ shI.At w' la lc [4, 5] ∧ Below w.heap.size w w' := by
  refine (play_ok w HA (Lib.hid rfl) (by decide) (Lib.hid al_wf)).mono ?_
  rintro e w' ⟨E, ta, tc, la, lc, rfl, h1, h2, h3, h6⟩
  obtain ⟨e1, e2, e3⟩ := al_run
  rw [al_errs] at h1
  rw [e1] at h2
  rw [e2] at h3
  rw [e1, e3]
  exact ⟨E, ta, tc, la, lc, rfl, h1, h2, h3, h6⟩
set_option maxHeartbeats 1000000 in
set_option maxRecDepth 100000 in
theorem alive13_N (w : World) : Calls Try.prog 13 #[] w fun e w' => e = .returned (.bool true) ∧ Below w.heap.size w w' := by
  have B0 := Lib.hid (below_alloc w (.cells (shR.flat alR).toArray 34))
  have HO : Hid (shR.At (w.alloc (.cells (shR.flat alR).toArray 34)) (some ⟨w.heap.size, 0, none⟩) 6 alR) := Lib.hid (Shape.At.lit alR (heap_alloc_new w _))
  have N7 : 6 ≤ 9223372036854775807 := by decide
  have N1 : 2 ≤ 9223372036854775807 := by decide
  have L7 : Hid (([0, 0, 0, 0, 0, 0] : List Int).length = 6) := Lib.hid rfl
  have L4 : Hid (([7, 6] : List Int).length = 2) := Lib.hid rfl
  have L6 : Hid (([4, 5] : List Int).length = 2) := Lib.hid rfl
  have eT : (shR.flat alR).toArray = #[.int .i64 1, .int .i64 4, .int .i64 2, .int .i64 1, .int .i64 5, .int .i64 2, .int .i64 2, .int .i64 6, .int .i64 2, .int .i64 1, .int .i64 7, .int .i64 30, .int .i64 3, .int .i64 0, .int .i64 0, .int .i64 3, .int .i64 0, .int .i64 0] := rfl
  rw [eT] at B0 HO
  obtain ⟨i0, hi, hz0, hz1, hz2⟩ := info_parts info_errno
  have hb0 : i0.bytes * 6 ≤ 281474976710656 := by rw [hz2]; omega
  have hmx : 6 ≤ maxLen := by unfold maxLen; omega
  have HMC : Hid ((madeCells (Value.int .i64 0).cells (6 * 1)).toList = shI.flat [0, 0, 0, 0, 0, 0]) := Lib.hid made6
  have HI2 : Hid (∀ (w : World) (x y : Int), shI.At (w.alloc (.cells #[.int .i64 x, .int .i64 y] 3)) (some ⟨w.heap.size, 0, none⟩) 2 [x, y]) := Lib.hid fun w x y => Shape.At.lit (S := shI) [x, y] (heap_alloc_new w _)
  go_enter Try.func13, Try.ntmps13
  go_wp2_with (first
    | (go_at_call 9; (with_reducible refine (alPlay _ HO).mono ?_); rintro e w1 ⟨E, da, dc, wa, wc, rfl, hE, hD, hW, hb⟩; have B1 := Lib.hid (pstep B0.out hb); have E1 := Lib.hid hE; have D1 := Lib.hid hD; have W1 := Lib.hid hW; clear hb hE hD hW)
    | (at_make; refine wpList_make_full _ rfl _ _ 23 rfl w1.heap.size 28 i0 _ 1 Try.underlying23 hi hz0 hz1 .i64 .i64 _ _ 6 rfl rfl rfl rfl hb0 hmx (Nat.le_refl _) ?_; intro wm hown hgrow; rw [HMC.out] at hown; have X1 := Lib.hid (Shape.At.own (S := shI) hown rfl); have bm : Below w1.heap.size w1 wm := (Below.refl _ _).grown hgrow (Nat.le_refl _) (fun k hk => by cases hk); have BM := Lib.hid (pstep B1.out bm); have EM := Lib.hid (E1.out.step bm); have DM := Lib.hid (D1.out.step bm); have WM := Lib.hid (W1.out.step bm); clear hown hgrow bm)
    | (go_at_call 11; (with_reducible refine (equalE _ L7 EM X1 N7).mono ?_); rintro e w2 ⟨rfl, hb⟩; have bx := below_alloc w2 (.cells #[.int .i64 7, .int .i64 6] 3); have B2 := Lib.hid (pstep (pstep BM.out hb) bx); have D2 := Lib.hid ((DM.out.step hb).step bx); have W2 := Lib.hid ((WM.out.step hb).step bx); have X2 := Lib.hid (HI2.out w2 7 6); clear hb bx)
    | (go_at_call 12; (with_reducible refine (equalI _ L4 D2 X2 N1).mono ?_); rintro e w3 ⟨rfl, hb⟩; have bx := below_alloc w3 (.cells #[.int .i64 4, .int .i64 5] 3); have B3 := Lib.hid (pstep (pstep B2.out hb) bx); have W3 := Lib.hid ((W2.out.step hb).step bx); have X3 := Lib.hid (HI2.out w3 4 5); clear hb bx)
    | (go_at_call 12; (with_reducible refine (equalI _ L6 W3 X3 N1).mono ?_); rintro e w4 ⟨rfl, hb⟩; have B4 := Lib.hid (pstep B3.out hb); clear hb)
    | fail)
  go_ret
  exact ⟨rfl, B4.out⟩
end Go.Proofs.Ytgnpodeneknpdaa
