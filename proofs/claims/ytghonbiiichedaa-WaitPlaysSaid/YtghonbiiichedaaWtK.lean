/- Package wait: slices.Equal where they are alike, slices.Clone; corebellkeep.alive15; what a law's Play gives, its lengths by name. -/
import Derived.Test.YtghonbiiichedaaWtI
import Derived.Test.YtghonbiiichedaaEqN
import Derived.Lib.SliceRun
namespace Go.Proofs.Ytghonbiiichedaa
open Go.RowKit

set_option maxHeartbeats 1000000 in
set_option maxRecDepth 100000 in
theorem equalE {a1 a2 : Option Addr} {c1 c2 n : Nat} {l : List Int} (w : World) (hl : Hid (l.length = n)) (H1 : Hid (shI.At w a1 c1 l)) (H2 : Hid (shI.At w a2 c2 l)) (hn : n ≤ 9223372036854775807) :
    Calls Try.prog 10 #[.slice a1 n c1, .slice a2 n c2] w fun e w' => e = .returned (.bool true) ∧ Below w.heap.size w w' := by
  go_enter Try.func10, Try.ntmps10
  go_wp2_with fail
  go_loopw [13] (fun i wr => ∃ k : Nat, k ≤ n ∧ i = .int .i64 k ∧ ∃ q, wr = w.drewN q) (fun i _ => n - (intOf i).toNat)
  case atStart => exact ⟨0, Nat.zero_le _, rfl, 0, rfl⟩
  case round =>
    obtain ⟨k, hk, rfl, q, rfl⟩ := hrel
    by_cases hlt : k < n
    · obtain ⟨x, hx⟩ : ∃ x, l[k]? = some x := ⟨l[k]'(by rw [hl.out]; exact hlt), List.getElem?_eq_getElem _⟩
      obtain ⟨b, off, rfl, _, c0⟩ := at_int H1.out hx
      obtain ⟨b2, off2, rfl, _, c1⟩ := at_int H2.out hx
      clear hx
      go_wp2_with fail
      go_quiet (fail)
      go_wp2_with fail
      go_roundw
      case rel => exact ⟨k + 1, by omega, by go_num, _, rfl⟩
      case measure => simp [intOf]; omega
    · obtain rfl : k = n := by omega
      clear hlt hk
      go_wp2_with fail
      go_ret
      exact ⟨rfl, below_drewN (Below.refl _ _) _⟩
set_option maxHeartbeats 1000000 in
set_option maxRecDepth 100000 in
theorem clone_V (xs : List WvT) (sa : Option Addr) (n c : Nat) (w : World) (H1 : Hid (xs.length = n)) (HA : Hid (shV.At w sa c xs)) (hn : n ≤ 8796093021952) :
    Calls Try.prog 14 #[.slice sa n c] w fun e w' => ∃ ra rc, e = .returned (.slice ra n rc) ∧ w'.ownsRow w.heap.size 35 2 (.slice ra n rc) n (shV.flat xs) ∧ Below w.heap.size w w' := by
  obtain ⟨i0, hi, hz0, hz1, hz2⟩ := info_parts' info_wv
  have qn : ∀ (w : World) (a : Option Addr) (n c n' c' : Nat), (binOp .eql 22 (.slice a n c) (.slice none n' c')).run Try.prog w = .ok (.bool a.isNone) w := fun w a n c n' c' => Lib.run_eql_slice_nil w _ _ a n c n' c' Try.underlying22
  cases sa with
  | none =>
    obtain ⟨rfl, hx⟩ := HA.out.1 rfl
    have hn0 : n = 0 := by rw [← H1.out, hx]; rfl
    subst hn0 hx
    clear HA H1
    go_enter Try.func14, Try.ntmps14
    go_wp2_with fail
    go_ret
    exact ⟨_, _, rfl, World.ownsRow_nil _ _ _ _, Below.refl _ _⟩
  | some a =>
    have hown : (w.alloc (.cells #[] 35)).ownsRow w.heap.size 35 2 (.slice (some ⟨w.heap.size, 0, none⟩) 0 0) 0 [] := World.ownsRow_made w #[] 0 (Nat.le_refl _) (by decide) rfl
    have HO := Lib.hid hown
    have HA2 := Lib.hid (HA.out.step (below_alloc w (.cells #[] 35)))
    clear hown
    go_enter Try.func14, Try.ntmps14
    go_wp2_with (first
      | (at_builtin; refine wpList_append_at shV rfl _ _ 22 rfl w.heap.size 35 i0 _ 16 Try.underlying22 hi hz0 hz1 hz2 rfl (.slice (some ⟨w.heap.size, 0, none⟩) 0 0) [] xs rfl HO.out (some a) n c rfl H1 HA2.out ?h63 ?hby ?hba ?_)
      | fail)
    case h63 => simp; unfold maxLen; omega
    case hby => simp; omega
    case hba => simp
    intro ra rc w3 own3 grow3 _
    have B3 : Below w.heap.size w w3 := (below_alloc w _).grown grow3 (by simp) (fun k hk => by simp [Value.ownBlock] at hk; omega)
    have O3 := Lib.hid own3
    clear own3 grow3
    go_wp2_with fail
    go_ret
    exact ⟨_, _, rfl, O3.out, B3⟩
/-- A reading of what lay there before stays while a row that was made later grows. -/
theorem Shape.At.same_grown {α : Type} {S : Shape α} {w0 w w' : World} {ad : Option Addr} {cap e n sz : Nat} {l : List α} {v : Value} {xs : List Value} (h : S.At w ad cap l) (ho : w.ownsRow w0.heap.size e sz v n xs) (hg : w.grownBy w' v.ownBlock) (h0 : S.At w0 ad cap l) : S.At w' ad cap l :=
  ⟨h.1, fun h1 => by
    obtain ⟨b, off, e, hlt, hl⟩ := h.2 h1
    obtain ⟨b0, off0, e', hlt0, _⟩ := h0.2 h1
    rw [e] at e'
    cases e'
    refine ⟨b, off, e, Nat.lt_of_lt_of_le hlt hg.size, fun k hk => ?_⟩
    have : w'.heap[b]? = w.heap[b]? := hg.block b hlt (fun q => by have := (own_lt ho q.symm).1; omega)
    exact (World.cell?_of_block (a := ⟨b, off + k, none⟩) this).trans (hl k hk)⟩
theorem wv_oneAt (X : World) (a : WvT) (cap : Nat) : shV.At (X.alloc (.cells #[.int .i64 a.k, .int .i64 a.t] 35)) (some ⟨X.heap.size, 0, none⟩) cap [a] :=
  Shape.At.lit (S := shV) [a] (heap_alloc_new X _)
theorem wv_twoAt (X : World) (a b : WvT) (cap : Nat) : shV.At (X.alloc (.cells #[.int .i64 a.k, .int .i64 a.t, .int .i64 b.k, .int .i64 b.t] 35)) (some ⟨X.heap.size, 0, none⟩) cap [a, b] :=
  Shape.At.lit (S := shV) [a, b] (heap_alloc_new X _)
def alV : List WvT := [⟨1, 3⟩, ⟨2, 3⟩, ⟨4, 0⟩, ⟨3, 3⟩, ⟨2, 3⟩, ⟨1, 5⟩, ⟨3, 5⟩]
theorem al_errs : errsV newV alV = [0, 6, 0, 0, 0, 0, 0] := by decide
theorem al_run : (runV newV alV).got = [3] ∧ slpL (runV newV alV).line = [5] ∧ (runV newV alV).things = 0 := by decide
theorem alPlay {b : Nat} (w : World) (HA : Hid (shV.At w (some ⟨b, 0, none⟩) 7 alV)) :
    Calls Try.prog 8 #[.slice (some ⟨b, 0, none⟩) 7 7] w fun e w' => ∃ E ga gc la lc, e = .returned (.tuple #[.slice (some ⟨E, 0, none⟩) 7 7, .slice ga 1 gc, .slice la 1 lc, .int .i64 0]) ∧ shI.At w' (some ⟨E, 0, none⟩) 7 [0, 6, 0, 0, 0, 0, 0] ∧ shI.At w' ga gc [3] ∧ shI.At w' la lc [5] ∧ Below w.heap.size w w' := by
  refine (play_ok w HA (Lib.hid rfl) (by decide)).mono ?_
  rintro e w' ⟨E, ta, tc, la, lc, rfl, h1, h2, h3, h6⟩
  obtain ⟨e1, e2, e3⟩ := al_run
  rw [al_errs] at h1
  rw [e1] at h2
  rw [e2] at h3
  rw [e1, e2, e3]
  exact ⟨E, ta, tc, la, lc, rfl, h1, h2, h3, h6⟩
set_option maxHeartbeats 1000000 in
set_option maxRecDepth 100000 in
theorem alive15_N (w : World) : Calls Try.prog 12 #[] w fun e w' => e = .returned (.bool true) ∧ Below w.heap.size w w' := by
  have B0 := Lib.hid (below_alloc w (.cells (shV.flat alV).toArray 35))
  have HO : Hid (shV.At (w.alloc (.cells (shV.flat alV).toArray 35)) (some ⟨w.heap.size, 0, none⟩) 7 alV) := Lib.hid (Shape.At.lit alV (heap_alloc_new w _))
  have N7 : 7 ≤ 9223372036854775807 := by decide
  have N1 : 1 ≤ 9223372036854775807 := by decide
  have L7 : Hid (([0, 6, 0, 0, 0, 0, 0] : List Int).length = 7) := Lib.hid rfl
  have L4 : Hid (([3] : List Int).length = 1) := Lib.hid rfl
  have L6 : Hid (([5] : List Int).length = 1) := Lib.hid rfl
  have eT : (shV.flat alV).toArray = #[.int .i64 1, .int .i64 3, .int .i64 2, .int .i64 3, .int .i64 4, .int .i64 0, .int .i64 3, .int .i64 3, .int .i64 2, .int .i64 3, .int .i64 1, .int .i64 5, .int .i64 3, .int .i64 5] := rfl
  rw [eT] at B0 HO
  have HE : Hid (∀ w : World, shI.At (w.alloc (.cells #[.int .i64 0, .int .i64 6, .int .i64 0, .int .i64 0, .int .i64 0, .int .i64 0, .int .i64 0] 28)) (some ⟨w.heap.size, 0, none⟩) 7 [0, 6, 0, 0, 0, 0, 0]) := Lib.hid fun w => Shape.At.lit (S := shI) [0, 6, 0, 0, 0, 0, 0] (heap_alloc_new w _)
  go_enter Try.func12, Try.ntmps12
  go_wp2_with (first
    | (go_at_call 8; (with_reducible refine (alPlay _ HO).mono ?_); rintro e w1 ⟨E, da, dc, wa, wc, rfl, hE, hD, hW, hb⟩; have bx := below_alloc w1 (.cells #[.int .i64 0, .int .i64 6, .int .i64 0, .int .i64 0, .int .i64 0, .int .i64 0, .int .i64 0] 28); have B1 := Lib.hid (pstep (pstep B0.out hb) bx); have E1 := Lib.hid (hE.step bx); have D1 := Lib.hid (hD.step bx); have W1 := Lib.hid (hW.step bx); have X1 := Lib.hid (HE.out w1); clear hb hE hD hW bx)
    | (go_at_call 10; (with_reducible refine (equalE _ L7 E1 X1 N7).mono ?_); rintro e w2 ⟨rfl, hb⟩; have bx := below_alloc w2 (.cells #[.int .i64 3] 3); have B2 := Lib.hid (pstep (pstep B1.out hb) bx); have D2 := Lib.hid ((D1.out.step hb).step bx); have W2 := Lib.hid ((W1.out.step hb).step bx); have X2 := Lib.hid (int_lit w2 3 1); clear hb bx)
    | (go_at_call 11; (with_reducible refine (equalI _ L4 D2 X2 N1).mono ?_); rintro e w3 ⟨rfl, hb⟩; have bx := below_alloc w3 (.cells #[.int .i64 5] 3); have B3 := Lib.hid (pstep (pstep B2.out hb) bx); have W3 := Lib.hid ((W2.out.step hb).step bx); have X3 := Lib.hid (int_lit w3 5 1); clear hb bx)
    | (go_at_call 11; (with_reducible refine (equalI _ L6 W3 X3 N1).mono ?_); rintro e w4 ⟨rfl, hb⟩; have B4 := Lib.hid (pstep B3.out hb); clear hb)
    | fail)
  go_ret
  exact ⟨rfl, B4.out⟩
def PlayN (w : World) (n gn sn th : Nat) (es : List Int) (s : StV) (e : Ending) (w' : World) : Prop :=
  ∃ E ga gc la lc, e = .returned (.tuple #[.slice (some ⟨E, 0, none⟩) n n, .slice ga gn gc, .slice la sn lc, .int .i64 (th : Nat)]) ∧ shI.At w' (some ⟨E, 0, none⟩) n es ∧ shI.At w' ga gc s.got ∧ shI.At w' la lc (slpL s.line) ∧ Below w.heap.size w w'
theorem play_res {ops : List WvT} {n gn sn th : Nat} (hm : Hid (ops.length = n)) (hn : n ≤ 10000000000000) {es : List Int} {s : StV} (he : Hid (errsV newV ops = es)) (hs : Hid (runV newV ops = s)) (hg : Hid (s.got.length = gn)) (hl : Hid ((slpL s.line).length = sn)) (ht : Hid (s.things = th)) (ad : Option Addr) (cap : Nat) (X : World) (HX : Hid (shV.At X ad cap ops)) :
    Calls Try.prog 8 #[.slice ad n cap] X (PlayN X n gn sn th es s) := by
  have h := play_ok X HX hm hn
  rw [he.out, hs.out] at h
  refine h.mono ?_
  rintro e w' ⟨E, ta, tc, la, lc, rfl, h1, h2, h3, h4⟩
  rw [hg.out, hl.out, ht.out]
  exact ⟨E, ta, tc, la, lc, rfl, h1, h2, h3, h4⟩
end Go.Proofs.Ytghonbiiichedaa
