/- corebellref.SameTty; corebellkeep.alive17. -/
import Derived.Test.YtomgifdnnfbpnaaDoorTyG
namespace Go.Proofs.YtomgifdnnfbpnaaDoor
open Go.RowKit

theorem below_drewN {W : Nat} {w w' : World} (h : Below W w w') (q : Nat) : Below W w (w'.drewN q) := ⟨h.os, h.tape, h.output, h.size, h.block⟩
/-- Two boxes of a call. -/
structure Sm (w wr : World) (x y x' y' : Value) : Prop where
  b : Below w.heap.size w wr
  d : wr.heap[w.heap.size]? = some (.cells #[x, y] tT (0, 0))
  e : wr.heap[w.heap.size + 1]? = some (.cells #[x', y'] tT (0, 0))
theorem Sm.step {w wr wx : World} {x y x' y' : Value} (h : Sm w wr x y x' y') (hb : Below wr.heap.size wr wx) : Sm w wx x y x' y' := ⟨pstep h.b hb, heap_step h.d hb, heap_step h.e hb⟩
set_option maxHeartbeats 2000000 in
set_option maxRecDepth 100000 in
theorem same_T {xa xb ya yb : Option Addr} {xc xd yc yd n m : Nat} {ls : List (List UInt8)} {edit : List UInt8} (w : World) (hn : Hid (ls.length = n)) (hm : Hid (edit.length = m)) (hn4 : n ≤ 9223372036854775807) (H1 : Hid (LnsAt w xa xc ls)) (H2 : Hid (shB.At w xb xd edit)) (H3 : Hid (LnsAt w ya yc ls)) (H4 : Hid (shB.At w yb yd edit)) :
    Calls Tryd.prog 15 #[.agg #[.slice xa n xc, .slice xb m xd], .agg #[.slice ya n yc, .slice yb m yd]] w fun e w' => e = .returned (.bool true) ∧ Below w.heap.size w w' := by
  have c1 : ∀ A B, (convert 23 9 (.slice xb m xd)).run Tryd.prog ((w.alloc A).alloc B) = .ok (.string (strB edit)) ((w.alloc A).alloc B) := fun A B => conv_at (H2.out.step (below_two w A B)) hm.out
  have c2 : ∀ A B, (convert 23 9 (.slice yb m yd)).run Tryd.prog ((w.alloc A).alloc B) = .ok (.string (strB edit)) ((w.alloc A).alloc B) := fun A B => conv_at (H4.out.step (below_two w A B)) hm.out
  have S0 : Hid (Sm w ((w.alloc (.cells #[.slice xa n xc, .slice xb m xd] 25)).alloc (.cells #[.slice ya n yc, .slice yb m yd] 25)) (.slice xa n xc) (.slice xb m xd) (.slice ya n yc) (.slice yb m yd)) := Lib.hid ⟨below_two w _ _, heap_step (heap_alloc_new w _) (below_alloc _ _), heap_alloc2_new w _ _⟩
  go_enter Tryd.func15, Tryd.ntmps15
  go_wp2_with fail
  generalize (w.alloc (.cells #[.slice xa n xc, .slice xb m xd] 25)).alloc (.cells #[.slice ya n yc, .slice yb m yd] 25) = wx at S0 ⊢
  clear c1 c2
  go_loopw [25] (fun i wr => ∃ k : Nat, k ≤ n ∧ i = .int .i64 k ∧ Hid (Sm w wr (.slice xa n xc) (.slice xb m xd) (.slice ya n yc) (.slice yb m yd))) (fun i _ => n - (intOf i).toNat)
  case atStart => exact ⟨0, Nat.zero_le _, rfl, S0⟩
  case round =>
    obtain ⟨k, hk, rfl, HS⟩ := hrel
    clear S0
    by_cases hlt : k < n
    · obtain ⟨l, hl⟩ : ∃ l, ls[k]? = some l := ⟨ls[k]'(by rw [hn.out]; exact hlt), List.getElem?_eq_getElem _⟩
      obtain ⟨b1, o1, a1, d1, rfl, hb1, hc1, ha1⟩ := at_line (H1.out.step HS.out.b) hl
      obtain ⟨b2, o2, a2, d2, rfl, hb2, hc2, ha2⟩ := at_line (H3.out.step HS.out.b) hl
      have e1 : ∀ q, (convert 23 9 (.slice a1 l.length d1)).run Tryd.prog (wr.drewN q) = .ok (.string (strB l)) (wr.drewN q) := fun q => conv_at (ha1.step (below_drewN (Below.refl _ _) q)) rfl
      have e2 : ∀ q, (convert 23 9 (.slice a2 l.length d2)).run Tryd.prog (wr.drewN q) = .ok (.string (strB l)) (wr.drewN q) := fun q => conv_at (ha2.step (below_drewN (Below.refl _ _) q)) rfl
      have G1 := pair_at HS.out.d
      have G2 := pair_at HS.out.e
      have l1 := heap_lt HS.out.d
      have l2 := heap_lt HS.out.e
      clear ha1 ha2
      go_wp2_with fail
      go_quiet (fail)
      have S2 := Lib.hid (HS.out.step (below_drewN (Below.refl _ _) nq))
      clear e1 e2 G1 G2 l1 l2 hc1 hc2
      generalize wr.drewN nq = w2 at S2 ⊢
      go_wp2_with fail
      go_roundw
      case rel => exact ⟨k + 1, by omega, by go_num, S2⟩
      case measure => simp [intOf]; omega
    · obtain rfl : k = n := by omega
      go_wp2_with fail
      go_ret
      exact ⟨rfl, HS.out.b⟩
end Go.Proofs.YtomgifdnnfbpnaaDoor
