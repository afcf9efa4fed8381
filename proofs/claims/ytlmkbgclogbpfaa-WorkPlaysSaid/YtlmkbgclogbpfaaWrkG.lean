/- Package work: slices.Clone of operations and of numbers; what a law's Play gives. -/
import Derived.Test.YtlmkbgclogbpfaaWrkF
namespace Go.Proofs.Ytlmkbgclogbpfaa
open Go.RowKit

set_option maxHeartbeats 1000000 in
set_option maxRecDepth 100000 in
theorem clone_W (xs : List WoT) (sa : Option Addr) (n c : Nat) (w : World) (H1 : Hid (xs.length = n)) (HA : Hid (shO.At w sa c xs)) (hn : n ≤ 8796093021952) :
    Calls Try.prog 14 #[.slice sa n c] w fun e w' => ∃ ra rc, e = .returned (.slice ra n rc) ∧ w'.ownsRow w.heap.size 33 2 (.slice ra n rc) n (shO.flat xs) ∧ Below w.heap.size w w' := by
  obtain ⟨i0, hi, hz0, hz1, hz2⟩ := info_parts' info_wo
  have qn : ∀ (w : World) (a : Option Addr) (n c n' c' : Nat), (binOp .eql 22 (.slice a n c) (.slice none n' c')).run Try.prog w = .ok (.bool a.isNone) w := fun w a n c n' c' => Lib.run_eql_slice_nil w _ _ a n c n' c' Try.underlying22
  cases sa with
  | none =>
    obtain ⟨rfl, hx⟩ := HA.out.1 rfl
    have hn0 : n = 0 := by rw [← H1.out, hx]; rfl
    subst hn0 hx
    clear HA H1
    go_enter Try.func14, Try.ntmps14
    go_wp2_with fail
    go_ret
    exact ⟨_, _, rfl, World.ownsRow_nil _ _ _ _, Below.refl _ _⟩
  | some a =>
    have hown : (w.alloc (.cells #[] 33)).ownsRow w.heap.size 33 2 (.slice (some ⟨w.heap.size, 0, none⟩) 0 0) 0 [] := World.ownsRow_made w #[] 0 (Nat.le_refl _) (by decide) rfl
    have HO := Lib.hid hown
    have HA2 := Lib.hid (HA.out.step (below_alloc w (.cells #[] 33)))
    clear hown
    go_enter Try.func14, Try.ntmps14
    go_wp2_with (first
      | (at_builtin; refine wpList_append_at shO rfl _ _ 22 rfl w.heap.size 33 i0 _ 16 Try.underlying22 hi hz0 hz1 hz2 rfl (.slice (some ⟨w.heap.size, 0, none⟩) 0 0) [] xs rfl HO.out (some a) n c rfl H1 HA2.out ?h63 ?hby ?hba ?_)
      | fail)
    case h63 => simp; unfold maxLen; omega
    case hby => simp; omega
    case hba => simp
    intro ra rc w3 own3 grow3 _
    have B3 : Below w.heap.size w w3 := (below_alloc w _).grown grow3 (by simp) (fun k hk => by simp [Value.ownBlock] at hk; omega)
    have O3 := Lib.hid own3
    clear own3 grow3
    go_wp2_with fail
    go_ret
    exact ⟨_, _, rfl, O3.out, B3⟩
set_option maxHeartbeats 1000000 in
set_option maxRecDepth 100000 in
theorem clone_I (xs : List Int) (sa : Option Addr) (n c : Nat) (w : World) (H1 : Hid (xs.length = n)) (HA : Hid (shI.At w sa c xs)) (hn : n ≤ 1000000) :
    Calls Try.prog 13 #[.slice sa n c] w fun e w' => ∃ ra rc, e = .returned (.slice ra n rc) ∧ w'.ownsRow w.heap.size 3 1 (.slice ra n rc) n (shI.flat xs) ∧ Below w.heap.size w w' := by
  obtain ⟨i0, hi, hz0, hz1, hz2⟩ := info_parts' info_int
  have qn : ∀ (w : World) (a : Option Addr) (n c n' c' : Nat), (binOp .eql 24 (.slice a n c) (.slice none n' c')).run Try.prog w = .ok (.bool a.isNone) w := fun w a n c n' c' => Lib.run_eql_slice_nil w _ _ a n c n' c' Try.underlying24
  cases sa with
  | none =>
    obtain ⟨rfl, hx⟩ := HA.out.1 rfl
    have hn0 : n = 0 := by rw [← H1.out, hx]; rfl
    subst hn0 hx
    clear HA H1
    go_enter Try.func13, Try.ntmps13
    go_wp2_with fail
    go_ret
    exact ⟨_, _, rfl, World.ownsRow_nil _ _ _ _, Below.refl _ _⟩
  | some a =>
    have hown : (w.alloc (.cells #[] 3)).ownsRow w.heap.size 3 1 (.slice (some ⟨w.heap.size, 0, none⟩) 0 0) 0 [] := World.ownsRow_made w #[] 0 (Nat.le_refl _) (by decide) rfl
    have HO := Lib.hid hown
    have HA2 := Lib.hid (HA.out.step (below_alloc w (.cells #[] 3)))
    clear hown
    go_enter Try.func13, Try.ntmps13
    go_wp2_with (first
      | (at_builtin; refine wpList_append_at shI rfl _ _ 24 rfl w.heap.size 3 i0 _ 8 Try.underlying24 hi hz0 hz1 hz2 rfl (.slice (some ⟨w.heap.size, 0, none⟩) 0 0) [] xs rfl HO.out (some a) n c rfl H1 HA2.out ?h63 ?hby ?hba ?_)
      | fail)
    case h63 => simp; unfold maxLen; omega
    case hby => simp; omega
    case hba => simp
    intro ra rc w3 own3 grow3 _
    have B3 : Below w.heap.size w w3 := (below_alloc w _).grown grow3 (by simp) (fun k hk => by simp [Value.ownBlock] at hk; omega)
    have O3 := Lib.hid own3
    clear own3 grow3
    go_wp2_with fail
    go_ret
    exact ⟨_, _, rfl, O3.out, B3⟩
/-- A reading of what lay there before stays while a row that was made later grows. -/
theorem Shape.At.same_grown {α : Type} {S : Shape α} {w0 w w' : World} {ad : Option Addr} {cap e n sz : Nat} {l : List α} {v : Value} {xs : List Value} (h : S.At w ad cap l) (ho : w.ownsRow w0.heap.size e sz v n xs) (hg : w.grownBy w' v.ownBlock) (h0 : S.At w0 ad cap l) : S.At w' ad cap l :=
  ⟨h.1, fun h1 => by
    obtain ⟨b, off, e, hlt, hl⟩ := h.2 h1
    obtain ⟨b0, off0, e', hlt0, _⟩ := h0.2 h1
    rw [e] at e'
    cases e'
    refine ⟨b, off, e, Nat.lt_of_lt_of_le hlt hg.size, fun k hk => ?_⟩
    have : w'.heap[b]? = w.heap[b]? := hg.block b hlt (fun q => by have := (own_lt ho q.symm).1; omega)
    exact (World.cell?_of_block (a := ⟨b, off + k, none⟩) this).trans (hl k hk)⟩
theorem wo_oneAt (X : World) (a : WoT) (cap : Nat) : shO.At (X.alloc (.cells #[.int .i64 a.k, .int .i64 a.i] 33)) (some ⟨X.heap.size, 0, none⟩) cap [a] :=
  Shape.At.lit (S := shO) [a] (heap_alloc_new X _)
end Go.Proofs.Ytlmkbgclogbpfaa
