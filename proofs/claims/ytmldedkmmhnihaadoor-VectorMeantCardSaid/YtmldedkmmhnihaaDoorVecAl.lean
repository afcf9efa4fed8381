/- vector.Play at every argument in one form; corebellkeep.alive4; slices.Clone of operations. -/
import Derived.Test.YtmldedkmmhnihaaDoorVecEq
import Derived.Lib.SliceRun
namespace Go.Proofs.YtmldedkmmhnihaaDoor
open Go.RowKit

theorem below_alloc (w : World) (o : Obj) : Below w.heap.size w (w.alloc o) := (Below.refl _ _).alloc (Nat.le_refl _) o
theorem tab_step {w w' : World} (h : Tab w) (hb : Below w.heap.size w w') : Tab w' := h.below hb
theorem play_N {ad : Option Addr} {cap : Nat} {ops : List VopT} (w : World) (hT : Hid (Tab w)) (C N : Int) (cores n m : Nat) (hC : Hid ((cores : Int) = C)) (hN : Hid ((n : Int) = N)) (h1 : 1 ≤ cores) (h8 : cores ≤ 8) (hn : n ≤ 2000) (HA : Hid (shO.At w ad cap ops)) (hm : Hid (ops.length = m)) (hm2 : m ≤ 5864062014805) (l : List SlotT) (es : List Int) (hr : Hid (runV cores n ops = (l, es))) :
    Calls Tryd.prog 6 #[.int .i64 C, .int .i64 N, .slice ad m cap] w fun e w' => ∃ ea ec sa sc, e = .returned (.tuple #[.slice ea m ec, .slice sa n sc, .int .i64 0]) ∧ shE.At w' ea ec es ∧ shS.At w' sa sc l ∧ Below w.heap.size w w' := by
  rw [← hC.out, ← hN.out]
  exact play_ok w hT cores n h1 h8 hn HA hm hm2 l es hr
def alO : List VopT := [⟨1, 0, 3⟩, ⟨1, 1, 3⟩, ⟨1, 2, 3⟩, ⟨3, 1, 3⟩]
def alS : List SlotT := [⟨0, 32⟩, ⟨0, 34⟩, ⟨0, 33⟩]
def alE : List Int := [0, 0, 0, 0]
theorem al_runs : runV 2 3 alO = (alS, alE) := by kernel_rfl
set_option maxHeartbeats 1000000 in
set_option maxRecDepth 100000 in
theorem alive4_R (w : World) (hT : Hid (Tab w)) : Calls Tryd.prog 5 #[] w fun e w' => e = .returned (.bool true) ∧ Below w.heap.size w w' := by
  have HP : Hid (runV 2 3 alO = (alS, alE)) := Lib.hid al_runs
  have HE : Hid (∀ w : World, shE.At (w.alloc (.cells #[.int .i64 0, .int .i64 0, .int .i64 0, .int .i64 0] 28)) (some ⟨w.heap.size, 0, none⟩) 4 alE) := Lib.hid fun w => Shape.At.lit alE (heap_alloc_new _ _)
  have HS : Hid (∀ w : World, shS.At (w.alloc (.cells #[.int .i64 0, .int .i64 32, .int .i64 0, .int .i64 34, .int .i64 0, .int .i64 33] 34)) (some ⟨w.heap.size, 0, none⟩) 3 alS) := Lib.hid fun w => Shape.At.lit alS (heap_alloc_new _ _)
  have HO : Hid (shO.At (w.alloc (.cells #[.int .i64 1, .int .i64 0, .int .i64 3, .int .i64 1, .int .i64 1, .int .i64 3, .int .i64 1, .int .i64 2, .int .i64 3, .int .i64 3, .int .i64 1, .int .i64 3] 24)) (some ⟨w.heap.size, 0, none⟩) 4 alO) := Lib.hid (Shape.At.lit alO (heap_alloc_new _ _))
  have HT := Lib.hid (tab_step hT.out (below_alloc w (.cells #[.int .i64 1, .int .i64 0, .int .i64 3, .int .i64 1, .int .i64 1, .int .i64 3, .int .i64 1, .int .i64 2, .int .i64 3, .int .i64 3, .int .i64 1, .int .i64 3] 24)))
  have B0 := below_alloc w (.cells #[.int .i64 1, .int .i64 0, .int .i64 3, .int .i64 1, .int .i64 1, .int .i64 3, .int .i64 1, .int .i64 2, .int .i64 3, .int .i64 3, .int .i64 1, .int .i64 3] 24)
  go_enter Tryd.func5, Tryd.ntmps5
  go_wp2_with (first
    | (go_at_call 6; (with_reducible refine (play_N _ HT 2 3 2 3 4 (Lib.hid rfl) (Lib.hid rfl) (by decide) (by decide) (by decide) HO (Lib.hid rfl) (by decide) alS alE HP).mono ?_); rintro e w1 ⟨ea, ec, sa, sc, rfl, EA, SA, hb⟩; have B1 := pstep B0 hb; have HEA := Lib.hid EA; have HSA := Lib.hid SA; clear hb EA SA)
    | (go_at_call 9; (with_reducible refine (equalE (n := 4) _ (Lib.hid rfl) (HEA.out.step (below_alloc _ _)) (HE.out _) (by decide)).mono ?_); rintro e w2 ⟨rfl, hb⟩; have B2 := pstep (below_alloc _ _) hb; have B3 := pstep B1 B2; have HSA2 := Lib.hid (HSA.out.step B2); clear hb B2)
    | (go_at_call 8; (with_reducible refine (equalS (n := 3) _ (Lib.hid rfl) (HSA2.out.step (below_alloc _ _)) (HS.out _) (by decide)).mono ?_); rintro e w3 ⟨rfl, hb⟩; have B4 := pstep (below_alloc _ _) hb; have B5 := pstep B3 B4; clear hb B4)
    | fail)
  go_ret
  exact ⟨rfl, B5⟩
theorem info_op : (Tryd.prog.info? 24).map (fun i => (i.zero, i.size, i.bytes)) = some (some (.agg #[.int .i64 0, .int .i64 0, .int .i64 0]), 3, 24) := by kernel_rfl
set_option maxHeartbeats 1000000 in
set_option maxRecDepth 100000 in
theorem clone_ops (xs : List VopT) (sa : Option Addr) (n c : Nat) (w : World) (H1 : Hid (xs.length = n)) (HA : Hid (shO.At w sa c xs)) (hn : n ≤ 5864062014634) :
    Calls Tryd.prog 7 #[.slice sa n c] w fun e w' => ∃ ra rc, e = .returned (.slice ra n rc) ∧ w'.ownsRow w.heap.size 24 3 (.slice ra n rc) n (shO.flat xs) ∧ Below w.heap.size w w' := by
  obtain ⟨i0, hi, hz0, hz1, hz2⟩ := info_parts info_op
  have qn : ∀ (w : World) (a : Option Addr) (n c n' c' : Nat), (binOp .eql 22 (.slice a n c) (.slice none n' c')).run Tryd.prog w = .ok (.bool a.isNone) w := fun w a n c n' c' => Lib.run_eql_slice_nil w _ _ a n c n' c' Tryd.underlying22
  cases sa with
  | none =>
    obtain ⟨rfl, hx⟩ := HA.out.1 rfl
    have hn0 : n = 0 := by rw [← H1.out, hx]; rfl
    subst hn0 hx
    clear HA H1
    go_enter Tryd.func7, Tryd.ntmps7
    go_wp2_with fail
    go_ret
    exact ⟨none, 0, rfl, World.ownsRow_nil _ _ _ _, Below.refl _ _⟩
  | some a =>
    have hown : (w.alloc (.cells #[] 24)).ownsRow w.heap.size 24 3 (.slice (some ⟨w.heap.size, 0, none⟩) 0 0) 0 [] := World.ownsRow_made w #[] 0 (Nat.le_refl _) (by decide) rfl
    have HO := Lib.hid hown
    have HA2 := Lib.hid (HA.out.step (below_alloc w (.cells #[] 24)))
    clear hown
    go_enter Tryd.func7, Tryd.ntmps7
    go_wp2_with (first
      | (at_builtin; refine wpList_append_at shO rfl _ _ 22 rfl w.heap.size 24 i0 _ 24 Tryd.underlying22 hi hz0 hz1 hz2 rfl (.slice (some ⟨w.heap.size, 0, none⟩) 0 0) [] xs rfl HO.out (some a) n c rfl H1 HA2.out ?h63 ?hby ?hba ?_)
      | fail)
    case h63 => simp; unfold maxLen; omega
    case hby => simp; omega
    case hba => simp
    intro ra rc w3 own3 grow3 _
    have B3 : Below w.heap.size w w3 := (below_alloc w _).grown grow3 (by simp) (fun k hk => by simp [Value.ownBlock] at hk; omega)
    have O3 := Lib.hid own3
    clear own3 grow3
    go_wp2_with fail
    go_ret
    exact ⟨ra, rc, rfl, O3.out, B3⟩
end Go.Proofs.YtmldedkmmhnihaaDoor
