/- Facts for SoftPart: one raise more at the end; slices.Clone of raises. -/
import Derived.Test.YtnaplbkigebdiaaSWho
import Derived.Lib.SliceRun
namespace Go.Proofs.Ytnaplbkigebdiaa
open Go.RowKit

theorem prev_app : ∀ (p : Int) (rs : List RaT) (r : RaT) (j : Nat), j ≤ rs.length → prevAt p (rs ++ [r]) j = prevAt p rs j
  | p, _, _, 0, _ => by rw [prev_zero, prev_zero]
  | p, [], _, j + 1, h => by simp at h
  | p, a :: rs, r, j + 1, h => prev_app a.at_ rs r j (by simpa using h)
theorem rt_pre {pd : List Int} {rs : List RaT} {r : RaT} (h : RtJ pd (rs ++ [r])) : RtJ pd rs := by
  obtain ⟨h1, h2, h3⟩ := h
  refine ⟨h1, by simp at h2; omega, fun j g hg => ?_⟩
  have hlt := (List.getElem?_eq_some_iff.1 hg).1
  have := h3 j g (by rw [List.getElem?_append_left hlt]; exact hg)
  rwa [prev_app 0 rs r j (by omega)] at this
theorem last_nonneg {pd : List Int} {rs : List RaT} {r : RaT} (h : RtJ pd (rs ++ [r])) : 0 ≤ r.at_ := by
  have hc := cut_start h
  have := hc.hi rs.length r (Nat.zero_le _) (by simp)
  omega
theorem part_soft {pd : List Int} {rs : List RaT} {r : RaT} (h1 : RtJ pd rs) (h2 : RtJ pd (rs ++ [r])) {W : Nat} (hr : r.at_ = W) (hW : W ≤ (runJ pd rs).length) :
    W ≤ (runJ pd (rs ++ [r])).length ∧ (runJ pd rs).take W = (runJ pd (rs ++ [r])).take W := by
  refine part_end (R := rJ rs) (Q := rJ (rs ++ [r])) (pend := pendJ pd) (n := 409) (m := 409) (fun j s hj => ?_) (rd_end h1) (rd_end h2) hW
  unfold rJ
  rw [List.any_append]
  have : ([r].any fun r : RaT => decide (r.at_ = (j : Int) ∧ r.soft = (s : Int))) = false := by
    simp only [List.any_cons, List.any_nil, Bool.or_false, decide_eq_false_iff_not]
    omega
  rw [this, Bool.or_false]
set_option maxHeartbeats 1000000 in
set_option maxRecDepth 100000 in
theorem clone_R (xs : List RaT) (sa : Option Addr) (n c : Nat) (w : World) (H1 : Hid (xs.length = n)) (HA : Hid (shR.At w sa c xs)) (hn : n ≤ 8796093022208) :
    Calls Try.prog 18 #[.slice sa n c] w fun e w' => ∃ ra rc, e = .returned (.slice ra n rc) ∧ w'.ownsRow w.heap.size 35 2 (.slice ra n rc) n (shR.flat xs) ∧ Below w.heap.size w w' := by
  obtain ⟨i0, hi, hz0, hz1, hz2⟩ := info_parts' info_raise
  have qn : ∀ (w : World) (a : Option Addr) (n c n' c' : Nat), (binOp .eql 23 (.slice a n c) (.slice none n' c')).run Try.prog w = .ok (.bool a.isNone) w := fun w a n c n' c' => Lib.run_eql_slice_nil w _ _ a n c n' c' Try.underlying23
  cases sa with
  | none =>
    obtain ⟨rfl, hx⟩ := HA.out.1 rfl
    have hn0 : n = 0 := by rw [← H1.out, hx]; rfl
    subst hn0 hx
    clear HA H1
    go_enter Try.func18, Try.ntmps18
    go_wp2_with fail
    go_ret
    exact ⟨_, _, rfl, World.ownsRow_nil _ _ _ _, Below.refl _ _⟩
  | some a =>
    have hown : (w.alloc (.cells #[] 35)).ownsRow w.heap.size 35 2 (.slice (some ⟨w.heap.size, 0, none⟩) 0 0) 0 [] := World.ownsRow_made w #[] 0 (Nat.le_refl _) (by decide) rfl
    have HO := Lib.hid hown
    have HA2 := Lib.hid (HA.out.step (below_alloc w (.cells #[] 35)))
    clear hown
    go_enter Try.func18, Try.ntmps18
    go_wp2_with (first
      | (at_builtin; refine wpList_append_at shR rfl _ _ 23 rfl w.heap.size 35 i0 _ 16 Try.underlying23 hi hz0 hz1 hz2 rfl (.slice (some ⟨w.heap.size, 0, none⟩) 0 0) [] xs rfl HO.out (some a) n c rfl H1 HA2.out ?h63 ?hby ?hba ?_)
      | fail)
    case h63 => simp; unfold maxLen; omega
    case hby => simp; omega
    case hba => simp
    intro ra rc w3 own3 grow3 _
    have B3 : Below w.heap.size w w3 := (below_alloc w _).grown grow3 (by simp) (fun k hk => by simp [Value.ownBlock] at hk; omega)
    have O3 := Lib.hid own3
    clear own3 grow3
    go_wp2_with fail
    go_ret
    exact ⟨_, _, rfl, O3.out, B3⟩
end Go.Proofs.Ytnaplbkigebdiaa
