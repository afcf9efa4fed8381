/- corebellref.MPlay's calls: IndexFunc, Clone and Delete at entries. -/
import Derived.Test.YtgnpodeneknpdaaInsQ
import Derived.Lib.SliceRun
import Derived.Lib.AppendZeros
namespace Go.Proofs.Ytgnpodeneknpdaa
open Go.RowKit

/-- Who it is: the place of the first, or -1. -/
def AtI (l : List EnT) (i r : Int) : Prop := (r = -1 ∧ ∀ q ∈ l, ¬ q.1 = i) ∨ ∃ (k : Nat) (q : EnT), r = (k : Int) ∧ l[k]? = some q ∧ q.1 = i
set_option maxRecDepth 100000 in
theorem same_N (a b i : Int) (B : Nat) (w : World) (hc : Hid (w.cell? ⟨B, 1, none⟩ = some (.int .i64 i))) (hl : B < w.heap.size) (r : Bool) (hr : Hid (r = decide (a = i))) :
    Calls Try.prog 29 #[.agg #[.int .i64 a, .int .i64 b], .pointer (some ⟨B, 0, none⟩)] w fun e w' => e = .returned (.bool r) ∧ Below w.heap.size w w' := by
  have BA := below_alloc w (.cells #[.int .i64 a, .int .i64 b] 60)
  have c1 := (BA.cell (p := ⟨B, 1, none⟩) hl).trans hc.out
  have P0 := pair_at (heap_alloc_new w (.cells #[.int .i64 a, .int .i64 b] 60))
  obtain ⟨p0, p1⟩ := P0
  have HBA := Lib.hid BA
  clear BA
  by_cases h : a = i
  · subst h
    have hr2 : r = true := by rw [hr.out]; simp
    subst hr2
    go_enter Try.func29, Try.ntmps29
    go_wp2_with fail
    go_ret
    exact ⟨rfl, HBA.out⟩
  · have h2 : (a == i) = false := by simpa using h
    have hr2 : r = false := by rw [hr.out]; simp [h]
    subst hr2
    go_enter Try.func29, Try.ntmps29
    go_wp2_with fail
    go_ret
    exact ⟨rfl, HBA.out⟩
set_option maxHeartbeats 4000000 in
set_option maxRecDepth 100000 in
theorem at_N {ad : Option Addr} {cap n : Nat} {l : List EnT} (i : Int) (B : Nat) (w : World) (HA : Hid (shQ.At w ad cap l)) (hm : Hid (l.length = n)) (hn : n ≤ 10000000000000) (hc : Hid (w.cell? ⟨B, 1, none⟩ = some (.int .i64 i))) (hl : B < w.heap.size) :
    Calls Try.prog 28 #[.slice ad n cap, .func (.func 29) #[] #[.pointer (some ⟨B, 0, none⟩)]] w fun e w' => ∃ r : Int, e = .returned (.int .i64 r) ∧ AtI l i r ∧ Below w.heap.size w w' := by
  go_enter Try.func28, Try.ntmps28
  go_wp2_with fail
  go_loopw [8] (fun i' wr => ∃ k : Nat, k ≤ n ∧ i' = .int .i64 k ∧ Hid (∀ j q, j < k → l[j]? = some q → ¬ q.1 = i) ∧ Hid (Below w.heap.size w wr)) (fun i' _ => n - (intOf i').toNat)
  case atStart => exact ⟨0, Nat.zero_le _, rfl, Lib.hid (fun j q hj => by omega), Lib.hid (Below.refl _ _)⟩
  case round =>
    obtain ⟨k, hk, rfl, HN, HB⟩ := hrel
    by_cases hlt : k < n
    · obtain ⟨q, hq⟩ : ∃ q, l[k]? = some q := ⟨l[k]'(by rw [hm.out]; exact hlt), List.getElem?_eq_getElem _⟩
      obtain ⟨b, off, rfl, hb, c0, c1⟩ := at_en HA.out hq
      have g0 := (HB.out.cell (p := ⟨b, off + k * 2, none⟩) hb).trans c0
      have g1 := (HB.out.cell (p := ⟨b, off + k * 2 + 1, none⟩) hb).trans c1
      have HC := Lib.hid ((HB.out.cell (p := ⟨B, 1, none⟩) hl).trans hc.out)
      have hl2 : B < wr.heap.size := Nat.lt_of_lt_of_le hl HB.out.size
      have HQ := Lib.hid hq
      clear c0 c1 hq
      by_cases hv : q.1 = i
      · have HV : Hid (true = decide (q.1 = i)) := Lib.hid (decide_eq_true hv).symm
        clear hv
        go_wp2_with (first
          | (go_at_call 29; (with_reducible refine (same_N q.1 q.2 i B _ HC hl2 true HV).mono ?_); rintro e w1 ⟨rfl, hb1⟩; have HB1 := Lib.hid (pstep HB.out hb1); clear hb1)
          | fail)
        go_ret
        exact ⟨k, rfl, Or.inr ⟨k, q, rfl, HQ.out, of_decide_eq_true HV.out.symm⟩, HB1.out⟩
      · have HV : Hid (false = decide (q.1 = i)) := Lib.hid (decide_eq_false hv).symm
        clear hv
        go_wp2_with (first
          | (go_at_call 29; (with_reducible refine (same_N q.1 q.2 i B _ HC hl2 false HV).mono ?_); rintro e w1 ⟨rfl, hb1⟩; have HB1 := Lib.hid (pstep HB.out hb1); clear hb1)
          | fail)
        go_roundw
        case rel => exact ⟨k + 1, by omega, by go_num, Lib.hid (fun j q' hj hq' => by
          by_cases e : j = k
          · subst e
            have h3 := HQ.out
            rw [h3] at hq'
            cases hq'
            exact of_decide_eq_false HV.out.symm
          · exact HN.out j q' (by omega) hq'), HB1⟩
        case measure => simp [intOf]; omega
    · obtain rfl : k = n := by omega
      clear hlt hk
      go_wp2_with fail
      go_ret
      refine ⟨-1, rfl, Or.inl ⟨rfl, fun q hq => ?_⟩, HB.out⟩
      obtain ⟨j, hj⟩ := List.mem_iff_getElem?.1 hq
      exact HN.out j q (by have := (List.getElem?_eq_some_iff.1 hj).1; have h2 := hm.out; omega) hj
set_option maxHeartbeats 1000000 in
set_option maxRecDepth 100000 in
theorem clone_Q (xs : List EnT) (sa : Option Addr) (n c : Nat) (w : World) (H1 : Hid (xs.length = n)) (HA : Hid (shQ.At w sa c xs)) (hn : n ≤ 5864062014634) :
    Calls Try.prog 32 #[.slice sa n c] w fun e w' => ∃ ra rc, e = .returned (.slice ra n rc) ∧ w'.ownsRow w.heap.size 60 2 (.slice ra n rc) n (shQ.flat xs) ∧ Below w.heap.size w w' := by
  obtain ⟨i0, hi, hz0, hz1, hz2⟩ := info_parts' info_one
  have qn : ∀ (w : World) (a : Option Addr) (n c n' c' : Nat), (binOp .eql 57 (.slice a n c) (.slice none n' c')).run Try.prog w = .ok (.bool a.isNone) w := fun w a n c n' c' => Lib.run_eql_slice_nil w _ _ a n c n' c' Try.underlying57
  cases sa with
  | none =>
    obtain ⟨rfl, hx⟩ := HA.out.1 rfl
    have hn0 : n = 0 := by rw [← H1.out, hx]; rfl
    subst hn0 hx
    clear HA H1
    go_enter Try.func32, Try.ntmps32
    go_wp2_with fail
    go_ret
    exact ⟨_, _, rfl, World.ownsRow_nil _ _ _ _, Below.refl _ _⟩
  | some a =>
    have hown : (w.alloc (.cells #[] 60)).ownsRow w.heap.size 60 2 (.slice (some ⟨w.heap.size, 0, none⟩) 0 0) 0 [] := World.ownsRow_made w #[] 0 (Nat.le_refl _) (by decide) rfl
    have HO := Lib.hid hown
    have HA2 := Lib.hid (HA.out.step (below_alloc w (.cells #[] 60)))
    clear hown
    go_enter Try.func32, Try.ntmps32
    go_wp2_with (first
      | (at_builtin; refine wpList_append_at shQ rfl _ _ 57 rfl w.heap.size 60 i0 _ 16 Try.underlying57 hi hz0 hz1 hz2 rfl (.slice (some ⟨w.heap.size, 0, none⟩) 0 0) [] xs rfl HO.out (some a) n c rfl H1 HA2.out ?h63 ?hby ?hba ?_)
      | fail)
    case h63 => simp; unfold maxLen; omega
    case hby => simp; omega
    case hba => simp
    intro ra rc w3 own3 grow3 _
    have B3 : Below w.heap.size w w3 := (below_alloc w _).grown grow3 (by simp) (fun k hk => by simp [Value.ownBlock] at hk; omega)
    have O3 := Lib.hid own3
    clear own3 grow3
    go_wp2_with fail
    go_ret
    exact ⟨_, _, rfl, O3.out, B3⟩
end Go.Proofs.Ytgnpodeneknpdaa
