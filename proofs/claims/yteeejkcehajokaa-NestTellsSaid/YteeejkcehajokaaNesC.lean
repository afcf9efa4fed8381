/- Package nest: the walk of perform. -/
import Derived.Test.YteeejkcehajokaaNesB
namespace Go.Proofs.Yteeejkcehajokaa
open Go.RowKit

theorem size_core : (Try.prog.info? 24).map (·.size) = some 2 := by kernel_rfl
theorem core_stored (w3 : World) (s : Nat) (v' b b' v'' : Value) (h : w3.heap[s + 1]? = some (.cells #[.bool false, .slice none 0 0] 24 (0, 0))) :
    ((((w3.setCell ⟨s, 1, none⟩ v').setCell ⟨s, 0, none⟩ b).setCell ⟨s + 1, 0, none⟩ b').setCell ⟨s + 1, 1, none⟩ v'').heap[s + 1]? = some (.cells #[b', v''] 24 (0, 0)) := by
  have h1 : ((w3.setCell ⟨s, 1, none⟩ v').setCell ⟨s, 0, none⟩ b).heap[s + 1]? = some (.cells #[.bool false, .slice none 0 0] 24 (0, 0)) := by
    rw [Below.heap_setCell _ _ _ _ (by simp), Below.heap_setCell _ _ _ _ (by simp)]; exact h
  exact heap_setCell_same _ (s + 1) 1 _ _ v'' (heap_setCell_same _ (s + 1) 0 _ _ b' h1)
set_option maxHeartbeats 1000000 in
set_option maxRecDepth 100000 in
theorem perform_push {ad : Option Addr} {cap n M : Nat} {l : List FrT} (on irq : Bool) (kind : Int) (hk : Hid ((kind = 1 ∧ irq = false) ∨ (kind = 3 ∧ irq = true))) (w : World) (HO : Hid (w.ownsRow M 43 2 (.slice ad n cap) n (shF.flat l))) (hm : Hid (l.length = n)) (hn : n ≤ 400) (hM : M ≤ w.heap.size) :
    Calls Try.prog 18 #[.agg #[.bool on, .slice ad n cap], .int .i64 kind] w fun e w' => ∃ ra rc, e = .returned (.agg #[.bool false, .slice ra (n + 1) rc]) ∧ w'.ownsRow M 43 2 (.slice ra (n + 1) rc) (n + 1) (shF.flat (l ++ [⟨on, irq⟩])) ∧ w.grownBy w' (Value.slice ad n cap).ownBlock := by
  obtain ⟨i0, hi, hz0, hz1, hz2⟩ := info_parts' info_frame
  have BT := Lib.hid (below_three w (.cells #[.bool on, .slice ad n cap] 24) (.cells #[.bool false, .slice none 0 0] 24) (.cells #[.bool on, .bool irq] 43))
  have HO3 := Lib.hid (own_step HO.out BT.out)
  have HY := Lib.hid (Shape.At.lit (S := shF) (cap := 1) [⟨on, irq⟩] (heap3_2 w (.cells #[.bool on, .slice ad n cap] 24) (.cells #[.bool false, .slice none 0 0] 24) (.cells #[.bool on, .bool irq] 43)))
  have HN0 := Lib.hid (heap3_0 w (.cells #[.bool on, .slice ad n cap] 24) (.cells #[.bool false, .slice none 0 0] 24) (.cells #[.bool on, .bool irq] 43))
  have HN1 := Lib.hid (heap3_1 w (.cells #[.bool on, .slice ad n cap] 24) (.cells #[.bool false, .slice none 0 0] 24) (.cells #[.bool on, .bool irq] 43))
  have HS : Hid (∀ k, (Value.slice ad n cap).ownBlock = some k → k < w.heap.size) := Lib.hid fun k e => (own_lt HO.out e).2
  rcases hk.out with ⟨rfl, rfl⟩ | ⟨rfl, rfl⟩
  all_goals clear hk
  all_goals go_enter Try.func18, Try.ntmps18
  all_goals go_wp2_with (first
    | (at_builtin; refine wpList_append_n shF rfl _ _ 22 rfl M 43 i0 _ 2 Try.underlying22 hi hz0 hz1 hz2 rfl (.slice ad n cap) n l _ hm rfl HO3.out (some ⟨w.heap.size + 1 + 1, 0, none⟩) 1 1 rfl (Lib.hid rfl) HY.out (by unfold maxLen; omega) (by omega) (by simp; omega) ?_)
    | fail)
  all_goals intro ra rc w3 own3 grow3 _
  all_goals have P3 := Lib.hid ((grow3.block w.heap.size (by simp; omega) (fun e => by have := HS.out _ e.symm; omega)).trans HN0.out)
  all_goals have Z3 := Lib.hid ((grow3.block (w.heap.size + 1) (by simp) (fun e => by have := HS.out _ e.symm; omega)).trans HN1.out)
  all_goals have G3 := Lib.hid (below_grown BT.out grow3)
  all_goals have O3 := Lib.hid own3
  all_goals clear own3 grow3 HY HN0 HN1 HO3 BT
  all_goals obtain ⟨c0, c1⟩ := pair_at P3.out
  all_goals obtain ⟨d0, d1⟩ := pair_at Z3.out
  all_goals have f0 := fun i => frozen_of_row w3 w.heap.size i _ _ P3.out
  all_goals have f1 := fun i => frozen_of_row w3 (w.heap.size + 1) i _ _ Z3.out
  all_goals go_wp2_with fail
  all_goals have n0 := own_ne O3.out P3.out (by decide)
  all_goals have n1 := own_ne O3.out Z3.out (by decide)
  all_goals have HR := core_stored w3 w.heap.size (.slice ra (n + 1) rc) (.bool false) (.bool false) (.slice ra (n + 1) rc) Z3.out
  all_goals refine bodyPost_ret (results_cell_row (fn := Try.f18) rfl _ _ (w.heap.size + 1) 24 #[.bool false, .slice ra (n + 1) rc] (0, 0) _ rfl HR Try.underlying24 rfl size_core) rfl ?_
  all_goals refine ⟨ra, rc, rfl, own_set (own_set (own_set (own_set O3.out n0 _) n0 _) n1 _) n1 _, grown_below G3.out ((((Below.refl w.heap.size w3).setCell ?_ _).setCell ?_ _).setCell ?_ _ |>.setCell ?_ _)⟩
  all_goals simp
set_option maxHeartbeats 1000000 in
set_option maxRecDepth 100000 in
theorem perform_pop {ad : Option Addr} {cap n M : Nat} {l : List FrT} (on : Bool) (kind : Int) (hk : Hid (kind = 2 ∨ kind = 4)) (w : World) (HO : Hid (w.ownsRow M 43 2 (.slice ad (n + 1) cap) (n + 1) (shF.flat l))) (hm : Hid (l.length = n + 1)) (hn : n ≤ 400) (x y : Bool) (hf : Hid (l[n]? = some ⟨x, y⟩)) :
    Calls Try.prog 18 #[.agg #[.bool on, .slice ad (n + 1) cap], .int .i64 kind] w fun e w' => ∃ ra rc, e = .returned (.agg #[.bool x, .slice ra n rc]) ∧ w'.ownsRow M 43 2 (.slice ra n rc) n (shF.flat (l.take n)) ∧ Below w.heap.size w w' := by
  have HT := Lib.hid (own_take (S := shF) HO.out hm.out (by omega : n ≤ n + 1))
  have HA := Shape.At.own (S := shF) HO.out hm.out
  obtain ⟨b, off, rfl, hb, c0, _⟩ := at_fr HA hf.out
  obtain ⟨ad', cap', hv, hcap, hmax, _, hsh⟩ := own_shape HO.out
  simp only [Value.slice.injEq, true_and] at hv
  obtain ⟨rfl, rfl⟩ := hv
  obtain ⟨g, hg, hMg, hgl⟩ := hsh _ rfl
  simp only [Addr.mk.injEq, and_true] at hg
  obtain ⟨rfl, rfl⟩ := hg
  simp only [Nat.zero_add] at c0
  have e1 : (n : Int) + 1 - 1 = (n : Int) := by omega
  have h0 : 0 < n + 1 := by omega
  have hcap2 : n ≤ cap := by omega
  have hnc : n < n + 1 := by omega
  clear HA hMg hsh hmax
  rcases hk.out with rfl | rfl
  all_goals clear hk
  all_goals go_enter Try.func18, Try.ntmps18
  all_goals go_wp2_with fail
  all_goals refine bodyPost_ret (results_cell_row (fn := Try.f18) rfl _ _ (w.heap.size + 1) 24 #[.bool x, .slice (some ⟨b, 0, none⟩) n cap] (0, 0) _ rfl (heap_alloc2_new w _ _) Try.underlying24 rfl size_core) rfl ?_
  all_goals exact ⟨_, _, rfl, own_step HT.out (below_two w _ _), below_two w _ _⟩
theorem core_ext {a b : CoreT} (h1 : a.on = b.on) (h2 : a.kept = b.kept) : a = b := by cases a; cases b; simp only at h1 h2; rw [h1, h2]
/-- nest.perform, where nothing speaks against it, at frames of the call's own. -/
theorem perform_N {ad : Option Addr} {cap n M : Nat} {l : List FrT} (on : Bool) (kind : Int) (w : World) (HO : Hid (w.ownsRow M 43 2 (.slice ad n cap) n (shF.flat l))) (hm : Hid (l.length = n)) (hn : n ≤ 400) (hM : M ≤ w.heap.size) (he : Hid (errN true ⟨on, l⟩ kind = 0)) (on' : Bool) (l' : List FrT) (n' : Nat) (hc : Hid (newN ⟨on, l⟩ kind = ⟨on', l'⟩)) (hm' : Hid (l'.length = n')) :
    Calls Try.prog 18 #[.agg #[.bool on, .slice ad n cap], .int .i64 kind] w fun e w' => ∃ ra rc, e = .returned (.agg #[.bool on', .slice ra n' rc]) ∧ w'.ownsRow M 43 2 (.slice ra n' rc) n' (shF.flat l') ∧ w.grownBy w' (Value.slice ad n cap).ownBlock := by
  have h := hc.out
  rcases errN_zero he.out with ⟨rfl, h4⟩ | ⟨rfl, h4, ho⟩ | ⟨hk, f, hl, hq⟩
  · rw [new_save] at h
    simp only [pushN, CoreT.mk.injEq] at h
    obtain ⟨rfl, rfl⟩ := h
    obtain rfl : n' = n + 1 := by rw [← hm'.out, List.length_append, hm.out]; rfl
    exact perform_push on false 1 (Lib.hid (Or.inl ⟨rfl, rfl⟩)) w HO hm hn hM
  · rw [new_enter] at h
    simp only [pushN, CoreT.mk.injEq] at h
    obtain ⟨rfl, rfl⟩ := h
    obtain rfl : n' = n + 1 := by rw [← hm'.out, List.length_append, hm.out]; rfl
    exact perform_push on true 3 (Lib.hid (Or.inr ⟨rfl, rfl⟩)) w HO hm hn hM
  · rw [new_pop (by omega) (by omega) hl] at h
    simp only [popN, CoreT.mk.injEq] at h
    obtain ⟨rfl, rfl⟩ := h
    simp only at hl
    cases n with
    | zero =>
      rw [List.eq_nil_of_length_eq_zero hm.out] at hl
      cases hl
    | succ n =>
      obtain rfl : n' = n := by rw [← hm'.out, List.length_dropLast, hm.out]; rfl
      obtain ⟨x, y⟩ := f
      have hf : l[n']? = some ⟨x, y⟩ := by rw [List.getLast?_eq_getElem?, hm.out] at hl; exact hl
      refine (perform_pop on kind (Lib.hid hk) w HO hm (by omega) x y (Lib.hid hf)).mono ?_
      rintro e w' ⟨ra, rc, rfl, o, hb⟩
      have et : l.dropLast = l.take n' := by rw [List.dropLast_eq_take, hm.out]; rfl
      exact ⟨ra, rc, rfl, by rw [et]; exact o, below_row hb _⟩
end Go.Proofs.Yteeejkcehajokaa
