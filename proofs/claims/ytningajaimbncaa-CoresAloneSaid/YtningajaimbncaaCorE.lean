/- Package cores: the walk of first. -/
import Derived.Test.YtningajaimbncaaCorD
import Derived.Test.YtningajaimbncaaCrsX
import Derived.Lib.MinMax
import Derived.Lib.SliceRun
namespace Go.Proofs.Ytningajaimbncaa
open Go.RowKit

theorem ask_W {w0 w : World} {B : Nat} {T : ThN} {P : Nat → Nat} {s : StM} {qv : Value} (h : MemN w0 w B T P s qv) {k : Nat} (hk : k ∈ s.q) (W : World) (hb : Below w.heap.size w W) :
    Calls Try.prog 41 (#[.pointer (some ⟨P k, 0, none⟩)] ++ #[]) W fun e w' => e = .returned (.bool (decide (0 < s.left k))) ∧ ∃ j, w' = W.drewN j := by
  obtain ⟨_, h2, _, _, hlt, _⟩ := h.thrAt hk
  have c2 := (hb.cell (p := ⟨P k, 2, none⟩) hlt).trans h2
  have hl : P k < W.heap.size := Nat.lt_of_lt_of_le hlt hb.size
  obtain ⟨x, hx⟩ : ∃ x, s.left k = x := ⟨_, rfl⟩
  rw [hx] at c2 ⊢
  show Calls Try.prog 41 #[.pointer (some ⟨P k, 0, none⟩)] W _
  by_cases h0 : 0 < x
  · rw [decide_eq_true h0]
    have g0 : (0 : Int) < (x : Int) := by omega
    clear h2 hx
    go_enter Try.func41, Try.ntmps41
    go_wp2_with fail
    go_ret
    exact ⟨by simp, 0, rfl⟩
  · rw [decide_eq_false h0]
    have g0 : ¬ (0 : Int) < (x : Int) := by omega
    clear h2 hx
    go_enter Try.func41, Try.ntmps41
    go_wp2_with fail
    go_ret
    exact ⟨by simp, 0, rfl⟩
set_option maxHeartbeats 1000000 in
set_option maxRecDepth 100000 in
theorem ins_0 (a : Option Addr) (c : Nat) (w : World) :
    Calls Try.prog 64 #[.slice a 0 c, .int .i64 0, .int .i64 0, .func (.func 43) #[] #[]] w fun e w' => e = .returned (.tuple #[]) ∧ w = w' := by
  go_enter Try.func64, Try.ntmps64
  go_wp2_with fail
  go_loopw [8] (fun i wr => i = .int .i64 1 ∧ wr = w) (fun _ _ => 0)
  case atStart => exact ⟨rfl, rfl⟩
  case round =>
    obtain ⟨rfl, rfl⟩ := hrel
    go_wp2_with fail
    go_end0
    exact ⟨rfl, rfl⟩
set_option maxHeartbeats 1000000 in
set_option maxRecDepth 100000 in
theorem stable_0 (a : Option Addr) (c : Nat) (w : World) :
    Calls Try.prog 57 #[.slice a 0 c, .int .i64 0, .func (.func 43) #[] #[]] w fun e w' => e = .returned (.tuple #[]) ∧ w = w' := by
  go_enter Try.func57, Try.ntmps57
  go_wp2_with fail
  go_loopw [7, 8] (fun x y wr => x = .int .i64 0 ∧ y = .int .i64 20 ∧ wr = w) (fun _ _ _ => 0)
  case atStart => exact ⟨rfl, rfl, rfl⟩
  case round =>
    obtain ⟨rfl, rfl, rfl⟩ := hrel
    go_wp2_with (first
      | (go_at_call 64; (with_reducible refine (ins_0 a c _).mono ?_); rintro e w1 ⟨rfl, rfl⟩)
      | fail)
    go_loopw [6] (fun x wr' => x = .int .i64 20 ∧ wr' = wr) (fun _ _ => 0)
    case atStart => exact ⟨rfl, rfl⟩
    case round =>
      obtain ⟨rfl, rfl⟩ := hrel
      go_wp2_with fail
      go_end0
      exact ⟨rfl, rfl⟩
theorem sort_0 (a : Option Addr) (c : Nat) (w : World) :
    Calls Try.prog 42 #[.slice a 0 c, .func (.func 43) #[] #[]] w fun e w' => e = .returned (.tuple #[]) ∧ w = w' := by
  go_enter Try.func42, Try.ntmps42
  go_wp2_with (first
    | (go_at_call 57; (with_reducible refine (stable_0 a c _).mono ?_); rintro e w1 ⟨rfl, rfl⟩)
    | fail)
  go_end0
  exact ⟨rfl, rfl⟩
theorem rowT_at {w : World} {B n : Nat} {f : Nat → Nat} {l : List Nat} (h : RowT w B n f) (hl : l.length = n) (hf : ∀ i x, l[i]? = some x → f i = x) (cap : Nat) : shP.At w (some ⟨B, 0, none⟩) cap l := by
  obtain ⟨cur, hc, hi⟩ := h
  refine ⟨fun e => (by cases e), fun _ => ⟨B, 0, rfl, heap_lt hc, fun k hk => ?_⟩⟩
  have hs : shP.size = 1 := rfl
  rw [hs, Nat.mul_one] at hk
  rw [Nat.zero_add, cell_of_row w B k _ _ _ hc, hi k (by omega), hf k _ (List.getElem?_eq_getElem hk), flat_ptr, List.getElem?_map, List.getElem?_eq_getElem hk]
  rfl
theorem at_rowT {w : World} {base g n cap : Nat} {l : List Nat} (h : w.ownsRow base 58 1 (.slice (some ⟨g, 0, none⟩) n cap) n (shP.flat l)) : base ≤ g ∧ n ≤ cap ∧ RowT w g n (fun i => l.getD i 0) := by
  obtain ⟨h1, h2⟩ := h
  rcases h2 with ⟨h2, _⟩ | ⟨g', cp, cur, hv, hg, hh, hn, hc, hs, ht⟩
  · cases h2
  · simp only [Value.slice.injEq, Option.some.injEq, Addr.mk.injEq, and_true, true_and] at hv
    obtain ⟨rfl, rfl⟩ := hv
    refine ⟨hg, hn, cur, hh, fun i hi => ?_⟩
    rw [Nat.mul_one] at ht
    have hl : l.length = n := by have := h1; rw [flat_ptr, List.length_map] at this; omega
    rw [← Array.getElem?_toList, ← List.getElem?_take_of_lt hi, ht, flat_ptr, List.getElem?_map, List.getElem?_eq_getElem (by omega)]
    simp [List.getD, List.getElem?_eq_getElem (show i < l.length by omega)]
theorem lev_next (lev : Nat → Nat) (m : Nat) : ∀ r : List Nat, (r.filter fun k => decide (lev k = m)).length + (r.filter fun k => decide (lev k < m)).length = (r.filter fun k => decide (lev k < m + 1)).length
  | [] => rfl
  | x :: r => by
    have ih := lev_next lev m r
    simp only [List.filter_cons]
    by_cases e1 : lev x = m
    · have e2 : ¬ lev x < m := by omega
      have e3 : lev x < m + 1 := by omega
      simp only [decide_eq_true e1, decide_eq_false e2, decide_eq_true e3, if_true, List.length_cons]
      rw [← ih]
      simp
      omega
    · by_cases e2 : lev x < m
      · have e3 : lev x < m + 1 := by omega
        simp only [decide_eq_false e1, decide_eq_true e2, decide_eq_true e3, if_true, List.length_cons]
        rw [← ih]
        simp
        omega
      · have e3 : ¬ lev x < m + 1 := by omega
        simp only [decide_eq_false e1, decide_eq_false e2, decide_eq_false e3]
        exact ih
theorem down_len {lev : Nat → Nat} {ready : List Nat} {aq : Nat → List Nat} (hD : ∀ j, j < 32 → (ready.filter fun k => decide (lev k = j)) = aq j) : ∀ {m : Nat}, m ≤ 32 → (downN aq m).length = (ready.filter fun k => decide (lev k < m)).length
  | 0, _ => by
    rw [List.filter_eq_nil_iff.2 (by intro k _; simp)]
    rfl
  | m + 1, hm => by
    rw [downN, List.length_append, down_len hD (m := m) (by omega), ← hD m (by omega), lev_next]
/-- Sorting a row of the call's own: the levels fall, stably. -/
theorem sort_own {w w1 : World} {T : ThN} {P : Nat → Nat} {ready : List Nat} {aq : Nat → List Nat} {v : Value} {n : Nat} (HO : Hid (w1.ownsRow w.heap.size 58 1 v n (shP.flat (ready.map P)))) (hm : Hid (ready.length = n)) (hn : n ≤ 64) (hB : Hid (Below w.heap.size w w1))
    (HP : Hid (∀ k ∈ ready, P k < w.heap.size ∧ w.cell? ⟨P k, 1, none⟩ = some (.int .i64 (T.lev k : Nat)))) (HV : Hid (∀ k ∈ ready, T.lev k < 32)) (HQ : Hid (∀ j, j < 32 → (ready.filter fun k => decide (T.lev k = j)) = aq j)) :
    Calls Try.prog 42 #[v, .func (.func 43) #[] #[]] w1 fun e w' => e = .returned (.tuple #[]) ∧ (∃ ad cap, v = .slice ad n cap ∧ n ≤ cap ∧ (∀ b off, ad = some ⟨b, off, none⟩ → w.heap.size ≤ b) ∧ shP.At w' ad cap ((downN aq 32).map P)) ∧ (downN aq 32).length = n ∧ Below w.heap.size w w' := by
  have hD := HQ.out
  have hlenD : (downN aq 32).length = n ∧ (n = 0 → downN aq 32 = []) := by
    refine ⟨?_, fun h0 => ?_⟩
    · have key := fun m => down_len (lev := T.lev) hD (m := m)
      rw [key 32 (Nat.le_refl _), ← hm.out]
      congr 1
      exact List.filter_eq_self.2 fun k hk => by simpa using HV.out k hk
    · have e : ready = [] := List.eq_nil_of_length_eq_zero (by rw [hm.out, h0])
      cases hq : downN aq 32 with
      | nil => rfl
      | cons x r =>
        obtain ⟨j, hj, hx⟩ := mem_downN.1 (show x ∈ downN aq 32 by rw [hq]; exact List.mem_cons_self)
        rw [← hD j hj, e] at hx
        cases hx
  obtain ⟨ad, cap, rfl, hcap, _, hnone, hsome⟩ := own_shape HO.out
  have hlo : ∀ b off, ad = some ⟨b, off, none⟩ → w.heap.size ≤ b := fun b off e => by
    obtain ⟨g, hg, h1, _⟩ := hsome _ e
    cases hg
    exact h1
  by_cases h0 : n = 0
  · have e := hlenD.2 h0
    subst h0
    have hA := Shape.At.own (S := shP) HO.out (by rw [List.length_map]; exact hm.out)
    have e2 : ready = [] := List.eq_nil_of_length_eq_zero hm.out
    rw [e2] at hA
    refine (sort_0 ad cap w1).mono ?_
    rintro e' w' ⟨rfl, rfl⟩
    exact ⟨rfl, ⟨ad, cap, rfl, Nat.zero_le _, hlo, by rw [e]; exact hA⟩, hlenD.1, hB.out⟩
  · obtain ⟨a, ha⟩ : ∃ a, ad = some a := by
      cases ad with
      | none => exact absurd (hnone rfl).1 h0
      | some a => exact ⟨a, rfl⟩
    subst ha
    obtain ⟨g, rfl, _, _⟩ := hsome a rfl
    obtain ⟨hg, hnc, hrow⟩ := at_rowT HO.out
    have hget : ∀ i, i < n → (ready.map P).getD i 0 = P (ready.getD i 0) := fun i hi => by
      have : i < ready.length := by rw [hm.out]; exact hi
      simp [List.getD, List.getElem?_eq_getElem this]
    have hin : ∀ i, i < n → ready.getD i 0 ∈ ready := fun i hi => by
      have : i < ready.length := by rw [hm.out]; exact hi
      simp [List.getD, List.getElem?_eq_getElem this]
    have hS : SS w (fun i => P (ready.getD i 0)) g cap n (fun i => i) w1 := ⟨hB.out, hg, hnc, hrow.congr fun i hi => (hget i hi).symm⟩
    have hL : LevAt w (fun i => P (ready.getD i 0)) n (fun i => T.lev (ready.getD i 0)) := fun i hi => HP.out _ (hin i hi)
    refine (sort_R (cp := cap) (Lib.hid hL) (by omega) w1 (Lib.hid hS)).mono ?_
    rintro e' w' ⟨rfl, O, hs, hp, ht⟩
    have hmm := hm.out
    subst hmm
    have hst := stable_down (lev := T.lev) hp ht HV.out hD
    refine ⟨rfl, ⟨_, cap, rfl, hnc, hlo, ?_⟩, hlenD.1, hs.1⟩
    refine rowT_at hs.2.2.2 (by rw [List.length_map]; exact hlenD.1) (fun i x hx => ?_) cap
    rw [← hst, List.map_map, List.getElem?_map] at hx
    have hi : i < ready.length := by
      by_cases h : i < ready.length
      · exact h
      · rw [List.getElem?_eq_none (by simpa using h)] at hx
        cases hx
    rw [List.getElem?_range hi] at hx
    simpa using hx
set_option maxHeartbeats 1000000 in
set_option maxRecDepth 100000 in
theorem first_W {w0 w : World} {B : Nat} {T : ThN} {P : Nat → Nat} {s : StM} {qv : Value} {aq : Nat → List Nat} (HM : Hid (MemN w0 w B T P s qv)) (HV : Hid (∀ k ∈ s.q, T.lev k < 32)) (HQ : Hid (∀ j, j < 32 → (s.ready.filter fun k => decide (T.lev k = j)) = aq j)) (hc1 : 1 ≤ T.c) (hc : T.c ≤ 8) :
    Calls Try.prog 33 #[.pointer (some ⟨B, 0, none⟩)] w fun e w' => (∃ ad m cap, e = .returned (.slice ad m cap) ∧ ((downN aq 32).take T.c).length = m ∧ m ≤ 8 ∧ shP.At w' ad cap (((downN aq 32).take T.c).map P) ∧ ∀ b off, ad = some ⟨b, off, none⟩ → w.heap.size ≤ b) ∧ Below w.heap.size w w' := by
  obtain ⟨c0, _, c2⟩ := HM.out.cells
  have hBl := HM.out.lt
  obtain ⟨qa, qc, rfl, hA⟩ := HM.out.rows
  have HA := Lib.hid hA
  have hq64 := HM.out.len
  obtain ⟨N, hN⟩ : ∃ N, s.q.length = N := ⟨_, rfl⟩
  rw [hN] at c2 hq64
  have HN := Lib.hid hN
  obtain ⟨n, hn⟩ : ∃ n, s.ready.length = n := ⟨_, rfl⟩
  have hn64 : n ≤ 64 := by
    rw [← hn]
    exact Nat.le_trans (List.length_filter_le _ _) (by omega)
  have HRN := Lib.hid hn
  have HC := Lib.hid (fun k (hk : k ∈ s.q) W hb => ask_W HM.out hk W hb)
  have hmem : ∀ k ∈ s.ready, k ∈ s.q := fun k hk => (List.mem_filter.1 hk).1
  have HP : Hid (∀ k ∈ s.ready, P k < w.heap.size ∧ w.cell? ⟨P k, 1, none⟩ = some (.int .i64 (T.lev k : Nat))) := Lib.hid fun k hk => by
    obtain ⟨h1, _, _, _, h5, _⟩ := HM.out.thrAt (hmem k hk)
    exact ⟨h5, h1⟩
  have HV2 : Hid (∀ k ∈ s.ready, T.lev k < 32) := Lib.hid fun k hk => HV.out k (hmem k hk)
  obtain ⟨c, hcc⟩ : ∃ c, T.c = c := ⟨_, rfl⟩
  rw [hcc] at c0 hc hc1 ⊢
  have eg : ∀ args w, (callFunc 41 args).run Try.prog w = .ok (.enter 41 args) w := enters_of Try.func41 (by kernel_rfl) rfl
  obtain ⟨m, hmm⟩ : ∃ m, min c n = m := ⟨_, rfl⟩
  have hmi : min (c : Int) (n : Int) = (m : Int) := by omega
  have hm8 : m ≤ 8 := by omega
  have hmn : m ≤ n := by omega
  have HMM := Lib.hid hmm
  clear hA hN hn hmem hcc hmm
  rw [← HN.out] at hq64
  go_enter Try.func33, Try.ntmps33
  go_wp2_with (first
    | (go_at_call 35; (with_reducible refine (those_W (fun k => decide (0 < s.left k)) 41 #[] eg _ (Lib.hid HA.out) HN (by rw [← HN.out]; exact hq64) HC).mono ?_); rintro e w1 ⟨v, rfl, ho, hb⟩; have HO := Lib.hid ho; have HB := Lib.hid hb; have c01 := (hb.cell (p := ⟨B, 0, none⟩) hBl).trans c0; have hBl1 := Nat.lt_of_lt_of_le hBl hb.size; clear ho hb)
    | fail)
  have HO1 : Hid (w1.ownsRow w.heap.size 58 1 v n (shP.flat (s.ready.map P))) := Lib.hid (by
    have := HO.out
    rw [show (s.q.filter fun k => decide (0 < s.left k)).length = n from HRN.out] at this
    exact this)
  clear HO
  refine (sort_own HO1 HRN hn64 HB HP HV2 HQ).mono ?_
  rintro e w2 ⟨rfl, ⟨ad, cap, rfl, hcap, hlo, hA⟩, hlen, hb2⟩
  have HLO := Lib.hid hlo
  clear hlo
  have HA2 := Lib.hid hA
  have HL2 := Lib.hid hlen
  have HB2 := Lib.hid hb2
  have c02 := (hb2.cell (p := ⟨B, 0, none⟩) hBl).trans c0
  have hBl2 := Nat.lt_of_lt_of_le hBl hb2.size
  have hmc : m ≤ cap := by omega
  clear hA hlen hb2 c01 hBl1
  go_wp2_with fail
  go_ret
  have e1 : (downN aq 32).take c = (downN aq 32).take m := by
    rw [← HMM.out, ← HL2.out, List.take_eq_take_iff]
    omega
  refine ⟨⟨ad, m, cap, rfl, by rw [e1, List.length_take, HL2.out]; omega, hm8, ?_, HLO.out⟩, HB2.out⟩
  rw [e1, List.map_take]
  exact HA2.out.take m
end Go.Proofs.Ytningajaimbncaa
