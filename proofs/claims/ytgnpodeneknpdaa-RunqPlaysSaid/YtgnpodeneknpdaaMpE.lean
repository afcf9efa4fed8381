/- slices.Delete of one at []corebellref.one, at a row of the call's own. -/
import Derived.Test.YtgnpodeneknpdaaMpD
import Derived.Deep.RegionLaw
namespace Go.Proofs.Ytgnpodeneknpdaa
open Go.RowKit

section
variable {P : Program}
/-- 'append' whose run is known, at a step of a region that draws its order. -/
theorem step_append_run {w : World} {ops : Array Oper} {o : Oper} {a : Act} {K : Act → World → Prop} {Q : Exit → Act → World → Prop} {E : Prop} (hgd : o.guard = none) (s x : Operand) (t : TypeId)
    (ho : o.op = .call { callee := .builtin .append, args := #[s, x], argTypes := #[t, t] }) (v u : Value) (hs : a.eval s = v) (hx : a.eval x = u) {v' : Value} {w' : World}
    (hr : (Builtin.append_ #[t, t] o.type #[v, u]).run P w = .ok v' w') (h : K (a.put o.dst v') w') :
    if Region.wanted o (yielded ops a.tmps) = true then Oper.wp P o a w K Q else E := by
  have hw : Region.wanted o (yielded ops a.tmps) = true := by simp [Region.wanted, hgd]
  rw [if_pos hw]
  unfold Oper.wp execOp
  simp only [ho, resolve, invoke, builtin, Sem.run_bind, Sem.run_pure, Result.andThen_ok, List.map_toArray, List.map_cons, List.map_nil, hs, hx, hr]
  exact h
end
theorem flat_take {α : Type} (S : Shape α) (l : List α) (k : Nat) (hk : k ≤ l.length) : (S.flat l).take (k * S.size) = S.flat (l.take k) := by
  have e : S.flat l = S.flat (l.take k) ++ S.flat (l.drop k) := by rw [← S.flat_app, List.take_append_drop]
  rw [e]
  exact List.take_left' (by rw [S.flat_len, List.length_take, Nat.min_eq_left hk])
/-- 'clear' of one entry. -/
theorem clear_one (w : World) (ty : TypeId) (g off c : Nat) (cur : Array Value) (hg : w.heap[g]? = some (.cells cur 60 (0, 0))) (hfit : off + 2 ≤ cur.size) :
    (Builtin.clear_ #[57] ty #[.slice (some ⟨g, off, none⟩) 1 c]).run Try.prog w = .ok (.tuple #[]) (w.setRow g (cur.toList.take off ++ [Value.int .i64 0, Value.int .i64 0] ++ cur.toList.drop (off + 2)).toArray) := by
  have hst := run_storeCells_at Try.prog g off 60 [Value.int .i64 0, Value.int .i64 0] 0 cur w hg (by simpa using hfit) (by intro v hv; simp at hv; rw [hv]; rfl)
  simp only [Nat.add_zero, List.length_cons, List.length_nil] at hst
  have hz : (Builtin.zeroCells (Value.agg #[.int .i64 0, .int .i64 0]).cells 1).toList = [Value.int .i64 0, Value.int .i64 0] := by kernel_rfl
  simp [Builtin.clear_, run_underlying Try.underlying57, hz, hst]
set_option maxHeartbeats 4000000 in
set_option maxRecDepth 100000 in
theorem delq_0 (l : List EnT) (p base : Nat) (w : World) (g : Nat) (HO : Hid (w.ownsRow base 60 2 (.slice (some ⟨g, 0, none⟩) (p + 1) (p + 1)) (p + 1) (shQ.flat l))) (hm : Hid (l.length = p + 1))  :
    Calls Try.prog 31 #[.slice (some ⟨g, 0, none⟩) (p + 1) (p + 1), .int .i64 (p : Int), .int .i64 ((p : Int) + 1)] w fun e w' => e = .returned (.slice (some ⟨g, 0, none⟩) p (p + 1)) ∧ Que shQ w' base 60 (.slice (some ⟨g, 0, none⟩) p (p + 1)) p (l.take p ++ l.drop (p + 1)) ∧ w.grownBy w' (some g) := by
  obtain ⟨i0, hi, hz0, hz1, hz2⟩ := info_parts info_one
  have hs2 : shQ.size = 2 := rfl
  obtain ⟨cur, hg, hbg, hnc, hcm, hcs, htk⟩ : ∃ cur : Array Value, w.heap[g]? = some (.cells cur 60 (0, 0)) ∧ base ≤ g ∧ p + 1 ≤ (p + 1) ∧ (p + 1) ≤ maxLen ∧ cur.size = (p + 1) * 2 ∧ cur.toList.take ((p + 1) * 2) = shQ.flat l := by
    obtain ⟨h1, h2⟩ := HO.out
    rcases h2 with ⟨e, _⟩ | ⟨g', cap, cur, e, h3, h4, h5, h6, h7, h8⟩
    · cases e
    · simp only [Value.slice.injEq, Option.some.injEq, Addr.mk.injEq, and_true, true_and] at e
      obtain ⟨rfl, rfl⟩ := e
      exact ⟨cur, h4, h3, h5, h6, h7, h8⟩
  have hc63 : (p + 1) ≤ 9223372036854775807 := by unfold maxLen at hcm; exact hcm
  have hml := hm.out
  obtain ⟨T, hT⟩ : ∃ T, T = shQ.flat (l.take p) := ⟨_, rfl⟩
  obtain ⟨D, hD⟩ : ∃ D, D = shQ.flat (l.drop (p + 1)) := ⟨_, rfl⟩
  have hTl : T.length = p * 2 := by rw [hT, shQ.flat_len, List.length_take, hml, Nat.min_eq_left (by omega)]; rfl
  have hDl : D.length = (p - p) * 2 := by rw [hD, shQ.flat_len, List.length_drop, hml, hs2]; congr 1; omega
  have hD1 : ∀ u ∈ D, u.oneCell' = true := by rw [hD]; exact shQ.flat_one _
  have hcl : cur.toList.length = cur.size := Array.length_toList
  have hTk : cur.toList.take (p * 2) = T := by
    rw [hT, ← flat_take shQ l p (by omega), ← htk, hs2, List.take_take, Nat.min_eq_left (by omega)]
  have hDc : ∀ j v, D[j]? = some v → w.cell? ⟨g, (p + 1) * 2 + j, none⟩ = some v := fun j v h => by
    have hj := (List.getElem?_eq_some_iff.1 h).1
    have h2 := flat_drop shQ l (p + 1) j (by omega)
    rw [← hD, hs2] at h2
    rw [cell_of_row w g _ _ _ _ hg, ← Array.getElem?_toList, ← h, h2, ← htk, List.getElem?_take_of_lt (by omega)]
  obtain ⟨C1, hC1⟩ : ∃ C1, C1 = T ++ D ++ cur.toList.drop (p * 2 + D.length) := ⟨_, rfl⟩
  obtain ⟨W1, hW1⟩ : ∃ W1, W1 = w.drew.setRow g C1.toArray := ⟨_, rfl⟩
  have hC1l : C1.length = (p + 1) * 2 := by rw [hC1, List.length_append, List.length_append, List.length_drop, hcl]; omega
  have hgd : w.drew.heap[g]? = some (.cells cur 60 (0, 0)) := hg
  have HR : Hid (∀ ty, (Builtin.append_ #[57, 57] ty #[.slice (some ⟨g, 0, none⟩) p (p + 1), .slice (some ⟨g, 0, none⟩) 0 0]).run Try.prog w.drew = .ok (.slice (some ⟨g, 0, none⟩) p (p + 1)) W1) := Lib.hid fun ty => by
    have h := run_append_room_off (P := Try.prog) (w := w.drew) 57 ty 60 i0 Try.underlying57 hi g 0 p (p + 1) cur hgd ⟨g, 0, none⟩ 0 0 D (by rw [hDl, hz1]; simp) (fun j u hj => by have := (List.getElem?_eq_some_iff.1 hj).1; omega) hD1 (by omega) (by rw [hz1, hDl, hcs]; omega)
    rw [show 0 + p * i0.size = p * 2 by rw [hz1]; omega, hTk, ← hC1, ← hW1, show p + 0 = p by omega] at h
    exact h
  have HW1 : Hid (W1.heap[g]? = some (.cells C1.toArray 60 (0, 0))) := Lib.hid (by rw [hW1]; exact setRow_heap _ _ _ _ _ _ hgd)
  have HG1 : Hid (w.grownBy W1 (some g)) := Lib.hid (by rw [hW1]; exact ⟨rfl, rfl, rfl, by simp, fun p _ hk => setRow_other w.drew g p _ (fun e => hk (by rw [e]))⟩)
  obtain ⟨C2, hC2⟩ : ∃ C2, C2 = C1.take (p * 2) ++ [Value.int .i64 0, Value.int .i64 0] ++ C1.drop (p * 2 + 2) := ⟨_, rfl⟩
  have hclr : ∀ ty cx, (Builtin.clear_ #[57] ty #[.slice (some ⟨g, p * 2, none⟩) 1 cx]).run Try.prog W1 = .ok (.tuple #[]) (W1.setRow g C2.toArray) := fun ty cx => by
    rw [hC2]
    exact clear_one W1 ty g (p * 2) cx _ HW1.out (by rw [List.size_toArray, hC1l]; omega)
  have HC1 : Hid (C1.take (p * 2) = shQ.flat (l.take p ++ l.drop (p + 1))) := Lib.hid (by
    rw [shQ.flat_app, ← hT, ← hD, hC1]
    exact List.take_left' (by rw [List.length_append, hTl, hDl]; omega))
  have HC2 := Lib.hid hC2
  have HL2 : Hid (C2.length = (p + 1) * 2) := Lib.hid (by
    rw [hC2, List.length_append, List.length_append, List.length_take, List.length_drop, hC1l]
    simp
    omega)
  have HG := Lib.hid hg
  have htn : ((p : Int) + 1).toNat = p + 1 := by omega
  have hw1 : IntKind.i64.wrap ((p : Int) + 1) = (p : Int) + 1 := by rw [IntKind.wrap_i64]; omega
  have hb1 : (0 : Int) ≤ (p : Int) + 1 := by omega
  have hb2 : (p : Int) ≤ (p : Int) + 1 := by omega
  have hb3 : (p : Int) + 1 ≤ (p : Int) + 1 := by omega
  have hb4 : (p : Int) ≤ (p : Int) := by omega
  have hb5 : (p : Int) + 1 ≤ ((p + 1) : Int) := by omega
  have hb6 : (p : Int) + 1 ≤ ((p + 1) : Int) := by omega
  have hb7 : (p : Int) ≤ ((p + 1) : Int) := by omega
  have hb8 : (p : Int) ≤ ((p + 1) : Int) := by omega
  have hb9 : (p : Int) ≤ (p : Int) + 1 := by omega
  have hne : ¬ ((p : Int) = (p : Int) + 1) := by omega
  have hne2 : ((p : Int) == (p : Int) + 1) = false := by simp; omega
  have hci : ¬ (p + 1 = p) := by omega
  have hcp : ¬ ((p + 1) = p) := by omega
  have hck : ¬ ((p + 1) = p) := by omega
  have hp1 : p + 1 - p = 1 := by omega
  clear hT hD hTl hDl hD1 hcl hTk hDc hC1 hW1 hC1l hC2 hgd hg htk
  go_enter Try.func31, Try.ntmps31
  go_wp2_with fail
  go_region_law (refine step_append_run rfl (.tmp 22) (.tmp 25) 57 rfl _ _ (by simp [Act.eval, Act.put]) (by simp [Act.eval, Act.put]) (HR.out _) ?_)
  go_wp2_with fail
  go_ret
  have h9 := setRow_heap W1 g C1.toArray C2.toArray 60 (0, 0) HW1.out
  have hlen : (l.take p ++ l.drop (p + 1)).length = p := by
    rw [List.length_append, List.length_take, List.length_drop, hm.out, Nat.min_eq_left (by omega)]
    omega
  refine ⟨rfl, que_cells hlen hbg h9 (by omega) hcm ?_ [] ([Value.int .i64 0, Value.int .i64 0] ++ C1.drop (p * 2 + 2)) rfl ?_, HG1.out.trans ⟨rfl, rfl, rfl, by simp, fun p _ hk => setRow_other W1 g p _ (fun e => hk (by rw [e]))⟩⟩
  · rw [hs2, HL2.out]
    omega
  · rw [List.nil_append, HC2.out, HC1.out, List.append_assoc]
set_option maxHeartbeats 4000000 in
set_option maxRecDepth 100000 in
theorem delq_1 (l : List EnT) (p k c base : Nat) (w : World) (g : Nat) (HO : Hid (w.ownsRow base 60 2 (.slice (some ⟨g, 0, none⟩) (p + 1) c) (p + 1) (shQ.flat l))) (hm : Hid (l.length = p + 1)) (hk : k ≤ p) (hck1 : ¬ c = k + 1) :
    Calls Try.prog 31 #[.slice (some ⟨g, 0, none⟩) (p + 1) c, .int .i64 (k : Int), .int .i64 ((k : Int) + 1)] w fun e w' => e = .returned (.slice (some ⟨g, 0, none⟩) p c) ∧ Que shQ w' base 60 (.slice (some ⟨g, 0, none⟩) p c) p (l.take k ++ l.drop (k + 1)) ∧ w.grownBy w' (some g) := by
  obtain ⟨i0, hi, hz0, hz1, hz2⟩ := info_parts info_one
  have hs2 : shQ.size = 2 := rfl
  obtain ⟨cur, hg, hbg, hnc, hcm, hcs, htk⟩ : ∃ cur : Array Value, w.heap[g]? = some (.cells cur 60 (0, 0)) ∧ base ≤ g ∧ p + 1 ≤ c ∧ c ≤ maxLen ∧ cur.size = c * 2 ∧ cur.toList.take ((p + 1) * 2) = shQ.flat l := by
    obtain ⟨h1, h2⟩ := HO.out
    rcases h2 with ⟨e, _⟩ | ⟨g', cap, cur, e, h3, h4, h5, h6, h7, h8⟩
    · cases e
    · simp only [Value.slice.injEq, Option.some.injEq, Addr.mk.injEq, and_true, true_and] at e
      obtain ⟨rfl, rfl⟩ := e
      exact ⟨cur, h4, h3, h5, h6, h7, h8⟩
  have hc63 : c ≤ 9223372036854775807 := by unfold maxLen at hcm; exact hcm
  have hml := hm.out
  obtain ⟨T, hT⟩ : ∃ T, T = shQ.flat (l.take k) := ⟨_, rfl⟩
  obtain ⟨D, hD⟩ : ∃ D, D = shQ.flat (l.drop (k + 1)) := ⟨_, rfl⟩
  have hTl : T.length = k * 2 := by rw [hT, shQ.flat_len, List.length_take, hml, Nat.min_eq_left (by omega)]; rfl
  have hDl : D.length = (p - k) * 2 := by rw [hD, shQ.flat_len, List.length_drop, hml, hs2]; congr 1; omega
  have hD1 : ∀ u ∈ D, u.oneCell' = true := by rw [hD]; exact shQ.flat_one _
  have hcl : cur.toList.length = cur.size := Array.length_toList
  have hTk : cur.toList.take (k * 2) = T := by
    rw [hT, ← flat_take shQ l k (by omega), ← htk, hs2, List.take_take, Nat.min_eq_left (by omega)]
  have hDc : ∀ j v, D[j]? = some v → w.cell? ⟨g, (k + 1) * 2 + j, none⟩ = some v := fun j v h => by
    have hj := (List.getElem?_eq_some_iff.1 h).1
    have h2 := flat_drop shQ l (k + 1) j (by omega)
    rw [← hD, hs2] at h2
    rw [cell_of_row w g _ _ _ _ hg, ← Array.getElem?_toList, ← h, h2, ← htk, List.getElem?_take_of_lt (by omega)]
  obtain ⟨C1, hC1⟩ : ∃ C1, C1 = T ++ D ++ cur.toList.drop (k * 2 + D.length) := ⟨_, rfl⟩
  obtain ⟨W1, hW1⟩ : ∃ W1, W1 = w.drew.setRow g C1.toArray := ⟨_, rfl⟩
  have hC1l : C1.length = c * 2 := by rw [hC1, List.length_append, List.length_append, List.length_drop, hcl]; omega
  have hgd : w.drew.heap[g]? = some (.cells cur 60 (0, 0)) := hg
  have HR : Hid (∀ ty, (Builtin.append_ #[57, 57] ty #[.slice (some ⟨g, 0, none⟩) k c, .slice (some ⟨g, (k + 1) * 2, none⟩) (p - k) (c - (k + 1))]).run Try.prog w.drew = .ok (.slice (some ⟨g, 0, none⟩) p c) W1) := Lib.hid fun ty => by
    have h := run_append_room_off (P := Try.prog) (w := w.drew) 57 ty 60 i0 Try.underlying57 hi g 0 k c cur hgd ⟨g, (k + 1) * 2, none⟩ (p - k) (c - (k + 1)) D (by rw [hDl, hz1]) (fun j u hj => by rw [Go.WideShapes.add_plain]; exact hDc j u hj) hD1 (by omega) (by rw [hz1, hDl, hcs]; omega)
    rw [show 0 + k * i0.size = k * 2 by rw [hz1]; omega, hTk, ← hC1, ← hW1, show k + (p - k) = p by omega] at h
    exact h
  have HW1 : Hid (W1.heap[g]? = some (.cells C1.toArray 60 (0, 0))) := Lib.hid (by rw [hW1]; exact setRow_heap _ _ _ _ _ _ hgd)
  have HG1 : Hid (w.grownBy W1 (some g)) := Lib.hid (by rw [hW1]; exact ⟨rfl, rfl, rfl, by simp, fun k _ hk => setRow_other w.drew g k _ (fun e => hk (by rw [e]))⟩)
  obtain ⟨C2, hC2⟩ : ∃ C2, C2 = C1.take (p * 2) ++ [Value.int .i64 0, Value.int .i64 0] ++ C1.drop (p * 2 + 2) := ⟨_, rfl⟩
  have hclr : ∀ ty cx, (Builtin.clear_ #[57] ty #[.slice (some ⟨g, p * 2, none⟩) 1 cx]).run Try.prog W1 = .ok (.tuple #[]) (W1.setRow g C2.toArray) := fun ty cx => by
    rw [hC2]
    exact clear_one W1 ty g (p * 2) cx _ HW1.out (by rw [List.size_toArray, hC1l]; omega)
  have HC1 : Hid (C1.take (p * 2) = shQ.flat (l.take k ++ l.drop (k + 1))) := Lib.hid (by
    rw [shQ.flat_app, ← hT, ← hD, hC1]
    exact List.take_left' (by rw [List.length_append, hTl, hDl]; omega))
  have HC2 := Lib.hid hC2
  have HL2 : Hid (C2.length = c * 2) := Lib.hid (by
    rw [hC2, List.length_append, List.length_append, List.length_take, List.length_drop, hC1l]
    simp
    omega)
  have HG := Lib.hid hg
  have htn : ((k : Int) + 1).toNat = k + 1 := by omega
  have hw1 : IntKind.i64.wrap ((k : Int) + 1) = (k : Int) + 1 := by rw [IntKind.wrap_i64]; omega
  have hb1 : (0 : Int) ≤ (k : Int) + 1 := by omega
  have hb2 : (k : Int) ≤ (k : Int) + 1 := by omega
  have hb3 : (k : Int) + 1 ≤ (p : Int) + 1 := by omega
  have hb4 : (k : Int) ≤ (p : Int) := by omega
  have hb5 : (p : Int) + 1 ≤ (c : Int) := by omega
  have hb6 : (k : Int) + 1 ≤ (c : Int) := by omega
  have hb7 : (k : Int) ≤ (c : Int) := by omega
  have hb8 : (p : Int) ≤ (c : Int) := by omega
  have hb9 : (p : Int) ≤ (p : Int) + 1 := by omega
  have hne : ¬ ((k : Int) = (k : Int) + 1) := by omega
  have hne2 : ((k : Int) == (k : Int) + 1) = false := by simp; omega
  have hci : ¬ (p + 1 = k) := by omega
  have hcp : ¬ (c = p) := by omega
  have hck : ¬ (c = k) := by omega
  have hp1 : p + 1 - p = 1 := by omega
  clear hT hD hTl hDl hD1 hcl hTk hDc hC1 hW1 hC1l hC2 hgd hg htk
  go_enter Try.func31, Try.ntmps31
  go_wp2_with fail
  go_region_law (refine step_append_run rfl (.tmp 22) (.tmp 25) 57 rfl _ _ (by simp [Act.eval, Act.put]) (by simp [Act.eval, Act.put]) (HR.out _) ?_)
  go_wp2_with fail
  go_ret
  have h9 := setRow_heap W1 g C1.toArray C2.toArray 60 (0, 0) HW1.out
  have hlen : (l.take k ++ l.drop (k + 1)).length = p := by
    rw [List.length_append, List.length_take, List.length_drop, hm.out, Nat.min_eq_left (by omega)]
    omega
  refine ⟨rfl, que_cells hlen hbg h9 (by omega) hcm ?_ [] ([Value.int .i64 0, Value.int .i64 0] ++ C1.drop (p * 2 + 2)) rfl ?_, HG1.out.trans ⟨rfl, rfl, rfl, by simp, fun k _ hk => setRow_other W1 g k _ (fun e => hk (by rw [e]))⟩⟩
  · rw [hs2, HL2.out]
    omega
  · rw [List.nil_append, HC2.out, HC1.out, List.append_assoc]
theorem delq_any (l : List EnT) (n k c base : Nat) (w : World) (ad : Option Addr) (HO : Hid (w.ownsRow base 60 2 (.slice ad n c) n (shQ.flat l))) (hm : Hid (l.length = n)) (hk : k < n) :
    Calls Try.prog 31 #[.slice ad n c, .int .i64 (k : Int), .int .i64 ((k : Int) + 1)] w fun e w' => ∃ m, m + 1 = n ∧ e = .returned (.slice ad m c) ∧ Que shQ w' base 60 (.slice ad m c) m (l.take k ++ l.drop (k + 1)) ∧ w.grownBy w' (Value.slice ad n c).ownBlock := by
  obtain ⟨p, rfl⟩ : ∃ p, n = p + 1 := ⟨n - 1, by omega⟩
  obtain ⟨ad', cap, hv, hnc, hcm, hz, ha⟩ := own_shape HO.out
  simp only [Value.slice.injEq, true_and] at hv
  obtain ⟨rfl, rfl⟩ := hv
  cases ad with
  | none => have := (hz rfl).1; omega
  | some a =>
    obtain ⟨g, rfl, _, _⟩ := ha a rfl
    by_cases h : c = k + 1
    · subst h
      obtain rfl : p = k := by omega
      exact (delq_0 l p base w g HO hm).mono fun e w' h => ⟨p, rfl, h⟩
    · exact (delq_1 l p k c base w g HO hm (by omega) h).mono fun e w' h => ⟨p, rfl, h⟩
end Go.Proofs.Ytgnpodeneknpdaa
