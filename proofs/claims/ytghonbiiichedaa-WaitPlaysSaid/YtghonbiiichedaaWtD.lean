/- slices.Index and slices.Delete of one at pointers to threads, at a row of the call's own. -/
import Derived.Test.YtghonbiiichedaaWtB
import Derived.Test.YtghonbiiichedaaQue
import Derived.Deep.RegionLaw
import Derived.LaidEqlPtr
namespace Go.Proofs.Ytghonbiiichedaa
open Go.RowKit

theorem info_thread : (Try.prog.info? 52).map (fun i => (i.zero, i.size, i.bytes)) = some (some (.agg #[.int .i64 0, .bool false, .bool false]), 3, 16) := by kernel_rfl
theorem eqP_same (x : Nat) (w : World) : (binOp .eql 50 (.pointer (some ⟨x, 0, none⟩)) (.pointer (some ⟨x, 0, none⟩))).run Try.prog w = .ok (.bool true) w := by
  obtain ⟨i0, hi, _⟩ := info_parts info_thread
  exact run_eql_ptr_same w ⟨x, 0, none⟩ Try.underlying50 hi
theorem eqP_other {x y : Nat} {w : World} {cs ds : Array Value} (hx : w.heap[x]? = some (.cells cs 52 (0, 0))) (hy : w.heap[y]? = some (.cells ds 52 (0, 0))) (h : ¬ x = y) : (binOp .eql 50 (.pointer (some ⟨x, 0, none⟩)) (.pointer (some ⟨y, 0, none⟩))).run Try.prog w = .ok (.bool false) w := by
  obtain ⟨i0, hi, _, hs, _⟩ := info_parts info_thread
  exact run_eql_ptr_other w Try.underlying50 hi (by rw [hs]; decide) (a := ⟨x, 0, none⟩) (b := ⟨y, 0, none⟩) (fun e => h (by cases e; rfl)) hx hy
set_option maxHeartbeats 1000000 in
set_option maxRecDepth 100000 in
/-- Where a pointer stands first. -/
theorem indexP {ad : Option Addr} {cap n k x : Nat} {ps : List Nat} (w : World) (HA : Hid (shP.At w ad cap ps)) (hm : Hid (ps.length = n)) (hn : n ≤ 9223372036854775807) (HT : Hid (∀ b ∈ ps, ∃ cs, w.heap[b]? = some (.cells cs 52 (0, 0)))) (hk : Hid (ps[k]? = some x)) (hb : Hid (∀ j y, j < k → ps[j]? = some y → ¬ y = x)) :
    Calls Try.prog 25 #[.slice ad n cap, .pointer (some ⟨x, 0, none⟩)] w fun e w' => e = .returned (.int .i64 (k : Nat)) ∧ w' = w := by
  have hkn : k < n := by rw [← hm.out]; exact (List.getElem?_eq_some_iff.1 hk.out).1
  go_enter Try.func25, Try.ntmps25
  go_wp2
  go_loop [8] (fun i => ∃ j : Nat, j ≤ k ∧ i = .int .i64 j) (fun i => n - (intOf i).toNat)
  case atStart => exact ⟨0, Nat.zero_le _, rfl⟩
  case round =>
    obtain ⟨j, hj, rfl⟩ := hrel
    have hjn : j < n := by omega
    obtain ⟨y, hy⟩ : ∃ y, ps[j]? = some y := ⟨ps[j]'(by rw [hm.out]; exact hjn), List.getElem?_eq_getElem _⟩
    obtain ⟨b, off, rfl, _, c0⟩ := at_ptr HA.out hy
    by_cases e : j = k
    · subst e
      have e2 : y = x := by
        have h2 := hk.out
        rw [hy] at h2
        exact Option.some.inj h2
      subst e2
      have heq := eqP_same y w
      clear hy hj
      go_wp2
      go_ret
      exact ⟨rfl, rfl⟩
    · have hne := hb.out j y (by omega) hy
      obtain ⟨cs, h1⟩ := HT.out y (List.mem_of_getElem? hy)
      obtain ⟨ds, h2⟩ := HT.out x (List.mem_of_getElem? hk.out)
      have heq := eqP_other h2 h1 (fun q => hne q.symm)
      clear h1 h2 hne hy
      go_wp2
      go_round
      case rel => exact ⟨j + 1, by omega, by go_num⟩
      case measure => simp [intOf]; omega
section
variable {P : Program}
/-- 'append' whose run is known, at a step of a region that draws its order. -/
theorem step_append_run {w : World} {ops : Array Oper} {o : Oper} {a : Act} {K : Act → World → Prop} {Q : Exit → Act → World → Prop} {E : Prop} (hgd : o.guard = none) (s x : Operand) (t : TypeId)
    (ho : o.op = .call { callee := .builtin .append, args := #[s, x], argTypes := #[t, t] }) (v u : Value) (hs : a.eval s = v) (hx : a.eval x = u) {v' : Value} {w' : World}
    (hr : (Builtin.append_ #[t, t] o.type #[v, u]).run P w = .ok v' w') (h : K (a.put o.dst v') w') :
    if Region.wanted o (yielded ops a.tmps) = true then Oper.wp P o a w K Q else E := by
  have hw : Region.wanted o (yielded ops a.tmps) = true := by simp [Region.wanted, hgd]
  rw [if_pos hw]
  unfold Oper.wp execOp
  simp only [ho, resolve, invoke, builtin, Sem.run_bind, Sem.run_pure, Result.andThen_ok, List.map_toArray, List.map_cons, List.map_nil, hs, hx, hr]
  exact h
end
/-- 'clear' of one pointer. -/
theorem clear_ptr (w : World) (ty : TypeId) (g off c : Nat) (cur : Array Value) (hg : w.heap[g]? = some (.cells cur 50 (0, 0))) (hfit : off + 1 ≤ cur.size) :
    (Builtin.clear_ #[38] ty #[.slice (some ⟨g, off, none⟩) 1 c]).run Try.prog w = .ok (.tuple #[]) (w.setRow g (cur.toList.take off ++ [Value.pointer none] ++ cur.toList.drop (off + 1)).toArray) := by
  have hst := run_storeCells_at Try.prog g off 50 [Value.pointer none] 0 cur w hg (by simpa using hfit) (by intro v hv; simp at hv; rw [hv]; rfl)
  simp only [Nat.add_zero, List.length_cons, List.length_nil] at hst
  have hz : (Builtin.zeroCells (Value.pointer none).cells 1).toList = [Value.pointer none] := by kernel_rfl
  simp [Builtin.clear_, run_underlying Try.underlying38, hz, hst]
set_option maxHeartbeats 4000000 in
set_option maxRecDepth 100000 in
theorem delp_0 (l : List Nat) (p base : Nat) (w : World) (g : Nat) (HO : Hid (w.ownsRow base 50 1 (.slice (some ⟨g, 0, none⟩) (p + 1) (p + 1)) (p + 1) (shP.flat l))) (hm : Hid (l.length = p + 1))  :
    Calls Try.prog 26 #[.slice (some ⟨g, 0, none⟩) (p + 1) (p + 1), .int .i64 (p : Int), .int .i64 ((p : Int) + 1)] w fun e w' => e = .returned (.slice (some ⟨g, 0, none⟩) p (p + 1)) ∧ w'.ownsRow base 50 1 (.slice (some ⟨g, 0, none⟩) p (p + 1)) p (shP.flat (l.take p ++ l.drop (p + 1))) ∧ w.grownBy w' (some g) := by
  obtain ⟨i0, hi, hz0, hz1, hz2⟩ := info_parts info_ptr
  obtain ⟨cur, hg, hbg, hnc, hcm, hcs, htk⟩ : ∃ cur : Array Value, w.heap[g]? = some (.cells cur 50 (0, 0)) ∧ base ≤ g ∧ p + 1 ≤ (p + 1) ∧ (p + 1) ≤ maxLen ∧ cur.size = (p + 1) ∧ cur.toList.take (p + 1) = shP.flat l := by
    obtain ⟨h1, h2⟩ := HO.out
    rcases h2 with ⟨e, _⟩ | ⟨g', cap, cur, e, h3, h4, h5, h6, h7, h8⟩
    · cases e
    · simp only [Value.slice.injEq, Option.some.injEq, Addr.mk.injEq, and_true, true_and] at e
      obtain ⟨rfl, rfl⟩ := e
      rw [Nat.mul_one] at h7 h8
      exact ⟨cur, h4, h3, h5, h6, h7, h8⟩
  have hc63 : (p + 1) ≤ 9223372036854775807 := by unfold maxLen at hcm; exact hcm
  have hml := hm.out
  obtain ⟨T, hT⟩ : ∃ T, T = shP.flat (l.take p) := ⟨_, rfl⟩
  obtain ⟨D, hD⟩ : ∃ D, D = shP.flat (l.drop (p + 1)) := ⟨_, rfl⟩
  have hTl : T.length = p := by rw [hT, flat_ptr, List.length_map, List.length_take, hml, Nat.min_eq_left (by omega)]
  have hDl : D.length = (p - p) := by rw [hD, flat_ptr, List.length_map, List.length_drop, hml]; omega
  have hD1 : ∀ u ∈ D, u.oneCell' = true := by rw [hD]; exact shP.flat_one _
  have hcl : cur.toList.length = cur.size := Array.length_toList
  have hTk : cur.toList.take p = T := by
    rw [hT, flat_ptr, List.map_take, ← flat_ptr, ← htk, List.take_take, Nat.min_eq_left (by omega)]
  have hDc : ∀ j v, D[j]? = some v → w.cell? ⟨g, (p + 1) + j, none⟩ = some v := fun j v h => by
    have hj := (List.getElem?_eq_some_iff.1 h).1
    have h2 : D[j]? = (shP.flat l)[p + 1 + j]? := by rw [hD, flat_ptr, List.map_drop, ← flat_ptr, List.getElem?_drop]
    rw [cell_of_row w g _ _ _ _ hg, ← Array.getElem?_toList, ← h, h2, ← htk, List.getElem?_take_of_lt (by omega)]
  obtain ⟨C1, hC1⟩ : ∃ C1, C1 = T ++ D ++ cur.toList.drop (p + D.length) := ⟨_, rfl⟩
  obtain ⟨W1, hW1⟩ : ∃ W1, W1 = w.drew.setRow g C1.toArray := ⟨_, rfl⟩
  have hC1l : C1.length = (p + 1) := by rw [hC1, List.length_append, List.length_append, List.length_drop, hcl]; omega
  have hgd : w.drew.heap[g]? = some (.cells cur 50 (0, 0)) := hg
  have HR : Hid (∀ ty, (Builtin.append_ #[38, 38] ty #[.slice (some ⟨g, 0, none⟩) p (p + 1), .slice (some ⟨g, 0, none⟩) 0 0]).run Try.prog w.drew = .ok (.slice (some ⟨g, 0, none⟩) p (p + 1)) W1) := Lib.hid fun ty => by
    have h := run_append_room_off (P := Try.prog) (w := w.drew) 38 ty 50 i0 Try.underlying38 hi g 0 p (p + 1) cur hgd ⟨g, 0, none⟩ 0 0 D (by rw [hDl, hz1]; simp) (fun j u hj => by have := (List.getElem?_eq_some_iff.1 hj).1; omega) hD1 (by omega) (by rw [hz1, hDl, hcs]; omega)
    rw [show 0 + p * i0.size = p by rw [hz1]; omega, hTk, ← hC1, ← hW1, show p + 0 = p by omega] at h
    exact h
  have HW1 : Hid (W1.heap[g]? = some (.cells C1.toArray 50 (0, 0))) := Lib.hid (by rw [hW1]; exact setRow_heap _ _ _ _ _ _ hgd)
  have HG1 : Hid (w.grownBy W1 (some g)) := Lib.hid (by rw [hW1]; exact ⟨rfl, rfl, rfl, by simp, fun p _ hk => setRow_other w.drew g p _ (fun e => hk (by rw [e]))⟩)
  obtain ⟨C2, hC2⟩ : ∃ C2, C2 = C1.take p ++ [Value.pointer none] ++ C1.drop (p + 1) := ⟨_, rfl⟩
  have hclr : ∀ ty cx, (Builtin.clear_ #[38] ty #[.slice (some ⟨g, p, none⟩) 1 cx]).run Try.prog W1 = .ok (.tuple #[]) (W1.setRow g C2.toArray) := fun ty cx => by
    rw [hC2]
    exact clear_ptr W1 ty g p cx _ HW1.out (by rw [List.size_toArray, hC1l]; omega)
  have HC1 : Hid (C1.take p = shP.flat (l.take p ++ l.drop (p + 1))) := Lib.hid (by
    rw [shP.flat_app, ← hT, ← hD, hC1]
    exact List.take_left' (by rw [List.length_append, hTl, hDl]; omega))
  have HC2 := Lib.hid hC2
  have HL1 := Lib.hid hC1l
  have HL2 : Hid (C2.length = (p + 1)) := Lib.hid (by
    rw [hC2, List.length_append, List.length_append, List.length_take, List.length_drop, hC1l]
    simp <;> omega)
  have HG := Lib.hid hg
  have htn : ((p : Int) + 1).toNat = p + 1 := by omega
  have hw1 : IntKind.i64.wrap ((p : Int) + 1) = (p : Int) + 1 := by rw [IntKind.wrap_i64]; omega
  have hb1 : (0 : Int) ≤ (p : Int) + 1 := by omega
  have hb2 : (p : Int) ≤ (p : Int) + 1 := by omega
  have hb3 : (p : Int) + 1 ≤ (p : Int) + 1 := by omega
  have hb4 : (p : Int) ≤ (p : Int) := by omega
  have hb5 : (p : Int) + 1 ≤ ((p + 1) : Int) := by omega
  have hb6 : (p : Int) + 1 ≤ ((p + 1) : Int) := by omega
  have hb7 : (p : Int) ≤ ((p + 1) : Int) := by omega
  have hb8 : (p : Int) ≤ ((p + 1) : Int) := by omega
  have hb9 : (p : Int) ≤ (p : Int) + 1 := by omega
  have hne : ¬ ((p : Int) = (p : Int) + 1) := by omega
  have hne2 : ((p : Int) == (p : Int) + 1) = false := by simp; omega
  have hci : ¬ (p + 1 = p) := by omega
  have hcp : ¬ ((p + 1) = p) := by omega
  have hck : ¬ ((p + 1) = p) := by omega
  have hp1 : p + 1 - p = 1 := by omega
  clear hT hD hTl hDl hD1 hcl hTk hDc hC1 hW1 hC1l hC2 hgd hg htk
  go_enter Try.func26, Try.ntmps26
  go_wp2_with fail
  go_region_law (refine step_append_run rfl (.tmp 22) (.tmp 25) 38 rfl _ _ (by simp [Act.eval, Act.put]) (by simp [Act.eval, Act.put]) (HR.out _) ?_)
  go_wp2_with fail
  go_ret
  have h9 := setRow_heap W1 g C1.toArray C2.toArray 50 (0, 0) HW1.out
  have hlen : (l.take p ++ l.drop (p + 1)).length = p := by
    rw [List.length_append, List.length_take, List.length_drop, hm.out, Nat.min_eq_left (by omega)]
    omega
  refine ⟨rfl, ⟨by rw [flat_ptr, List.length_map, hlen, Nat.mul_one], Or.inr ⟨g, (p + 1), C2.toArray, rfl, hbg, h9, by omega, hcm, by rw [List.size_toArray, HL2.out, Nat.mul_one], ?_⟩⟩, HG1.out.trans ⟨rfl, rfl, rfl, by simp, fun p _ hk => setRow_other W1 g p _ (fun e => hk (by rw [e]))⟩⟩
  rw [Nat.mul_one, List.toList_toArray, HC2.out, List.append_assoc, ← HC1.out]
  exact List.take_left' (by rw [List.length_take, HL1.out]; omega)
set_option maxHeartbeats 4000000 in
set_option maxRecDepth 100000 in
theorem delp_1 (l : List Nat) (p k c base : Nat) (w : World) (g : Nat) (HO : Hid (w.ownsRow base 50 1 (.slice (some ⟨g, 0, none⟩) (p + 1) c) (p + 1) (shP.flat l))) (hm : Hid (l.length = p + 1)) (hk : k ≤ p) (hck1 : ¬ c = k + 1) :
    Calls Try.prog 26 #[.slice (some ⟨g, 0, none⟩) (p + 1) c, .int .i64 (k : Int), .int .i64 ((k : Int) + 1)] w fun e w' => e = .returned (.slice (some ⟨g, 0, none⟩) p c) ∧ w'.ownsRow base 50 1 (.slice (some ⟨g, 0, none⟩) p c) p (shP.flat (l.take k ++ l.drop (k + 1))) ∧ w.grownBy w' (some g) := by
  obtain ⟨i0, hi, hz0, hz1, hz2⟩ := info_parts info_ptr
  obtain ⟨cur, hg, hbg, hnc, hcm, hcs, htk⟩ : ∃ cur : Array Value, w.heap[g]? = some (.cells cur 50 (0, 0)) ∧ base ≤ g ∧ p + 1 ≤ c ∧ c ≤ maxLen ∧ cur.size = c ∧ cur.toList.take (p + 1) = shP.flat l := by
    obtain ⟨h1, h2⟩ := HO.out
    rcases h2 with ⟨e, _⟩ | ⟨g', cap, cur, e, h3, h4, h5, h6, h7, h8⟩
    · cases e
    · simp only [Value.slice.injEq, Option.some.injEq, Addr.mk.injEq, and_true, true_and] at e
      obtain ⟨rfl, rfl⟩ := e
      rw [Nat.mul_one] at h7 h8
      exact ⟨cur, h4, h3, h5, h6, h7, h8⟩
  have hc63 : c ≤ 9223372036854775807 := by unfold maxLen at hcm; exact hcm
  have hml := hm.out
  obtain ⟨T, hT⟩ : ∃ T, T = shP.flat (l.take k) := ⟨_, rfl⟩
  obtain ⟨D, hD⟩ : ∃ D, D = shP.flat (l.drop (k + 1)) := ⟨_, rfl⟩
  have hTl : T.length = k := by rw [hT, flat_ptr, List.length_map, List.length_take, hml, Nat.min_eq_left (by omega)]
  have hDl : D.length = (p - k) := by rw [hD, flat_ptr, List.length_map, List.length_drop, hml]; omega
  have hD1 : ∀ u ∈ D, u.oneCell' = true := by rw [hD]; exact shP.flat_one _
  have hcl : cur.toList.length = cur.size := Array.length_toList
  have hTk : cur.toList.take k = T := by
    rw [hT, flat_ptr, List.map_take, ← flat_ptr, ← htk, List.take_take, Nat.min_eq_left (by omega)]
  have hDc : ∀ j v, D[j]? = some v → w.cell? ⟨g, (k + 1) + j, none⟩ = some v := fun j v h => by
    have hj := (List.getElem?_eq_some_iff.1 h).1
    have h2 : D[j]? = (shP.flat l)[k + 1 + j]? := by rw [hD, flat_ptr, List.map_drop, ← flat_ptr, List.getElem?_drop]
    rw [cell_of_row w g _ _ _ _ hg, ← Array.getElem?_toList, ← h, h2, ← htk, List.getElem?_take_of_lt (by omega)]
  obtain ⟨C1, hC1⟩ : ∃ C1, C1 = T ++ D ++ cur.toList.drop (k + D.length) := ⟨_, rfl⟩
  obtain ⟨W1, hW1⟩ : ∃ W1, W1 = w.drew.setRow g C1.toArray := ⟨_, rfl⟩
  have hC1l : C1.length = c := by rw [hC1, List.length_append, List.length_append, List.length_drop, hcl]; omega
  have hgd : w.drew.heap[g]? = some (.cells cur 50 (0, 0)) := hg
  have HR : Hid (∀ ty, (Builtin.append_ #[38, 38] ty #[.slice (some ⟨g, 0, none⟩) k c, .slice (some ⟨g, k + 1, none⟩) (p - k) (c - (k + 1))]).run Try.prog w.drew = .ok (.slice (some ⟨g, 0, none⟩) p c) W1) := Lib.hid fun ty => by
    have h := run_append_room_off (P := Try.prog) (w := w.drew) 38 ty 50 i0 Try.underlying38 hi g 0 k c cur hgd ⟨g, k + 1, none⟩ (p - k) (c - (k + 1)) D (by rw [hDl, hz1, Nat.mul_one]) (fun j u hj => by rw [Go.WideShapes.add_plain]; exact hDc j u hj) hD1 (by omega) (by rw [hz1, hDl, hcs]; omega)
    rw [show 0 + k * i0.size = k by rw [hz1]; omega, hTk, ← hC1, ← hW1, show k + (p - k) = p by omega] at h
    exact h
  have HW1 : Hid (W1.heap[g]? = some (.cells C1.toArray 50 (0, 0))) := Lib.hid (by rw [hW1]; exact setRow_heap _ _ _ _ _ _ hgd)
  have HG1 : Hid (w.grownBy W1 (some g)) := Lib.hid (by rw [hW1]; exact ⟨rfl, rfl, rfl, by simp, fun k _ hk => setRow_other w.drew g k _ (fun e => hk (by rw [e]))⟩)
  obtain ⟨C2, hC2⟩ : ∃ C2, C2 = C1.take p ++ [Value.pointer none] ++ C1.drop (p + 1) := ⟨_, rfl⟩
  have hclr : ∀ ty cx, (Builtin.clear_ #[38] ty #[.slice (some ⟨g, p, none⟩) 1 cx]).run Try.prog W1 = .ok (.tuple #[]) (W1.setRow g C2.toArray) := fun ty cx => by
    rw [hC2]
    exact clear_ptr W1 ty g p cx _ HW1.out (by rw [List.size_toArray, hC1l]; omega)
  have HC1 : Hid (C1.take p = shP.flat (l.take k ++ l.drop (k + 1))) := Lib.hid (by
    rw [shP.flat_app, ← hT, ← hD, hC1]
    exact List.take_left' (by rw [List.length_append, hTl, hDl]; omega))
  have HC2 := Lib.hid hC2
  have HL1 := Lib.hid hC1l
  have HL2 : Hid (C2.length = c) := Lib.hid (by
    rw [hC2, List.length_append, List.length_append, List.length_take, List.length_drop, hC1l]
    simp <;> omega)
  have HG := Lib.hid hg
  have htn : ((k : Int) + 1).toNat = k + 1 := by omega
  have hw1 : IntKind.i64.wrap ((k : Int) + 1) = (k : Int) + 1 := by rw [IntKind.wrap_i64]; omega
  have hb1 : (0 : Int) ≤ (k : Int) + 1 := by omega
  have hb2 : (k : Int) ≤ (k : Int) + 1 := by omega
  have hb3 : (k : Int) + 1 ≤ (p : Int) + 1 := by omega
  have hb4 : (k : Int) ≤ (p : Int) := by omega
  have hb5 : (p : Int) + 1 ≤ (c : Int) := by omega
  have hb6 : (k : Int) + 1 ≤ (c : Int) := by omega
  have hb7 : (k : Int) ≤ (c : Int) := by omega
  have hb8 : (p : Int) ≤ (c : Int) := by omega
  have hb9 : (p : Int) ≤ (p : Int) + 1 := by omega
  have hne : ¬ ((k : Int) = (k : Int) + 1) := by omega
  have hne2 : ((k : Int) == (k : Int) + 1) = false := by simp; omega
  have hci : ¬ (p + 1 = k) := by omega
  have hcp : ¬ (c = p) := by omega
  have hck : ¬ (c = k) := by omega
  have hp1 : p + 1 - p = 1 := by omega
  clear hT hD hTl hDl hD1 hcl hTk hDc hC1 hW1 hC1l hC2 hgd hg htk
  go_enter Try.func26, Try.ntmps26
  go_wp2_with fail
  go_region_law (refine step_append_run rfl (.tmp 22) (.tmp 25) 38 rfl _ _ (by simp [Act.eval, Act.put]) (by simp [Act.eval, Act.put]) (HR.out _) ?_)
  go_wp2_with fail
  go_ret
  have h9 := setRow_heap W1 g C1.toArray C2.toArray 50 (0, 0) HW1.out
  have hlen : (l.take k ++ l.drop (k + 1)).length = p := by
    rw [List.length_append, List.length_take, List.length_drop, hm.out, Nat.min_eq_left (by omega)]
    omega
  refine ⟨rfl, ⟨by rw [flat_ptr, List.length_map, hlen, Nat.mul_one], Or.inr ⟨g, c, C2.toArray, rfl, hbg, h9, by omega, hcm, by rw [List.size_toArray, HL2.out, Nat.mul_one], ?_⟩⟩, HG1.out.trans ⟨rfl, rfl, rfl, by simp, fun k _ hk => setRow_other W1 g k _ (fun e => hk (by rw [e]))⟩⟩
  rw [Nat.mul_one, List.toList_toArray, HC2.out, List.append_assoc, ← HC1.out]
  exact List.take_left' (by rw [List.length_take, HL1.out]; omega)
theorem deleteP (l : List Nat) (n k c base : Nat) (w : World) (ad : Option Addr) (HO : Hid (w.ownsRow base 50 1 (.slice ad n c) n (shP.flat l))) (hm : Hid (l.length = n)) (hk : k < n) :
    Calls Try.prog 26 #[.slice ad n c, .int .i64 (k : Int), .int .i64 ((k : Int) + 1)] w fun e w' => ∃ m, m + 1 = n ∧ e = .returned (.slice ad m c) ∧ w'.ownsRow base 50 1 (.slice ad m c) m (shP.flat (l.take k ++ l.drop (k + 1))) ∧ w.grownBy w' (Value.slice ad n c).ownBlock := by
  obtain ⟨p, rfl⟩ : ∃ p, n = p + 1 := ⟨n - 1, by omega⟩
  obtain ⟨ad', cap, hv, hnc, hcm, hz, ha⟩ := own_shape HO.out
  simp only [Value.slice.injEq, true_and] at hv
  obtain ⟨rfl, rfl⟩ := hv
  cases ad with
  | none => have := (hz rfl).1; omega
  | some a =>
    obtain ⟨g, rfl, _, _⟩ := ha a rfl
    by_cases h : c = k + 1
    · subst h
      obtain rfl : p = k := by omega
      exact (delp_0 l p base w g HO hm).mono fun e w' h => ⟨p, rfl, h⟩
    · exact (delp_1 l p k c base w g HO hm (by omega) h).mono fun e w' h => ⟨p, rfl, h⟩
end Go.Proofs.Ytghonbiiichedaa
