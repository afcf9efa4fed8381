/- RunqTurns: taken and added again, all have their turn. -/
import Derived.Test.YtgnpodeneknpdaaRqL
import Derived.Test.YtgnpodeneknpdaaSofW
import Derived.Test.YtgnpodeneknpdaaComp
namespace Go.Proofs.Ytgnpodeneknpdaa
open Go.RowKit

theorem adds_next {l : Int} {c : List Int} {k : Nat} {x : Int} (h : c[k]? = some x) : addsU l (c.take (k + 1)) = addsU l (c.take k) ++ [⟨1, x, l⟩] := by
  have e : c.take (k + 1) = c.take k ++ [x] := by rw [List.take_add_one, h]; rfl
  rw [e]
  simp [addsU]
theorem turn_next {l : Int} {c : List Int} {k : Nat} {x : Int} (h : c[k]? = some x) : turnU l (c.take (k + 1)) = turnU l (c.take k) ++ [⟨3, 0, 0⟩, ⟨1, x, l⟩] := by
  have e : c.take (k + 1) = c.take k ++ [x] := by rw [List.take_add_one, h]; rfl
  rw [e]
  simp [turnU]
theorem take_next {c : List Int} {k : Nat} {x : Int} (h : c[k]? = some x) : c.take (k + 1) = c.take k ++ [x] := by rw [List.take_add_one, h]; rfl
theorem turn_len (l : Int) (c : List Int) : (turnU l c).length = 2 * c.length := by
  induction c with
  | nil => rfl
  | cons a r ih =>
    have e : turnU l (a :: r) = ⟨3, 0, 0⟩ :: ⟨1, a, l⟩ :: turnU l r := by simp [turnU]
    rw [e, List.length_cons, List.length_cons, ih, List.length_cons]
    omega
theorem turns_len (l : Int) (c : List Int) : ∀ q, (turnsU l c q).length = 2 * c.length * q
  | 0 => rfl
  | q + 1 => by rw [turnsU, List.length_append, turns_len l c q, turn_len, Nat.mul_succ]
theorem want_len (c : List Int) : ∀ q, (wantU c q).length = c.length * q
  | 0 => rfl
  | q + 1 => by rw [wantU, List.length_append, want_len c q, Nat.mul_succ]
theorem adds_len (l : Int) (c : List Int) : (addsU l c).length = c.length := by simp [addsU]
theorem wf_zero : WfI 0 := by unfold WfI; decide
theorem wf_turn {l : Int} {c : List Int} (h : ∀ x ∈ c, WfI x) : ∀ o ∈ turnU l c, WfI o.i := by
  intro o ho
  simp only [turnU, List.mem_flatMap, List.mem_cons, List.not_mem_nil, or_false] at ho
  obtain ⟨x, hx, rfl | rfl⟩ := ho
  · exact wf_zero
  · exact h x hx
theorem wf_turns {l : Int} {c : List Int} (h : ∀ x ∈ c, WfI x) : ∀ q, ∀ o ∈ turnsU l c q, WfI o.i
  | 0, o, ho => by cases ho
  | q + 1, o, ho => by
    rw [turnsU] at ho
    rcases List.mem_append.1 ho with ho | ho
    · exact wf_turns h q o ho
    · exact wf_turn h o ho
theorem wf_adds {l : Int} {c : List Int} (h : ∀ x ∈ c, WfI x) : ∀ o ∈ addsU l c, WfI o.i := by
  intro o ho
  obtain ⟨x, hx, rfl⟩ := List.mem_map.1 ho
  exact h x hx
/-- Rows of different elements lie in different blocks. -/
theorem own_apart2 {w : World} {base base' e e' size size' k k' : Nat} {v u : Value} {xs ys : List Value} (h : w.ownsRow base e size v k xs) (h' : w.ownsRow base' e' size' u k' ys) (hne : ¬ e = e') : ∀ g, v.ownBlock = some g → u.ownBlock = some g → False := by
  intro g hg hu
  obtain ⟨h1, h2⟩ := h
  rcases h2 with ⟨rfl, _⟩ | ⟨g', cap, cur, hv, _, hh, r⟩
  · cases hg
  · rw [hv] at hg
    simp only [Value.ownBlock, Option.some.injEq] at hg
    subst hg
    exact own_ne h' hh hne _ hu rfl
theorem ru_two (X : World) (a b : RuT) (cap : Nat) : shR.At (X.alloc (.cells #[.int .i64 a.k, .int .i64 a.i, .int .i64 a.l, .int .i64 b.k, .int .i64 b.i, .int .i64 b.l] 34)) (some ⟨X.heap.size, 0, none⟩) cap [a, b] :=
  Shape.At.lit (S := shR) [a, b] (heap_alloc_new X _)
section
variable {a1 : Option Addr} {c1 n : Nat} {ids : List Int}
/-- The arguments are such that nothing is asked. -/
def BadT (m : Nat) (lv rd : Int) : Prop := ¬ (0 ≤ lv ∧ lv ≤ 31 ∧ 0 < m ∧ m ≤ 20 ∧ 0 ≤ rd ∧ rd ≤ 5)
set_option maxHeartbeats 4000000 in
set_option maxRecDepth 100000 in
theorem turns_nil (lv rd : Int) (w : World) (HA : Hid (shI.At w a1 c1 ids)) (hm : Hid (ids.length = 0)) :
    Calls Try.prog 6 #[.slice a1 0 c1, .int .i64 lv, .int .i64 rd] w fun e w' => e = .returned (.bool true) ∧ Below w.heap.size w w' := by
  go_enter Try.func6, Try.ntmps6
  go_upto_region 4 with (first
    | (go_at_call 13; (with_reducible refine (alive13_N _).mono ?_); rintro e w1 ⟨rfl, hb⟩; have B1 := Lib.hid hb; have A1 := Lib.hid (HA.out.step hb); clear hb; have BV := Lib.hid (below_alloc w1 (.cells #[.slice a1 0 c1] 24)); have CV := one_at (heap_alloc_new w1 (.cells #[.slice a1 0 c1] 24)); have LV : w1.heap.size < (w1.alloc (.cells #[.slice a1 0 c1] 24)).heap.size := (by simp))
    | (go_at_call 21; (with_reducible refine (values_N _ _ _ _).mono ?_); rintro e w3 ⟨rfl, rfl⟩)
    | (go_at_call 20; (with_reducible refine (sorted_0 w1.heap.size w1 _ A1 hm BV LV CV).mono ?_); rintro e w4 ⟨rfl, hb⟩; have B4 := Lib.hid (pstep B1.out (BV.out.trans (hb.mono BV.out.size))); clear hb)
    | (go_at_call 19; (with_reducible refine (compact_nil _ _ _).mono ?_); rintro e w5 ⟨rfl, rfl⟩)
    | fail)
  by_cases h1 : lv < 0
  · go_wp2_with fail
    go_ret
    exact ⟨rfl, B4.out⟩
  by_cases h2 : 32 ≤ lv
  · go_wp2_with fail
    go_ret
    exact ⟨rfl, B4.out⟩
  go_wp2_with fail
  go_ret
  exact ⟨rfl, B4.out⟩
set_option maxHeartbeats 4000000 in
set_option maxRecDepth 100000 in
theorem turns_bad (lv rd : Int) (w : World) (HA : Hid (shI.At w a1 c1 ids)) (hm : Hid (ids.length = n)) (hp : 0 < n) (hn : n ≤ 17592186043904) {c : List Int} {m : Nat} (hc : Hid (Lib.compact (sortI ids) = c)) (hcm : Hid (c.length = m)) (hm0 : 0 < m) (hmx : m ≤ 17592186043904) (hbad : BadT m lv rd) :
    Calls Try.prog 6 #[.slice a1 n c1, .int .i64 lv, .int .i64 rd] w fun e w' => e = .returned (.bool true) ∧ Below w.heap.size w w' := by
  have hn8 : n * 8 ≤ 140737488355328 := by omega
  have HSL : Hid ((sortI ids).length = n) := Lib.hid (by rw [sortI_len]; exact hm.out)
  have HCL : Hid ((Lib.compact (sortI ids)).length = m) := Lib.hid (by rw [hc.out]; exact hcm.out)
  unfold BadT at hbad
  have HBAD := Lib.hid hbad
  clear hbad
  go_enter Try.func6, Try.ntmps6
  go_upto_region 4 with (first
    | (go_at_call 13; (with_reducible refine (alive13_N _).mono ?_); rintro e w1 ⟨rfl, hb⟩; have B1 := Lib.hid hb; have A1 := Lib.hid (HA.out.step hb); clear hb; have BV := Lib.hid (below_alloc w1 (.cells #[.slice a1 n c1] 24)); have CV := one_at (heap_alloc_new w1 (.cells #[.slice a1 n c1] 24)); have LV : w1.heap.size < (w1.alloc (.cells #[.slice a1 n c1] 24)).heap.size := (by simp))
    | (go_at_call 21; (with_reducible refine (values_N _ _ _ _).mono ?_); rintro e w3 ⟨rfl, rfl⟩)
    | (go_at_call 20; (with_reducible refine (sorted_N w1.heap.size w1 _ A1 hm hp BV hn8 LV CV).mono ?_); rintro e w4 ⟨g, cc, rfl, ho, hb⟩; have O4 := Lib.hid ho; have B4 := Lib.hid (pstep B1.out (BV.out.trans (hb.mono BV.out.size))); clear ho hb)
    | (go_at_call 19; (with_reducible refine (compact_N _ HSL O4).mono ?_); rintro e w5 ⟨rfl, ha, hg, hbase⟩; rw [HCL.out]; have B5 := Lib.hid (B4.out.grown hg B4.out.size (fun k hk => by cases hk; have h1 := B1.out.size; have h2 := BV.out.size; omega)); clear ha hg hbase)
    | fail)
  have hm00 : ¬ (m : Int) = 0 := by omega
  have hm01 : ((m : Int) == 0) = false := by simpa using hm00
  by_cases h1 : lv < 0
  · go_wp2_with fail
    go_ret
    exact ⟨rfl, B5.out⟩
  by_cases h2 : 32 ≤ lv
  · go_wp2_with fail
    go_ret
    exact ⟨rfl, B5.out⟩
  by_cases h3 : 20 < m
  · have h3b : (20 : Int) < (m : Int) := by omega
    go_wp2_with fail
    go_ret
    exact ⟨rfl, B5.out⟩
  have h3b : ¬ (20 : Int) < (m : Int) := by omega
  by_cases h4 : rd < 0
  · go_wp2_with fail
    go_ret
    exact ⟨rfl, B5.out⟩
  have h5 : 5 < rd := by
    have := HBAD.out
    omega
  go_wp2_with fail
  go_ret
  exact ⟨rfl, B5.out⟩
end
end Go.Proofs.Ytgnpodeneknpdaa
