/- The walks of corebellref.AAll, ATop and ANext. -/
import Derived.Test.YtgddbmbljlngnaaDoorRefC
namespace Go.Proofs.YtgddbmbljlngnaaDoor
open Go.RowKit

/-- What the loop of AAll keeps. -/
def Gets (w : World) (p : Nat → Bool) (k : Nat) (v : Value) (wr : World) : Prop :=
  wr.ownsRow (w.heap.size + 1) 3 1 v (upto p k).length (ints (upto p k)) ∧ Below (w.heap.size + 1) wr wr ∧ Below w.heap.size w wr ∧ w.heap.size < wr.heap.size

theorem upto_hit (p : Nat → Bool) (k : Nat) (h : p k = true) : upto p (k + 1) = upto p k ++ [k] := by
  unfold upto
  rw [List.range_succ, List.filter_append]
  simp [h]
theorem upto_miss (p : Nat → Bool) (k : Nat) (h : p k = false) : upto p (k + 1) = upto p k := by
  unfold upto
  rw [List.range_succ, List.filter_append]
  simp [h]
theorem gets_hit {w wr w1 : World} {p : Nat → Bool} {k : Nat} {v v' : Value} {o : Obj} (h : Gets w p k v wr) (hp : p k = true)
    (hown' : w1.ownsRow (w.heap.size + 1) 3 1 v' ((upto p k).length + 1) (ints (upto p k) ++ [.int .i64 (k : Int)])) (hgrow : (wr.alloc o).grownBy w1 v.ownBlock) : Gets w p (k + 1) v' w1 := by
  obtain ⟨hown, _, hbel, hlt⟩ := h
  have h1 : Below (w.heap.size + 1) wr w1 := ((Below.refl _ _).alloc (by omega) o).grown hgrow (by simp; omega) (fun j hj => (hown.lt j hj).1)
  refine ⟨?_, Below.refl _ _, hbel.trans (h1.mono (by omega)), Nat.lt_of_lt_of_le hlt h1.size⟩
  rw [upto_hit p k hp]
  simpa [ints] using hown'

set_option maxHeartbeats 2000000 in
set_option maxRecDepth 100000 in
theorem aall_core (a b c d : Nat) (R : Array Value) (w : World) (h : Hid (Ok a b c d)) (hR : Hid (boolsOf (mem a b c d) 256 = R)) :
    Calls Tryd.prog 30 #[.agg #[.int .u64 a, .int .u64 b, .int .u64 c, .int .u64 d]] w fun e w' =>
      ∃ v, e = .returned v ∧ w'.ownsRow (w.heap.size + 1) 3 1 v (allOf (mem a b c d)).length (ints (allOf (mem a b c d))) ∧ Below w.heap.size w w' := by
  obtain ⟨i0, hi, hz0, hz1, hz2⟩ := info_parts info_int
  go_enter Tryd.func30, Tryd.ntmps30
  go_wp2_with (go_at_call 38; refine (row_R a b c d R _ h hR).mono ?_; rintro e w' ⟨rfl, hb⟩)
  have HG : Gets w (mem a b c d) 0 (.slice none 0 0) w' := ⟨World.ownsRow_nil _ _ _ _, Below.refl _ _, ((Below.refl _ _).alloc (Nat.le_refl _) _).trans (hb.mono (by simp)), by have := hb.size; simp at this; omega⟩
  clear hb
  go_loopw [3, 8] (fun v i wr => ∃ k : Nat, k ≤ 256 ∧ i = .int .i64 k ∧ Gets w (mem a b c d) k v wr) (fun _ i _ => 256 - (intOf i).toNat)
  case atStart => exact ⟨0, by omega, rfl, HG⟩
  case round =>
    clear HG
    obtain ⟨k, hk, rfl, HG⟩ := hrel
    by_cases hlt : k < 256
    · have hlen := upto_len (mem a b c d) k
      have hsz := HG.2.2.2
      cases ht : mem a b c d k
      · have hidx : ∀ w : World, (Instr.index 56 (.agg R) (.int .i64 (k : Int))).run Tryd.prog w = .ok (.bool false) w := fun w => idx_row R k _ hlt (by rw [← hR.out, boolsOf_at _ _ _ hlt, ht]) w
        have HT := Lib.hid ht
        clear ht hlen hsz
        go_wp2_with fail
        go_roundw
        case rel => exact ⟨k + 1, by omega, by go_num, ⟨by rw [upto_miss _ _ HT.out]; exact HG.1, HG.2⟩⟩
        case measure => simp [intOf]; omega
      · have hidx : ∀ w : World, (Instr.index 56 (.agg R) (.int .i64 (k : Int))).run Tryd.prog w = .ok (.bool true) w := fun w => idx_row R k _ hlt (by rw [← hR.out, boolsOf_at _ _ _ hlt, ht]) w
        have HT := Lib.hid ht
        clear ht
        go_wp2_with (first
          | (at_builtin; refine wpList_append_own _ rfl _ _ 36 rfl (w.heap.size + 1) 3 i0 (.int .i64 0) 1 8 Tryd.underlying36 hi hz0 hz1 hz2 rfl (by decide) _ _ _ rfl (HG.1.alloc _) ⟨wr.heap.size, 0, none⟩ 1 1 [.int .i64 (k : Int)] rfl rfl ?c1 ?c2 ?c3 ?c4 ?c5 ?_)
          | fail)
        case c1 =>
          intro j u hj
          match j, hj with
          | 0, hj => simp at hj; subst hj; simp [Addr.add]
        case c2 => intro u hu; simp at hu; subst hu; rfl
        case c3 => unfold maxLen; omega
        case c4 => omega
        case c5 => simp; omega
        · intro v' w1 hown' hgrow _
          have HG1 := gets_hit HG HT.out hown' hgrow
          clear hown' hgrow
          go_wp2_with fail
          go_roundw
          case rel => exact ⟨k + 1, by omega, by go_num, HG1⟩
          case measure => simp [intOf]; omega
    · have hk256 : k = 256 := by omega
      subst hk256
      clear hlt hk
      go_wp2_with fail
      go_ret
      exact ⟨_, rfl, HG.1, HG.2.2.1⟩

/-- The list as a slice: of length 0, or its cells are known. -/
theorem aall_any (a b c d : Nat) (w : World) (h : Hid (Ok a b c d)) :
    Calls Tryd.prog 30 #[.agg #[.int .u64 a, .int .u64 b, .int .u64 c, .int .u64 d]] w fun e w' =>
      ∃ v, e = .returned v ∧ w'.ownsRow (w.heap.size + 1) 3 1 v (allOf (mem a b c d)).length (ints (allOf (mem a b c d))) ∧ Below w.heap.size w w' :=
  aall_core a b c d _ w h rfl

theorem aall_some (a b c d : Nat) (w : World) (h : Hid (Ok a b c d)) (hn : 0 < (allOf (mem a b c d)).length) :
    Calls Tryd.prog 30 #[.agg #[.int .u64 a, .int .u64 b, .int .u64 c, .int .u64 d]] w fun e w' =>
      ∃ g cap, e = .returned (.slice (some ⟨g, 0, none⟩) (allOf (mem a b c d)).length cap) ∧ Lies w' g (allOf (mem a b c d)) ∧ Below w.heap.size w w' := by
  refine (aall_any a b c d w h).mono ?_
  rintro e w' ⟨v, rfl, hown, hb⟩
  have hown' := hown
  obtain ⟨h1, h2⟩ := hown
  rcases h2 with ⟨_, h2⟩ | ⟨g, cap, cur, rfl, hg, hh, hn', hm, hs, ht⟩
  · omega
  · refine ⟨g, cap, rfl, ?_, hb⟩
    intro j hj
    rw [hown'.cellAt j (by omega)]
    unfold ints
    rw [List.getElem?_map, List.getElem?_eq_getElem hj, List.getD_eq_getElem?_getD, List.getElem?_eq_getElem hj]
    rfl
theorem aall_none (a b c d : Nat) (w : World) (h : Hid (Ok a b c d)) (hn : Hid ((allOf (mem a b c d)).length = 0)) :
    Calls Tryd.prog 30 #[.agg #[.int .u64 a, .int .u64 b, .int .u64 c, .int .u64 d]] w fun e w' => ∃ ad cap, e = .returned (.slice ad 0 cap) ∧ Below w.heap.size w w' := by
  refine (aall_any a b c d w h).mono ?_
  rintro e w' ⟨v, rfl, hown, hb⟩
  rw [hn.out] at hown
  rcases hown.2 with ⟨rfl, _⟩ | ⟨g, cap, cur, rfl, _⟩
  · exact ⟨_, _, rfl, hb⟩
  · exact ⟨_, _, rfl, hb⟩

/-- What the first k members leave in 'n'. -/
def lastAt (l : List Nat) (k : Nat) : Int := if k = 0 then -1 else ((l.getD (k - 1) 0 : Nat) : Int)
theorem lastAt_succ (l : List Nat) (k : Nat) : lastAt l (k + 1) = ((l.getD k 0 : Nat) : Int) := by
  unfold lastAt
  rw [if_neg (by omega), Nat.add_sub_cancel]

set_option maxHeartbeats 2000000 in
set_option maxRecDepth 100000 in
theorem atop_some (a0 a1 a2 a3 : Nat) (l : List Nat) (w : World) (Oa : Hid (Ok a0 a1 a2 a3)) (hn : 0 < l.length) (h256 : l.length ≤ 256) (HL : Hid (allOf (mem a0 a1 a2 a3) = l)) :
    Calls Tryd.prog 26 #[.agg #[.int .u64 a0, .int .u64 a1, .int .u64 a2, .int .u64 a3]] w fun e w' => e = .returned (.int .i64 (lastAt l l.length)) ∧ Below w.heap.size w w' := by
  go_enter Tryd.func26, Tryd.ntmps26
  go_wp2_with fail
  refine (aall_some a0 a1 a2 a3 _ Oa (by rw [HL.out]; exact hn)).mono ?_
  rw [HL.out]
  rintro e w1 ⟨g, cap, rfl, hlies, hb⟩
  have HB : Hid (Below w.heap.size w w1) := ((Below.refl _ _).alloc (Nat.le_refl _) _).trans (hb.mono (by simp))
  have HLI := Lib.hid hlies
  clear hb hlies
  go_wp2_with fail
  go_loop [3, 9] (fun t i => ∃ k : Nat, k ≤ l.length ∧ i = .int .i64 k ∧ t = .int .i64 (lastAt l k)) (fun _ i => l.length - (intOf i).toNat)
  case atStart => exact ⟨0, Nat.zero_le _, rfl, rfl⟩
  case round =>
    obtain ⟨k, hk, rfl, rfl⟩ := hrel
    by_cases hlt : k < l.length
    · obtain ⟨x, hx⟩ : ∃ x : Nat, l.getD k 0 = x := ⟨_, rfl⟩
      have hcell : w1.cell? ⟨g, k, none⟩ = some (.int .i64 (x : Int)) := by rw [← hx]; exact HLI.out k hlt
      have HX := Lib.hid hx
      clear hx
      go_wp2_with fail
      go_round
      case rel => exact ⟨k + 1, by omega, by go_num, by rw [lastAt_succ, HX.out]⟩
      case measure => simp [intOf]; omega
    · have hkl : k = l.length := by omega
      subst hkl
      clear hlt
      go_wp2_with fail
      go_ret
      exact ⟨rfl, HB.out⟩
set_option maxRecDepth 100000 in
theorem atop_none (a0 a1 a2 a3 : Nat) (w : World) (Oa : Hid (Ok a0 a1 a2 a3)) (HL : Hid ((allOf (mem a0 a1 a2 a3)).length = 0)) :
    Calls Tryd.prog 26 #[.agg #[.int .u64 a0, .int .u64 a1, .int .u64 a2, .int .u64 a3]] w fun e w' => e = .returned (.int .i64 (-1)) ∧ Below w.heap.size w w' := by
  go_enter Tryd.func26, Tryd.ntmps26
  go_wp2_with fail
  refine (aall_none a0 a1 a2 a3 _ Oa HL).mono ?_
  rintro e w1 ⟨ad, cap, rfl, hb⟩
  have HB : Hid (Below w.heap.size w w1) := ((Below.refl _ _).alloc (Nat.le_refl _) _).trans (hb.mono (by simp))
  clear hb
  go_wp2_with fail
  refine wp_loop_rounds 1 ?_
  rw [rounds_succ]
  go_wp2_with fail
  go_ret
  exact ⟨rfl, HB.out⟩
theorem atop_R (a0 a1 a2 a3 : Nat) (r : Int) (w : World) (Oa : Hid (Ok a0 a1 a2 a3)) (hr : Hid (topOf (mem a0 a1 a2 a3) = r)) :
    Calls Tryd.prog 26 #[.agg #[.int .u64 a0, .int .u64 a1, .int .u64 a2, .int .u64 a3]] w fun e w' => e = .returned (.int .i64 r) ∧ Below w.heap.size w w' := by
  rw [← hr.out]
  by_cases h : (allOf (mem a0 a1 a2 a3)).length = 0
  · rw [top_empty _ h]
    exact atop_none a0 a1 a2 a3 w Oa h
  · rw [top_last _ (by omega)]
    have := atop_some a0 a1 a2 a3 (allOf (mem a0 a1 a2 a3)) w Oa (by omega) (filter_len _ 256) rfl
    unfold lastAt at this
    rw [if_neg h] at this
    exact this

/-- The members below the k-th are below f. -/
theorem below_all (p : Nat → Bool) (f : Int) (h : ∀ j, j < (allOf p).length → ((allOf p).getD j 0 : Int) < f) : nextOf p f = -1 := by
  refine nextOf_none fun m hm hf => ?_
  cases hp : p m
  · rfl
  · exfalso
    obtain ⟨j, hj, hjm⟩ := List.getElem_of_mem ((all_mem p m).2 ⟨hm, hp⟩)
    have hjd : (allOf p).getD j 0 = m := by rw [List.getD_eq_getElem?_getD, List.getElem?_eq_getElem hj]; exact hjm
    have := h j hj
    rw [hjd] at this
    omega
theorem next_hit (p : Nat → Bool) (f : Int) (k : Nat) (hk : k < (allOf p).length) (hf : f ≤ ((allOf p).getD k 0 : Int)) (h : ∀ j, j < k → ((allOf p).getD j 0 : Int) < f) : nextOf p f = (((allOf p).getD k 0 : Nat) : Int) := by
  have hs := all_sorted p
  have hm := (all_mem p _).1 (getD_mem _ k hk)
  refine nextOf_some hm.1 hm.2 hf ?_
  intro m hlt hfm
  cases hp : p m
  · rfl
  · exfalso
    obtain ⟨j, hj, hjm⟩ := List.getElem_of_mem ((all_mem p m).2 ⟨by omega, hp⟩)
    have hjd : (allOf p).getD j 0 = m := by rw [List.getD_eq_getElem?_getD, List.getElem?_eq_getElem hj]; exact hjm
    by_cases hjk : j < k
    · have := h j hjk
      rw [hjd] at this
      omega
    · by_cases e : j = k
      · rw [e] at hjd; omega
      · have := getD_lt hs (i := k) (j := j) (by omega) hj
        omega

end Go.Proofs.YtgddbmbljlngnaaDoor
