/- Package lift: cmp.Compare, the comparisons of Merge and SMerge, isWrongSpan, slices.ContainsFunc. -/
import Derived.Test.YteabdbgllafafaaSpA
namespace Go.Proofs.Yteabdbgllafafaa
open Go.RowKit Go.Shelf Go.Lib Go.Sort

def cmpZ (x y : Int) : Int := if x < y then -1 else if y < x then 1 else 0
set_option maxHeartbeats 1000000 in
set_option maxRecDepth 100000 in
theorem compare_Z (x y : Int) (w : World) (c : Int) (hc : Hid (cmpZ x y = c)) : Calls Try.prog 42 #[.int .i64 x, .int .i64 y] w fun e w' => e = .returned (.int .i64 c) ∧ w = w' := by
  have nan : ∀ (x : Int) (w : World), Calls Try.prog 51 #[.int .i64 x] w fun e w' => e = .returned (.bool false) ∧ w = w' := fun x w => by
    go_enter Try.func51, Try.ntmps51
    go_wp2_with fail
    go_ret
    exact ⟨by simp, rfl⟩
  by_cases h1 : x < y
  · have h1' : decide (x < y) = true := decide_eq_true h1
    obtain rfl : c = -1 := by rw [← hc.out]; exact if_pos h1
    go_enter Try.func42, Try.ntmps42
    go_wp2_with (first
      | (go_at_call 51; (with_reducible refine (nan _ _).mono ?_); rintro e w1 ⟨rfl, rfl⟩)
      | fail)
    go_ret
    exact ⟨rfl, rfl⟩
  · have h1' : decide (x < y) = false := decide_eq_false h1
    by_cases h2 : y < x
    · have h2' : decide (x > y) = true := decide_eq_true h2
      obtain rfl : c = 1 := by rw [← hc.out]; unfold cmpZ; rw [if_neg h1, if_pos h2]
      go_enter Try.func42, Try.ntmps42
      go_wp2_with (first
        | (go_at_call 51; (with_reducible refine (nan _ _).mono ?_); rintro e w1 ⟨rfl, rfl⟩)
        | fail)
      go_ret
      exact ⟨rfl, rfl⟩
    · have h2' : decide (x > y) = false := decide_eq_false h2
      obtain rfl : c = 0 := by rw [← hc.out]; unfold cmpZ; rw [if_neg h1, if_neg h2]
      go_enter Try.func42, Try.ntmps42
      go_wp2_with (first
        | (go_at_call 51; (with_reducible refine (nan _ _).mono ?_); rintro e w1 ⟨rfl, rfl⟩)
        | fail)
      go_ret
      exact ⟨rfl, rfl⟩
set_option maxHeartbeats 1000000 in
theorem cmpA_W (x y : SpS) (W : World) : Calls Try.prog 41 #[.agg #[.int .i64 x.1, .int .i64 x.2], .agg #[.int .i64 y.1, .int .i64 y.2]] W fun e w' => e = .returned (.int .i64 (cmpZ x.1 y.1)) ∧ ∃ q os', w' = grow (W.drewN q) os' := by
  have hcon := fun W' => compare_Z x.1 y.1 W' _ (Lib.hid rfl)
  generalize cmpZ x.1 y.1 = r at hcon ⊢
  go_enter Try.func41, Try.ntmps41
  go_wp2_with (first
    | (go_at_call 42; refine (hcon _).mono ?_; rintro e w' ⟨rfl, rfl⟩)
    | fail)
  go_ret
  exact ⟨rfl, 0, _, by rw [alloc_eq_grow, alloc_eq_grow, grow_grow]; rfl⟩
set_option maxHeartbeats 1000000 in
theorem cmpB_W (x y : OkSp) (W : World) : Calls Try.prog 43 #[.agg #[.int .i64 x.1.1, .int .i64 x.1.2], .agg #[.int .i64 y.1.1, .int .i64 y.1.2]] W fun e w' => e = .returned (.int .i64 (x.1.1 - y.1.1)) ∧ ∃ q os', w' = grow (W.drewN q) os' := by
  have hx : IntKind.i64.wrap (x.1.1 - y.1.1) = x.1.1 - y.1.1 := by
    obtain ⟨h1, h2, h3⟩ := x.2
    obtain ⟨h4, h5, h6⟩ := y.2
    rw [IntKind.wrap_i64]
    omega
  generalize x.1.1 = x1 at hx ⊢
  generalize y.1.1 = y1 at hx ⊢
  generalize x.1.2 = x2
  generalize y.1.2 = y2
  go_enter Try.func43, Try.ntmps43
  go_wp2_with fail
  go_ret
  exact ⟨rfl, 0, _, by rw [alloc_eq_grow, alloc_eq_grow, grow_grow]; rfl⟩
theorem laysA (blk off size : Nat) (w : World) : CmpLays Try.prog 41 #[] shO.enc 2 (fun x y => cmpZ x.1.1 y.1.1) blk off size w := fun _ _ _ _ x y => cmpA_W x.1 y.1 _
theorem laysB (blk off size : Nat) (w : World) : CmpLays Try.prog 43 #[] shO.enc 2 (fun x y => x.1.1 - y.1.1) blk off size w := fun _ _ _ _ x y => cmpB_W x y _
theorem ltA (x y : OkSp) : ltOf (fun x y : OkSp => cmpZ x.1.1 y.1.1) x y = decide (x.1.1 < y.1.1) := by
  unfold ltOf cmpZ
  by_cases h1 : x.1.1 < y.1.1
  · simp [h1]
  · by_cases h2 : y.1.1 < x.1.1 <;> simp [h1, h2]
theorem ltB (x y : OkSp) : ltOf (fun x y : OkSp => x.1.1 - y.1.1) x y = decide (x.1.1 < y.1.1) := by
  unfold ltOf
  show decide (x.1.1 - y.1.1 < 0) = _
  by_cases h1 : x.1.1 < y.1.1
  · rw [decide_eq_true h1]; exact decide_eq_true (by omega)
  · rw [decide_eq_false h1]; exact decide_eq_false (by omega)
theorem sortA {base n c : Nat} {ad : Option Addr} {l : List SpS} (w : World) (HO : Hid (w.ownsRow base 41 2 (.slice ad n c) n (shS.flat l))) (hl : Hid (l.length = n)) (hok : Hid (∀ s ∈ l, okS s)) (hn : n < 4611686018427387904) :
    Calls Try.prog 40 #[.slice ad n c, .func (.func 41) #[] #[]] w fun e w' => e = .returned (.tuple #[]) ∧ ∃ m, l.Perm m ∧ (m.Pairwise fun a b => a.1 ≤ b.1) ∧ w'.ownsRow base 41 2 (.slice ad n c) n (shS.flat m) ∧ w.grownBy w' (Value.slice ad n c).ownBlock :=
  sort_S 41 _ ltA (enters_of Try.func41 (by kernel_rfl) rfl) laysA w HO hl hok hn
theorem sortB {base n c : Nat} {ad : Option Addr} {l : List SpS} (w : World) (HO : Hid (w.ownsRow base 41 2 (.slice ad n c) n (shS.flat l))) (hl : Hid (l.length = n)) (hok : Hid (∀ s ∈ l, okS s)) (hn : n < 4611686018427387904) :
    Calls Try.prog 40 #[.slice ad n c, .func (.func 43) #[] #[]] w fun e w' => e = .returned (.tuple #[]) ∧ ∃ m, l.Perm m ∧ (m.Pairwise fun a b => a.1 ≤ b.1) ∧ w'.ownsRow base 41 2 (.slice ad n c) n (shS.flat m) ∧ w.grownBy w' (Value.slice ad n c).ownBlock :=
  sort_S 43 _ ltB (enters_of Try.func43 (by kernel_rfl) rfl) laysB w HO hl hok hn
set_option maxHeartbeats 1000000 in
set_option maxRecDepth 100000 in
theorem iswrong_W (a b : Int) (w : World) (q : Bool) (hq : Hid ((!decide (okS (a, b))) = q)) : Calls Try.prog 39 #[.agg #[.int .i64 a, .int .i64 b]] w fun e w' => e = .returned (.bool q) ∧ Below w.heap.size w w' := by
  have B0 := below_alloc w (.cells #[.int .i64 a, .int .i64 b] 41)
  by_cases h1 : a < 0
  · have h1' : decide (a < 0) = true := decide_eq_true h1
    obtain rfl : q = true := by rw [← hq.out, decide_eq_false (fun h => by have := h.1; simp only at this; omega)]; rfl
    go_enter Try.func39, Try.ntmps39
    go_wp2_with fail
    go_ret
    exact ⟨rfl, B0⟩
  · have h1' : decide (a < 0) = false := decide_eq_false h1
    by_cases h2 : a ≥ b
    · have h2' : decide (a ≥ b) = true := decide_eq_true h2
      obtain rfl : q = true := by rw [← hq.out, decide_eq_false (fun h => by have := h.2.1; simp only at this; omega)]; rfl
      go_enter Try.func39, Try.ntmps39
      go_wp2_with fail
      go_ret
      exact ⟨rfl, B0⟩
    · have h2' : decide (a ≥ b) = false := decide_eq_false h2
      by_cases h3 : b > 1099511627776
      · have h3' : decide (b > 1099511627776) = true := decide_eq_true h3
        obtain rfl : q = true := by rw [← hq.out, decide_eq_false (fun h => by have := h.2.2; simp only at this; omega)]; rfl
        go_enter Try.func39, Try.ntmps39
        go_wp2_with fail
        go_ret
        exact ⟨rfl, B0⟩
      · have h3' : decide (b > 1099511627776) = false := decide_eq_false h3
        obtain rfl : q = false := by rw [← hq.out, decide_eq_true (show okS (a, b) from ⟨by simp only; omega, by simp only; omega, by simp only; omega⟩)]; rfl
        go_enter Try.func39, Try.ntmps39
        go_wp2_with fail
        go_ret
        exact ⟨rfl, B0⟩
set_option maxHeartbeats 1000000 in
set_option maxRecDepth 100000 in
theorem index_0 (ad : Option Addr) (cap : Nat) (fv : Value) (w : World) : Calls Try.prog 46 #[.slice ad 0 cap, fv] w fun e w' => e = .returned (.int .i64 (-1)) ∧ w = w' := by
  go_enter Try.func46, Try.ntmps46
  go_wp2_with fail
  go_loopw [8] (fun i wr => i = .int .i64 0 ∧ wr = w) (fun _ _ => 0)
  case atStart => exact ⟨rfl, rfl⟩
  case round =>
    obtain ⟨rfl, rfl⟩ := hrel
    go_wp2_with fail
    go_ret
    exact ⟨rfl, rfl⟩
set_option maxHeartbeats 1000000 in
set_option maxRecDepth 100000 in
theorem contains_0 (ad : Option Addr) (cap : Nat) (fv : Value) (w : World) : Calls Try.prog 29 #[.slice ad 0 cap, fv] w fun e w' => e = .returned (.bool false) ∧ w = w' := by
  go_enter Try.func29, Try.ntmps29
  go_wp2_with (first
    | (go_at_call 46; (with_reducible refine (index_0 _ _ _ _).mono ?_); rintro e w1 ⟨rfl, rfl⟩)
    | fail)
  go_ret
  exact ⟨rfl, rfl⟩
theorem contains_S {ad : Option Addr} {cap n : Nat} {l : List SpS} (f : Nat) (lb : Array Value) (p : SpS → Bool) (ef : ∀ args w, (callFunc f args).run Try.prog w = .ok (.enter f args) w) (w : World) (hp : Hid (PredBelow Try.prog f lb (fun x => .agg (shS.enc x).toArray) p w)) (HA : Hid (shS.At w ad cap l)) (hn : Hid (l.length = n)) (hnb : n ≤ 9223372036854775807) (q : Bool) (hq : Hid (l.any p = q)) :
    Calls Try.prog 29 #[.slice ad n cap, .func (.func f) #[] lb] w fun e w' => e = .returned (.bool q) ∧ Below w.heap.size w w' := by
  have e := hn.out
  have eq := hq.out
  subst e eq
  by_cases h0 : l.length = 0
  · have hl0 : l = [] := List.eq_nil_of_length_eq_zero h0
    subst hl0
    refine (contains_0 ad cap _ w).mono ?_
    rintro e w' ⟨rfl, rfl⟩
    exact ⟨rfl, Below.refl _ _⟩
  · obtain ⟨b, off, rfl, hb, hc⟩ := HA.out.2 (by omega)
    have hcon := AnyQ.slices_ContainsFunc laidSpCf 2 Try.isAgg41 Try.sizeOf41 shS.enc shS.len p f lb ef b off l.length cap l w hp.out (Nat.le_refl _) hnb hb (fun j hj i v hv => by
      have hi : i < 2 := by
        have := (List.getElem?_eq_some_iff.1 hv).1
        rw [shS.len] at this
        exact this
      have h1 := shS.flat_at l j i l[j] (List.getElem?_eq_getElem hj) hi
      rw [getElem!_pos l j hj] at hv
      have h2 : off + j * 2 + i = off + (j * 2 + i) := by omega
      rw [h2, hc (j * 2 + i) (by show j * 2 + i < l.length * 2; omega)]
      exact h1.trans hv)
    rw [List.take_length] at hcon
    exact hcon
end Go.Proofs.Yteabdbgllafafaa
