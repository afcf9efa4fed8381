/- Package spread: smallestMost and Best. -/
import Derived.Test.YtmldedkmmhnihaaSprC
import Derived.Test.YtmldedkmmhnihaaSprD
import Derived.Laws.EntriesVeiled
namespace Go.Proofs.Ytmldedkmmhnihaa
open Go.RowKit

/-- The smallest Most of all plans. -/
def IsBest (ws : Nat → Nat) (m n v : Nat) : Prop := (∃ A, Plans ws m n v A) ∧ ∀ u A, u < v → ¬ Plans ws m n u A
theorem all_on_one (ws : Nat → Nat) (m n : Nat) (hm : 0 < m) : Plans ws m n (sumF ws n) (fun _ => 0) :=
  ⟨fun _ _ => hm, fun c _ => sumF_le fun i _ => by show (if 0 = c then ws i else 0) ≤ ws i; split <;> omega⟩
theorem sum_bound {ws : Nat → Nat} {n M : Nat} (h : ∀ i, i < n → ws i ≤ M) : sumF ws n ≤ n * M := by
  rw [← sumF_const]; exact sumF_le h
theorem best_of {ws : Nat → Nat} {m n b' : Nat} (hm : 0 < m) (hn : n ≤ 9) (hw : ∀ i, i < n → ws i ≤ 1073741824) (h : BestIs ws m n n (fun _ => 0) 9223372036854775807 b') : IsBest ws m n b' ∧ b' ≤ 9663676416 := by
  obtain ⟨h1, h2, h3⟩ := h
  have g1 := all_on_one ws m n hm
  have g2 : b' ≤ sumF ws n := by
    apply Classical.byContradiction
    intro g
    exact h3 (sumF ws n) (by omega) (can_plans.2 ⟨_, g1⟩)
  have g3 := sum_bound hw
  have g4 : n * 1073741824 ≤ 9 * 1073741824 := Nat.mul_le_mul_right _ hn
  refine ⟨⟨?_, fun u A hu hA => h3 u hu (can_plans.2 ⟨A, hA⟩)⟩, by omega⟩
  rcases h2 with h2 | h2
  · omega
  · exact can_plans.1 h2
theorem best_uniq {ws : Nat → Nat} {m n u v : Nat} (h : IsBest ws m n u) (k : IsBest ws m n v) : u = v := by
  obtain ⟨A, hA⟩ := h.1
  obtain ⟨B, hB⟩ := k.1
  have h1 : ¬ v < u := fun g => h.2 v B g hB
  have h2 : ¬ u < v := fun g => k.2 u A g hA
  omega
def SmallOut (W : World) (ws : Nat → Nat) (m n : Nat) (e : Ending) (w' : World) : Prop :=
  ∃ v, IsBest ws m n v ∧ v ≤ 9663676416 ∧ e = .returned (.int .i64 (v : Int)) ∧ Below W.heap.size W w'
abbrev plAt (k : Nat) : Pl := ⟨k, k + 1, k + 1 + 1, k + 1 + 1 + 1, k + 1 + 1 + 1 + 1⟩
theorem bs_start (w : World) (ad : Option Addr) (cap n m : Nat) (P : Obj) (hP : P = .cells #[.func (.func 50) #[] #[.pointer (some ⟨w.heap.size, 0, none⟩), .pointer (some ⟨w.heap.size + 1 + 1 + 1, 0, none⟩), .pointer (some ⟨w.heap.size + 1 + 1, 0, none⟩), .pointer (some ⟨w.heap.size + 1 + 1 + 1 + 1, 0, none⟩)]] 78 (0, 0)) :
    BS w (plAt w.heap.size) ad cap n m 9223372036854775807 (fun _ => 0) (((((w.alloc (.cells #[.slice ad n cap] 47)).alloc (.cells (madeCells #[.int .i64 0] m) 3)).alloc (.cells #[.slice (some ⟨w.heap.size + 1, 0, none⟩) m m] 47)).alloc (.cells #[.int .i64 9223372036854775807] 3)).alloc P) := by
  refine ⟨below_more (below_more (below_more (below_more (below_more (Below.refl _ _) _) _) _) _) _, ?_, ⟨?_, ?_, ?_, ?_⟩, ?_⟩
  · simp only <;> omega
  · simp only
    rw [heap_alloc_old _ _ (by simp <;> omega), heap_alloc_old _ _ (by simp <;> omega), heap_alloc_old _ _ (by simp <;> omega), heap_alloc_old _ _ (by simp), heap_alloc_new]
  · simp only
    rw [heap_alloc_old _ _ (by simp <;> omega), heap_alloc_old _ _ (by simp)]
    have := heap_alloc_new ((w.alloc (.cells #[.slice ad n cap] 47)).alloc (.cells (madeCells #[.int .i64 0] m) 3)) (.cells #[.slice (some ⟨w.heap.size + 1, 0, none⟩) m m] 47)
    simpa using this
  · simp only
    rw [heap_alloc_old _ _ (by simp)]
    have := heap_alloc_new (((w.alloc (.cells #[.slice ad n cap] 47)).alloc (.cells (madeCells #[.int .i64 0] m) 3)).alloc (.cells #[.slice (some ⟨w.heap.size + 1, 0, none⟩) m m] 47)) (.cells #[.int .i64 9223372036854775807] 3)
    simpa using this
  · simp only
    have := heap_alloc_new ((((w.alloc (.cells #[.slice ad n cap] 47)).alloc (.cells (madeCells #[.int .i64 0] m) 3)).alloc (.cells #[.slice (some ⟨w.heap.size + 1, 0, none⟩) m m] 47)).alloc (.cells #[.int .i64 9223372036854775807] 3)) P
    rw [← hP]
    simpa using this
  · have := RowI.fresh (w.alloc (.cells #[.slice ad n cap] 47)) m
    have := ((this.step (Below.alloc (Below.refl _ _) (Nat.le_refl _) (.cells #[.slice (some ⟨w.heap.size + 1, 0, none⟩) m m] 47))).step (Below.alloc (Below.refl _ _) (Nat.le_refl _) (.cells #[.int .i64 9223372036854775807] 3))).step (Below.alloc (Below.refl _ _) (Nat.le_refl _) P)
    simpa [plAt] using this
theorem row0 (m n : Nat) (hn : n ≤ 9) : ∀ c, c < m → (fun _ : Nat => 0) c + n * 1073741824 ≤ 9663676416 := fun c _ => by
  show 0 + n * 1073741824 ≤ _
  have : n * 1073741824 ≤ 9 * 1073741824 := Nat.mul_le_mul_right _ hn
  omega
set_option maxHeartbeats 2000000 in
set_option maxRecDepth 100000 in
theorem small_R {ad : Option Addr} {cap n m : Nat} {ws : Nat → Nat} (hm : 0 < m) (hm8 : m ≤ 9) (hn : n ≤ 9) (w : World) (HW : Hid (IntAt w ad cap n (fun i => (ws i : Int)))) (hw : Hid (∀ i, i < n → ws i ≤ 1073741824)) :
    Calls Try.prog 38 #[.slice ad n cap, .int .i64 (m : Int)] w (SmallOut w ws m n) := by
  have hmk := run_make_row' (P := Try.prog) 47 3 (.int .i64 0) 8 Try.underlying47 info_int rfl .i64 .i64 m (by omega) (by omega)
  go_enter Try.func38, Try.ntmps38
  go_wp2_with fail
  have S := Lib.hid (bs_start w ad cap n m _ rfl)
  have L0 := Lib.hid (row0 m n hn)
  have z1 : Hid (0 + n = n) := Lib.hid (Nat.zero_add n)
  have z2 : 9223372036854775807 ≤ 9223372036854775807 := Nat.le_refl _
  go_at_call 50
  (with_reducible refine (place_R (p := plAt w.heap.size) (W0 := w) (ad := ad) (cap := cap) hm hm8 hn HW hw n 0 0 9223372036854775807 (fun _ => 0) _ rfl z1.out z2 S L0).mono ?_)
  rintro e w1 ⟨rfl, b', hb, hs⟩
  have HB := Lib.hid (best_of hm hn hw.out hb)
  have S1 := Lib.hid hs
  have c1 : w1.cell? ⟨w.heap.size + 1 + 1 + 1, 0, none⟩ = some (.int .i64 (b' : Int)) := hs.cells.2.2.1
  clear hb hs
  go_wp2_with fail
  go_ret
  exact ⟨b', HB.out.1, HB.out.2, rfl, S1.out.1⟩
/-- Best's answers. -/
def BestOk (W : World) (ws : Nat → Nat) (m n : Nat) (e : Ending) (w' : World) : Prop :=
  ∃ v, IsBest ws m n v ∧ v ≤ 9663676416 ∧ e = .returned (.tuple #[.int .i64 (v : Int), .int .i64 0]) ∧ Below W.heap.size W w'
def BestNo (q : Int) (w : World) (e : Ending) (w' : World) : Prop := e = .returned (.tuple #[.int .i64 0, .int .i64 q]) ∧ w = w'
section
variable {ad : Option Addr} {cap n : Nat}
set_option maxHeartbeats 1000000 in
theorem best_bad {f : Nat → Int} (C : Int) (w : World) (HA : Hid (IntAt w ad cap n f)) (hn : n ≤ 9223372036854775807) (hq : Hid (wrongV f n C = 2)) :
    Calls Try.prog 22 #[.slice ad n cap, .int .i64 C] w (BestNo 2 w) := by
  go_enter Try.func22, Try.ntmps22
  go_wp2_with (first
    | (go_at_call 35; (with_reducible refine (wrong_R C _ HA hn 2 hq).mono ?_); rintro e w1 ⟨rfl, rfl⟩)
    | fail)
  go_ret2
  exact ⟨rfl, rfl⟩
set_option maxHeartbeats 1000000 in
theorem best_full {f : Nat → Int} (C : Int) (w : World) (HA : Hid (IntAt w ad cap n f)) (hn : n ≤ 9223372036854775807) (h9 : 9 < n) (hq : Hid (wrongV f n C = 0)) :
    Calls Try.prog 22 #[.slice ad n cap, .int .i64 C] w (BestNo 4 w) := by
  go_enter Try.func22, Try.ntmps22
  go_wp2_with (first
    | (go_at_call 35; (with_reducible refine (wrong_R C _ HA hn 0 hq).mono ?_); rintro e w1 ⟨rfl, rfl⟩)
    | fail)
  go_ret2
  exact ⟨rfl, rfl⟩
set_option maxHeartbeats 1000000 in
theorem best_ok {m : Nat} {ws : Nat → Nat} (w : World) (HA : Hid (IntAt w ad cap n (fun i => (ws i : Int)))) (hn : n ≤ 9) (hm : 0 < m) (hm8 : m ≤ 9) (hw : Hid (∀ i, i < n → ws i ≤ 1073741824)) (hq : Hid (wrongV (fun i => (ws i : Int)) n m = 0)) :
    Calls Try.prog 22 #[.slice ad n cap, .int .i64 (m : Int)] w (BestOk w ws m n) := by
  have hn9 : n ≤ 9223372036854775807 := by omega
  go_enter Try.func22, Try.ntmps22
  go_wp2_with (first
    | (go_at_call 35; (with_reducible refine (wrong_R (m : Int) _ HA hn9 0 hq).mono ?_); rintro e w1 ⟨rfl, rfl⟩)
    | (go_at_call 38; (with_reducible refine (small_R hm hm8 hn _ HA hw).mono ?_); rintro e w2 ⟨v, hv, hv2, rfl, hb⟩; have HV := Lib.hid hv; have HB := Lib.hid hb; clear hv hb)
    | fail)
  go_ret2
  exact ⟨v, HV.out, hv2, rfl, HB.out⟩
end
end Go.Proofs.Ytmldedkmmhnihaa
