/- The walk of corebellkeep.BitsCount: the sizes of union and intersection add up: it returns true for every two sets. -/
import Derived.Test.YtcpoakikeahjeaaDoorBitsJ
namespace Go.Proofs.YtcpoakikeahjeaaDoor
open Go.RowKit

/-- Two sets in variables of their own, and nothing that was there has turned. -/
def Two (W : World) (a0 a1 a2 a3 b0 b1 b2 b3 : Nat) (w : World) : Prop := Box w W.heap.size a0 a1 a2 a3 ∧ Box w (W.heap.size + 1) b0 b1 b2 b3 ∧ Below W.heap.size W w
theorem Two.step {W w w' : World} {a0 a1 a2 a3 b0 b1 b2 b3 : Nat} (h : Two W a0 a1 a2 a3 b0 b1 b2 b3 w) (hb : Below w.heap.size w w') : Two W a0 a1 a2 a3 b0 b1 b2 b3 w' :=
  ⟨h.1.below hb h.1.lt, h.2.1.below hb h.2.1.lt, h.2.2.trans (hb.mono h.2.2.size)⟩
theorem Two.drew {W w : World} {a0 a1 a2 a3 b0 b1 b2 b3 : Nat} (h : Two W a0 a1 a2 a3 b0 b1 b2 b3 w) : Two W a0 a1 a2 a3 b0 b1 b2 b3 w.drew := ⟨h.1, h.2.1, h.2.2.drew⟩
theorem two_start (W w' : World) (a0 a1 a2 a3 b0 b1 b2 b3 : Nat) (o1 o2 : Obj)
    (e1 : o1 = .cells #[.int .u64 (a0 : Nat), .int .u64 (a1 : Nat), .int .u64 (a2 : Nat), .int .u64 (a3 : Nat)] 24) (e2 : o2 = .cells #[.int .u64 (b0 : Nat), .int .u64 (b1 : Nat), .int .u64 (b2 : Nat), .int .u64 (b3 : Nat)] 24)
    (hb : Below ((W.alloc o1).alloc o2).heap.size ((W.alloc o1).alloc o2) w') : Two W a0 a1 a2 a3 b0 b1 b2 b3 w' := by
  subst e1 e2
  have s1 : ∀ (w : World) (o : Obj), (w.alloc o).heap.size = w.heap.size + 1 := fun w o => World.size_alloc w o
  refine ⟨Box.below (w := (W.alloc _).alloc _) ?_ hb (by simp [s1]; omega), Box.below (w := (W.alloc _).alloc _) ?_ hb (by simp [s1]), ?_⟩
  · unfold Box
    rw [Below.heap_alloc _ _ _ (by simp [s1])]
    exact heap_alloc_new W _
  · unfold Box
    have := heap_alloc_new (W.alloc (.cells #[.int .u64 (a0 : Nat), .int .u64 (a1 : Nat), .int .u64 (a2 : Nat), .int .u64 (a3 : Nat)] 24)) (.cells #[.int .u64 (b0 : Nat), .int .u64 (b1 : Nat), .int .u64 (b2 : Nat), .int .u64 (b3 : Nat)] 24)
    rwa [s1] at this
  · exact (((Below.refl _ _).alloc (Nat.le_refl _) _).alloc (by simp [s1]) _).trans (hb.mono (by simp [s1]; omega))
theorem Two.all {w w' : World} {a0 a1 a2 a3 b0 b1 b2 b3 : Nat} (h : Two w a0 a1 a2 a3 b0 b1 b2 b3 w') : Two w a0 a1 a2 a3 b0 b1 b2 b3 w' ∧
    w'.cell? ⟨w.heap.size, 0, none⟩ = some (.int .u64 a0) ∧ w'.cell? ⟨w.heap.size, 1, none⟩ = some (.int .u64 a1) ∧ w'.cell? ⟨w.heap.size, 2, none⟩ = some (.int .u64 a2) ∧ w'.cell? ⟨w.heap.size, 3, none⟩ = some (.int .u64 a3) ∧
    w'.cell? ⟨w.heap.size + 1, 0, none⟩ = some (.int .u64 b0) ∧ w'.cell? ⟨w.heap.size + 1, 1, none⟩ = some (.int .u64 b1) ∧ w'.cell? ⟨w.heap.size + 1, 2, none⟩ = some (.int .u64 b2) ∧ w'.cell? ⟨w.heap.size + 1, 3, none⟩ = some (.int .u64 b3) :=
  ⟨h, h.1.cells.1, h.1.cells.2.1, h.1.cells.2.2.1, h.1.cells.2.2.2, h.2.1.cells.1, h.2.1.cells.2.1, h.2.1.cells.2.2.1, h.2.1.cells.2.2.2⟩

/-- All, of which the length alone is asked. -/
theorem all_len (a b c d n : Nat) (w : World) (h : Hid (Ok a b c d)) (hT : Tab w) (hn : Hid ((allOf (mem a b c d)).length = n)) :
    Calls Tryd.prog 18 #[.agg #[.int .u64 a, .int .u64 b, .int .u64 c, .int .u64 d]] w fun e w' => ∃ ad cap, e = .returned (.slice ad n cap) ∧ Below w.heap.size w w' := by
  refine (all_any a b c d w h.out hT).mono ?_
  rintro e w' ⟨v, rfl, hown, hb⟩
  rw [hn.out] at hown
  rcases hown.2 with ⟨rfl, h2⟩ | ⟨g, cap, cur, rfl, _⟩
  · rw [h2]
    exact ⟨_, _, rfl, hb⟩
  · exact ⟨_, _, rfl, hb⟩

theorem bothR2 (a0 a1 a2 a3 b0 b1 b2 b3 r0 r1 r2 r3 : Nat) (w : World) (h : Hid (Ok a0 a1 a2 a3)) (h' : Hid (Ok b0 b1 b2 b3)) (hr : Hid (a0 &&& b0 = r0 ∧ a1 &&& b1 = r1 ∧ a2 &&& b2 = r2 ∧ a3 &&& b3 = r3)) :
    Calls Tryd.prog 21 #[.agg #[.int .u64 a0, .int .u64 a1, .int .u64 a2, .int .u64 a3], .agg #[.int .u64 b0, .int .u64 b1, .int .u64 b2, .int .u64 b3]] w fun e w' => e = .returned (.agg #[.int .u64 r0, .int .u64 r1, .int .u64 r2, .int .u64 r3]) ∧ Below w.heap.size w w' := by
  obtain ⟨rfl, rfl, rfl, rfl⟩ := hr.out
  exact both a0 a1 a2 a3 b0 b1 b2 b3 w h.out h'.out
theorem eitherR2 (a0 a1 a2 a3 b0 b1 b2 b3 r0 r1 r2 r3 : Nat) (w : World) (h : Hid (Ok a0 a1 a2 a3)) (h' : Hid (Ok b0 b1 b2 b3)) (hr : Hid (a0 ||| b0 = r0 ∧ a1 ||| b1 = r1 ∧ a2 ||| b2 = r2 ∧ a3 ||| b3 = r3)) :
    Calls Tryd.prog 22 #[.agg #[.int .u64 a0, .int .u64 a1, .int .u64 a2, .int .u64 a3], .agg #[.int .u64 b0, .int .u64 b1, .int .u64 b2, .int .u64 b3]] w fun e w' => e = .returned (.agg #[.int .u64 r0, .int .u64 r1, .int .u64 r2, .int .u64 r3]) ∧ Below w.heap.size w w' := by
  obtain ⟨rfl, rfl, rfl, rfl⟩ := hr.out
  exact either a0 a1 a2 a3 b0 b1 b2 b3 w h.out h'.out

theorem all_two {W : World} {a0 a1 a2 a3 b0 b1 b2 b3 : Nat} (a b c d n : Nat) (w : World) (h : Hid (Ok a b c d)) (hT : Hid (Tab W)) (hn : Hid ((allOf (mem a b c d)).length = n)) (h2 : Two W a0 a1 a2 a3 b0 b1 b2 b3 w) :
    Calls Tryd.prog 18 #[.agg #[.int .u64 a, .int .u64 b, .int .u64 c, .int .u64 d]] w fun e w' => ∃ ad cap, e = .returned (.slice ad n cap) ∧ Two W a0 a1 a2 a3 b0 b1 b2 b3 w' := by
  refine (all_len a b c d n w h (hT.out.below h2.2.2) hn).mono ?_
  rintro e w' ⟨ad, cap, rfl, hb⟩
  exact ⟨ad, cap, rfl, h2.step hb⟩

set_option maxHeartbeats 8000000 in
set_option maxRecDepth 100000 in
theorem count_core (a0 a1 a2 a3 b0 b1 b2 b3 x0 x1 x2 x3 o0 o1 o2 o3 la lb lx lo : Nat) (w : World) (HT : Hid (Tab w)) (Oa : Hid (Ok a0 a1 a2 a3)) (Ob : Hid (Ok b0 b1 b2 b3)) (Ox : Hid (Ok x0 x1 x2 x3)) (Oo : Hid (Ok o0 o1 o2 o3))
    (Hx : Hid (a0 &&& b0 = x0 ∧ a1 &&& b1 = x1 ∧ a2 &&& b2 = x2 ∧ a3 &&& b3 = x3)) (Ho : Hid (a0 ||| b0 = o0 ∧ a1 ||| b1 = o1 ∧ a2 ||| b2 = o2 ∧ a3 ||| b3 = o3))
    (Ha : Hid ((allOf (mem a0 a1 a2 a3)).length = la)) (Hb : Hid ((allOf (mem b0 b1 b2 b3)).length = lb)) (Hlx : Hid ((allOf (mem x0 x1 x2 x3)).length = lx)) (Hlo : Hid ((allOf (mem o0 o1 o2 o3)).length = lo))
    (key : Hid ((IntKind.i64.wrap ((lo : Int) + (lx : Int)) == IntKind.i64.wrap ((la : Int) + (lb : Int))) = true)) :
    Calls Tryd.prog 7 #[.agg #[.int .u64 a0, .int .u64 a1, .int .u64 a2, .int .u64 a3], .agg #[.int .u64 b0, .int .u64 b1, .int .u64 b2, .int .u64 b3]] w fun e w' => e = .returned (.bool true) ∧ Below w.heap.size w w' := by
  go_enter Tryd.func7, Tryd.ntmps7
  go_wp2_with fail
  refine (alive_any _ (HT.out.below (((Below.refl _ _).alloc (Nat.le_refl _) _).alloc (by simp) _))).mono ?_
  rintro e w0 ⟨rfl, hb⟩
  have T0 := (two_start w w0 a0 a1 a2 a3 b0 b1 b2 b3 _ _ rfl rfl hb).drew
  clear hb
  go_wp2_with fail
  go_region_held3 (fun w' => Two w a0 a1 a2 a3 b0 b1 b2 b3 w' ∧
      w'.cell? ⟨w.heap.size, 0, none⟩ = some (.int .u64 a0) ∧ w'.cell? ⟨w.heap.size, 1, none⟩ = some (.int .u64 a1) ∧ w'.cell? ⟨w.heap.size, 2, none⟩ = some (.int .u64 a2) ∧ w'.cell? ⟨w.heap.size, 3, none⟩ = some (.int .u64 a3) ∧
      w'.cell? ⟨w.heap.size + 1, 0, none⟩ = some (.int .u64 b0) ∧ w'.cell? ⟨w.heap.size + 1, 1, none⟩ = some (.int .u64 b1) ∧ w'.cell? ⟨w.heap.size + 1, 2, none⟩ = some (.int .u64 b2) ∧ w'.cell? ⟨w.heap.size + 1, 3, none⟩ = some (.int .u64 b3))
    (first
      | exact Two.all (by assumption)
      | exact Two.all T0)
    (first
      | (go_at_call 22; ((with_reducible refine (eitherR2 a0 a1 a2 a3 b0 b1 b2 b3 o0 o1 o2 o3 _ Oa Ob Ho).mono ?_); rintro e w1 ⟨rfl, hb⟩; have TT := Two.step (by assumption) hb; clear hb))
      | (go_at_call 21; ((with_reducible refine (bothR2 a0 a1 a2 a3 b0 b1 b2 b3 x0 x1 x2 x3 _ Oa Ob Hx).mono ?_); rintro e w1 ⟨rfl, hb⟩; have TT := Two.step (by assumption) hb; clear hb))
      | (go_at_call 18; ((with_reducible refine (all_two (a0 := a0) (a1 := a1) (a2 := a2) (a3 := a3) (b0 := b0) (b1 := b1) (b2 := b2) (b3 := b3) o0 o1 o2 o3 lo _ Oo HT Hlo (by assumption)).mono ?_); rintro e w1 ⟨ad, cap, rfl, TT⟩))
      | (go_at_call 18; ((with_reducible refine (all_two (a0 := a0) (a1 := a1) (a2 := a2) (a3 := a3) (b0 := b0) (b1 := b1) (b2 := b2) (b3 := b3) x0 x1 x2 x3 lx _ Ox HT Hlx (by assumption)).mono ?_); rintro e w1 ⟨ad, cap, rfl, TT⟩))
      | (go_at_call 18; ((with_reducible refine (all_two (a0 := a0) (a1 := a1) (a2 := a2) (a3 := a3) (b0 := b0) (b1 := b1) (b2 := b2) (b3 := b3) a0 a1 a2 a3 la _ Oa HT Ha (by assumption)).mono ?_); rintro e w1 ⟨ad, cap, rfl, TT⟩))
      | (go_at_call 18; ((with_reducible refine (all_two (a0 := a0) (a1 := a1) (a2 := a2) (a3 := a3) (b0 := b0) (b1 := b1) (b2 := b2) (b3 := b3) b0 b1 b2 b3 lb _ Ob HT Hb (by assumption)).mono ?_); rintro e w1 ⟨ad, cap, rfl, TT⟩)))
  all_goals go_wp2_with fail
  all_goals go_ret
  all_goals exact ⟨congrArg (fun z => Ending.returned (.bool z)) key.out, (by assumption : Two w a0 a1 a2 a3 b0 b1 b2 b3 _).2.2⟩
theorem allOf_congr {p q : Nat → Bool} (h : ∀ n, p n = q n) : allOf p = allOf q := by
  have : p = q := funext h
  rw [this]
theorem bitsCount_walk (a0 a1 a2 a3 b0 b1 b2 b3 : Nat) (w : World) (ha : Ok a0 a1 a2 a3) (hb : Ok b0 b1 b2 b3) (hT : Tab w) :
    Calls Tryd.prog 7 #[.agg #[.int .u64 a0, .int .u64 a1, .int .u64 a2, .int .u64 a3], .agg #[.int .u64 b0, .int .u64 b1, .int .u64 b2, .int .u64 b3]] w fun e w' => e = .returned (.bool true) ∧ Below w.heap.size w w' := by
  refine count_core a0 a1 a2 a3 b0 b1 b2 b3 _ _ _ _ _ _ _ _ _ _ _ _ w hT ha hb ha.both (ha.either hb) ⟨rfl, rfl, rfl, rfl⟩ ⟨rfl, rfl, rfl, rfl⟩ rfl rfl rfl rfl ?_
  rw [allOf_congr (mem_both a0 a1 a2 a3 b0 b1 b2 b3), allOf_congr (mem_either a0 a1 a2 a3 b0 b1 b2 b3)]
  have := count_gen (mem a0 a1 a2 a3) (mem b0 b1 b2 b3) (List.range 256)
  have e : ((allOf fun n => mem a0 a1 a2 a3 n || mem b0 b1 b2 b3 n).length : Int) + ((allOf fun n => mem a0 a1 a2 a3 n && mem b0 b1 b2 b3 n).length : Int) = ((allOf (mem a0 a1 a2 a3)).length : Int) + ((allOf (mem b0 b1 b2 b3)).length : Int) := by
    unfold allOf
    omega
  show (_ == _) = true
  rw [e]
  exact beq_self_eq_true _
end Go.Proofs.YtcpoakikeahjeaaDoor
