/- The walk of corebelllaw.BitsTell: bits.Has, With, Without, Top, Next and All answer what A1 says: it returns true for every set and every integer. -/
import Derived.Test.YtcpoakikeahjeaaDoorBitsN
import Derived.Test.YtcpoakikeahjeaaDoorRefD
namespace Go.Proofs.YtcpoakikeahjeaaDoor
open Go.RowKit

theorem with_every (a b c d p0 p1 p2 p3 : Nat) (n : Int) (w : World) (h : Hid (Ok a b c d)) (hp : Hid (setw 0 n true a = p0 ∧ setw 1 n true b = p1 ∧ setw 2 n true c = p2 ∧ setw 3 n true d = p3)) :
    Calls Tryd.prog 10 #[.agg #[.int .u64 a, .int .u64 b, .int .u64 c, .int .u64 d], .int .i64 n] w fun e w' => e = .returned (.agg #[.int .u64 p0, .int .u64 p1, .int .u64 p2, .int .u64 p3]) ∧ Below w.heap.size w w' := by
  obtain ⟨rfl, rfl, rfl, rfl⟩ := hp.out
  by_cases hr : 0 ≤ n ∧ n < 256
  · obtain ⟨m, rfl⟩ : ∃ m : Nat, n = m := ⟨n.toNat, by omega⟩
    have e : ∀ k x, setw k (m : Int) true x = up k m x := fun k x => by unfold setw; rw [if_pos hr]; simp
    rw [e, e, e, e]
    exact with_any a b c d m w h.out (by omega)
  · have e : ∀ k x, setw k n true x = x := fun k x => by unfold setw; rw [if_neg hr]
    rw [e, e, e, e]
    exact with_out a b c d n w (by omega)
theorem without_every (a b c d p0 p1 p2 p3 : Nat) (n : Int) (w : World) (h : Hid (Ok a b c d)) (hp : Hid (setw 0 n false a = p0 ∧ setw 1 n false b = p1 ∧ setw 2 n false c = p2 ∧ setw 3 n false d = p3)) :
    Calls Tryd.prog 12 #[.agg #[.int .u64 a, .int .u64 b, .int .u64 c, .int .u64 d], .int .i64 n] w fun e w' => e = .returned (.agg #[.int .u64 p0, .int .u64 p1, .int .u64 p2, .int .u64 p3]) ∧ Below w.heap.size w w' := by
  obtain ⟨rfl, rfl, rfl, rfl⟩ := hp.out
  by_cases hr : 0 ≤ n ∧ n < 256
  · obtain ⟨m, rfl⟩ : ∃ m : Nat, n = m := ⟨n.toNat, by omega⟩
    have e : ∀ k x, setw k (m : Int) false x = dn k m x := fun k x => by unfold setw; rw [if_pos hr]; simp
    rw [e, e, e, e]
    exact without_any a b c d m w h.out (by omega)
  · have e : ∀ k x, setw k n false x = x := fun k x => by unfold setw; rw [if_neg hr]
    rw [e, e, e, e]
    exact without_out a b c d n w (by omega)
theorem aset_every (a b c d p0 p1 p2 p3 : Nat) (n : Int) (t : Bool) (w : World) (h : Hid (Ok a b c d)) (hp : Hid (setw 0 n t a = p0 ∧ setw 1 n t b = p1 ∧ setw 2 n t c = p2 ∧ setw 3 n t d = p3)) :
    Calls Tryd.prog 11 #[.agg #[.int .u64 a, .int .u64 b, .int .u64 c, .int .u64 d], .int .i64 n, .bool t] w fun e w' => e = .returned (.agg #[.int .u64 p0, .int .u64 p1, .int .u64 p2, .int .u64 p3]) ∧ Below w.heap.size w w' := by
  obtain ⟨rfl, rfl, rfl, rfl⟩ := hp.out
  exact aset_any a b c d n t w h.out
theorem top_every (a b c d : Nat) (r : Int) (w : World) (h : Hid (Ok a b c d)) (hr : Hid (topOf (mem a b c d) = r)) :
    Calls Tryd.prog 13 #[.agg #[.int .u64 a, .int .u64 b, .int .u64 c, .int .u64 d]] w fun e w' => e = .returned (.int .i64 r) ∧ Below w.heap.size w w' := by
  rw [← hr.out]
  exact top_any a b c d w h.out

/-- A slice of the list l: empty, or its cells are known. -/
def IsList (l : List Nat) (v : Value) (w : World) : Prop := ∃ ad cap, v = .slice ad l.length cap ∧ (0 < l.length → ∃ g, ad = some ⟨g, 0, none⟩ ∧ Lies w g l)
theorem IsList.step {l : List Nat} {v : Value} {w w' : World} (h : IsList l v w) (hb : Below w.heap.size w w') : IsList l v w' := by
  obtain ⟨ad, cap, e, hl⟩ := h
  exact ⟨ad, cap, e, fun h0 => by obtain ⟨g, e2, hg⟩ := hl h0; exact ⟨g, e2, hg.step hb⟩⟩
theorem isList_of_own {w w0 : World} {l : List Nat} {v : Value} (hown : w.ownsRow w0.heap.size 3 1 v l.length (ints l)) : IsList l v w := by
  have hown' := hown
  obtain ⟨h1, h2⟩ := hown
  rcases h2 with ⟨rfl, h2⟩ | ⟨g, cap, cur, rfl, hg, hh, hn', hm, hs, ht⟩
  · exact ⟨none, 0, by rw [h2], fun h => by omega⟩
  · refine ⟨some ⟨g, 0, none⟩, cap, rfl, fun _ => ⟨g, rfl, fun j hj => ?_⟩⟩
    rw [hown'.cellAt j (by omega)]
    unfold ints
    rw [List.getElem?_map, List.getElem?_eq_getElem hj, List.getD_eq_getElem?_getD, List.getElem?_eq_getElem hj]
    rfl
theorem own_base {w : World} {b b' e size n : Nat} {v : Value} {xs : List Value} (h : w.ownsRow b e size v n xs) (hb : b' ≤ b) : w.ownsRow b' e size v n xs := by
  obtain ⟨h1, h2⟩ := h
  refine ⟨h1, ?_⟩
  rcases h2 with h2 | ⟨g, cap, cur, hv, hg, r⟩
  · exact Or.inl h2
  · exact Or.inr ⟨g, cap, cur, hv, by omega, r⟩
theorem all_list (a b c d : Nat) (l : List Nat) (w : World) (h : Hid (Ok a b c d)) (hT : Tab w) (hl : Hid (allOf (mem a b c d) = l)) :
    Calls Tryd.prog 18 #[.agg #[.int .u64 a, .int .u64 b, .int .u64 c, .int .u64 d]] w fun e w' => ∃ v, e = .returned v ∧ IsList l v w' ∧ Below w.heap.size w w' := by
  refine (all_any a b c d w h.out hT).mono ?_
  rw [hl.out]
  rintro e w' ⟨v, rfl, hown, hb⟩
  exact ⟨v, rfl, isList_of_own (w0 := w) (own_base hown (by omega)), hb⟩
theorem aall_list (a b c d : Nat) (l : List Nat) (w : World) (h : Hid (Ok a b c d)) (hl : Hid (allOf (mem a b c d) = l)) :
    Calls Tryd.prog 19 #[.agg #[.int .u64 a, .int .u64 b, .int .u64 c, .int .u64 d]] w fun e w' => ∃ v, e = .returned v ∧ IsList l v w' ∧ Below w.heap.size w w' := by
  refine (aall_any a b c d w h).mono ?_
  rw [hl.out]
  rintro e w' ⟨v, rfl, hown, hb⟩
  exact ⟨v, rfl, isList_of_own (w0 := w) (own_base hown (by omega)), hb⟩
/-- slices.Equal of two slices of one list. -/
theorem equal_lists (l : List Nat) (v v' : Value) (w : World) (h256 : Hid (l.length ≤ 256)) (h : IsList l v w) (h' : IsList l v' w) :
    Calls Tryd.prog 17 #[v, v'] w fun e w' => e = .returned (.bool true) ∧ Below w.heap.size w w' := by
  obtain ⟨ad, cap, rfl, hl⟩ := h
  obtain ⟨ad', cap', rfl, hl'⟩ := h'
  have h256' := h256.out
  by_cases h0 : l.length = 0
  · rw [h0]
    refine (equal_empty ad ad' cap 0 cap' w (by decide)).mono ?_
    rintro e w' ⟨rfl, rfl⟩
    exact ⟨rfl, Below.refl _ _⟩
  · obtain ⟨g, rfl, hg⟩ := hl (by omega)
    obtain ⟨g', rfl, hg'⟩ := hl' (by omega)
    have hc : ∀ g : Nat, Lies w g l → ∀ j, j < (l.map (fun n : Nat => (n : Int))).length → w.cell? ⟨g, 0 + j, none⟩ = some (.int .i64 ((l.map (fun n : Nat => (n : Int))).getD j 0)) := fun g hg j hj => by
      have hj' : j < l.length := by simpa using hj
      rw [Nat.zero_add, hg j hj']
      rw [List.getD_eq_getElem?_getD, List.getD_eq_getElem?_getD, List.getElem?_map, List.getElem?_eq_getElem hj']
      rfl
    refine (equal_any g 0 l.length cap g' 0 l.length cap' (l.map (fun n : Nat => (n : Int))) (l.map (fun n : Nat => (n : Int))) w (by simp) (by simp) (by omega) (by omega) (hc g hg) (hc g' hg')).mono ?_
    rintro e w' ⟨rfl, q, rfl⟩
    exact ⟨by simp, below_drewN (Below.refl _ _) _⟩

theorem next_one {W : World} {a0 a1 a2 a3 : Nat} (f r : Int) (w : World) (ho : Hid (Ok a0 a1 a2 a3)) (hT : Hid (Tab W)) (hr : Hid (nextOf (mem a0 a1 a2 a3) f = r)) (h1 : One W a0 a1 a2 a3 w) :
    Calls Tryd.prog 15 #[.agg #[.int .u64 a0, .int .u64 a1, .int .u64 a2, .int .u64 a3], .int .i64 f] w fun e w' => e = .returned (.int .i64 r) ∧ One W a0 a1 a2 a3 w' := by
  refine (next_every a0 a1 a2 a3 f r w ho (hT.out.below h1.2) hr).mono ?_
  rintro e w' ⟨rfl, hb⟩
  exact ⟨rfl, h1.step hb⟩
theorem all_one {W : World} {a0 a1 a2 a3 : Nat} (l : List Nat) (w : World) (ho : Hid (Ok a0 a1 a2 a3)) (hT : Hid (Tab W)) (hl : Hid (allOf (mem a0 a1 a2 a3) = l)) (h1 : One W a0 a1 a2 a3 w) :
    Calls Tryd.prog 18 #[.agg #[.int .u64 a0, .int .u64 a1, .int .u64 a2, .int .u64 a3]] w fun e w' => ∃ v, e = .returned v ∧ IsList l v w' ∧ One W a0 a1 a2 a3 w' := by
  refine (all_list a0 a1 a2 a3 l w ho (hT.out.below h1.2) hl).mono ?_
  rintro e w' ⟨v, rfl, hl, hb⟩
  exact ⟨v, rfl, hl, h1.step hb⟩

set_option maxHeartbeats 16000000 in
set_option maxRecDepth 100000 in
theorem tell_core (a0 a1 a2 a3 p0 p1 p2 p3 r0 r1 r2 r3 : Nat) (n top nxt : Int) (t : Bool) (l : List Nat) (w : World) (HT : Hid (Tab w)) (Oa : Hid (Ok a0 a1 a2 a3))
    (Ht : Hid (hasB a0 a1 a2 a3 n = t)) (Hp : Hid (setw 0 n true a0 = p0 ∧ setw 1 n true a1 = p1 ∧ setw 2 n true a2 = p2 ∧ setw 3 n true a3 = p3))
    (Hr : Hid (setw 0 n false a0 = r0 ∧ setw 1 n false a1 = r1 ∧ setw 2 n false a2 = r2 ∧ setw 3 n false a3 = r3)) (Htop : Hid (topOf (mem a0 a1 a2 a3) = top)) (Hn : Hid (nextOf (mem a0 a1 a2 a3) n = nxt)) (Hl : Hid (allOf (mem a0 a1 a2 a3) = l)) (H256 : Hid (l.length ≤ 256)) :
    Calls Tryd.prog 3 #[.agg #[.int .u64 a0, .int .u64 a1, .int .u64 a2, .int .u64 a3], .int .i64 n] w fun e w' => e = .returned (.bool true) ∧ Below w.heap.size w w' := by
  have heq : ∀ (x0 x1 x2 x3 y0 y1 y2 y3 : Int) (w : World), (Op.equalIn 10000 24 (.agg #[.int .u64 x0, .int .u64 x1, .int .u64 x2, .int .u64 x3]) (.agg #[.int .u64 y0, .int .u64 y1, .int .u64 y2, .int .u64 y3])).run Tryd.prog w = .ok (x0 == y0 && (x1 == y1 && (x2 == y2 && x3 == y3))) w := eq_bits
  have T0 : One w a0 a1 a2 a3 (w.alloc (.cells #[.int .u64 a0, .int .u64 a1, .int .u64 a2, .int .u64 a3] 24)) := ⟨heap_alloc_new w _, (Below.refl _ _).alloc (Nat.le_refl _) _⟩
  have T0d := T0.drew
  go_enter Tryd.func3, Tryd.ntmps3
  go_wp2_with fail
  go_region_held3 (fun w' => One w a0 a1 a2 a3 w' ∧
      w'.cell? ⟨w.heap.size, 0, none⟩ = some (.int .u64 a0) ∧ w'.cell? ⟨w.heap.size, 1, none⟩ = some (.int .u64 a1) ∧ w'.cell? ⟨w.heap.size, 2, none⟩ = some (.int .u64 a2) ∧ w'.cell? ⟨w.heap.size, 3, none⟩ = some (.int .u64 a3))
    ((refine One.all ?_; with_reducible assumption))
    (first
      | (go_at_call 8; ((with_reducible refine (has_R a0 a1 a2 a3 n t _ Oa Ht).mono ?_); rintro e w1 ⟨rfl, hb⟩; have TT := One.step (by with_reducible assumption) hb; clear hb))
      | (go_at_call 9; ((with_reducible refine (ahas_R a0 a1 a2 a3 n t _ Oa Ht).mono ?_); rintro e w1 ⟨rfl, hb⟩; have TT := One.step (by with_reducible assumption) hb; clear hb))
      | (go_at_call 10; ((with_reducible refine (with_every a0 a1 a2 a3 p0 p1 p2 p3 n _ Oa Hp).mono ?_); rintro e w1 ⟨rfl, hb⟩; have TT := One.step (by with_reducible assumption) hb; clear hb))
      | (go_at_call 11; ((with_reducible refine (aset_every a0 a1 a2 a3 p0 p1 p2 p3 n true _ Oa Hp).mono ?_); rintro e w1 ⟨rfl, hb⟩; have TT := One.step (by with_reducible assumption) hb; clear hb))
      | (go_at_call 12; ((with_reducible refine (without_every a0 a1 a2 a3 r0 r1 r2 r3 n _ Oa Hr).mono ?_); rintro e w1 ⟨rfl, hb⟩; have TT := One.step (by with_reducible assumption) hb; clear hb))
      | (go_at_call 11; ((with_reducible refine (aset_every a0 a1 a2 a3 r0 r1 r2 r3 n false _ Oa Hr).mono ?_); rintro e w1 ⟨rfl, hb⟩; have TT := One.step (by with_reducible assumption) hb; clear hb))
      | (go_at_call 13; ((with_reducible refine (top_every a0 a1 a2 a3 top _ Oa Htop).mono ?_); rintro e w1 ⟨rfl, hb⟩; have TT := One.step (by with_reducible assumption) hb; clear hb))
      | (go_at_call 14; ((with_reducible refine (atop_R a0 a1 a2 a3 top _ Oa Htop).mono ?_); rintro e w1 ⟨rfl, hb⟩; have TT := One.step (by with_reducible assumption) hb; clear hb))
      | (go_at_call 15; ((with_reducible refine (next_one (W := w) (a0 := a0) (a1 := a1) (a2 := a2) (a3 := a3) n nxt _ Oa HT Hn (by with_reducible assumption)).mono ?_); rintro e w1 ⟨rfl, TT⟩))
      | (go_at_call 16; ((with_reducible refine (anext_R a0 a1 a2 a3 n nxt _ Oa Hn).mono ?_); rintro e w1 ⟨rfl, hb⟩; have TT := One.step (by with_reducible assumption) hb; clear hb))
      | (go_at_call 18; ((with_reducible refine (all_one (W := w) (a0 := a0) (a1 := a1) (a2 := a2) (a3 := a3) l _ Oa HT Hl (by with_reducible assumption)).mono ?_); rintro e w1 ⟨v1, rfl, HI1, TT⟩))
      | (go_at_call 19; ((with_reducible refine (aall_list a0 a1 a2 a3 l _ Oa Hl).mono ?_); rintro e w1 ⟨v2, rfl, HI2, hb⟩; have TT := One.step (by with_reducible assumption) hb; have HI3 := IsList.step HI1 hb; clear hb))
      | (go_at_call 17; ((with_reducible refine (equal_lists l _ _ _ H256 HI3 HI2).mono ?_); rintro e w1 ⟨rfl, hb⟩; have TT := One.step (by with_reducible assumption) hb; clear hb)))
  all_goals go_wp2_with fail
  all_goals go_ret
  all_goals exact ⟨rfl, (by assumption : One w a0 a1 a2 a3 _).2⟩

theorem bitsTell_walk (a0 a1 a2 a3 : Nat) (n : Int) (w : World) (ha : Ok a0 a1 a2 a3) (hT : Tab w) :
    Calls Tryd.prog 3 #[.agg #[.int .u64 a0, .int .u64 a1, .int .u64 a2, .int .u64 a3], .int .i64 n] w fun e w' => e = .returned (.bool true) ∧ Below w.heap.size w w' :=
  tell_core a0 a1 a2 a3 _ _ _ _ _ _ _ _ n _ _ _ _ w hT ha rfl ⟨rfl, rfl, rfl, rfl⟩ ⟨rfl, rfl, rfl, rfl⟩ rfl rfl rfl (filter_len _ 256)
end Go.Proofs.YtcpoakikeahjeaaDoor
