/- The walk of corebelllaw.BitsTell: bits.Has, With, Without, Top, Next and All answer what A1 says: it returns true for every set and every integer. -/
import Derived.Test.YtgddbmbljlngnaaDoorBitsN
import Derived.Test.YtgddbmbljlngnaaDoorRefD
namespace Go.Proofs.YtgddbmbljlngnaaDoor
open Go.RowKit

theorem with_every (a b c d p0 p1 p2 p3 : Nat) (n : Int) (w : World) (h : Hid (Ok a b c d)) (hp : Hid (setw 0 n true a = p0 ∧ setw 1 n true b = p1 ∧ setw 2 n true c = p2 ∧ setw 3 n true d = p3)) :
    Calls Tryd.prog 36 #[.agg #[.int .u64 a, .int .u64 b, .int .u64 c, .int .u64 d], .int .i64 n] w fun e w' => e = .returned (.agg #[.int .u64 p0, .int .u64 p1, .int .u64 p2, .int .u64 p3]) ∧ Below w.heap.size w w' := by
  obtain ⟨rfl, rfl, rfl, rfl⟩ := hp.out
  by_cases hr : 0 ≤ n ∧ n < 256
  · obtain ⟨m, rfl⟩ : ∃ m : Nat, n = m := ⟨n.toNat, by omega⟩
    have e : ∀ k x, setw k (m : Int) true x = up k m x := fun k x => by unfold setw; rw [if_pos hr]; simp
    rw [e, e, e, e]
    exact with_any a b c d m w h.out (by omega)
  · have e : ∀ k x, setw k n true x = x := fun k x => by unfold setw; rw [if_neg hr]
    rw [e, e, e, e]
    exact with_out a b c d n w (by omega)
theorem without_every (a b c d p0 p1 p2 p3 : Nat) (n : Int) (w : World) (h : Hid (Ok a b c d)) (hp : Hid (setw 0 n false a = p0 ∧ setw 1 n false b = p1 ∧ setw 2 n false c = p2 ∧ setw 3 n false d = p3)) :
    Calls Tryd.prog 37 #[.agg #[.int .u64 a, .int .u64 b, .int .u64 c, .int .u64 d], .int .i64 n] w fun e w' => e = .returned (.agg #[.int .u64 p0, .int .u64 p1, .int .u64 p2, .int .u64 p3]) ∧ Below w.heap.size w w' := by
  obtain ⟨rfl, rfl, rfl, rfl⟩ := hp.out
  by_cases hr : 0 ≤ n ∧ n < 256
  · obtain ⟨m, rfl⟩ : ∃ m : Nat, n = m := ⟨n.toNat, by omega⟩
    have e : ∀ k x, setw k (m : Int) false x = dn k m x := fun k x => by unfold setw; rw [if_pos hr]; simp
    rw [e, e, e, e]
    exact without_any a b c d m w h.out (by omega)
  · have e : ∀ k x, setw k n false x = x := fun k x => by unfold setw; rw [if_neg hr]
    rw [e, e, e, e]
    exact without_out a b c d n w (by omega)
theorem aset_every (a b c d p0 p1 p2 p3 : Nat) (n : Int) (t : Bool) (w : World) (h : Hid (Ok a b c d)) (hp : Hid (setw 0 n t a = p0 ∧ setw 1 n t b = p1 ∧ setw 2 n t c = p2 ∧ setw 3 n t d = p3)) :
    Calls Tryd.prog 25 #[.agg #[.int .u64 a, .int .u64 b, .int .u64 c, .int .u64 d], .int .i64 n, .bool t] w fun e w' => e = .returned (.agg #[.int .u64 p0, .int .u64 p1, .int .u64 p2, .int .u64 p3]) ∧ Below w.heap.size w w' := by
  obtain ⟨rfl, rfl, rfl, rfl⟩ := hp.out
  exact aset_any a b c d n t w h.out
theorem top_every (a b c d : Nat) (r : Int) (w : World) (h : Hid (Ok a b c d)) (hr : Hid (topOf (mem a b c d) = r)) :
    Calls Tryd.prog 18 #[.agg #[.int .u64 a, .int .u64 b, .int .u64 c, .int .u64 d]] w fun e w' => e = .returned (.int .i64 r) ∧ Below w.heap.size w w' := by
  rw [← hr.out]
  exact top_any a b c d w h.out

/-- A slice of the list l: empty, or its cells are known. -/
def IsList (l : List Nat) (v : Value) (w : World) : Prop := ∃ ad cap, v = .slice ad l.length cap ∧ (0 < l.length → ∃ g, ad = some ⟨g, 0, none⟩ ∧ Lies w g l)
theorem IsList.step {l : List Nat} {v : Value} {w w' : World} (h : IsList l v w) (hb : Below w.heap.size w w') : IsList l v w' := by
  obtain ⟨ad, cap, e, hl⟩ := h
  exact ⟨ad, cap, e, fun h0 => by obtain ⟨g, e2, hg⟩ := hl h0; exact ⟨g, e2, hg.step hb⟩⟩
theorem isList_of_own {w w0 : World} {l : List Nat} {v : Value} (hown : w.ownsRow w0.heap.size 3 1 v l.length (ints l)) : IsList l v w := by
  have hown' := hown
  obtain ⟨h1, h2⟩ := hown
  rcases h2 with ⟨rfl, h2⟩ | ⟨g, cap, cur, rfl, hg, hh, hn', hm, hs, ht⟩
  · exact ⟨none, 0, by rw [h2], fun h => by omega⟩
  · refine ⟨some ⟨g, 0, none⟩, cap, rfl, fun _ => ⟨g, rfl, fun j hj => ?_⟩⟩
    rw [hown'.cellAt j (by omega)]
    unfold ints
    rw [List.getElem?_map, List.getElem?_eq_getElem hj, List.getD_eq_getElem?_getD, List.getElem?_eq_getElem hj]
    rfl
theorem own_base {w : World} {b b' e size n : Nat} {v : Value} {xs : List Value} (h : w.ownsRow b e size v n xs) (hb : b' ≤ b) : w.ownsRow b' e size v n xs := by
  obtain ⟨h1, h2⟩ := h
  refine ⟨h1, ?_⟩
  rcases h2 with h2 | ⟨g, cap, cur, hv, hg, r⟩
  · exact Or.inl h2
  · exact Or.inr ⟨g, cap, cur, hv, by omega, r⟩
theorem all_list (a b c d : Nat) (l : List Nat) (w : World) (h : Hid (Ok a b c d)) (hT : Tab w) (hl : Hid (allOf (mem a b c d) = l)) :
    Calls Tryd.prog 17 #[.agg #[.int .u64 a, .int .u64 b, .int .u64 c, .int .u64 d]] w fun e w' => ∃ v, e = .returned v ∧ IsList l v w' ∧ Below w.heap.size w w' := by
  refine (all_any a b c d w h.out hT).mono ?_
  rw [hl.out]
  rintro e w' ⟨v, rfl, hown, hb⟩
  exact ⟨v, rfl, isList_of_own (w0 := w) (own_base hown (by omega)), hb⟩
theorem aall_list (a b c d : Nat) (l : List Nat) (w : World) (h : Hid (Ok a b c d)) (hl : Hid (allOf (mem a b c d) = l)) :
    Calls Tryd.prog 30 #[.agg #[.int .u64 a, .int .u64 b, .int .u64 c, .int .u64 d]] w fun e w' => ∃ v, e = .returned v ∧ IsList l v w' ∧ Below w.heap.size w w' := by
  refine (aall_any a b c d w h).mono ?_
  rw [hl.out]
  rintro e w' ⟨v, rfl, hown, hb⟩
  exact ⟨v, rfl, isList_of_own (w0 := w) (own_base hown (by omega)), hb⟩

theorem next_one {W : World} {a0 a1 a2 a3 : Nat} (f r : Int) (w : World) (ho : Hid (Ok a0 a1 a2 a3)) (hT : Hid (Tab W)) (hr : Hid (nextOf (mem a0 a1 a2 a3) f = r)) (h1 : One W a0 a1 a2 a3 w) :
    Calls Tryd.prog 32 #[.agg #[.int .u64 a0, .int .u64 a1, .int .u64 a2, .int .u64 a3], .int .i64 f] w fun e w' => e = .returned (.int .i64 r) ∧ One W a0 a1 a2 a3 w' := by
  refine (next_every a0 a1 a2 a3 f r w ho (hT.out.below h1.2) hr).mono ?_
  rintro e w' ⟨rfl, hb⟩
  exact ⟨rfl, h1.step hb⟩
theorem all_one {W : World} {a0 a1 a2 a3 : Nat} (l : List Nat) (w : World) (ho : Hid (Ok a0 a1 a2 a3)) (hT : Hid (Tab W)) (hl : Hid (allOf (mem a0 a1 a2 a3) = l)) (h1 : One W a0 a1 a2 a3 w) :
    Calls Tryd.prog 17 #[.agg #[.int .u64 a0, .int .u64 a1, .int .u64 a2, .int .u64 a3]] w fun e w' => ∃ v, e = .returned v ∧ IsList l v w' ∧ One W a0 a1 a2 a3 w' := by
  refine (all_list a0 a1 a2 a3 l w ho (hT.out.below h1.2) hl).mono ?_
  rintro e w' ⟨v, rfl, hl, hb⟩
  exact ⟨v, rfl, hl, h1.step hb⟩


end Go.Proofs.YtgddbmbljlngnaaDoor
