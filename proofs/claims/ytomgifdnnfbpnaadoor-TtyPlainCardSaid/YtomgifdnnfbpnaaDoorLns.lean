/- Rows of rows of bytes: a slice of slices reads as a list of lists. Only the types of bytes in sight. -/
import Derived.Test.YtomgifdnnfbpnaaDoorByt
namespace Go.Proofs.YtomgifdnnfbpnaaDoor
open Go.RowKit

/-- A slice's head: where it lies, how long it is, its room. -/
abbrev Hd := Option Addr × Nat × Nat
def shL : Shape Hd := ⟨1, fun h => [.slice h.1 h.2.1 h.2.2], fun _ => rfl, fun _ u hu => by simp at hu; subst hu; rfl, by decide⟩
theorem info_bytes : (Tryd.prog.info? 23).map (fun i => (i.zero, i.size, i.bytes)) = some (some (.slice none 0 0), 1, 24) := by kernel_rfl
/-- A head reads as a list of bytes. -/
structure HdAt (w : World) (h : Hd) (l : List UInt8) : Prop where
  n : h.2.1 = l.length
  a : shB.At w h.1 h.2.2 l
/-- Heads read as lists of bytes. -/
structure Lin (w : World) (hs : List Hd) (ls : List (List UInt8)) : Prop where
  n : hs.length = ls.length
  a : ∀ (k : Nat) (h : Hd) (l : List UInt8), hs[k]? = some h → ls[k]? = some l → HdAt w h l
/-- A slice of slices reads as a list of lists. -/
def LnsAt (w : World) (ad : Option Addr) (cap : Nat) (ls : List (List UInt8)) : Prop := ∃ hs : List Hd, shL.At w ad cap hs ∧ Lin w hs ls
section
variable {w w' : World} {ad : Option Addr} {cap : Nat} {hs : List Hd} {ls : List (List UInt8)} {h : Hd} {l : List UInt8}
theorem HdAt.step (q : HdAt w h l) (hb : Below w.heap.size w w') : HdAt w' h l := ⟨q.n, q.a.step hb⟩
theorem Lin.step (q : Lin w hs ls) (hb : Below w.heap.size w w') : Lin w' hs ls := ⟨q.n, fun k h l h1 h2 => (q.a k h l h1 h2).step hb⟩
theorem Lin.nil (w : World) : Lin w [] [] := ⟨rfl, fun k h l h1 _ => by cases h1⟩
theorem Lin.get (q : Lin w hs ls) {k : Nat} (hl : ls[k]? = some l) : ∃ h, hs[k]? = some h ∧ HdAt w h l := by
  have hk := (List.getElem?_eq_some_iff.1 hl).1
  have hk2 : k < hs.length := by rw [q.n]; exact hk
  exact ⟨hs[k], List.getElem?_eq_getElem hk2, q.a k _ _ (List.getElem?_eq_getElem hk2) hl⟩
theorem Lin.app {hs2 : List Hd} {ls2 : List (List UInt8)} (q : Lin w hs ls) (q2 : Lin w hs2 ls2) : Lin w (hs ++ hs2) (ls ++ ls2) := by
  refine ⟨by rw [List.length_append, List.length_append, q.n, q2.n], fun k h l h1 h2 => ?_⟩
  by_cases hk : k < hs.length
  · rw [List.getElem?_append_left hk] at h1
    rw [List.getElem?_append_left (by rw [← q.n]; exact hk)] at h2
    exact q.a k h l h1 h2
  · rw [List.getElem?_append_right (by omega)] at h1
    rw [List.getElem?_append_right (by rw [← q.n]; omega), ← q.n] at h2
    exact q2.a _ h l h1 h2
theorem Lin.one (q : HdAt w h l) : Lin w [h] [l] := ⟨rfl, fun k h' l' h1 h2 => by
  cases k with
  | zero => cases h1; cases h2; exact q
  | succ k => cases h1⟩
theorem Lin.drop (q : Lin w hs ls) (k : Nat) : Lin w (hs.drop k) (ls.drop k) := ⟨by rw [List.length_drop, List.length_drop, q.n], fun i h l h1 h2 => by
  rw [List.getElem?_drop] at h1 h2
  exact q.a _ h l h1 h2⟩
theorem Lin.take (q : Lin w hs ls) (k : Nat) : Lin w (hs.take k) (ls.take k) := ⟨by rw [List.length_take, List.length_take, q.n], fun i h l h1 h2 => by
  have hi : i < k := by
    have := (List.getElem?_eq_some_iff.1 h1).1
    rw [List.length_take] at this
    omega
  rw [List.getElem?_take_of_lt hi] at h1 h2
  exact q.a _ h l h1 h2⟩
/-- One head is another one. -/
theorem Lin.set (q : Lin w hs ls) (k : Nat) (q2 : HdAt w h l) : Lin w (hs.set k h) (ls.set k l) := ⟨by rw [List.length_set, List.length_set, q.n], fun i h' l' h1 h2 => by
  rw [List.getElem?_set] at h1 h2
  by_cases e : k = i
  · subst e
    rw [if_pos rfl] at h1 h2
    split at h1
    · rw [if_pos (by rw [← q.n]; assumption)] at h2
      cases h1; cases h2; exact q2
    · cases h1
  · rw [if_neg e] at h1 h2
    exact q.a i h' l' h1 h2⟩
theorem LnsAt.step (q : LnsAt w ad cap ls) (hb : Below w.heap.size w w') : LnsAt w' ad cap ls := by
  obtain ⟨hs, h1, h2⟩ := q
  exact ⟨hs, h1.step hb, h2.step hb⟩
theorem LnsAt.nil (w : World) : LnsAt w none 0 [] := ⟨[], Shape.At.nil w, Lin.nil w⟩
theorem at_hd {k : Nat} (q : shL.At w ad cap hs) (hk : hs[k]? = some h) : ∃ b off, ad = some ⟨b, off, none⟩ ∧ b < w.heap.size ∧ w.cell? ⟨b, off + k, none⟩ = some (.slice h.1 h.2.1 h.2.2) := by
  have hkl := (List.getElem?_eq_some_iff.1 hk).1
  obtain ⟨b, off, e, hb, hl⟩ := q.2 (by omega)
  have h0 := shL.flat_at hs k 0 h hk (by decide)
  have hs' : shL.size = 1 := rfl
  rw [hs', Nat.mul_one, Nat.add_zero] at h0
  rw [hs'] at hl
  exact ⟨b, off, e, hb, by rw [hl _ (by omega), h0]; rfl⟩
/-- One of the lines. -/
theorem at_line {k : Nat} (q : LnsAt w ad cap ls) (hk : ls[k]? = some l) : ∃ b off a c, ad = some ⟨b, off, none⟩ ∧ b < w.heap.size ∧ w.cell? ⟨b, off + k, none⟩ = some (.slice a l.length c) ∧ shB.At w a c l := by
  obtain ⟨hs, h1, h2⟩ := q
  obtain ⟨h, e1, e2⟩ := h2.get hk
  obtain ⟨b, off, rfl, hb, hc⟩ := at_hd h1 e1
  exact ⟨b, off, h.1, h.2.2, rfl, hb, by rw [hc, e2.n], e2.a⟩
/-- A row of the call's own of such heads. -/
theorem lns_own {base n : Nat} (q : w.ownsRow base 23 shL.size (.slice ad n cap) n (shL.flat hs)) (hn : hs.length = n) (ql : Lin w hs ls) : LnsAt w ad cap ls := ⟨hs, Shape.At.own (S := shL) q hn, ql⟩
/-- Two slices in a literal. -/
theorem lns_two (X : World) {a1 a2 : Option Addr} {n1 n2 c1 c2 : Nat} {l1 l2 : List UInt8} (h1 : shB.At X a1 c1 l1) (e1 : l1.length = n1) (h2 : shB.At X a2 c2 l2) (e2 : l2.length = n2) (cap : Nat) : LnsAt (X.alloc (.cells #[.slice a1 n1 c1, .slice a2 n2 c2] 23)) (some ⟨X.heap.size, 0, none⟩) cap [l1, l2] :=
  ⟨[(a1, n1, c1), (a2, n2, c2)], Shape.At.lit (S := shL) _ (heap_alloc_new X _), (Lin.app (Lin.one ⟨e1.symm, h1⟩) (Lin.one ⟨e2.symm, h2⟩)).step (below_alloc X _)⟩
theorem lns_three (X : World) {a1 a2 a3 : Option Addr} {n1 n2 n3 c1 c2 c3 : Nat} {l1 l2 l3 : List UInt8} (h1 : shB.At X a1 c1 l1) (e1 : l1.length = n1) (h2 : shB.At X a2 c2 l2) (e2 : l2.length = n2) (h3 : shB.At X a3 c3 l3) (e3 : l3.length = n3) (cap : Nat) : LnsAt (X.alloc (.cells #[.slice a1 n1 c1, .slice a2 n2 c2, .slice a3 n3 c3] 23)) (some ⟨X.heap.size, 0, none⟩) cap [l1, l2, l3] :=
  ⟨[(a1, n1, c1), (a2, n2, c2), (a3, n3, c3)], Shape.At.lit (S := shL) _ (heap_alloc_new X _), (Lin.app (Lin.one ⟨e1.symm, h1⟩) (Lin.app (Lin.one ⟨e2.symm, h2⟩) (Lin.one ⟨e3.symm, h3⟩))).step (below_alloc X _)⟩
end
end Go.Proofs.YtomgifdnnfbpnaaDoor
