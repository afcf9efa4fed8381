/- Package ring in memory: cells, operations, a ring by value (four cells); a row of cells of the call's own. No program in sight. -/
import Derived.Test.YtipkmmajhhcadaaRingP
import Derived.Test.YtipkmmajhhcadaaQue
import Derived.Test.YtipkmmajhhcadaaSetE
namespace Go.Proofs.Ytipkmmajhhcadaa
open Go.RowKit

def shCe : Shape CeR := ⟨2, fun c => [.bool c.1, .int .i64 c.2], fun _ => rfl, fun _ u hu => by simp at hu; rcases hu with rfl | rfl <;> rfl, by decide⟩
def shRo : Shape RoT := ⟨2, fun o => [.int .i64 o.k, .int .i64 o.d], fun _ => rfl, fun _ u hu => by simp at hu; rcases hu with rfl | rfl <;> rfl, by decide⟩
theorem at_pair {α : Type} {S : Shape α} (hs : S.size = 2) {w : World} {ad : Option Addr} {cap k : Nat} {l : List α} {f : α} {x y : Value} (hx : (S.enc f)[0]? = some x) (hy : (S.enc f)[1]? = some y) (h : S.At w ad cap l) (hk : l[k]? = some f) : ∃ b off, ad = some ⟨b, off, none⟩ ∧ b < w.heap.size ∧ w.cell? ⟨b, off + k * 2, none⟩ = some x ∧ w.cell? ⟨b, off + k * 2 + 1, none⟩ = some y := by
  have hkl := (List.getElem?_eq_some_iff.1 hk).1
  obtain ⟨b, off, e, hb, hl⟩ := h.2 (by omega)
  have h0 := S.flat_at l k 0 f hk (by omega)
  have h1 := S.flat_at l k 1 f hk (by omega)
  rw [hs] at h0 h1 hl
  refine ⟨b, off, e, hb, ?_, ?_⟩
  · rw [show off + k * 2 = off + (k * 2 + 0) from rfl, hl _ (by omega), h0, hx]
  · rw [Nat.add_assoc, hl _ (by omega), h1, hy]
theorem at_ce {w : World} {ad : Option Addr} {cap k : Nat} {l : List CeR} {f : CeR} (h : shCe.At w ad cap l) (hk : l[k]? = some f) : ∃ b off, ad = some ⟨b, off, none⟩ ∧ b < w.heap.size ∧ w.cell? ⟨b, off + k * 2, none⟩ = some (.bool f.1) ∧ w.cell? ⟨b, off + k * 2 + 1, none⟩ = some (.int .i64 f.2) := at_pair (S := shCe) rfl rfl rfl h hk
theorem at_ro {w : World} {ad : Option Addr} {cap k : Nat} {l : List RoT} {f : RoT} (h : shRo.At w ad cap l) (hk : l[k]? = some f) : ∃ b off, ad = some ⟨b, off, none⟩ ∧ b < w.heap.size ∧ w.cell? ⟨b, off + k * 2, none⟩ = some (.int .i64 f.k) ∧ w.cell? ⟨b, off + k * 2 + 1, none⟩ = some (.int .i64 f.d) := at_pair (S := shRo) rfl rfl rfl h hk
theorem four_at {w : World} {b : Nat} {x y z u : Value} {t : TypeId} {fr : Nat × Nat} (h : w.heap[b]? = some (.cells #[x, y, z, u] t fr)) : w.cell? ⟨b, 0, none⟩ = some x ∧ w.cell? ⟨b, 1, none⟩ = some y ∧ w.cell? ⟨b, 2, none⟩ = some z ∧ w.cell? ⟨b, 3, none⟩ = some u := by
  refine ⟨?_, ?_, ?_, ?_⟩ <;> (rw [cell_of_row _ _ _ _ _ _ h]; rfl)
theorem four_set {w : World} {b : Nat} {x y z u x' y' z' u' : Value} {T : TypeId} (h : w.heap[b]? = some (.cells #[x, y, z, u] T (0, 0))) : ((((w.setCell ⟨b, 0, none⟩ x').setCell ⟨b, 1, none⟩ y').setCell ⟨b, 2, none⟩ z').setCell ⟨b, 3, none⟩ u').heap[b]? = some (.cells #[x', y', z', u'] T (0, 0)) :=
  heap_setCell_same _ b 3 _ _ u' (heap_setCell_same _ b 2 _ _ z' (heap_setCell_same _ b 1 _ _ y' (heap_setCell_same _ b 0 _ _ x' h)))
theorem four_below {w wx : World} {b : Nat} (x y z u : Value) (h : Below w.heap.size w wx) (hb : w.heap.size ≤ b) : Below w.heap.size w ((((wx.setCell ⟨b, 0, none⟩ x).setCell ⟨b, 1, none⟩ y).setCell ⟨b, 2, none⟩ z).setCell ⟨b, 3, none⟩ u) :=
  (((h.setCell hb _).setCell hb _).setCell hb _).setCell hb _
theorem four_other (w : World) {b k : Nat} (x y z u : Value) (h : k ≠ b) : ((((w.setCell ⟨b, 0, none⟩ x).setCell ⟨b, 1, none⟩ y).setCell ⟨b, 2, none⟩ z).setCell ⟨b, 3, none⟩ u).heap[k]? = w.heap[k]? :=
  (Below.heap_setCell _ _ _ _ h).trans ((Below.heap_setCell _ _ _ _ h).trans ((Below.heap_setCell _ _ _ _ h).trans (Below.heap_setCell _ _ _ _ h)))
/-- One cell of one entry is written. -/
theorem que_entry {α : Type} {S : Shape α} {w : World} {base g off n cap k i : Nat} {e : TypeId} {l : List α} {a a' : α} {v : Value} (h : Que S w base e (.slice (some ⟨g, off, none⟩) n cap) n l) (hk : l[k]? = some a) (hi : i < S.size) (he : (S.enc a).set i v = S.enc a') :
    Que S (w.setCell ⟨g, off + (k * S.size + i), none⟩ v) base e (.slice (some ⟨g, off, none⟩) n cap) n (l.set k a') := by
  obtain ⟨h1, h2⟩ := h
  refine ⟨by rw [List.length_set]; exact h1, ?_⟩
  rcases h2 with ⟨h2, _⟩ | ⟨g', off', cap', cur, hv, hg, hh, hn, hc, hs, ht⟩
  · cases h2
  · simp only [Value.slice.injEq, Option.some.injEq, Addr.mk.injEq, and_true, true_and] at hv
    obtain ⟨⟨rfl, rfl⟩, rfl⟩ := hv
    refine Or.inr ⟨g, off, cap, _, rfl, hg, heap_setCell_same w g _ cur _ v hh, hn, hc, by simpa using hs, fun j hj => ?_⟩
    rw [flat_set S hi hk he, List.getElem?_set, Array.getElem?_setIfInBounds]
    have hl : k * S.size + i < (S.flat l).length := by
      rw [S.flat_len]
      have hkl := (List.getElem?_eq_some_iff.1 hk).1
      have : k * S.size + S.size ≤ l.length * S.size := by rw [← Nat.succ_mul]; exact Nat.mul_le_mul_right _ hkl
      omega
    rw [S.flat_len, h1] at hl
    have hnc : n * S.size ≤ cap * S.size := Nat.mul_le_mul_right _ hn
    by_cases e : k * S.size + i = j
    · rw [if_pos (by omega), if_pos (by omega), if_pos e, if_pos (by rw [S.flat_len, h1]; omega)]
    · rw [if_neg (by omega), if_neg e]
      exact ht j hj
/-- A cell of the ring is written: its data alone, or the whole of it. -/
theorem que_data {w : World} {base g off n cap k : Nat} {e : TypeId} {l : List CeR} {a : CeR} {d : Int} (h : Que shCe w base e (.slice (some ⟨g, off, none⟩) n cap) n l) (hk : l[k]? = some a) :
    Que shCe (w.setCell ⟨g, off + (k * 2 + 1), none⟩ (.int .i64 d)) base e (.slice (some ⟨g, off, none⟩) n cap) n (l.set k (a.1, d)) := que_entry (S := shCe) (i := 1) (a' := (a.1, d)) h hk (by decide) rfl
theorem que_cell {w : World} {base g off n cap k : Nat} {e : TypeId} {l : List CeR} {a c : CeR} (h : Que shCe w base e (.slice (some ⟨g, off, none⟩) n cap) n l) (hk : l[k]? = some a) :
    Que shCe ((w.setCell ⟨g, off + k * 2, none⟩ (.bool c.1)).setCell ⟨g, off + (k * 2 + 1), none⟩ (.int .i64 c.2)) base e (.slice (some ⟨g, off, none⟩) n cap) n (l.set k c) := by
  have h1 := que_entry (S := shCe) (i := 0) (v := .bool c.1) (a' := (c.1, a.2)) h hk (by decide) rfl
  have hkl := (List.getElem?_eq_some_iff.1 hk).1
  have h2 := que_data (d := c.2) (k := k) (a := (c.1, a.2)) h1 (by rw [List.getElem?_set_self hkl])
  rw [List.set_set] at h2
  exact h2
end Go.Proofs.Ytipkmmajhhcadaa
