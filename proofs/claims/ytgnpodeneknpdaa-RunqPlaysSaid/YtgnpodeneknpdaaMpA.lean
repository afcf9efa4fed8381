/- corebellref.MPlay's list in memory: entries of two cells in a row that may be cut in front. -/
import Derived.Test.YtgnpodeneknpdaaRqL
import Derived.Test.YtgnpodeneknpdaaQue
import Derived.Test.YtgnpodeneknpdaaInsG
namespace Go.Proofs.Ytgnpodeneknpdaa
open Go.RowKit

def shQ : Shape EnT := ⟨2, fun q => [.int .i64 q.1, .int .i64 q.2], fun _ => rfl, fun _ u hu => by simp at hu; rcases hu with rfl | rfl <;> rfl, by decide⟩
theorem info_one : (Try.prog.info? 60).map (fun i => (i.zero, i.size, i.bytes)) = some (some (.agg #[.int .i64 0, .int .i64 0]), 2, 16) := by kernel_rfl
theorem at_en {w : World} {ad : Option Addr} {cap k : Nat} {l : List EnT} {f : EnT} (h : shQ.At w ad cap l) (hk : l[k]? = some f) : ∃ b off, ad = some ⟨b, off, none⟩ ∧ b < w.heap.size ∧ w.cell? ⟨b, off + k * 2, none⟩ = some (.int .i64 f.1) ∧ w.cell? ⟨b, off + k * 2 + 1, none⟩ = some (.int .i64 f.2) := by
  have hkl := (List.getElem?_eq_some_iff.1 hk).1
  obtain ⟨b, off, e, hb, hl⟩ := h.2 (by omega)
  have h0 := shQ.flat_at l k 0 f hk (by decide)
  have h1 := shQ.flat_at l k 1 f hk (by decide)
  have hs : shQ.size = 2 := rfl
  rw [hs] at h0 h1 hl
  refine ⟨b, off, e, hb, ?_, ?_⟩
  · rw [show off + k * 2 = off + (k * 2 + 0) from rfl, hl _ (by omega), h0]; rfl
  · rw [Nat.add_assoc, hl _ (by omega), h1]; rfl
/-- What an insertion into such a row leaves. -/
def InsQ {α : Type} (S : Shape α) (base T : Nat) (w : World) (v : Value) (l : List α) (n : Nat) (e : Ending) (w' : World) : Prop :=
  ∃ ra rc, e = .returned (.slice ra n rc) ∧ Que S w' base T (.slice ra n rc) n l ∧ w.grownBy w' v.ownBlock ∧ ∀ g, (Value.slice ra n rc).ownBlock = some g → v.ownBlock = some g ∨ w.heap.size ≤ g
theorem splice_off {α : Type} (p r b : List α) (o : Nat) : splice (p ++ r) (p.length + o) b = p ++ splice r o b := by
  have h1 : ∀ o, (p ++ r).take (p.length + o) = p ++ r.take o := fun o => by rw [List.take_append, List.take_of_length_le (by omega), Nat.add_sub_cancel_left]
  have h2 : ∀ o, (p ++ r).drop (p.length + o) = r.drop o := fun o => by rw [List.drop_append, List.drop_eq_nil_of_le (by omega), List.nil_append, Nat.add_sub_cancel_left]
  unfold splice
  rw [h1, Nat.add_assoc, h2]
  simp only [List.append_assoc]
/-- The row behind the two copies, from some cell on. -/
theorem que_cells {α : Type} {S : Shape α} {base T n c g off : Nat} {w : World} {C : List Value} {l : List α} (hl : l.length = n) (hb : base ≤ g) (hh : w.heap[g]? = some (.cells C.toArray T (0, 0))) (hn : n ≤ c) (hc : c ≤ maxLen) (hs : off + c * S.size ≤ C.length) (p R : List Value) (hp : p.length = off) (e : C = p ++ (S.flat l ++ R)) : Que S w base T (.slice (some ⟨g, off, none⟩) n c) n l :=
  ⟨hl, Or.inr ⟨g, off, c, C.toArray, rfl, hb, hh, hn, hc, by simpa using hs, fun i hi => by
    rw [List.getElem?_toArray, e, List.getElem?_append_right (by omega), hp, Nat.add_sub_cancel_left, List.getElem?_append_left (by rw [S.flat_len, hl]; exact hi)]⟩⟩
end Go.Proofs.Ytgnpodeneknpdaa
