/- The walk of corebellref.CPlay: it answers what the plain playOf says. -/
import Derived.Test.YtmldedkmmhnihaaPinB
import Derived.Deep.AppendLies
import Derived.Deep.QuietTactic
import Derived.BigQuiet
import Derived.Laws.ResultCell
import Derived.Deep.RegionWith
import Derived.Deep.RegionHeld3
import Derived.Deep.RegionLaw
import Derived.StillTailTactics
import Derived.WalkSmall
import Derived.Deep.Cut
import Derived.Deep.CutRange
import Derived.Deep.LoopGhost
import Derived.BigRegion
import Derived.WalkSpells
import Derived.Laws.Rows
namespace Go.Proofs.Ytmldedkmmhnihaa
open Go.RowKit

theorem pstep {W w w' : World} (h : Below W.heap.size W w) (hb : Below w.heap.size w w') : Below W.heap.size W w' := h.trans (hb.mono h.size)
/-- What was sent. -/
structure SentT where
  pin : Int
  core : Int
  vec : Int
def flatP (l : List PinT) : List Value := l.flatMap fun p => [.int .i64 p.core, .int .i64 p.vec, .bool p.level, .bool p.masked, .bool p.up, .bool p.kept, .bool p.sent]
def flatS (l : List SentT) : List Value := l.flatMap fun s => [.int .i64 s.pin, .int .i64 s.core, .int .i64 s.vec]
theorem flatP_len (l : List PinT) : (flatP l).length = l.length * 7 := by
  induction l with
  | nil => rfl
  | cons p r ih => simp only [flatP, List.flatMap_cons, List.length_append, List.length_cons, List.length_nil] at ih ⊢; omega
theorem flatS_len (l : List SentT) : (flatS l).length = l.length * 3 := by
  induction l with
  | nil => rfl
  | cons p r ih => simp only [flatS, List.flatMap_cons, List.length_append, List.length_cons, List.length_nil] at ih ⊢; omega
theorem flatP_at (l : List PinT) : ∀ j i, j < l.length → i < 7 → (flatP l)[j * 7 + i]? = some (pinCell (l.getD j pin0) i) := by
  induction l with
  | nil => intro j i hj; simp at hj
  | cons p r ih =>
    intro j i hj hi
    have e : flatP (p :: r) = [.int .i64 p.core, .int .i64 p.vec, .bool p.level, .bool p.masked, .bool p.up, .bool p.kept, .bool p.sent] ++ flatP r := rfl
    rw [e]
    cases j with
    | zero =>
      rw [List.getElem?_append_left (by simp; omega)]
      have h7 : i = 0 ∨ i = 1 ∨ i = 2 ∨ i = 3 ∨ i = 4 ∨ i = 5 ∨ i = 6 := by omega
      rcases h7 with rfl | rfl | rfl | rfl | rfl | rfl | rfl <;> rfl
    | succ j =>
      rw [List.getElem?_append_right (by simp; omega)]
      have := ih j i (by simpa using hj) hi
      simp only [List.length_cons, List.length_nil]
      rw [show (j + 1) * 7 + i - (0 + 1 + 1 + 1 + 1 + 1 + 1 + 1) = j * 7 + i by omega, this]
      rfl

/-- What one operation makes of the lines and of what was sent. -/
def playStep (st : List PinT × List SentT) (K P : Int) : List PinT × List SentT :=
  if 1 ≤ K ∧ K ≤ 5 ∧ 0 ≤ P ∧ P < st.1.length then
    (st.1.set P.toNat (pinStep (st.1.getD P.toNat pin0) K).1, if (pinStep (st.1.getD P.toNat pin0) K).2 = true then st.2 ++ [⟨P, (pinStep (st.1.getD P.toNat pin0) K).1.core, (pinStep (st.1.getD P.toNat pin0) K).1.vec⟩] else st.2)
  else st
/-- The first k operations. -/
def playTo (l : List PinT) (K P : Nat → Int) : Nat → List PinT × List SentT
  | 0 => (l, [])
  | k + 1 => playStep (playTo l K P k) (K k) (P k)
theorem playStep_len (st : List PinT × List SentT) (K P : Int) : (playStep st K P).1.length = st.1.length ∧ (playStep st K P).2.length ≤ st.2.length + 1 := by
  unfold playStep
  split
  · refine ⟨by simp, ?_⟩
    dsimp only
    split <;> simp
  · simp
theorem playTo_len (l : List PinT) (K P : Nat → Int) : ∀ k, (playTo l K P k).1.length = l.length ∧ (playTo l K P k).2.length ≤ k
  | 0 => ⟨rfl, Nat.le_refl _⟩
  | k + 1 => by
    have h1 := playTo_len l K P k
    have h2 := playStep_len (playTo l K P k) (K k) (P k)
    unfold playTo
    omega

/-- A row of lines in a block of the call's own. -/
def PinRow (w : World) (h : Nat) (l : List PinT) : Prop := ∃ cur, w.heap[h]? = some (.cells cur 33 (0, 0)) ∧ ∀ j, j < l.length → ∀ i, i < 7 → cur[j * 7 + i]? = some (pinCell (l.getD j pin0) i)
theorem PinRow.lt {w : World} {h : Nat} {l : List PinT} (r : PinRow w h l) : h < w.heap.size := by
  obtain ⟨cur, hc, _⟩ := r
  exact (Array.getElem?_eq_some_iff.1 hc).1
theorem PinRow.lies {w : World} {h : Nat} {l : List PinT} (r : PinRow w h l) : LiesP w h 0 l := fun j hj i hi => by
  obtain ⟨cur, hc, hi'⟩ := r
  rw [cell_of_row w h _ _ _ _ hc, Nat.zero_add]
  exact hi' j hj i hi
theorem PinRow.frozen {w : World} {h : Nat} {l : List PinT} (r : PinRow w h l) (i : Nat) : w.frozen? ⟨h, i, none⟩ = false := by
  obtain ⟨cur, hc, _⟩ := r
  exact frozen_of_row w h i cur _ hc
theorem PinRow.step {w w' : World} {h : Nat} {l : List PinT} (r : PinRow w h l) (hb : Below w.heap.size w w') : PinRow w' h l := by
  have hl := r.lt
  obtain ⟨cur, hc, hi⟩ := r
  exact ⟨cur, by rw [hb.block h hl]; exact hc, hi⟩
theorem PinRow.put {w : World} {h q : Nat} {l : List PinT} (r : PinRow w h l) (p : PinT) (hq : q < l.length) : PinRow (((((((w.setCell ⟨h, q * 7, none⟩ (.int .i64 p.core)).setCell ⟨h, q * 7 + 1, none⟩ (.int .i64 p.vec)).setCell ⟨h, q * 7 + 2, none⟩ (.bool p.level)).setCell ⟨h, q * 7 + 3, none⟩ (.bool p.masked)).setCell ⟨h, q * 7 + 4, none⟩ (.bool p.up)).setCell ⟨h, q * 7 + 5, none⟩ (.bool p.kept)).setCell ⟨h, q * 7 + 6, none⟩ (.bool p.sent)) h (l.set q p) := by
  obtain ⟨cur, hc, hi⟩ := r
  have hs : q * 7 + 6 < cur.size := (Array.getElem?_eq_some_iff.1 (hi q hq 6 (by decide))).1
  have h1 := heap_setCell_same w h (q * 7) cur _ (.int .i64 p.core) hc
  have h2 := heap_setCell_same _ h (q * 7 + 1) _ _ (.int .i64 p.vec) h1
  have h3 := heap_setCell_same _ h (q * 7 + 2) _ _ (.bool p.level) h2
  have h4 := heap_setCell_same _ h (q * 7 + 3) _ _ (.bool p.masked) h3
  have h5 := heap_setCell_same _ h (q * 7 + 4) _ _ (.bool p.up) h4
  have h6 := heap_setCell_same _ h (q * 7 + 5) _ _ (.bool p.kept) h5
  have h7 := heap_setCell_same _ h (q * 7 + 6) _ _ (.bool p.sent) h6
  refine ⟨_, h7, fun j hj i hi7 => ?_⟩
  simp only [List.length_set] at hj
  by_cases e : j = q
  · subst e
    have eg : (l.set j p).getD j pin0 = p := by simp [List.getD_eq_getElem?_getD, hq]
    rw [eg]
    have h7' : i = 0 ∨ i = 1 ∨ i = 2 ∨ i = 3 ∨ i = 4 ∨ i = 5 ∨ i = 6 := by omega
    rcases h7' with rfl | rfl | rfl | rfl | rfl | rfl | rfl <;> simp [Array.getElem?_setIfInBounds, pinCell] <;> omega
  · have eg : (l.set q p).getD j pin0 = l.getD j pin0 := by
      rw [List.getD_eq_getElem?_getD, List.getD_eq_getElem?_getD, List.getElem?_set_ne (fun x => e x.symm)]
    rw [eg, ← hi j hj i hi7]
    rw [Array.getElem?_setIfInBounds_ne (by omega), Array.getElem?_setIfInBounds_ne (by omega), Array.getElem?_setIfInBounds_ne (by omega), Array.getElem?_setIfInBounds_ne (by omega), Array.getElem?_setIfInBounds_ne (by omega), Array.getElem?_setIfInBounds_ne (by omega), Array.getElem?_setIfInBounds_ne (by omega)]

end Go.Proofs.Ytmldedkmmhnihaa
