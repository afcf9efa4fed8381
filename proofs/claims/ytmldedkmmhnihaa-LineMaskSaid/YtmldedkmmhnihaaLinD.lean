/- Lines, operations and what is sent, in one form, whether there are any or none; line.Right and Step in it. -/
import Derived.Test.YtmldedkmmhnihaaLinC
import Derived.Test.YtmldedkmmhnihaaPinE
namespace Go.Proofs.Ytmldedkmmhnihaa
open Go.RowKit

def PinsAt (w : World) (ad : Option Addr) (cap : Nat) (l : List PinT) : Prop := (ad = none → cap = 0 ∧ l = []) ∧ (0 < l.length → ∃ b off, ad = some ⟨b, off, none⟩ ∧ b < w.heap.size ∧ LiesP w b off l)
def SentsAt (w : World) (ad : Option Addr) (cap : Nat) (l : List SentT) : Prop := (ad = none → cap = 0 ∧ l = []) ∧ (0 < l.length → ∃ b off, ad = some ⟨b, off, none⟩ ∧ b < w.heap.size ∧ LiesS w b off l)
def LiesO (w : World) (ob ooff : Nat) (K P : Nat → Int) (n : Nat) : Prop := ∀ k, k < n → w.cell? ⟨ob, ooff + k * 2, none⟩ = some (.int .i64 (K k)) ∧ w.cell? ⟨ob, ooff + k * 2 + 1, none⟩ = some (.int .i64 (P k))
def OpsAt (w : World) (ad : Option Addr) (cap : Nat) (K P : Nat → Int) (n : Nat) : Prop := (ad = none → cap = 0 ∧ n = 0) ∧ (0 < n → ∃ b off, ad = some ⟨b, off, none⟩ ∧ b < w.heap.size ∧ LiesO w b off K P n)
theorem PinsAt.step {w w' : World} {ad : Option Addr} {cap : Nat} {l : List PinT} (h : PinsAt w ad cap l) (hb : Below w.heap.size w w') : PinsAt w' ad cap l :=
  ⟨h.1, fun h0 => by
    obtain ⟨b, off, e, hlt, hl⟩ := h.2 h0
    exact ⟨b, off, e, Nat.lt_of_lt_of_le hlt hb.size, hl.step hb hlt⟩⟩
theorem SentsAt.step {w w' : World} {ad : Option Addr} {cap : Nat} {l : List SentT} (h : SentsAt w ad cap l) (hb : Below w.heap.size w w') : SentsAt w' ad cap l :=
  ⟨h.1, fun h0 => by
    obtain ⟨b, off, e, hlt, hl⟩ := h.2 h0
    exact ⟨b, off, e, Nat.lt_of_lt_of_le hlt hb.size, hl.step hb hlt⟩⟩
theorem LiesO.step {w w' : World} {ob ooff n M : Nat} {K P : Nat → Int} (h : LiesO w ob ooff K P n) (hb : Below M w w') (hM : ob < M) : LiesO w' ob ooff K P n := fun k hk =>
  ⟨(hb.cell (p := ⟨ob, ooff + k * 2, none⟩) hM).trans (h k hk).1, (hb.cell (p := ⟨ob, ooff + k * 2 + 1, none⟩) hM).trans (h k hk).2⟩
theorem OpsAt.step {w w' : World} {ad : Option Addr} {cap n : Nat} {K P : Nat → Int} (h : OpsAt w ad cap K P n) (hb : Below w.heap.size w w') : OpsAt w' ad cap K P n :=
  ⟨h.1, fun h0 => by
    obtain ⟨b, off, e, hlt, hl⟩ := h.2 h0
    exact ⟨b, off, e, Nat.lt_of_lt_of_le hlt hb.size, hl.step hb hlt⟩⟩
theorem below_alloc (w : World) (o : Obj) : Below w.heap.size w (w.alloc o) := (Below.refl _ _).alloc (Nat.le_refl _) o
theorem PinRow.at {w : World} {h : Nat} {l : List PinT} (r : PinRow w h l) (cap : Nat) : PinsAt w (some ⟨h, 0, none⟩) cap l := ⟨fun e => (nomatch e), fun _ => ⟨h, 0, rfl, r.lt, r.lies⟩⟩
theorem flatS_at (l : List SentT) : ∀ j, j < l.length → (flatS l)[j * 3]? = some (.int .i64 (l.getD j ⟨0, 0, 0⟩).pin) ∧ (flatS l)[j * 3 + 1]? = some (.int .i64 (l.getD j ⟨0, 0, 0⟩).core) ∧ (flatS l)[j * 3 + 2]? = some (.int .i64 (l.getD j ⟨0, 0, 0⟩).vec) := by
  induction l with
  | nil => intro j hj; simp at hj
  | cons p r ih =>
    intro j hj
    have e : flatS (p :: r) = [.int .i64 p.pin, .int .i64 p.core, .int .i64 p.vec] ++ flatS r := rfl
    rw [e]
    cases j with
    | zero => exact ⟨rfl, rfl, rfl⟩
    | succ j =>
      have := ih j (by simpa using hj)
      refine ⟨?_, ?_, ?_⟩
      · rw [List.getElem?_append_right (by simp; omega)]
        simp only [List.length_cons, List.length_nil]
        rw [show (j + 1) * 3 - (0 + 1 + 1 + 1) = j * 3 by omega, this.1]
        rfl
      · rw [List.getElem?_append_right (by simp; omega)]
        simp only [List.length_cons, List.length_nil]
        rw [show (j + 1) * 3 + 1 - (0 + 1 + 1 + 1) = j * 3 + 1 by omega, this.2.1]
        rfl
      · rw [List.getElem?_append_right (by simp; omega)]
        simp only [List.length_cons, List.length_nil]
        rw [show (j + 1) * 3 + 2 - (0 + 1 + 1 + 1) = j * 3 + 2 by omega, this.2.2]
        rfl
theorem sents_of_row {w : World} {base : Nat} {vs : Value} {ss : List SentT} (h : w.ownsRow base 36 3 vs ss.length (flatS ss)) : ∃ sa cs, vs = .slice sa ss.length cs ∧ SentsAt w sa cs ss := by
  obtain ⟨h1, h2⟩ := h
  rcases h2 with ⟨rfl, h0⟩ | ⟨g, cap, cur, hv, hg, hh, h3, h4, h5, h6⟩
  · have e0 : ss = [] := List.eq_nil_of_length_eq_zero h0
    subst e0
    exact ⟨none, 0, rfl, fun _ => ⟨rfl, rfl⟩, fun hp => by simp at hp⟩
  · refine ⟨_, _, hv, fun e => by simp at e, fun h0 => ⟨g, 0, rfl, (Array.getElem?_eq_some_iff.1 hh).1, fun j hj => ?_⟩⟩
    have hf := flatS_at ss j hj
    have hcell : ∀ i, i < ss.length * 3 → w.cell? ⟨g, 0 + i, none⟩ = (flatS ss)[i]? := fun i hi => by
      rw [Nat.zero_add, cell_of_row w g i _ _ _ hh, ← h6, List.getElem?_take_of_lt (by omega), Array.getElem?_toList]
    refine ⟨?_, ?_, ?_⟩
    · rw [hcell _ (by omega)]; exact hf.1
    · rw [Nat.add_assoc, hcell _ (by omega)]; exact hf.2.1
    · rw [Nat.add_assoc, hcell _ (by omega)]; exact hf.2.2
theorem Runs.from {W W' w : World} {h : Nat} {out : List PinT} {ss : List SentT} {vs : Value} (hb : Below W.heap.size W W') (r : Runs W' h out ss vs w) : Runs W h out ss vs w := by
  obtain ⟨h1, h2, h3, h4, h5⟩ := r
  have hs := hb.size
  refine ⟨pstep hb h1, h2, Nat.le_trans hs h3, ?_, h5⟩
  obtain ⟨g1, g2⟩ := h4
  refine ⟨g1, ?_⟩
  rcases g2 with g2 | ⟨g', cap, cur, hv, hg, r⟩
  · exact Or.inl g2
  · exact Or.inr ⟨g', cap, cur, hv, Nat.le_trans hs hg, r⟩
theorem pins_big {l : List PinT} (h : 24 < l.length) : pinsOk l = false := by
  unfold pinsOk
  rw [decide_eq_false (by omega)]
  rfl
theorem pins_24 {l : List PinT} (h : pinsOk l = true) : l.length ≤ 24 := by
  apply Classical.byContradiction
  intro hn
  rw [pins_big (by omega)] at h
  cases h
theorem right_U {ad : Option Addr} {cap : Nat} {l : List PinT} (w : World) (h : PinsAt w ad cap l) (hl : l.length ≤ 9223372036854775807) (r : Bool) (hr : pinsOk l = r) :
    Calls Try.prog 13 #[.slice ad l.length cap] w fun e w' => e = .returned (.bool r) ∧ Below w.heap.size w w' := by
  subst hr
  by_cases h24 : 24 < l.length
  · rw [pins_big h24]
    exact right_big ad l.length cap w h24 hl
  · by_cases h0 : 0 < l.length
    · obtain ⟨b, off, rfl, hb, HL⟩ := h.2 h0
      exact right_some b off cap l w hb (by omega) HL
    · have e0 : l = [] := List.eq_nil_of_length_eq_zero (by omega)
      subst e0
      exact right_none ad cap w
theorem cright_U {ad : Option Addr} {cap : Nat} {l : List PinT} (w : World) (h : PinsAt w ad cap l) (hl : l.length ≤ 9223372036854775807) (r : Bool) (hr : pinsOk l = r) :
    Calls Try.prog 8 #[.slice ad l.length cap] w fun e w' => e = .returned (.bool r) ∧ Below w.heap.size w w' := by
  subst hr
  by_cases h24 : 24 < l.length
  · rw [pins_big h24]
    exact cright_big ad l.length cap w h24 hl
  · by_cases h0 : 0 < l.length
    · obtain ⟨b, off, rfl, hb, HL⟩ := h.2 h0
      exact cright_some b off cap l w hb (by omega) HL
    · have e0 : l = [] := List.eq_nil_of_length_eq_zero (by omega)
      subst e0
      exact cright_none ad cap w
theorem equalP_U {a1 a2 : Option Addr} {c1 c2 : Nat} {l : List PinT} (w : World) (h1 : PinsAt w a1 c1 l) (h2 : PinsAt w a2 c2 l) (hl : l.length ≤ 9223372036854775807) :
    Calls Try.prog 10 #[.slice a1 l.length c1, .slice a2 l.length c2] w fun e w' => e = .returned (.bool true) ∧ Below w.heap.size w w' := by
  by_cases h0 : 0 < l.length
  · obtain ⟨b, off, rfl, hb, HL⟩ := h1.2 h0
    obtain ⟨b2, off2, rfl, hb2, HL2⟩ := h2.2 h0
    exact equal_pins b off c1 b2 off2 c2 l w hl HL HL2 (fun _ => ⟨hb, hb2⟩)
  · have e0 : l = [] := List.eq_nil_of_length_eq_zero (by omega)
    subst e0
    exact equal_pins_none a1 a2 c1 c2 w
theorem equalS_U {a1 a2 : Option Addr} {c1 c2 : Nat} {l : List SentT} (w : World) (h1 : SentsAt w a1 c1 l) (h2 : SentsAt w a2 c2 l) (hl : l.length ≤ 9223372036854775807) :
    Calls Try.prog 11 #[.slice a1 l.length c1, .slice a2 l.length c2] w fun e w' => e = .returned (.bool true) ∧ Below w.heap.size w w' := by
  by_cases h0 : 0 < l.length
  · obtain ⟨b, off, rfl, hb, HL⟩ := h1.2 h0
    obtain ⟨b2, off2, rfl, hb2, HL2⟩ := h2.2 h0
    exact equal_sents b off c1 b2 off2 c2 l w hl HL HL2 (fun _ => ⟨hb, hb2⟩)
  · have e0 : l = [] := List.eq_nil_of_length_eq_zero (by omega)
    subst e0
    exact equal_sents_none a1 a2 c1 c2 w
end Go.Proofs.Ytmldedkmmhnihaa
