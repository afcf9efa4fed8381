/- line.Step at an operation that does something, in the form of readings; plain facts on one line by its level, one by its edges. -/
import Derived.Test.YtmldedkmmhnihaaLinF
import Derived.Test.YtmldedkmmhnihaaLinQ
namespace Go.Proofs.Ytmldedkmmhnihaa
open Go.RowKit

theorem pins_of_lies {w : World} {b off cap : Nat} {l : List PinT} (hb : b < w.heap.size) (h : LiesP w b off l) : PinsAt w (some ⟨b, off, none⟩) cap l := ⟨fun e => (nomatch e), fun _ => ⟨b, off, rfl, hb, h⟩⟩
theorem get_set {l : List PinT} {q : Nat} (p2 : PinT) (h : q < l.length) : (l.set q p2).getD q pin0 = p2 := by
  rw [List.getD_eq_getElem?_getD, List.getElem?_set_self h]
  rfl
/-- A line by its level: whether it was sent and not ended. -/
def openOf (p : PinT) (K : Int) : Bool := if K = 5 then false else p.sent
theorem lev_facts (p : PinT) (K : Int) (p2 : PinT) (t : Bool) (hl : p.level = true) (h : pinStep p K = (p2, t)) : p2.level = true ∧ t = (p2.up && !p2.masked && !openOf p K) ∧ p2.sent = (openOf p K || t) := by
  have ml : (p.move K).level = true := by rw [move_level]; exact hl
  have ms : (p.move K).sent = openOf p K := by
    unfold PinT.move openOf
    by_cases h1 : K = 1
    · subst h1; rfl
    by_cases h2 : K = 2
    · subst h2; rfl
    by_cases h3 : K = 3
    · subst h3; rfl
    by_cases h4 : K = 4
    · subst h4; rfl
    rw [if_neg h1, if_neg h2, if_neg h3, if_neg h4]
    split <;> rfl
  rw [step_lev ml] at h
  unfold PinT.lev at h
  simp only [Prod.mk.injEq] at h
  obtain ⟨rfl, rfl⟩ := h
  rw [← ms]
  exact ⟨ml, rfl, rfl⟩
/-- A line by its edges: whether an edge is owed. -/
def oweOf (p : PinT) (K : Int) : Bool := p.kept || p.rose K
theorem edg_facts (p : PinT) (K : Int) (p2 : PinT) (t : Bool) (h1 : 1 ≤ K) (h5 : K ≤ 5) (hl : p.level = false) (h : pinStep p K = (p2, t)) : p2.level = false ∧ t = (oweOf p K && !p2.masked) ∧ p2.kept = (oweOf p K && p2.masked) := by
  have ml : (p.move K).level = false := by rw [move_level]; exact hl
  have mk : (p.move K).kept = p.kept := by
    unfold PinT.move
    repeat (first | rfl | split)
  rw [step_edg h1 h5 ml] at h
  unfold PinT.edg at h
  simp only [Prod.mk.injEq] at h
  obtain ⟨rfl, rfl⟩ := h
  unfold oweOf
  rw [mk]
  refine ⟨ml, ?_, ?_⟩
  · rw [Bool.or_comm p.kept]
  · rw [Bool.or_comm p.kept]
theorem kept_masked {p : PinT} (h : p.ok = true) (hl : p.level = false) : p.kept = true → p.masked = true := by
  unfold PinT.ok at h
  rw [hl] at h
  intro hk
  rw [hk] at h
  have h2 := (Bool.and_eq_true_iff.1 h).2
  simp at h2
  exact h2.2
end Go.Proofs.Ytmldedkmmhnihaa
