/- Plain facts on package line: what its small functions say. No program in sight. -/
import Derived.Test.YtmldedkmmhnihaaPinP
namespace Go.Proofs.Ytmldedkmmhnihaa

def PinT.inr (p : PinT) : Bool := decide (0 ≤ p.core) && decide (p.core < 8) && decide (32 ≤ p.vec) && decide (p.vec < 256)
def PinT.cons (p : PinT) : Bool := if p.level = true then !p.kept && (p.sent || p.masked || !p.up) else !p.sent && (p.masked || !p.kept)
theorem ok_parts (p : PinT) : p.ok = (p.inr && p.cons) := rfl
def PinT.lev (p : PinT) : PinT × Bool := ({ p with sent := p.sent || (p.up && !p.masked && !p.sent) }, p.up && !p.masked && !p.sent)
def PinT.edg (p : PinT) (r : Bool) : PinT × Bool := ({ p with kept := (r || p.kept) && p.masked }, (r || p.kept) && !p.masked)
def PinT.rose (p : PinT) (K : Int) : Bool := decide (K = 1) && !p.up
theorem move_level (p : PinT) (K : Int) : (p.move K).level = p.level := by
  unfold PinT.move
  repeat (first | rfl | split)
theorem step_lev {p : PinT} {K : Int} (h : (p.move K).level = true) : pinStep p K = (p.move K).lev := by
  unfold pinStep PinT.settle PinT.lev
  rw [if_pos h]
theorem step_edg {p : PinT} {K : Int} (h1 : 1 ≤ K) (h5 : K ≤ 5) (h : (p.move K).level = false) : pinStep p K = (p.move K).edg (p.rose K) := by
  rw [move_level] at h
  obtain ⟨c, v, l, m, u, k, s⟩ := p
  simp only at h
  subst h
  have hK : K = 1 ∨ K = 2 ∨ K = 3 ∨ K = 4 ∨ K = 5 := by omega
  rcases hK with rfl | rfl | rfl | rfl | rfl <;> cases m <;> cases u <;> cases k <;> rfl
/-- The errors of an operation. -/
def chk (n : Nat) (K P : Int) : Int := if 1 ≤ K ∧ K ≤ 5 then (if 0 ≤ P ∧ P < n then 0 else 3) else 5
theorem chk_ok {n : Nat} {K P : Int} : chk n K P = 0 ↔ 1 ≤ K ∧ K ≤ 5 ∧ 0 ≤ P ∧ P < n := by
  unfold chk
  split
  · split <;> omega
  · omega
theorem chk_small (n : Nat) (K P : Int) : 0 ≤ chk n K P ∧ chk n K P ≤ 5 := by
  unfold chk
  split
  · split <;> omega
  · omega
end Go.Proofs.Ytmldedkmmhnihaa
