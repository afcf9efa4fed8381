/- Drawn regions by hand: more may be held from some operation on. No program in sight. -/
import Derived.Deep.RegionHeld3
namespace Go.Proofs.YtomgifdnnfbpnaaDoor
section
variable {P : Program} {md : Region.Mode} {ops : Array Oper} {Q : Exit → Act → World → Prop}
/-- More may be held from here on. -/
theorem wpAnyH_more {S1 S2 : World → Prop} (h12 : ∀ w, S2 w → S1 w) : ∀ (fuel : Nat) (listed : Array Bool) (a : Act) (w : World), wpAnyH P md ops Q S2 fuel listed a w → wpAnyH P md ops Q S1 fuel listed a w
  | 0, _, _, _, h => h
  | fuel + 1, _, _, _, h => ⟨h.1, fun i hi => wpOp_mono (fun a' w' h' => ⟨h12 _ h'.1, wpAnyH_more h12 fuel _ a' w' h'.2⟩) (h.2 i hi)⟩
end
end Go.Proofs.YtomgifdnnfbpnaaDoor
