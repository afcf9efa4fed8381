/-
  DERIVED. GIVEN WITH THE SEED: THE CARDS: each row of YtmldedkmmhnihaaDoorRows.lean that lists a variable, with what it lists TIED to the program's text (the seventh form; the later family's looks); each row that meets fmt, with fmt's text TOLD by the authors' own Lean function (tested against real Go, not proved from fmt's source: count such statements apart). THE CARD IS WHAT COUNTS. Prove the row's statement (the work); the ties are given (YtmldedkmmhnihaaDoorTie.lean); close each card by the builder's one call (the guide's Derived/Test/ToyasCard.lean, 'card_holds'). Laid BY PROGRAM, IN A SANDBOX (cutbox-door.mjs). By AI agents, Wed Nov 11 2026. No macro, syntax, notation, axiom, sorry.
-/
import Derived.Test.YtmldedkmmhnihaaDoorRows
import GoSem.ClaimSeven
namespace Go.Proofs.YtmldedkmmhnihaaDoor
namespace Rows

/-- THE TIED CARD OF 'corebellkeep.VectorMeant'. -/
def vectorMeantCard : Claim7 := { stood := { row := vectorMeantRow, standIns := [], harness := (true, "22d1a3c010de1998368714ede76105a459b3c9dc0281d6851728df8c206964ee"), looks := false }, kinds := [], alts := [], laidByText := true, laidKinds := [.data], laidTests := true, laidLooks := .later }
def VectorMeantCardSaid : Prop := Claim7.holds Tryd.pinned (.plain (OpenSpec.ofChange vectorMeantSpec)) vectorMeantCard

/-- THE TIED CARD OF 'corebellkeep.VectorFull'. -/
def vectorFullCard : Claim7 := { stood := { row := vectorFullRow, standIns := [], harness := (true, "22d1a3c010de1998368714ede76105a459b3c9dc0281d6851728df8c206964ee"), looks := false }, kinds := [], alts := [], laidByText := true, laidKinds := [.data], laidTests := true, laidLooks := .later }
def VectorFullCardSaid : Prop := Claim7.holds Tryd.pinned (.plain (OpenSpec.ofChange vectorFullSpec)) vectorFullCard

/-- THE SECOND FORM's CARD OF 'corebellkeep.VectorMeant'. -/
def vectorMeantUptoCard : Claim7 := { stood := { row := vectorMeantUptoRow, standIns := [], harness := (true, "22d1a3c010de1998368714ede76105a459b3c9dc0281d6851728df8c206964ee"), looks := false }, kinds := [], alts := [], laidByText := true, laidKinds := [.data], laidTests := true, laidLooks := .later }
def VectorMeantUptoCardSaid : Prop := Claim7.holds Tryd.pinned (.plain (OpenSpec.upto vectorMeantSpec)) vectorMeantUptoCard

/-- THE SECOND FORM's CARD OF 'corebellkeep.VectorFull'. -/
def vectorFullUptoCard : Claim7 := { stood := { row := vectorFullUptoRow, standIns := [], harness := (true, "22d1a3c010de1998368714ede76105a459b3c9dc0281d6851728df8c206964ee"), looks := false }, kinds := [], alts := [], laidByText := true, laidKinds := [.data], laidTests := true, laidLooks := .later }
def VectorFullUptoCardSaid : Prop := Claim7.holds Tryd.pinned (.plain (OpenSpec.upto vectorFullSpec)) vectorFullUptoCard
end Rows
end Go.Proofs.YtmldedkmmhnihaaDoor
