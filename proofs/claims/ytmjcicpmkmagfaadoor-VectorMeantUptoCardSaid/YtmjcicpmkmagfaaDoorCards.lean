/-
  DERIVED. GIVEN WITH THE SEED: THE CARDS: each row of YtmjcicpmkmagfaaDoorRows.lean that lists a variable, with what it lists TIED to the program's text (the seventh form; the later family's looks); each row that meets fmt, with fmt's text TOLD by the authors' own Lean function (tested against real Go, not proved from fmt's source: count such statements apart). THE CARD IS WHAT COUNTS. Prove the row's statement (the work); the ties are given (YtmjcicpmkmagfaaDoorTie.lean); close each card by the builder's one call (the guide's Derived/Test/ToyasCard.lean, 'card_holds'). Laid BY PROGRAM, IN A SANDBOX (cutbox-door.mjs). By AI agents, Wed Nov 11 2026. No macro, syntax, notation, axiom, sorry.
-/
import Derived.Test.YtmjcicpmkmagfaaDoorRows
import GoSem.ClaimSeven
namespace Go.Proofs.YtmjcicpmkmagfaaDoor
namespace Rows

/-- THE TIED CARD OF 'corebelllaw.VectorPlays'. -/
def vectorPlaysCard : Claim7 := { stood := { row := vectorPlaysRow, standIns := [], harness := (true, "8de0183e70bb24f119f7380e92a3e65a8cc3c48114a93de8b7634c127fdfbfd5"), looks := false }, kinds := [], alts := [], laidByText := true, laidKinds := [.data], laidTests := true, laidLooks := .later }
def VectorPlaysCardSaid : Prop := Claim7.holds Tryd.pinned (.plain (OpenSpec.ofChange vectorPlaysSpec)) vectorPlaysCard

/-- THE TIED CARD OF 'corebellkeep.VectorApart'. -/
def vectorApartCard : Claim7 := { stood := { row := vectorApartRow, standIns := [], harness := (true, "8de0183e70bb24f119f7380e92a3e65a8cc3c48114a93de8b7634c127fdfbfd5"), looks := false }, kinds := [], alts := [], laidByText := true, laidKinds := [.data], laidTests := true, laidLooks := .later }
def VectorApartCardSaid : Prop := Claim7.holds Tryd.pinned (.plain (OpenSpec.ofChange vectorApartSpec)) vectorApartCard

/-- THE TIED CARD OF 'corebellkeep.VectorMeant'. -/
def vectorMeantCard : Claim7 := { stood := { row := vectorMeantRow, standIns := [], harness := (true, "8de0183e70bb24f119f7380e92a3e65a8cc3c48114a93de8b7634c127fdfbfd5"), looks := false }, kinds := [], alts := [], laidByText := true, laidKinds := [.data], laidTests := true, laidLooks := .later }
def VectorMeantCardSaid : Prop := Claim7.holds Tryd.pinned (.plain (OpenSpec.ofChange vectorMeantSpec)) vectorMeantCard

/-- THE TIED CARD OF 'corebellkeep.VectorEven'. -/
def vectorEvenCard : Claim7 := { stood := { row := vectorEvenRow, standIns := [], harness := (true, "8de0183e70bb24f119f7380e92a3e65a8cc3c48114a93de8b7634c127fdfbfd5"), looks := false }, kinds := [], alts := [], laidByText := true, laidKinds := [.data], laidTests := true, laidLooks := .later }
def VectorEvenCardSaid : Prop := Claim7.holds Tryd.pinned (.plain (OpenSpec.ofChange vectorEvenSpec)) vectorEvenCard

/-- THE TIED CARD OF 'corebellkeep.VectorFull'. -/
def vectorFullCard : Claim7 := { stood := { row := vectorFullRow, standIns := [], harness := (true, "8de0183e70bb24f119f7380e92a3e65a8cc3c48114a93de8b7634c127fdfbfd5"), looks := false }, kinds := [], alts := [], laidByText := true, laidKinds := [.data], laidTests := true, laidLooks := .later }
def VectorFullCardSaid : Prop := Claim7.holds Tryd.pinned (.plain (OpenSpec.ofChange vectorFullSpec)) vectorFullCard

/-- THE SECOND FORM's CARD OF 'corebelllaw.VectorPlays'. -/
def vectorPlaysUptoCard : Claim7 := { stood := { row := vectorPlaysUptoRow, standIns := [], harness := (true, "8de0183e70bb24f119f7380e92a3e65a8cc3c48114a93de8b7634c127fdfbfd5"), looks := false }, kinds := [], alts := [], laidByText := true, laidKinds := [.data], laidTests := true, laidLooks := .later }
def VectorPlaysUptoCardSaid : Prop := Claim7.holds Tryd.pinned (.plain (OpenSpec.upto vectorPlaysSpec)) vectorPlaysUptoCard

/-- THE SECOND FORM's CARD OF 'corebellkeep.VectorApart'. -/
def vectorApartUptoCard : Claim7 := { stood := { row := vectorApartUptoRow, standIns := [], harness := (true, "8de0183e70bb24f119f7380e92a3e65a8cc3c48114a93de8b7634c127fdfbfd5"), looks := false }, kinds := [], alts := [], laidByText := true, laidKinds := [.data], laidTests := true, laidLooks := .later }
def VectorApartUptoCardSaid : Prop := Claim7.holds Tryd.pinned (.plain (OpenSpec.upto vectorApartSpec)) vectorApartUptoCard

/-- THE SECOND FORM's CARD OF 'corebellkeep.VectorMeant'. -/
def vectorMeantUptoCard : Claim7 := { stood := { row := vectorMeantUptoRow, standIns := [], harness := (true, "8de0183e70bb24f119f7380e92a3e65a8cc3c48114a93de8b7634c127fdfbfd5"), looks := false }, kinds := [], alts := [], laidByText := true, laidKinds := [.data], laidTests := true, laidLooks := .later }
def VectorMeantUptoCardSaid : Prop := Claim7.holds Tryd.pinned (.plain (OpenSpec.upto vectorMeantSpec)) vectorMeantUptoCard

/-- THE SECOND FORM's CARD OF 'corebellkeep.VectorEven'. -/
def vectorEvenUptoCard : Claim7 := { stood := { row := vectorEvenUptoRow, standIns := [], harness := (true, "8de0183e70bb24f119f7380e92a3e65a8cc3c48114a93de8b7634c127fdfbfd5"), looks := false }, kinds := [], alts := [], laidByText := true, laidKinds := [.data], laidTests := true, laidLooks := .later }
def VectorEvenUptoCardSaid : Prop := Claim7.holds Tryd.pinned (.plain (OpenSpec.upto vectorEvenSpec)) vectorEvenUptoCard

/-- THE SECOND FORM's CARD OF 'corebellkeep.VectorFull'. -/
def vectorFullUptoCard : Claim7 := { stood := { row := vectorFullUptoRow, standIns := [], harness := (true, "8de0183e70bb24f119f7380e92a3e65a8cc3c48114a93de8b7634c127fdfbfd5"), looks := false }, kinds := [], alts := [], laidByText := true, laidKinds := [.data], laidTests := true, laidLooks := .later }
def VectorFullUptoCardSaid : Prop := Claim7.holds Tryd.pinned (.plain (OpenSpec.upto vectorFullSpec)) vectorFullUptoCard
end Rows
end Go.Proofs.YtmjcicpmkmagfaaDoor
