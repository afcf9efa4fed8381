/-
  DERIVED. GIVEN WITH THE SEED: THE CARDS: each row of YtajecpfkaieieaaDoorRows.lean that lists a variable, with what it lists TIED to the program's text (the seventh form; the later family's looks); each row that meets fmt, with fmt's text TOLD by the authors' own Lean function (tested against real Go, not proved from fmt's source: count such statements apart). THE CARD IS WHAT COUNTS. Prove the row's statement (the work); the ties are given (YtajecpfkaieieaaDoorTie.lean); close each card by the builder's one call (the guide's Derived/Test/ToyasCard.lean, 'card_holds'). Laid BY PROGRAM, IN A SANDBOX (cutbox-door.mjs). By AI agents, Wed Nov 11 2026. No macro, syntax, notation, axiom, sorry.
-/
import Derived.Test.YtajecpfkaieieaaDoorRows
import GoSem.ClaimSeven
namespace Go.Proofs.YtajecpfkaieieaaDoor
namespace Rows

/-- THE TIED CARD OF 'corebelllaw.VectorPlays'. -/
def vectorPlaysCard : Claim7 := { stood := { row := vectorPlaysRow, standIns := [], harness := (true, "b30d609a2625aa4bf530c88cd985dfd3ee492f40ffe237a6faff9d07326b1222"), looks := false }, kinds := [], alts := [], laidByText := true, laidKinds := [.data], laidTests := true, laidLooks := .later }
def VectorPlaysCardSaid : Prop := Claim7.holds Tryd.pinned (.plain (OpenSpec.ofChange vectorPlaysSpec)) vectorPlaysCard

/-- THE TIED CARD OF 'corebellkeep.VectorApart'. -/
def vectorApartCard : Claim7 := { stood := { row := vectorApartRow, standIns := [], harness := (true, "b30d609a2625aa4bf530c88cd985dfd3ee492f40ffe237a6faff9d07326b1222"), looks := false }, kinds := [], alts := [], laidByText := true, laidKinds := [.data], laidTests := true, laidLooks := .later }
def VectorApartCardSaid : Prop := Claim7.holds Tryd.pinned (.plain (OpenSpec.ofChange vectorApartSpec)) vectorApartCard

/-- THE SECOND FORM's CARD OF 'corebelllaw.VectorPlays'. -/
def vectorPlaysUptoCard : Claim7 := { stood := { row := vectorPlaysUptoRow, standIns := [], harness := (true, "b30d609a2625aa4bf530c88cd985dfd3ee492f40ffe237a6faff9d07326b1222"), looks := false }, kinds := [], alts := [], laidByText := true, laidKinds := [.data], laidTests := true, laidLooks := .later }
def VectorPlaysUptoCardSaid : Prop := Claim7.holds Tryd.pinned (.plain (OpenSpec.upto vectorPlaysSpec)) vectorPlaysUptoCard

/-- THE SECOND FORM's CARD OF 'corebellkeep.VectorApart'. -/
def vectorApartUptoCard : Claim7 := { stood := { row := vectorApartUptoRow, standIns := [], harness := (true, "b30d609a2625aa4bf530c88cd985dfd3ee492f40ffe237a6faff9d07326b1222"), looks := false }, kinds := [], alts := [], laidByText := true, laidKinds := [.data], laidTests := true, laidLooks := .later }
def VectorApartUptoCardSaid : Prop := Claim7.holds Tryd.pinned (.plain (OpenSpec.upto vectorApartSpec)) vectorApartUptoCard
end Rows
end Go.Proofs.YtajecpfkaieieaaDoor
