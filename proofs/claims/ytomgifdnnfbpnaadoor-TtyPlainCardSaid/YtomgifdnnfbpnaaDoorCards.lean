/-
  DERIVED. GIVEN WITH THE SEED: THE CARDS: each row of YtomgifdnnfbpnaaDoorRows.lean that lists a variable, with what it lists TIED to the program's text (the seventh form; the later family's looks); each row that meets fmt, with fmt's text TOLD by the authors' own Lean function (tested against real Go, not proved from fmt's source: count such statements apart). THE CARD IS WHAT COUNTS. Prove the row's statement (the work); the ties are given (YtomgifdnnfbpnaaDoorTie.lean); close each card by the builder's one call (the guide's Derived/Test/ToyasCard.lean, 'card_holds'). Laid BY PROGRAM, IN A SANDBOX (cutbox-door.mjs). By AI agents, Wed Nov 11 2026. No macro, syntax, notation, axiom, sorry.
-/
import Derived.Test.YtomgifdnnfbpnaaDoorRows
import GoSem.ClaimSeven
namespace Go.Proofs.YtomgifdnnfbpnaaDoor
namespace Rows

/-- THE TIED CARD OF 'corebelllaw.TtyTells'. -/
def ttyTellsCard : Claim7 := { stood := { row := ttyTellsRow, standIns := [], harness := (true, "7cd0149dfbb49c721d9c97fea66525eba7842347d10885586aaaba880e34c6d5"), looks := false }, kinds := [], alts := [], laidByText := true, laidKinds := [.data, .pinned], laidTests := true, laidLooks := .later }
def TtyTellsCardSaid : Prop := Claim7.holds Tryd.pinned (.plain (OpenSpec.ofChange ttyTellsSpec)) ttyTellsCard

/-- THE TIED CARD OF 'corebelllaw.TtyTypes'. -/
def ttyTypesCard : Claim7 := { stood := { row := ttyTypesRow, standIns := [], harness := (true, "7cd0149dfbb49c721d9c97fea66525eba7842347d10885586aaaba880e34c6d5"), looks := false }, kinds := [], alts := [], laidByText := true, laidKinds := [.data, .pinned], laidTests := true, laidLooks := .later }
def TtyTypesCardSaid : Prop := Claim7.holds Tryd.pinned (.plain (OpenSpec.ofChange ttyTypesSpec)) ttyTypesCard

/-- THE TIED CARD OF 'corebellkeep.TtyErase'. -/
def ttyEraseCard : Claim7 := { stood := { row := ttyEraseRow, standIns := [], harness := (true, "7cd0149dfbb49c721d9c97fea66525eba7842347d10885586aaaba880e34c6d5"), looks := false }, kinds := [], alts := [], laidByText := true, laidKinds := [.data, .pinned], laidTests := true, laidLooks := .later }
def TtyEraseCardSaid : Prop := Claim7.holds Tryd.pinned (.plain (OpenSpec.ofChange ttyEraseSpec)) ttyEraseCard

/-- THE TIED CARD OF 'corebellkeep.TtyPlain'. -/
def ttyPlainCard : Claim7 := { stood := { row := ttyPlainRow, standIns := [], harness := (true, "7cd0149dfbb49c721d9c97fea66525eba7842347d10885586aaaba880e34c6d5"), looks := false }, kinds := [], alts := [], laidByText := true, laidKinds := [.data, .pinned], laidTests := true, laidLooks := .later }
def TtyPlainCardSaid : Prop := Claim7.holds Tryd.pinned (.plain (OpenSpec.ofChange ttyPlainSpec)) ttyPlainCard

/-- THE TIED CARD OF 'corebellkeep.TtyWord'. -/
def ttyWordCard : Claim7 := { stood := { row := ttyWordRow, standIns := [], harness := (true, "7cd0149dfbb49c721d9c97fea66525eba7842347d10885586aaaba880e34c6d5"), looks := false }, kinds := [], alts := [], laidByText := true, laidKinds := [.data, .pinned], laidTests := true, laidLooks := .later }
def TtyWordCardSaid : Prop := Claim7.holds Tryd.pinned (.plain (OpenSpec.ofChange ttyWordSpec)) ttyWordCard

/-- THE TIED CARD OF 'corebellkeep.TtyReads'. -/
def ttyReadsCard : Claim7 := { stood := { row := ttyReadsRow, standIns := [], harness := (true, "7cd0149dfbb49c721d9c97fea66525eba7842347d10885586aaaba880e34c6d5"), looks := false }, kinds := [], alts := [], laidByText := true, laidKinds := [.data, .pinned], laidTests := true, laidLooks := .later }
def TtyReadsCardSaid : Prop := Claim7.holds Tryd.pinned (.plain (OpenSpec.ofChange ttyReadsSpec)) ttyReadsCard

/-- THE SECOND FORM's CARD OF 'corebelllaw.TtyTells'. -/
def ttyTellsUptoCard : Claim7 := { stood := { row := ttyTellsUptoRow, standIns := [], harness := (true, "7cd0149dfbb49c721d9c97fea66525eba7842347d10885586aaaba880e34c6d5"), looks := false }, kinds := [], alts := [], laidByText := true, laidKinds := [.data, .pinned], laidTests := true, laidLooks := .later }
def TtyTellsUptoCardSaid : Prop := Claim7.holds Tryd.pinned (.plain (OpenSpec.upto ttyTellsSpec)) ttyTellsUptoCard

/-- THE SECOND FORM's CARD OF 'corebelllaw.TtyTypes'. -/
def ttyTypesUptoCard : Claim7 := { stood := { row := ttyTypesUptoRow, standIns := [], harness := (true, "7cd0149dfbb49c721d9c97fea66525eba7842347d10885586aaaba880e34c6d5"), looks := false }, kinds := [], alts := [], laidByText := true, laidKinds := [.data, .pinned], laidTests := true, laidLooks := .later }
def TtyTypesUptoCardSaid : Prop := Claim7.holds Tryd.pinned (.plain (OpenSpec.upto ttyTypesSpec)) ttyTypesUptoCard

/-- THE SECOND FORM's CARD OF 'corebellkeep.TtyErase'. -/
def ttyEraseUptoCard : Claim7 := { stood := { row := ttyEraseUptoRow, standIns := [], harness := (true, "7cd0149dfbb49c721d9c97fea66525eba7842347d10885586aaaba880e34c6d5"), looks := false }, kinds := [], alts := [], laidByText := true, laidKinds := [.data, .pinned], laidTests := true, laidLooks := .later }
def TtyEraseUptoCardSaid : Prop := Claim7.holds Tryd.pinned (.plain (OpenSpec.upto ttyEraseSpec)) ttyEraseUptoCard

/-- THE SECOND FORM's CARD OF 'corebellkeep.TtyPlain'. -/
def ttyPlainUptoCard : Claim7 := { stood := { row := ttyPlainUptoRow, standIns := [], harness := (true, "7cd0149dfbb49c721d9c97fea66525eba7842347d10885586aaaba880e34c6d5"), looks := false }, kinds := [], alts := [], laidByText := true, laidKinds := [.data, .pinned], laidTests := true, laidLooks := .later }
def TtyPlainUptoCardSaid : Prop := Claim7.holds Tryd.pinned (.plain (OpenSpec.upto ttyPlainSpec)) ttyPlainUptoCard

/-- THE SECOND FORM's CARD OF 'corebellkeep.TtyWord'. -/
def ttyWordUptoCard : Claim7 := { stood := { row := ttyWordUptoRow, standIns := [], harness := (true, "7cd0149dfbb49c721d9c97fea66525eba7842347d10885586aaaba880e34c6d5"), looks := false }, kinds := [], alts := [], laidByText := true, laidKinds := [.data, .pinned], laidTests := true, laidLooks := .later }
def TtyWordUptoCardSaid : Prop := Claim7.holds Tryd.pinned (.plain (OpenSpec.upto ttyWordSpec)) ttyWordUptoCard

/-- THE SECOND FORM's CARD OF 'corebellkeep.TtyReads'. -/
def ttyReadsUptoCard : Claim7 := { stood := { row := ttyReadsUptoRow, standIns := [], harness := (true, "7cd0149dfbb49c721d9c97fea66525eba7842347d10885586aaaba880e34c6d5"), looks := false }, kinds := [], alts := [], laidByText := true, laidKinds := [.data, .pinned], laidTests := true, laidLooks := .later }
def TtyReadsUptoCardSaid : Prop := Claim7.holds Tryd.pinned (.plain (OpenSpec.upto ttyReadsSpec)) ttyReadsUptoCard
end Rows
end Go.Proofs.YtomgifdnnfbpnaaDoor
