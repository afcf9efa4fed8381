/-
  No cell of these rows narrows 'for every input' (looked for: loops, veiled, ifaces, maps, wideKeys, modest, calm, conditions, laid).
  DERIVED. THE GIVEN ROWS OF THIS SEAT. 6 by the template 'for every input the law returns true; each argument reads behind the call as it read before'; 0 by the template 'total and deterministic' (their statements: YtfepgebnaglkaaaTotals.lean).
  GIVEN WITH THE SEED: the statements are not yours to turn. If you find one false, say at which input.
  Laid BY PROGRAM, IN A SANDBOX (cutbox-rows.mjs): the forced cells as the released guide's own fill.sh prints them over the translation 709fa77277d6205d… (all of the seat's roots in one cut). By AI agents, Wed Nov 11 2026. No macro, syntax, notation, axiom, sorry.
-/
import Derived.Test.YtfepgebnaglkaaaChecked
import GoSem.Claim
import GoSem.ClaimJoined
import GoSem.ClaimMapViews
import Derived.JoinedTies
import Derived.KernelRfl
namespace Go.Proofs.Ytfepgebnaglkaaa
/- THE CELL 'sum', in the pinned program and in every row, IS THE sha256 OF THE DUMP (.gsa) THAT YtfepgebnaglkaaaProg.lean LOADS. Nothing in Lean hashes anything: it is a label: what it is worth is what the hold of that sum in a sandbox is worth. -/
noncomputable def Try.pinned : Pinned := { name := "ytfepgebnaglkaaa", sum := "709fa77277d6205dd92a1a8835f3d31f803cce3e05709fb910f3713c531037ac", checked := Try.checked }
namespace Rows
def none {H : Type} : Left H := { results := [], args := [] }

/-- 'corebelllaw.TicketSteps': WHATEVER THE INPUT: true; the input reads as it did. -/
def ticketStepsSpec : ChangeSpec := { name := "ticketSteps", fn := fun _ => fun
  | [d1, d2] => { results := [.lit (.bool true)], args := [d1, d2] }
  | _ => none }
def ticketStepsRow : OpenClaim := { program := "ytfepgebnaglkaaa", sum := "709fa77277d6205dd92a1a8835f3d31f803cce3e05709fb910f3713c531037ac", func := "corebell/corebelllaw.TicketSteps", spec := "ticketSteps", apart := false }
def TicketStepsSaid : Prop := ticketStepsRow.holds Try.pinned (OpenSpec.ofChange ticketStepsSpec)

/-- ITS FALSE NEIGHBOUR: 'it returns false'. Refute it at one input. -/
def ticketStepsWrong : ChangeSpec := { name := "ticketSteps", fn := fun _ => fun
  | [d1, d2] => { results := [.lit (.bool false)], args := [d1, d2] }
  | _ => none }
def TicketStepsWrongFalsely : Prop := ticketStepsRow.holds Try.pinned (OpenSpec.ofChange ticketStepsWrong)

/-- 'corebelllaw.TicketPlays': WHATEVER THE INPUT: true; the input reads as it did. -/
def ticketPlaysSpec : ChangeSpec := { name := "ticketPlays", fn := fun _ => fun
  | [d] => { results := [.lit (.bool true)], args := [d] }
  | _ => none }
def ticketPlaysRow : OpenClaim := { program := "ytfepgebnaglkaaa", sum := "709fa77277d6205dd92a1a8835f3d31f803cce3e05709fb910f3713c531037ac", func := "corebell/corebelllaw.TicketPlays", spec := "ticketPlays", apart := false }
def TicketPlaysSaid : Prop := ticketPlaysRow.holds Try.pinned (OpenSpec.ofChange ticketPlaysSpec)

/-- ITS FALSE NEIGHBOUR: 'it returns false'. Refute it at one input. -/
def ticketPlaysWrong : ChangeSpec := { name := "ticketPlays", fn := fun _ => fun
  | [d] => { results := [.lit (.bool false)], args := [d] }
  | _ => none }
def TicketPlaysWrongFalsely : Prop := ticketPlaysRow.holds Try.pinned (OpenSpec.ofChange ticketPlaysWrong)

/-- 'corebellkeep.TicketOne': WHATEVER THE INPUT: true; the input reads as it did. -/
def ticketOneSpec : ChangeSpec := { name := "ticketOne", fn := fun _ => fun
  | [d1, d2] => { results := [.lit (.bool true)], args := [d1, d2] }
  | _ => none }
def ticketOneRow : OpenClaim := { program := "ytfepgebnaglkaaa", sum := "709fa77277d6205dd92a1a8835f3d31f803cce3e05709fb910f3713c531037ac", func := "corebell/corebellkeep.TicketOne", spec := "ticketOne", apart := false }
def TicketOneSaid : Prop := ticketOneRow.holds Try.pinned (OpenSpec.ofChange ticketOneSpec)

/-- ITS FALSE NEIGHBOUR: 'it returns false'. Refute it at one input. -/
def ticketOneWrong : ChangeSpec := { name := "ticketOne", fn := fun _ => fun
  | [d1, d2] => { results := [.lit (.bool false)], args := [d1, d2] }
  | _ => none }
def TicketOneWrongFalsely : Prop := ticketOneRow.holds Try.pinned (OpenSpec.ofChange ticketOneWrong)

/-- 'corebellkeep.TicketFair': WHATEVER THE INPUT: true; the input reads as it did. -/
def ticketFairSpec : ChangeSpec := { name := "ticketFair", fn := fun _ => fun
  | [d] => { results := [.lit (.bool true)], args := [d] }
  | _ => none }
def ticketFairRow : OpenClaim := { program := "ytfepgebnaglkaaa", sum := "709fa77277d6205dd92a1a8835f3d31f803cce3e05709fb910f3713c531037ac", func := "corebell/corebellkeep.TicketFair", spec := "ticketFair", apart := false }
def TicketFairSaid : Prop := ticketFairRow.holds Try.pinned (OpenSpec.ofChange ticketFairSpec)

/-- ITS FALSE NEIGHBOUR: 'it returns false'. Refute it at one input. -/
def ticketFairWrong : ChangeSpec := { name := "ticketFair", fn := fun _ => fun
  | [d] => { results := [.lit (.bool false)], args := [d] }
  | _ => none }
def TicketFairWrongFalsely : Prop := ticketFairRow.holds Try.pinned (OpenSpec.ofChange ticketFairWrong)

/-- 'corebellkeep.TicketAll': WHATEVER THE INPUT: true; the input reads as it did. -/
def ticketAllSpec : ChangeSpec := { name := "ticketAll", fn := fun _ => fun
  | [d] => { results := [.lit (.bool true)], args := [d] }
  | _ => none }
def ticketAllRow : OpenClaim := { program := "ytfepgebnaglkaaa", sum := "709fa77277d6205dd92a1a8835f3d31f803cce3e05709fb910f3713c531037ac", func := "corebell/corebellkeep.TicketAll", spec := "ticketAll", apart := false }
def TicketAllSaid : Prop := ticketAllRow.holds Try.pinned (OpenSpec.ofChange ticketAllSpec)

/-- ITS FALSE NEIGHBOUR: 'it returns false'. Refute it at one input. -/
def ticketAllWrong : ChangeSpec := { name := "ticketAll", fn := fun _ => fun
  | [d] => { results := [.lit (.bool false)], args := [d] }
  | _ => none }
def TicketAllWrongFalsely : Prop := ticketAllRow.holds Try.pinned (OpenSpec.ofChange ticketAllWrong)

/-- 'corebellkeep.TicketStill': WHATEVER THE INPUT: true; the input reads as it did. -/
def ticketStillSpec : ChangeSpec := { name := "ticketStill", fn := fun _ => fun
  | [d1, d2] => { results := [.lit (.bool true)], args := [d1, d2] }
  | _ => none }
def ticketStillRow : OpenClaim := { program := "ytfepgebnaglkaaa", sum := "709fa77277d6205dd92a1a8835f3d31f803cce3e05709fb910f3713c531037ac", func := "corebell/corebellkeep.TicketStill", spec := "ticketStill", apart := false }
def TicketStillSaid : Prop := ticketStillRow.holds Try.pinned (OpenSpec.ofChange ticketStillSpec)

/-- ITS FALSE NEIGHBOUR: 'it returns false'. Refute it at one input. -/
def ticketStillWrong : ChangeSpec := { name := "ticketStill", fn := fun _ => fun
  | [d1, d2] => { results := [.lit (.bool false)], args := [d1, d2] }
  | _ => none }
def TicketStillWrongFalsely : Prop := ticketStillRow.holds Try.pinned (OpenSpec.ofChange ticketStillWrong)

/- THE SECOND FORM. 'bulk': how many values and letters a reading holds, each counted each time it is reached (what is shared counts as often as it is met; a slice's spare places count too). A statement '..UptoSaid' is the law's where the arguments, and the package variables that the reading takes, are together of bulk at most 1048576: NARROWER than '..Said'. Prove '..Said' where nothing that the law and all that it calls make is longer than what came in: it says more and counts as full. Else prove '..UptoSaid'. A law counts once. -/
mutual
def uptoBulk {H : Type} : DataW H → Nat
  | .lit (.string bytes) => bytes.length + 1
  | .lit _ => 1
  | .nil => 1
  | .ptr d => uptoBulk d + 1
  | .slice elems spare => uptoBulkAll elems + uptoBulkAll spare + 1
  | .agg parts => uptoBulkAll parts + 1
  | .iface _ d => uptoBulk d + 1
  | .map entries => uptoBulkEntries entries + 1
  | .held _ => 1
def uptoBulkAll {H : Type} : List (DataW H) → Nat
  | [] => 0
  | d :: r => uptoBulk d + uptoBulkAll r
def uptoBulkEntries {H : Type} : List (Lit × DataW H) → Nat
  | [] => 0
  | x :: r => uptoBulkEntry x + uptoBulkEntries r
def uptoBulkEntry {H : Type} : Lit × DataW H → Nat
  | (.string bytes, d) => bytes.length + uptoBulk d + 1
  | (_, d) => uptoBulk d + 1
 end
def uptoSmall : (H : Type) → List (DataW H) → Bool := fun _ ds => decide (uptoBulkAll ds ≤ 1048576)
def OpenSpec.upto (s : _root_.Go.ChangeSpec) : _root_.Go.OpenSpec := { _root_.Go.OpenSpec.ofChange s with cond := some uptoSmall }

/-- 'corebelllaw.TicketSteps', WHERE WHAT IT READS IS OF BULK AT MOST 1048576: true; the input reads as it did. -/
def ticketStepsUptoRow : OpenClaim := { program := "ytfepgebnaglkaaa", sum := "709fa77277d6205dd92a1a8835f3d31f803cce3e05709fb910f3713c531037ac", func := "corebell/corebelllaw.TicketSteps", spec := "ticketSteps", apart := false, narrowed := true }
def TicketStepsUptoSaid : Prop := ticketStepsUptoRow.holds Try.pinned (OpenSpec.upto ticketStepsSpec)

/-- 'corebelllaw.TicketPlays', WHERE WHAT IT READS IS OF BULK AT MOST 1048576: true; the input reads as it did. -/
def ticketPlaysUptoRow : OpenClaim := { program := "ytfepgebnaglkaaa", sum := "709fa77277d6205dd92a1a8835f3d31f803cce3e05709fb910f3713c531037ac", func := "corebell/corebelllaw.TicketPlays", spec := "ticketPlays", apart := false, narrowed := true }
def TicketPlaysUptoSaid : Prop := ticketPlaysUptoRow.holds Try.pinned (OpenSpec.upto ticketPlaysSpec)

/-- 'corebellkeep.TicketOne', WHERE WHAT IT READS IS OF BULK AT MOST 1048576: true; the input reads as it did. -/
def ticketOneUptoRow : OpenClaim := { program := "ytfepgebnaglkaaa", sum := "709fa77277d6205dd92a1a8835f3d31f803cce3e05709fb910f3713c531037ac", func := "corebell/corebellkeep.TicketOne", spec := "ticketOne", apart := false, narrowed := true }
def TicketOneUptoSaid : Prop := ticketOneUptoRow.holds Try.pinned (OpenSpec.upto ticketOneSpec)

/-- 'corebellkeep.TicketFair', WHERE WHAT IT READS IS OF BULK AT MOST 1048576: true; the input reads as it did. -/
def ticketFairUptoRow : OpenClaim := { program := "ytfepgebnaglkaaa", sum := "709fa77277d6205dd92a1a8835f3d31f803cce3e05709fb910f3713c531037ac", func := "corebell/corebellkeep.TicketFair", spec := "ticketFair", apart := false, narrowed := true }
def TicketFairUptoSaid : Prop := ticketFairUptoRow.holds Try.pinned (OpenSpec.upto ticketFairSpec)

/-- 'corebellkeep.TicketAll', WHERE WHAT IT READS IS OF BULK AT MOST 1048576: true; the input reads as it did. -/
def ticketAllUptoRow : OpenClaim := { program := "ytfepgebnaglkaaa", sum := "709fa77277d6205dd92a1a8835f3d31f803cce3e05709fb910f3713c531037ac", func := "corebell/corebellkeep.TicketAll", spec := "ticketAll", apart := false, narrowed := true }
def TicketAllUptoSaid : Prop := ticketAllUptoRow.holds Try.pinned (OpenSpec.upto ticketAllSpec)

/-- 'corebellkeep.TicketStill', WHERE WHAT IT READS IS OF BULK AT MOST 1048576: true; the input reads as it did. -/
def ticketStillUptoRow : OpenClaim := { program := "ytfepgebnaglkaaa", sum := "709fa77277d6205dd92a1a8835f3d31f803cce3e05709fb910f3713c531037ac", func := "corebell/corebellkeep.TicketStill", spec := "ticketStill", apart := false, narrowed := true }
def TicketStillUptoSaid : Prop := ticketStillUptoRow.holds Try.pinned (OpenSpec.upto ticketStillSpec)

end Rows
end Go.Proofs.Ytfepgebnaglkaaa
