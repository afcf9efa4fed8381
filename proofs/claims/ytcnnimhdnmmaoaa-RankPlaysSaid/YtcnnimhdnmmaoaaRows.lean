/-
  No cell of these rows narrows 'for every input' (looked for: loops, veiled, ifaces, maps, wideKeys, modest, calm, conditions, laid).
  DERIVED. THE GIVEN ROWS OF THIS SEAT. 6 by the template 'for every input the law returns true; each argument reads behind the call as it read before'; 0 by the template 'total and deterministic' (their statements: YtcnnimhdnmmaoaaTotals.lean).
  GIVEN WITH THE SEED: the statements are not yours to turn. If you find one false, say at which input.
  Laid BY PROGRAM, IN A SANDBOX (cutbox-rows.mjs): the forced cells as the released guide's own fill.sh prints them over the translation 6596c5c16f6606e7… (all of the seat's roots in one cut). By AI agents, Wed Nov 11 2026. No macro, syntax, notation, axiom, sorry.
-/
import Derived.Test.YtcnnimhdnmmaoaaChecked
import GoSem.Claim
import GoSem.ClaimJoined
import GoSem.ClaimMapViews
import Derived.JoinedTies
import Derived.KernelRfl
namespace Go.Proofs.Ytcnnimhdnmmaoaa
/- THE CELL 'sum', in the pinned program and in every row, IS THE sha256 OF THE DUMP (.gsa) THAT YtcnnimhdnmmaoaaProg.lean LOADS. Nothing in Lean hashes anything: it is a label: what it is worth is what the hold of that sum in a sandbox is worth. -/
noncomputable def Try.pinned : Pinned := { name := "ytcnnimhdnmmaoaa", sum := "6596c5c16f6606e760c22c9e9931d1c139c58f1d770ec27a477a1e44af9f9c9b", checked := Try.checked }
namespace Rows
def none {H : Type} : Left H := { results := [], args := [] }

/-- 'corebelllaw.RankPlays': WHATEVER THE INPUT: true; the input reads as it did. -/
def rankPlaysSpec : ChangeSpec := { name := "rankPlays", fn := fun _ => fun
  | [d1, d2, d3, d4] => { results := [.lit (.bool true)], args := [d1, d2, d3, d4] }
  | _ => none }
def rankPlaysRow : OpenClaim := { program := "ytcnnimhdnmmaoaa", sum := "6596c5c16f6606e760c22c9e9931d1c139c58f1d770ec27a477a1e44af9f9c9b", func := "corebell/corebelllaw.RankPlays", spec := "rankPlays", unfollowed := true, recurses := true, apart := false }
def RankPlaysSaid : Prop := rankPlaysRow.holds Try.pinned (OpenSpec.ofChange rankPlaysSpec)

/-- ITS FALSE NEIGHBOUR: 'it returns false'. Refute it at one input. -/
def rankPlaysWrong : ChangeSpec := { name := "rankPlays", fn := fun _ => fun
  | [d1, d2, d3, d4] => { results := [.lit (.bool false)], args := [d1, d2, d3, d4] }
  | _ => none }
def RankPlaysWrongFalsely : Prop := rankPlaysRow.holds Try.pinned (OpenSpec.ofChange rankPlaysWrong)

/-- 'corebelllaw.RankCircle': WHATEVER THE INPUT: true; the input reads as it did. -/
def rankCircleSpec : ChangeSpec := { name := "rankCircle", fn := fun _ => fun
  | [d1, d2] => { results := [.lit (.bool true)], args := [d1, d2] }
  | _ => none }
def rankCircleRow : OpenClaim := { program := "ytcnnimhdnmmaoaa", sum := "6596c5c16f6606e760c22c9e9931d1c139c58f1d770ec27a477a1e44af9f9c9b", func := "corebell/corebelllaw.RankCircle", spec := "rankCircle", unfollowed := true, recurses := true, apart := false }
def RankCircleSaid : Prop := rankCircleRow.holds Try.pinned (OpenSpec.ofChange rankCircleSpec)

/-- ITS FALSE NEIGHBOUR: 'it returns false'. Refute it at one input. -/
def rankCircleWrong : ChangeSpec := { name := "rankCircle", fn := fun _ => fun
  | [d1, d2] => { results := [.lit (.bool false)], args := [d1, d2] }
  | _ => none }
def RankCircleWrongFalsely : Prop := rankCircleRow.holds Try.pinned (OpenSpec.ofChange rankCircleWrong)

/-- 'corebellkeep.RankNever': WHATEVER THE INPUT: true; the input reads as it did. -/
def rankNeverSpec : ChangeSpec := { name := "rankNever", fn := fun _ => fun
  | [d1, d2, d3] => { results := [.lit (.bool true)], args := [d1, d2, d3] }
  | _ => none }
def rankNeverRow : OpenClaim := { program := "ytcnnimhdnmmaoaa", sum := "6596c5c16f6606e760c22c9e9931d1c139c58f1d770ec27a477a1e44af9f9c9b", func := "corebell/corebellkeep.RankNever", spec := "rankNever", unfollowed := true, recurses := true, apart := false }
def RankNeverSaid : Prop := rankNeverRow.holds Try.pinned (OpenSpec.ofChange rankNeverSpec)

/-- ITS FALSE NEIGHBOUR: 'it returns false'. Refute it at one input. -/
def rankNeverWrong : ChangeSpec := { name := "rankNever", fn := fun _ => fun
  | [d1, d2, d3] => { results := [.lit (.bool false)], args := [d1, d2, d3] }
  | _ => none }
def RankNeverWrongFalsely : Prop := rankNeverRow.holds Try.pinned (OpenSpec.ofChange rankNeverWrong)

/-- 'corebellkeep.RankSome': WHATEVER THE INPUT: true; the input reads as it did. -/
def rankSomeSpec : ChangeSpec := { name := "rankSome", fn := fun _ => fun
  | [d1, d2, d3] => { results := [.lit (.bool true)], args := [d1, d2, d3] }
  | _ => none }
def rankSomeRow : OpenClaim := { program := "ytcnnimhdnmmaoaa", sum := "6596c5c16f6606e760c22c9e9931d1c139c58f1d770ec27a477a1e44af9f9c9b", func := "corebell/corebellkeep.RankSome", spec := "rankSome", unfollowed := true, recurses := true, apart := false }
def RankSomeSaid : Prop := rankSomeRow.holds Try.pinned (OpenSpec.ofChange rankSomeSpec)

/-- ITS FALSE NEIGHBOUR: 'it returns false'. Refute it at one input. -/
def rankSomeWrong : ChangeSpec := { name := "rankSome", fn := fun _ => fun
  | [d1, d2, d3] => { results := [.lit (.bool false)], args := [d1, d2, d3] }
  | _ => none }
def RankSomeWrongFalsely : Prop := rankSomeRow.holds Try.pinned (OpenSpec.ofChange rankSomeWrong)

/-- 'corebellkeep.RankApart': WHATEVER THE INPUT: true; the input reads as it did. -/
def rankApartSpec : ChangeSpec := { name := "rankApart", fn := fun _ => fun
  | [d1, d2, d3, d4, d5] => { results := [.lit (.bool true)], args := [d1, d2, d3, d4, d5] }
  | _ => none }
def rankApartRow : OpenClaim := { program := "ytcnnimhdnmmaoaa", sum := "6596c5c16f6606e760c22c9e9931d1c139c58f1d770ec27a477a1e44af9f9c9b", func := "corebell/corebellkeep.RankApart", spec := "rankApart", unfollowed := true, recurses := true, apart := false }
def RankApartSaid : Prop := rankApartRow.holds Try.pinned (OpenSpec.ofChange rankApartSpec)

/-- ITS FALSE NEIGHBOUR: 'it returns false'. Refute it at one input. -/
def rankApartWrong : ChangeSpec := { name := "rankApart", fn := fun _ => fun
  | [d1, d2, d3, d4, d5] => { results := [.lit (.bool false)], args := [d1, d2, d3, d4, d5] }
  | _ => none }
def RankApartWrongFalsely : Prop := rankApartRow.holds Try.pinned (OpenSpec.ofChange rankApartWrong)

/-- 'corebellkeep.RankTrue': WHATEVER THE INPUT: true; the input reads as it did. -/
def rankTrueSpec : ChangeSpec := { name := "rankTrue", fn := fun _ => fun
  | [d1, d2] => { results := [.lit (.bool true)], args := [d1, d2] }
  | _ => none }
def rankTrueRow : OpenClaim := { program := "ytcnnimhdnmmaoaa", sum := "6596c5c16f6606e760c22c9e9931d1c139c58f1d770ec27a477a1e44af9f9c9b", func := "corebell/corebellkeep.RankTrue", spec := "rankTrue", unfollowed := true, recurses := true, apart := false }
def RankTrueSaid : Prop := rankTrueRow.holds Try.pinned (OpenSpec.ofChange rankTrueSpec)

/-- ITS FALSE NEIGHBOUR: 'it returns false'. Refute it at one input. -/
def rankTrueWrong : ChangeSpec := { name := "rankTrue", fn := fun _ => fun
  | [d1, d2] => { results := [.lit (.bool false)], args := [d1, d2] }
  | _ => none }
def RankTrueWrongFalsely : Prop := rankTrueRow.holds Try.pinned (OpenSpec.ofChange rankTrueWrong)

/- THE SECOND FORM. 'bulk': how many values and letters a reading holds, each counted each time it is reached (what is shared counts as often as it is met; a slice's spare places count too). A statement '..UptoSaid' is the law's where the arguments, and the package variables that the reading takes, are together of bulk at most 1048576: NARROWER than '..Said'. Prove '..Said' where nothing that the law and all that it calls make is longer than what came in: it says more and counts as full. Else prove '..UptoSaid'. A law counts once. -/
mutual
def uptoBulk {H : Type} : DataW H → Nat
  | .lit (.string bytes) => bytes.length + 1
  | .lit _ => 1
  | .nil => 1
  | .ptr d => uptoBulk d + 1
  | .slice elems spare => uptoBulkAll elems + uptoBulkAll spare + 1
  | .agg parts => uptoBulkAll parts + 1
  | .iface _ d => uptoBulk d + 1
  | .map entries => uptoBulkEntries entries + 1
  | .held _ => 1
def uptoBulkAll {H : Type} : List (DataW H) → Nat
  | [] => 0
  | d :: r => uptoBulk d + uptoBulkAll r
def uptoBulkEntries {H : Type} : List (Lit × DataW H) → Nat
  | [] => 0
  | x :: r => uptoBulkEntry x + uptoBulkEntries r
def uptoBulkEntry {H : Type} : Lit × DataW H → Nat
  | (.string bytes, d) => bytes.length + uptoBulk d + 1
  | (_, d) => uptoBulk d + 1
 end
def uptoSmall : (H : Type) → List (DataW H) → Bool := fun _ ds => decide (uptoBulkAll ds ≤ 1048576)
def OpenSpec.upto (s : _root_.Go.ChangeSpec) : _root_.Go.OpenSpec := { _root_.Go.OpenSpec.ofChange s with cond := some uptoSmall }

/-- 'corebelllaw.RankPlays', WHERE WHAT IT READS IS OF BULK AT MOST 1048576: true; the input reads as it did. -/
def rankPlaysUptoRow : OpenClaim := { program := "ytcnnimhdnmmaoaa", sum := "6596c5c16f6606e760c22c9e9931d1c139c58f1d770ec27a477a1e44af9f9c9b", func := "corebell/corebelllaw.RankPlays", spec := "rankPlays", unfollowed := true, recurses := true, apart := false, narrowed := true }
def RankPlaysUptoSaid : Prop := rankPlaysUptoRow.holds Try.pinned (OpenSpec.upto rankPlaysSpec)

/-- 'corebelllaw.RankCircle', WHERE WHAT IT READS IS OF BULK AT MOST 1048576: true; the input reads as it did. -/
def rankCircleUptoRow : OpenClaim := { program := "ytcnnimhdnmmaoaa", sum := "6596c5c16f6606e760c22c9e9931d1c139c58f1d770ec27a477a1e44af9f9c9b", func := "corebell/corebelllaw.RankCircle", spec := "rankCircle", unfollowed := true, recurses := true, apart := false, narrowed := true }
def RankCircleUptoSaid : Prop := rankCircleUptoRow.holds Try.pinned (OpenSpec.upto rankCircleSpec)

/-- 'corebellkeep.RankNever', WHERE WHAT IT READS IS OF BULK AT MOST 1048576: true; the input reads as it did. -/
def rankNeverUptoRow : OpenClaim := { program := "ytcnnimhdnmmaoaa", sum := "6596c5c16f6606e760c22c9e9931d1c139c58f1d770ec27a477a1e44af9f9c9b", func := "corebell/corebellkeep.RankNever", spec := "rankNever", unfollowed := true, recurses := true, apart := false, narrowed := true }
def RankNeverUptoSaid : Prop := rankNeverUptoRow.holds Try.pinned (OpenSpec.upto rankNeverSpec)

/-- 'corebellkeep.RankSome', WHERE WHAT IT READS IS OF BULK AT MOST 1048576: true; the input reads as it did. -/
def rankSomeUptoRow : OpenClaim := { program := "ytcnnimhdnmmaoaa", sum := "6596c5c16f6606e760c22c9e9931d1c139c58f1d770ec27a477a1e44af9f9c9b", func := "corebell/corebellkeep.RankSome", spec := "rankSome", unfollowed := true, recurses := true, apart := false, narrowed := true }
def RankSomeUptoSaid : Prop := rankSomeUptoRow.holds Try.pinned (OpenSpec.upto rankSomeSpec)

/-- 'corebellkeep.RankApart', WHERE WHAT IT READS IS OF BULK AT MOST 1048576: true; the input reads as it did. -/
def rankApartUptoRow : OpenClaim := { program := "ytcnnimhdnmmaoaa", sum := "6596c5c16f6606e760c22c9e9931d1c139c58f1d770ec27a477a1e44af9f9c9b", func := "corebell/corebellkeep.RankApart", spec := "rankApart", unfollowed := true, recurses := true, apart := false, narrowed := true }
def RankApartUptoSaid : Prop := rankApartUptoRow.holds Try.pinned (OpenSpec.upto rankApartSpec)

/-- 'corebellkeep.RankTrue', WHERE WHAT IT READS IS OF BULK AT MOST 1048576: true; the input reads as it did. -/
def rankTrueUptoRow : OpenClaim := { program := "ytcnnimhdnmmaoaa", sum := "6596c5c16f6606e760c22c9e9931d1c139c58f1d770ec27a477a1e44af9f9c9b", func := "corebell/corebellkeep.RankTrue", spec := "rankTrue", unfollowed := true, recurses := true, apart := false, narrowed := true }
def RankTrueUptoSaid : Prop := rankTrueUptoRow.holds Try.pinned (OpenSpec.upto rankTrueSpec)

end Rows
end Go.Proofs.Ytcnnimhdnmmaoaa
