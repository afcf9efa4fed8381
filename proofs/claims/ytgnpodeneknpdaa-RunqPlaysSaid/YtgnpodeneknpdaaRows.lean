/-
  No cell of these rows narrows 'for every input' (looked for: loops, veiled, ifaces, maps, wideKeys, modest, calm, conditions, laid).
  DERIVED. THE GIVEN ROWS OF THIS SEAT. 6 by the template 'for every input the law returns true; each argument reads behind the call as it read before'; 0 by the template 'total and deterministic' (their statements: YtgnpodeneknpdaaTotals.lean).
  GIVEN WITH THE SEED: the statements are not yours to turn. If you find one false, say at which input.
  Laid BY PROGRAM, IN A SANDBOX (cutbox-rows.mjs): the forced cells as the released guide's own fill.sh prints them over the translation 2f2434cdc22fe8a4… (all of the seat's roots in one cut). By AI agents, Wed Nov 11 2026. No macro, syntax, notation, axiom, sorry.
-/
import Derived.Test.YtgnpodeneknpdaaChecked
import GoSem.Claim
import GoSem.ClaimJoined
import GoSem.ClaimMapViews
import Derived.JoinedTies
import Derived.KernelRfl
namespace Go.Proofs.Ytgnpodeneknpdaa
/- THE CELL 'sum', in the pinned program and in every row, IS THE sha256 OF THE DUMP (.gsa) THAT YtgnpodeneknpdaaProg.lean LOADS. Nothing in Lean hashes anything: it is a label: what it is worth is what the hold of that sum in a sandbox is worth. -/
noncomputable def Try.pinned : Pinned := { name := "ytgnpodeneknpdaa", sum := "2f2434cdc22fe8a4256c0b64c886e62fb8cd2194f03076583152bd8b88d7eaf2", checked := Try.checked }
namespace Rows
def none {H : Type} : Left H := { results := [], args := [] }

/-- 'corebelllaw.RunqPlays': WHATEVER THE INPUT: true; the input reads as it did. -/
def runqPlaysSpec : ChangeSpec := { name := "runqPlays", fn := fun _ => fun
  | [d] => { results := [.lit (.bool true)], args := [d] }
  | _ => none }
def runqPlaysRow : OpenClaim := { program := "ytgnpodeneknpdaa", sum := "2f2434cdc22fe8a4256c0b64c886e62fb8cd2194f03076583152bd8b88d7eaf2", func := "corebell/corebelllaw.RunqPlays", spec := "runqPlays", inPlace := ["slices.overlaps[corebell/corebellref.one]"], unfollowed := true, recurses := true, apart := false }
def RunqPlaysSaid : Prop := runqPlaysRow.holds Try.pinned (OpenSpec.ofChange runqPlaysSpec)

/-- ITS FALSE NEIGHBOUR: 'it returns false'. Refute it at one input. -/
def runqPlaysWrong : ChangeSpec := { name := "runqPlays", fn := fun _ => fun
  | [d] => { results := [.lit (.bool false)], args := [d] }
  | _ => none }
def RunqPlaysWrongFalsely : Prop := runqPlaysRow.holds Try.pinned (OpenSpec.ofChange runqPlaysWrong)

/-- 'corebellkeep.RunqSorted': WHATEVER THE INPUT: true; the input reads as it did. -/
def runqSortedSpec : ChangeSpec := { name := "runqSorted", fn := fun _ => fun
  | [d] => { results := [.lit (.bool true)], args := [d] }
  | _ => none }
def runqSortedRow : OpenClaim := { program := "ytgnpodeneknpdaa", sum := "2f2434cdc22fe8a4256c0b64c886e62fb8cd2194f03076583152bd8b88d7eaf2", func := "corebell/corebellkeep.RunqSorted", spec := "runqSorted", unfollowed := true, recurses := true, apart := false }
def RunqSortedSaid : Prop := runqSortedRow.holds Try.pinned (OpenSpec.ofChange runqSortedSpec)

/-- ITS FALSE NEIGHBOUR: 'it returns false'. Refute it at one input. -/
def runqSortedWrong : ChangeSpec := { name := "runqSorted", fn := fun _ => fun
  | [d] => { results := [.lit (.bool false)], args := [d] }
  | _ => none }
def RunqSortedWrongFalsely : Prop := runqSortedRow.holds Try.pinned (OpenSpec.ofChange runqSortedWrong)

/-- 'corebellkeep.RunqFirst': WHATEVER THE INPUT: true; the input reads as it did. -/
def runqFirstSpec : ChangeSpec := { name := "runqFirst", fn := fun _ => fun
  | [d1, d2] => { results := [.lit (.bool true)], args := [d1, d2] }
  | _ => none }
def runqFirstRow : OpenClaim := { program := "ytgnpodeneknpdaa", sum := "2f2434cdc22fe8a4256c0b64c886e62fb8cd2194f03076583152bd8b88d7eaf2", func := "corebell/corebellkeep.RunqFirst", spec := "runqFirst", inPlace := ["slices.overlaps[int]"], unfollowed := true, recurses := true, apart := false }
def RunqFirstSaid : Prop := runqFirstRow.holds Try.pinned (OpenSpec.ofChange runqFirstSpec)

/-- ITS FALSE NEIGHBOUR: 'it returns false'. Refute it at one input. -/
def runqFirstWrong : ChangeSpec := { name := "runqFirst", fn := fun _ => fun
  | [d1, d2] => { results := [.lit (.bool false)], args := [d1, d2] }
  | _ => none }
def RunqFirstWrongFalsely : Prop := runqFirstRow.holds Try.pinned (OpenSpec.ofChange runqFirstWrong)

/-- 'corebellkeep.RunqTurns': WHATEVER THE INPUT: true; the input reads as it did. -/
def runqTurnsSpec : ChangeSpec := { name := "runqTurns", fn := fun _ => fun
  | [d1, d2, d3] => { results := [.lit (.bool true)], args := [d1, d2, d3] }
  | _ => none }
def runqTurnsRow : OpenClaim := { program := "ytgnpodeneknpdaa", sum := "2f2434cdc22fe8a4256c0b64c886e62fb8cd2194f03076583152bd8b88d7eaf2", func := "corebell/corebellkeep.RunqTurns", spec := "runqTurns", unfollowed := true, recurses := true, apart := false }
def RunqTurnsSaid : Prop := runqTurnsRow.holds Try.pinned (OpenSpec.ofChange runqTurnsSpec)

/-- ITS FALSE NEIGHBOUR: 'it returns false'. Refute it at one input. -/
def runqTurnsWrong : ChangeSpec := { name := "runqTurns", fn := fun _ => fun
  | [d1, d2, d3] => { results := [.lit (.bool false)], args := [d1, d2, d3] }
  | _ => none }
def RunqTurnsWrongFalsely : Prop := runqTurnsRow.holds Try.pinned (OpenSpec.ofChange runqTurnsWrong)

/-- 'corebellkeep.RunqDrop': WHATEVER THE INPUT: true; the input reads as it did. -/
def runqDropSpec : ChangeSpec := { name := "runqDrop", fn := fun _ => fun
  | [d1, d2] => { results := [.lit (.bool true)], args := [d1, d2] }
  | _ => none }
def runqDropRow : OpenClaim := { program := "ytgnpodeneknpdaa", sum := "2f2434cdc22fe8a4256c0b64c886e62fb8cd2194f03076583152bd8b88d7eaf2", func := "corebell/corebellkeep.RunqDrop", spec := "runqDrop", unfollowed := true, recurses := true, apart := false }
def RunqDropSaid : Prop := runqDropRow.holds Try.pinned (OpenSpec.ofChange runqDropSpec)

/-- ITS FALSE NEIGHBOUR: 'it returns false'. Refute it at one input. -/
def runqDropWrong : ChangeSpec := { name := "runqDrop", fn := fun _ => fun
  | [d1, d2] => { results := [.lit (.bool false)], args := [d1, d2] }
  | _ => none }
def RunqDropWrongFalsely : Prop := runqDropRow.holds Try.pinned (OpenSpec.ofChange runqDropWrong)

/-- 'corebellkeep.RunqCount': WHATEVER THE INPUT: true; the input reads as it did. -/
def runqCountSpec : ChangeSpec := { name := "runqCount", fn := fun _ => fun
  | [d] => { results := [.lit (.bool true)], args := [d] }
  | _ => none }
def runqCountRow : OpenClaim := { program := "ytgnpodeneknpdaa", sum := "2f2434cdc22fe8a4256c0b64c886e62fb8cd2194f03076583152bd8b88d7eaf2", func := "corebell/corebellkeep.RunqCount", spec := "runqCount", unfollowed := true, recurses := true, apart := false }
def RunqCountSaid : Prop := runqCountRow.holds Try.pinned (OpenSpec.ofChange runqCountSpec)

/-- ITS FALSE NEIGHBOUR: 'it returns false'. Refute it at one input. -/
def runqCountWrong : ChangeSpec := { name := "runqCount", fn := fun _ => fun
  | [d] => { results := [.lit (.bool false)], args := [d] }
  | _ => none }
def RunqCountWrongFalsely : Prop := runqCountRow.holds Try.pinned (OpenSpec.ofChange runqCountWrong)

/- THE SECOND FORM. 'bulk': how many values and letters a reading holds, each counted each time it is reached (what is shared counts as often as it is met; a slice's spare places count too). A statement '..UptoSaid' is the law's where the arguments, and the package variables that the reading takes, are together of bulk at most 1048576: NARROWER than '..Said'. Prove '..Said' where nothing that the law and all that it calls make is longer than what came in: it says more and counts as full. Else prove '..UptoSaid'. A law counts once. -/
mutual
def uptoBulk {H : Type} : DataW H → Nat
  | .lit (.string bytes) => bytes.length + 1
  | .lit _ => 1
  | .nil => 1
  | .ptr d => uptoBulk d + 1
  | .slice elems spare => uptoBulkAll elems + uptoBulkAll spare + 1
  | .agg parts => uptoBulkAll parts + 1
  | .iface _ d => uptoBulk d + 1
  | .map entries => uptoBulkEntries entries + 1
  | .held _ => 1
def uptoBulkAll {H : Type} : List (DataW H) → Nat
  | [] => 0
  | d :: r => uptoBulk d + uptoBulkAll r
def uptoBulkEntries {H : Type} : List (Lit × DataW H) → Nat
  | [] => 0
  | x :: r => uptoBulkEntry x + uptoBulkEntries r
def uptoBulkEntry {H : Type} : Lit × DataW H → Nat
  | (.string bytes, d) => bytes.length + uptoBulk d + 1
  | (_, d) => uptoBulk d + 1
 end
def uptoSmall : (H : Type) → List (DataW H) → Bool := fun _ ds => decide (uptoBulkAll ds ≤ 1048576)
def OpenSpec.upto (s : _root_.Go.ChangeSpec) : _root_.Go.OpenSpec := { _root_.Go.OpenSpec.ofChange s with cond := some uptoSmall }

/-- 'corebelllaw.RunqPlays', WHERE WHAT IT READS IS OF BULK AT MOST 1048576: true; the input reads as it did. -/
def runqPlaysUptoRow : OpenClaim := { program := "ytgnpodeneknpdaa", sum := "2f2434cdc22fe8a4256c0b64c886e62fb8cd2194f03076583152bd8b88d7eaf2", func := "corebell/corebelllaw.RunqPlays", spec := "runqPlays", inPlace := ["slices.overlaps[corebell/corebellref.one]"], unfollowed := true, recurses := true, apart := false, narrowed := true }
def RunqPlaysUptoSaid : Prop := runqPlaysUptoRow.holds Try.pinned (OpenSpec.upto runqPlaysSpec)

/-- 'corebellkeep.RunqSorted', WHERE WHAT IT READS IS OF BULK AT MOST 1048576: true; the input reads as it did. -/
def runqSortedUptoRow : OpenClaim := { program := "ytgnpodeneknpdaa", sum := "2f2434cdc22fe8a4256c0b64c886e62fb8cd2194f03076583152bd8b88d7eaf2", func := "corebell/corebellkeep.RunqSorted", spec := "runqSorted", unfollowed := true, recurses := true, apart := false, narrowed := true }
def RunqSortedUptoSaid : Prop := runqSortedUptoRow.holds Try.pinned (OpenSpec.upto runqSortedSpec)

/-- 'corebellkeep.RunqFirst', WHERE WHAT IT READS IS OF BULK AT MOST 1048576: true; the input reads as it did. -/
def runqFirstUptoRow : OpenClaim := { program := "ytgnpodeneknpdaa", sum := "2f2434cdc22fe8a4256c0b64c886e62fb8cd2194f03076583152bd8b88d7eaf2", func := "corebell/corebellkeep.RunqFirst", spec := "runqFirst", inPlace := ["slices.overlaps[int]"], unfollowed := true, recurses := true, apart := false, narrowed := true }
def RunqFirstUptoSaid : Prop := runqFirstUptoRow.holds Try.pinned (OpenSpec.upto runqFirstSpec)

/-- 'corebellkeep.RunqTurns', WHERE WHAT IT READS IS OF BULK AT MOST 1048576: true; the input reads as it did. -/
def runqTurnsUptoRow : OpenClaim := { program := "ytgnpodeneknpdaa", sum := "2f2434cdc22fe8a4256c0b64c886e62fb8cd2194f03076583152bd8b88d7eaf2", func := "corebell/corebellkeep.RunqTurns", spec := "runqTurns", unfollowed := true, recurses := true, apart := false, narrowed := true }
def RunqTurnsUptoSaid : Prop := runqTurnsUptoRow.holds Try.pinned (OpenSpec.upto runqTurnsSpec)

/-- 'corebellkeep.RunqDrop', WHERE WHAT IT READS IS OF BULK AT MOST 1048576: true; the input reads as it did. -/
def runqDropUptoRow : OpenClaim := { program := "ytgnpodeneknpdaa", sum := "2f2434cdc22fe8a4256c0b64c886e62fb8cd2194f03076583152bd8b88d7eaf2", func := "corebell/corebellkeep.RunqDrop", spec := "runqDrop", unfollowed := true, recurses := true, apart := false, narrowed := true }
def RunqDropUptoSaid : Prop := runqDropUptoRow.holds Try.pinned (OpenSpec.upto runqDropSpec)

/-- 'corebellkeep.RunqCount', WHERE WHAT IT READS IS OF BULK AT MOST 1048576: true; the input reads as it did. -/
def runqCountUptoRow : OpenClaim := { program := "ytgnpodeneknpdaa", sum := "2f2434cdc22fe8a4256c0b64c886e62fb8cd2194f03076583152bd8b88d7eaf2", func := "corebell/corebellkeep.RunqCount", spec := "runqCount", unfollowed := true, recurses := true, apart := false, narrowed := true }
def RunqCountUptoSaid : Prop := runqCountUptoRow.holds Try.pinned (OpenSpec.upto runqCountSpec)

end Rows
end Go.Proofs.Ytgnpodeneknpdaa
