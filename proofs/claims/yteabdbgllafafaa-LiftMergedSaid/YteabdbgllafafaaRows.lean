/-
  No cell of these rows narrows 'for every input' (looked for: loops, veiled, ifaces, maps, wideKeys, modest, calm, conditions, laid).
  DERIVED. THE GIVEN ROWS OF THIS SEAT. 6 by the template 'for every input the law returns true; each argument reads behind the call as it read before'; 0 by the template 'total and deterministic' (their statements: YteabdbgllafafaaTotals.lean).
  GIVEN WITH THE SEED: the statements are not yours to turn. If you find one false, say at which input.
  Laid BY PROGRAM, IN A SANDBOX (cutbox-rows.mjs): the forced cells as the released guide's own fill.sh prints them over the translation a74e411abdc2c900… (all of the seat's roots in one cut). By AI agents, Wed Nov 11 2026. No macro, syntax, notation, axiom, sorry.
-/
import Derived.Test.YteabdbgllafafaaChecked
import GoSem.Claim
import GoSem.ClaimJoined
import GoSem.ClaimMapViews
import Derived.JoinedTies
import Derived.KernelRfl
namespace Go.Proofs.Yteabdbgllafafaa
/- THE CELL 'sum', in the pinned program and in every row, IS THE sha256 OF THE DUMP (.gsa) THAT YteabdbgllafafaaProg.lean LOADS. Nothing in Lean hashes anything: it is a label: what it is worth is what the hold of that sum in a sandbox is worth. -/
noncomputable def Try.pinned : Pinned := { name := "yteabdbgllafafaa", sum := "a74e411abdc2c90008b1cd0561202ef0e1dade4dfe47394a8db2f62d55a43cc3", checked := Try.checked }
namespace Rows
def none {H : Type} : Left H := { results := [], args := [] }

/-- 'corebelllaw.LiftGoes': WHATEVER THE INPUT: true; the input reads as it did. -/
def liftGoesSpec : ChangeSpec := { name := "liftGoes", fn := fun _ => fun
  | [d1, d2] => { results := [.lit (.bool true)], args := [d1, d2] }
  | _ => none }
def liftGoesRow : OpenClaim := { program := "yteabdbgllafafaa", sum := "a74e411abdc2c90008b1cd0561202ef0e1dade4dfe47394a8db2f62d55a43cc3", func := "corebell/corebelllaw.LiftGoes", spec := "liftGoes", recurses := true, apart := false }
def LiftGoesSaid : Prop := liftGoesRow.holds Try.pinned (OpenSpec.ofChange liftGoesSpec)

/-- ITS FALSE NEIGHBOUR: 'it returns false'. Refute it at one input. -/
def liftGoesWrong : ChangeSpec := { name := "liftGoes", fn := fun _ => fun
  | [d1, d2] => { results := [.lit (.bool false)], args := [d1, d2] }
  | _ => none }
def LiftGoesWrongFalsely : Prop := liftGoesRow.holds Try.pinned (OpenSpec.ofChange liftGoesWrong)

/-- 'corebelllaw.LiftMerges': WHATEVER THE INPUT: true; the input reads as it did. -/
def liftMergesSpec : ChangeSpec := { name := "liftMerges", fn := fun _ => fun
  | [d] => { results := [.lit (.bool true)], args := [d] }
  | _ => none }
def liftMergesRow : OpenClaim := { program := "yteabdbgllafafaa", sum := "a74e411abdc2c90008b1cd0561202ef0e1dade4dfe47394a8db2f62d55a43cc3", func := "corebell/corebelllaw.LiftMerges", spec := "liftMerges", unfollowed := true, recurses := true, apart := false }
def LiftMergesSaid : Prop := liftMergesRow.holds Try.pinned (OpenSpec.ofChange liftMergesSpec)

/-- ITS FALSE NEIGHBOUR: 'it returns false'. Refute it at one input. -/
def liftMergesWrong : ChangeSpec := { name := "liftMerges", fn := fun _ => fun
  | [d] => { results := [.lit (.bool false)], args := [d] }
  | _ => none }
def LiftMergesWrongFalsely : Prop := liftMergesRow.holds Try.pinned (OpenSpec.ofChange liftMergesWrong)

/-- 'corebellkeep.LiftBest': WHATEVER THE INPUT: true; the input reads as it did. -/
def liftBestSpec : ChangeSpec := { name := "liftBest", fn := fun _ => fun
  | [d1, d2, d3] => { results := [.lit (.bool true)], args := [d1, d2, d3] }
  | _ => none }
def liftBestRow : OpenClaim := { program := "yteabdbgllafafaa", sum := "a74e411abdc2c90008b1cd0561202ef0e1dade4dfe47394a8db2f62d55a43cc3", func := "corebell/corebellkeep.LiftBest", spec := "liftBest", unfollowed := true, recurses := true, apart := false }
def LiftBestSaid : Prop := liftBestRow.holds Try.pinned (OpenSpec.ofChange liftBestSpec)

/-- ITS FALSE NEIGHBOUR: 'it returns false'. Refute it at one input. -/
def liftBestWrong : ChangeSpec := { name := "liftBest", fn := fun _ => fun
  | [d1, d2, d3] => { results := [.lit (.bool false)], args := [d1, d2, d3] }
  | _ => none }
def LiftBestWrongFalsely : Prop := liftBestRow.holds Try.pinned (OpenSpec.ofChange liftBestWrong)

/-- 'corebellkeep.LiftAll': WHATEVER THE INPUT: true; the input reads as it did. -/
def liftAllSpec : ChangeSpec := { name := "liftAll", fn := fun _ => fun
  | [d1, d2] => { results := [.lit (.bool true)], args := [d1, d2] }
  | _ => none }
def liftAllRow : OpenClaim := { program := "yteabdbgllafafaa", sum := "a74e411abdc2c90008b1cd0561202ef0e1dade4dfe47394a8db2f62d55a43cc3", func := "corebell/corebellkeep.LiftAll", spec := "liftAll", unfollowed := true, recurses := true, apart := false }
def LiftAllSaid : Prop := liftAllRow.holds Try.pinned (OpenSpec.ofChange liftAllSpec)

/-- ITS FALSE NEIGHBOUR: 'it returns false'. Refute it at one input. -/
def liftAllWrong : ChangeSpec := { name := "liftAll", fn := fun _ => fun
  | [d1, d2] => { results := [.lit (.bool false)], args := [d1, d2] }
  | _ => none }
def LiftAllWrongFalsely : Prop := liftAllRow.holds Try.pinned (OpenSpec.ofChange liftAllWrong)

/-- 'corebellkeep.LiftEnds': WHATEVER THE INPUT: true; the input reads as it did. -/
def liftEndsSpec : ChangeSpec := { name := "liftEnds", fn := fun _ => fun
  | [d1, d2] => { results := [.lit (.bool true)], args := [d1, d2] }
  | _ => none }
def liftEndsRow : OpenClaim := { program := "yteabdbgllafafaa", sum := "a74e411abdc2c90008b1cd0561202ef0e1dade4dfe47394a8db2f62d55a43cc3", func := "corebell/corebellkeep.LiftEnds", spec := "liftEnds", unfollowed := true, recurses := true, apart := false }
def LiftEndsSaid : Prop := liftEndsRow.holds Try.pinned (OpenSpec.ofChange liftEndsSpec)

/-- ITS FALSE NEIGHBOUR: 'it returns false'. Refute it at one input. -/
def liftEndsWrong : ChangeSpec := { name := "liftEnds", fn := fun _ => fun
  | [d1, d2] => { results := [.lit (.bool false)], args := [d1, d2] }
  | _ => none }
def LiftEndsWrongFalsely : Prop := liftEndsRow.holds Try.pinned (OpenSpec.ofChange liftEndsWrong)

/-- 'corebellkeep.LiftMerged': WHATEVER THE INPUT: true; the input reads as it did. -/
def liftMergedSpec : ChangeSpec := { name := "liftMerged", fn := fun _ => fun
  | [d1, d2] => { results := [.lit (.bool true)], args := [d1, d2] }
  | _ => none }
def liftMergedRow : OpenClaim := { program := "yteabdbgllafafaa", sum := "a74e411abdc2c90008b1cd0561202ef0e1dade4dfe47394a8db2f62d55a43cc3", func := "corebell/corebellkeep.LiftMerged", spec := "liftMerged", unfollowed := true, recurses := true, apart := false }
def LiftMergedSaid : Prop := liftMergedRow.holds Try.pinned (OpenSpec.ofChange liftMergedSpec)

/-- ITS FALSE NEIGHBOUR: 'it returns false'. Refute it at one input. -/
def liftMergedWrong : ChangeSpec := { name := "liftMerged", fn := fun _ => fun
  | [d1, d2] => { results := [.lit (.bool false)], args := [d1, d2] }
  | _ => none }
def LiftMergedWrongFalsely : Prop := liftMergedRow.holds Try.pinned (OpenSpec.ofChange liftMergedWrong)

/- THE SECOND FORM. 'bulk': how many values and letters a reading holds, each counted each time it is reached (what is shared counts as often as it is met; a slice's spare places count too). A statement '..UptoSaid' is the law's where the arguments, and the package variables that the reading takes, are together of bulk at most 1048576: NARROWER than '..Said'. Prove '..Said' where nothing that the law and all that it calls make is longer than what came in: it says more and counts as full. Else prove '..UptoSaid'. A law counts once. -/
mutual
def uptoBulk {H : Type} : DataW H → Nat
  | .lit (.string bytes) => bytes.length + 1
  | .lit _ => 1
  | .nil => 1
  | .ptr d => uptoBulk d + 1
  | .slice elems spare => uptoBulkAll elems + uptoBulkAll spare + 1
  | .agg parts => uptoBulkAll parts + 1
  | .iface _ d => uptoBulk d + 1
  | .map entries => uptoBulkEntries entries + 1
  | .held _ => 1
def uptoBulkAll {H : Type} : List (DataW H) → Nat
  | [] => 0
  | d :: r => uptoBulk d + uptoBulkAll r
def uptoBulkEntries {H : Type} : List (Lit × DataW H) → Nat
  | [] => 0
  | x :: r => uptoBulkEntry x + uptoBulkEntries r
def uptoBulkEntry {H : Type} : Lit × DataW H → Nat
  | (.string bytes, d) => bytes.length + uptoBulk d + 1
  | (_, d) => uptoBulk d + 1
 end
def uptoSmall : (H : Type) → List (DataW H) → Bool := fun _ ds => decide (uptoBulkAll ds ≤ 1048576)
def OpenSpec.upto (s : _root_.Go.ChangeSpec) : _root_.Go.OpenSpec := { _root_.Go.OpenSpec.ofChange s with cond := some uptoSmall }

/-- 'corebelllaw.LiftGoes', WHERE WHAT IT READS IS OF BULK AT MOST 1048576: true; the input reads as it did. -/
def liftGoesUptoRow : OpenClaim := { program := "yteabdbgllafafaa", sum := "a74e411abdc2c90008b1cd0561202ef0e1dade4dfe47394a8db2f62d55a43cc3", func := "corebell/corebelllaw.LiftGoes", spec := "liftGoes", recurses := true, apart := false, narrowed := true }
def LiftGoesUptoSaid : Prop := liftGoesUptoRow.holds Try.pinned (OpenSpec.upto liftGoesSpec)

/-- 'corebelllaw.LiftMerges', WHERE WHAT IT READS IS OF BULK AT MOST 1048576: true; the input reads as it did. -/
def liftMergesUptoRow : OpenClaim := { program := "yteabdbgllafafaa", sum := "a74e411abdc2c90008b1cd0561202ef0e1dade4dfe47394a8db2f62d55a43cc3", func := "corebell/corebelllaw.LiftMerges", spec := "liftMerges", unfollowed := true, recurses := true, apart := false, narrowed := true }
def LiftMergesUptoSaid : Prop := liftMergesUptoRow.holds Try.pinned (OpenSpec.upto liftMergesSpec)

/-- 'corebellkeep.LiftBest', WHERE WHAT IT READS IS OF BULK AT MOST 1048576: true; the input reads as it did. -/
def liftBestUptoRow : OpenClaim := { program := "yteabdbgllafafaa", sum := "a74e411abdc2c90008b1cd0561202ef0e1dade4dfe47394a8db2f62d55a43cc3", func := "corebell/corebellkeep.LiftBest", spec := "liftBest", unfollowed := true, recurses := true, apart := false, narrowed := true }
def LiftBestUptoSaid : Prop := liftBestUptoRow.holds Try.pinned (OpenSpec.upto liftBestSpec)

/-- 'corebellkeep.LiftAll', WHERE WHAT IT READS IS OF BULK AT MOST 1048576: true; the input reads as it did. -/
def liftAllUptoRow : OpenClaim := { program := "yteabdbgllafafaa", sum := "a74e411abdc2c90008b1cd0561202ef0e1dade4dfe47394a8db2f62d55a43cc3", func := "corebell/corebellkeep.LiftAll", spec := "liftAll", unfollowed := true, recurses := true, apart := false, narrowed := true }
def LiftAllUptoSaid : Prop := liftAllUptoRow.holds Try.pinned (OpenSpec.upto liftAllSpec)

/-- 'corebellkeep.LiftEnds', WHERE WHAT IT READS IS OF BULK AT MOST 1048576: true; the input reads as it did. -/
def liftEndsUptoRow : OpenClaim := { program := "yteabdbgllafafaa", sum := "a74e411abdc2c90008b1cd0561202ef0e1dade4dfe47394a8db2f62d55a43cc3", func := "corebell/corebellkeep.LiftEnds", spec := "liftEnds", unfollowed := true, recurses := true, apart := false, narrowed := true }
def LiftEndsUptoSaid : Prop := liftEndsUptoRow.holds Try.pinned (OpenSpec.upto liftEndsSpec)

/-- 'corebellkeep.LiftMerged', WHERE WHAT IT READS IS OF BULK AT MOST 1048576: true; the input reads as it did. -/
def liftMergedUptoRow : OpenClaim := { program := "yteabdbgllafafaa", sum := "a74e411abdc2c90008b1cd0561202ef0e1dade4dfe47394a8db2f62d55a43cc3", func := "corebell/corebellkeep.LiftMerged", spec := "liftMerged", unfollowed := true, recurses := true, apart := false, narrowed := true }
def LiftMergedUptoSaid : Prop := liftMergedUptoRow.holds Try.pinned (OpenSpec.upto liftMergedSpec)

end Rows
end Go.Proofs.Yteabdbgllafafaa
