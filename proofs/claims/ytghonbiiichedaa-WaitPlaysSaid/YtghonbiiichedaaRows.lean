/-
  No cell of these rows narrows 'for every input' (looked for: loops, veiled, ifaces, maps, wideKeys, modest, calm, conditions, laid).
  DERIVED. THE GIVEN ROWS OF THIS SEAT. 5 by the template 'for every input the law returns true; each argument reads behind the call as it read before'; 0 by the template 'total and deterministic' (their statements: YtghonbiiichedaaTotals.lean).
  GIVEN WITH THE SEED: the statements are not yours to turn. If you find one false, say at which input.
  Laid BY PROGRAM, IN A SANDBOX (cutbox-rows.mjs): the forced cells as the released guide's own fill.sh prints them over the translation dae4edf2f6cc219a… (all of the seat's roots in one cut). By AI agents, Wed Nov 11 2026. No macro, syntax, notation, axiom, sorry.
-/
import Derived.Test.YtghonbiiichedaaChecked
import GoSem.Claim
import GoSem.ClaimJoined
import GoSem.ClaimMapViews
import Derived.JoinedTies
import Derived.KernelRfl
namespace Go.Proofs.Ytghonbiiichedaa
/- THE CELL 'sum', in the pinned program and in every row, IS THE sha256 OF THE DUMP (.gsa) THAT YtghonbiiichedaaProg.lean LOADS. Nothing in Lean hashes anything: it is a label: what it is worth is what the hold of that sum in a sandbox is worth. -/
noncomputable def Try.pinned : Pinned := { name := "ytghonbiiichedaa", sum := "dae4edf2f6cc219a3c1fbf6ea3c7b30dc201231ad16338f73a33a20175f33a30", checked := Try.checked }
namespace Rows
def none {H : Type} : Left H := { results := [], args := [] }

/-- 'corebelllaw.WaitPlays': WHATEVER THE INPUT: true; the input reads as it did. -/
def waitPlaysSpec : ChangeSpec := { name := "waitPlays", fn := fun _ => fun
  | [d] => { results := [.lit (.bool true)], args := [d] }
  | _ => none }
def waitPlaysRow : OpenClaim := { program := "ytghonbiiichedaa", sum := "dae4edf2f6cc219a3c1fbf6ea3c7b30dc201231ad16338f73a33a20175f33a30", func := "corebell/corebelllaw.WaitPlays", spec := "waitPlays", unfollowed := true, recurses := true, apart := false }
def WaitPlaysSaid : Prop := waitPlaysRow.holds Try.pinned (OpenSpec.ofChange waitPlaysSpec)

/-- ITS FALSE NEIGHBOUR: 'it returns false'. Refute it at one input. -/
def waitPlaysWrong : ChangeSpec := { name := "waitPlays", fn := fun _ => fun
  | [d] => { results := [.lit (.bool false)], args := [d] }
  | _ => none }
def WaitPlaysWrongFalsely : Prop := waitPlaysRow.holds Try.pinned (OpenSpec.ofChange waitPlaysWrong)

/-- 'corebellkeep.WaitNever': WHATEVER THE INPUT: true; the input reads as it did. -/
def waitNeverSpec : ChangeSpec := { name := "waitNever", fn := fun _ => fun
  | [d] => { results := [.lit (.bool true)], args := [d] }
  | _ => none }
def waitNeverRow : OpenClaim := { program := "ytghonbiiichedaa", sum := "dae4edf2f6cc219a3c1fbf6ea3c7b30dc201231ad16338f73a33a20175f33a30", func := "corebell/corebellkeep.WaitNever", spec := "waitNever", apart := false }
def WaitNeverSaid : Prop := waitNeverRow.holds Try.pinned (OpenSpec.ofChange waitNeverSpec)

/-- ITS FALSE NEIGHBOUR: 'it returns false'. Refute it at one input. -/
def waitNeverWrong : ChangeSpec := { name := "waitNever", fn := fun _ => fun
  | [d] => { results := [.lit (.bool false)], args := [d] }
  | _ => none }
def WaitNeverWrongFalsely : Prop := waitNeverRow.holds Try.pinned (OpenSpec.ofChange waitNeverWrong)

/-- 'corebellkeep.WaitSum': WHATEVER THE INPUT: true; the input reads as it did. -/
def waitSumSpec : ChangeSpec := { name := "waitSum", fn := fun _ => fun
  | [d] => { results := [.lit (.bool true)], args := [d] }
  | _ => none }
def waitSumRow : OpenClaim := { program := "ytghonbiiichedaa", sum := "dae4edf2f6cc219a3c1fbf6ea3c7b30dc201231ad16338f73a33a20175f33a30", func := "corebell/corebellkeep.WaitSum", spec := "waitSum", apart := false }
def WaitSumSaid : Prop := waitSumRow.holds Try.pinned (OpenSpec.ofChange waitSumSpec)

/-- ITS FALSE NEIGHBOUR: 'it returns false'. Refute it at one input. -/
def waitSumWrong : ChangeSpec := { name := "waitSum", fn := fun _ => fun
  | [d] => { results := [.lit (.bool false)], args := [d] }
  | _ => none }
def WaitSumWrongFalsely : Prop := waitSumRow.holds Try.pinned (OpenSpec.ofChange waitSumWrong)

/-- 'corebellkeep.WaitFirst': WHATEVER THE INPUT: true; the input reads as it did. -/
def waitFirstSpec : ChangeSpec := { name := "waitFirst", fn := fun _ => fun
  | [d1, d2] => { results := [.lit (.bool true)], args := [d1, d2] }
  | _ => none }
def waitFirstRow : OpenClaim := { program := "ytghonbiiichedaa", sum := "dae4edf2f6cc219a3c1fbf6ea3c7b30dc201231ad16338f73a33a20175f33a30", func := "corebell/corebellkeep.WaitFirst", spec := "waitFirst", apart := false }
def WaitFirstSaid : Prop := waitFirstRow.holds Try.pinned (OpenSpec.ofChange waitFirstSpec)

/-- ITS FALSE NEIGHBOUR: 'it returns false'. Refute it at one input. -/
def waitFirstWrong : ChangeSpec := { name := "waitFirst", fn := fun _ => fun
  | [d1, d2] => { results := [.lit (.bool false)], args := [d1, d2] }
  | _ => none }
def WaitFirstWrongFalsely : Prop := waitFirstRow.holds Try.pinned (OpenSpec.ofChange waitFirstWrong)

/-- 'corebellkeep.WaitAllUp': WHATEVER THE INPUT: true; the input reads as it did. -/
def waitAllUpSpec : ChangeSpec := { name := "waitAllUp", fn := fun _ => fun
  | [d1, d2] => { results := [.lit (.bool true)], args := [d1, d2] }
  | _ => none }
def waitAllUpRow : OpenClaim := { program := "ytghonbiiichedaa", sum := "dae4edf2f6cc219a3c1fbf6ea3c7b30dc201231ad16338f73a33a20175f33a30", func := "corebell/corebellkeep.WaitAllUp", spec := "waitAllUp", apart := false }
def WaitAllUpSaid : Prop := waitAllUpRow.holds Try.pinned (OpenSpec.ofChange waitAllUpSpec)

/-- ITS FALSE NEIGHBOUR: 'it returns false'. Refute it at one input. -/
def waitAllUpWrong : ChangeSpec := { name := "waitAllUp", fn := fun _ => fun
  | [d1, d2] => { results := [.lit (.bool false)], args := [d1, d2] }
  | _ => none }
def WaitAllUpWrongFalsely : Prop := waitAllUpRow.holds Try.pinned (OpenSpec.ofChange waitAllUpWrong)

/- THE SECOND FORM. 'bulk': how many values and letters a reading holds, each counted each time it is reached (what is shared counts as often as it is met; a slice's spare places count too). A statement '..UptoSaid' is the law's where the arguments, and the package variables that the reading takes, are together of bulk at most 1048576: NARROWER than '..Said'. Prove '..Said' where nothing that the law and all that it calls make is longer than what came in: it says more and counts as full. Else prove '..UptoSaid'. A law counts once. -/
mutual
def uptoBulk {H : Type} : DataW H → Nat
  | .lit (.string bytes) => bytes.length + 1
  | .lit _ => 1
  | .nil => 1
  | .ptr d => uptoBulk d + 1
  | .slice elems spare => uptoBulkAll elems + uptoBulkAll spare + 1
  | .agg parts => uptoBulkAll parts + 1
  | .iface _ d => uptoBulk d + 1
  | .map entries => uptoBulkEntries entries + 1
  | .held _ => 1
def uptoBulkAll {H : Type} : List (DataW H) → Nat
  | [] => 0
  | d :: r => uptoBulk d + uptoBulkAll r
def uptoBulkEntries {H : Type} : List (Lit × DataW H) → Nat
  | [] => 0
  | x :: r => uptoBulkEntry x + uptoBulkEntries r
def uptoBulkEntry {H : Type} : Lit × DataW H → Nat
  | (.string bytes, d) => bytes.length + uptoBulk d + 1
  | (_, d) => uptoBulk d + 1
 end
def uptoSmall : (H : Type) → List (DataW H) → Bool := fun _ ds => decide (uptoBulkAll ds ≤ 1048576)
def OpenSpec.upto (s : _root_.Go.ChangeSpec) : _root_.Go.OpenSpec := { _root_.Go.OpenSpec.ofChange s with cond := some uptoSmall }

/-- 'corebelllaw.WaitPlays', WHERE WHAT IT READS IS OF BULK AT MOST 1048576: true; the input reads as it did. -/
def waitPlaysUptoRow : OpenClaim := { program := "ytghonbiiichedaa", sum := "dae4edf2f6cc219a3c1fbf6ea3c7b30dc201231ad16338f73a33a20175f33a30", func := "corebell/corebelllaw.WaitPlays", spec := "waitPlays", unfollowed := true, recurses := true, apart := false, narrowed := true }
def WaitPlaysUptoSaid : Prop := waitPlaysUptoRow.holds Try.pinned (OpenSpec.upto waitPlaysSpec)

/-- 'corebellkeep.WaitNever', WHERE WHAT IT READS IS OF BULK AT MOST 1048576: true; the input reads as it did. -/
def waitNeverUptoRow : OpenClaim := { program := "ytghonbiiichedaa", sum := "dae4edf2f6cc219a3c1fbf6ea3c7b30dc201231ad16338f73a33a20175f33a30", func := "corebell/corebellkeep.WaitNever", spec := "waitNever", apart := false, narrowed := true }
def WaitNeverUptoSaid : Prop := waitNeverUptoRow.holds Try.pinned (OpenSpec.upto waitNeverSpec)

/-- 'corebellkeep.WaitSum', WHERE WHAT IT READS IS OF BULK AT MOST 1048576: true; the input reads as it did. -/
def waitSumUptoRow : OpenClaim := { program := "ytghonbiiichedaa", sum := "dae4edf2f6cc219a3c1fbf6ea3c7b30dc201231ad16338f73a33a20175f33a30", func := "corebell/corebellkeep.WaitSum", spec := "waitSum", apart := false, narrowed := true }
def WaitSumUptoSaid : Prop := waitSumUptoRow.holds Try.pinned (OpenSpec.upto waitSumSpec)

/-- 'corebellkeep.WaitFirst', WHERE WHAT IT READS IS OF BULK AT MOST 1048576: true; the input reads as it did. -/
def waitFirstUptoRow : OpenClaim := { program := "ytghonbiiichedaa", sum := "dae4edf2f6cc219a3c1fbf6ea3c7b30dc201231ad16338f73a33a20175f33a30", func := "corebell/corebellkeep.WaitFirst", spec := "waitFirst", apart := false, narrowed := true }
def WaitFirstUptoSaid : Prop := waitFirstUptoRow.holds Try.pinned (OpenSpec.upto waitFirstSpec)

/-- 'corebellkeep.WaitAllUp', WHERE WHAT IT READS IS OF BULK AT MOST 1048576: true; the input reads as it did. -/
def waitAllUpUptoRow : OpenClaim := { program := "ytghonbiiichedaa", sum := "dae4edf2f6cc219a3c1fbf6ea3c7b30dc201231ad16338f73a33a20175f33a30", func := "corebell/corebellkeep.WaitAllUp", spec := "waitAllUp", apart := false, narrowed := true }
def WaitAllUpUptoSaid : Prop := waitAllUpUptoRow.holds Try.pinned (OpenSpec.upto waitAllUpSpec)

end Rows
end Go.Proofs.Ytghonbiiichedaa
