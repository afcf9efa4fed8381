/-
  No cell of these rows narrows 'for every input' (looked for: loops, veiled, ifaces, maps, wideKeys, modest, calm, conditions, laid).
  DERIVED. THE GIVEN ROWS OF THIS SEAT. 5 by the template 'for every input the law returns true; each argument reads behind the call as it read before'; 0 by the template 'total and deterministic' (their statements: YtlmkbgclogbpfaaTotals.lean).
  GIVEN WITH THE SEED: the statements are not yours to turn. If you find one false, say at which input.
  Laid BY PROGRAM, IN A SANDBOX (cutbox-rows.mjs): the forced cells as the released guide's own fill.sh prints them over the translation 796d07fb05a9e3c4… (all of the seat's roots in one cut). By AI agents, Wed Nov 11 2026. No macro, syntax, notation, axiom, sorry.
-/
import Derived.Test.YtlmkbgclogbpfaaChecked
import GoSem.Claim
import GoSem.ClaimJoined
import GoSem.ClaimMapViews
import Derived.JoinedTies
import Derived.KernelRfl
namespace Go.Proofs.Ytlmkbgclogbpfaa
/- THE CELL 'sum', in the pinned program and in every row, IS THE sha256 OF THE DUMP (.gsa) THAT YtlmkbgclogbpfaaProg.lean LOADS. Nothing in Lean hashes anything: it is a label: what it is worth is what the hold of that sum in a sandbox is worth. -/
noncomputable def Try.pinned : Pinned := { name := "ytlmkbgclogbpfaa", sum := "796d07fb05a9e3c4caab92481ea135350f027e7f67a9b9f24bed3c4b5e148188", checked := Try.checked }
namespace Rows
def none {H : Type} : Left H := { results := [], args := [] }

/-- 'corebelllaw.WorkPlays': WHATEVER THE INPUT: true; the input reads as it did. -/
def workPlaysSpec : ChangeSpec := { name := "workPlays", fn := fun _ => fun
  | [d] => { results := [.lit (.bool true)], args := [d] }
  | _ => none }
def workPlaysRow : OpenClaim := { program := "ytlmkbgclogbpfaa", sum := "796d07fb05a9e3c4caab92481ea135350f027e7f67a9b9f24bed3c4b5e148188", func := "corebell/corebelllaw.WorkPlays", spec := "workPlays", apart := false }
def WorkPlaysSaid : Prop := workPlaysRow.holds Try.pinned (OpenSpec.ofChange workPlaysSpec)

/-- ITS FALSE NEIGHBOUR: 'it returns false'. Refute it at one input. -/
def workPlaysWrong : ChangeSpec := { name := "workPlays", fn := fun _ => fun
  | [d] => { results := [.lit (.bool false)], args := [d] }
  | _ => none }
def WorkPlaysWrongFalsely : Prop := workPlaysRow.holds Try.pinned (OpenSpec.ofChange workPlaysWrong)

/-- 'corebellkeep.WorkOnce': WHATEVER THE INPUT: true; the input reads as it did. -/
def workOnceSpec : ChangeSpec := { name := "workOnce", fn := fun _ => fun
  | [d] => { results := [.lit (.bool true)], args := [d] }
  | _ => none }
def workOnceRow : OpenClaim := { program := "ytlmkbgclogbpfaa", sum := "796d07fb05a9e3c4caab92481ea135350f027e7f67a9b9f24bed3c4b5e148188", func := "corebell/corebellkeep.WorkOnce", spec := "workOnce", apart := false }
def WorkOnceSaid : Prop := workOnceRow.holds Try.pinned (OpenSpec.ofChange workOnceSpec)

/-- ITS FALSE NEIGHBOUR: 'it returns false'. Refute it at one input. -/
def workOnceWrong : ChangeSpec := { name := "workOnce", fn := fun _ => fun
  | [d] => { results := [.lit (.bool false)], args := [d] }
  | _ => none }
def WorkOnceWrongFalsely : Prop := workOnceRow.holds Try.pinned (OpenSpec.ofChange workOnceWrong)

/-- 'corebellkeep.WorkFlushed': WHATEVER THE INPUT: true; the input reads as it did. -/
def workFlushedSpec : ChangeSpec := { name := "workFlushed", fn := fun _ => fun
  | [d1, d2] => { results := [.lit (.bool true)], args := [d1, d2] }
  | _ => none }
def workFlushedRow : OpenClaim := { program := "ytlmkbgclogbpfaa", sum := "796d07fb05a9e3c4caab92481ea135350f027e7f67a9b9f24bed3c4b5e148188", func := "corebell/corebellkeep.WorkFlushed", spec := "workFlushed", apart := false }
def WorkFlushedSaid : Prop := workFlushedRow.holds Try.pinned (OpenSpec.ofChange workFlushedSpec)

/-- ITS FALSE NEIGHBOUR: 'it returns false'. Refute it at one input. -/
def workFlushedWrong : ChangeSpec := { name := "workFlushed", fn := fun _ => fun
  | [d1, d2] => { results := [.lit (.bool false)], args := [d1, d2] }
  | _ => none }
def WorkFlushedWrongFalsely : Prop := workFlushedRow.holds Try.pinned (OpenSpec.ofChange workFlushedWrong)

/-- 'corebellkeep.WorkAgain': WHATEVER THE INPUT: true; the input reads as it did. -/
def workAgainSpec : ChangeSpec := { name := "workAgain", fn := fun _ => fun
  | [d] => { results := [.lit (.bool true)], args := [d] }
  | _ => none }
def workAgainRow : OpenClaim := { program := "ytlmkbgclogbpfaa", sum := "796d07fb05a9e3c4caab92481ea135350f027e7f67a9b9f24bed3c4b5e148188", func := "corebell/corebellkeep.WorkAgain", spec := "workAgain", apart := false }
def WorkAgainSaid : Prop := workAgainRow.holds Try.pinned (OpenSpec.ofChange workAgainSpec)

/-- ITS FALSE NEIGHBOUR: 'it returns false'. Refute it at one input. -/
def workAgainWrong : ChangeSpec := { name := "workAgain", fn := fun _ => fun
  | [d] => { results := [.lit (.bool false)], args := [d] }
  | _ => none }
def WorkAgainWrongFalsely : Prop := workAgainRow.holds Try.pinned (OpenSpec.ofChange workAgainWrong)

/-- 'corebellkeep.WorkCancelled': WHATEVER THE INPUT: true; the input reads as it did. -/
def workCancelledSpec : ChangeSpec := { name := "workCancelled", fn := fun _ => fun
  | [d1, d2] => { results := [.lit (.bool true)], args := [d1, d2] }
  | _ => none }
def workCancelledRow : OpenClaim := { program := "ytlmkbgclogbpfaa", sum := "796d07fb05a9e3c4caab92481ea135350f027e7f67a9b9f24bed3c4b5e148188", func := "corebell/corebellkeep.WorkCancelled", spec := "workCancelled", unfollowed := true, recurses := true, apart := false }
def WorkCancelledSaid : Prop := workCancelledRow.holds Try.pinned (OpenSpec.ofChange workCancelledSpec)

/-- ITS FALSE NEIGHBOUR: 'it returns false'. Refute it at one input. -/
def workCancelledWrong : ChangeSpec := { name := "workCancelled", fn := fun _ => fun
  | [d1, d2] => { results := [.lit (.bool false)], args := [d1, d2] }
  | _ => none }
def WorkCancelledWrongFalsely : Prop := workCancelledRow.holds Try.pinned (OpenSpec.ofChange workCancelledWrong)

/- THE SECOND FORM. 'bulk': how many values and letters a reading holds, each counted each time it is reached (what is shared counts as often as it is met; a slice's spare places count too). A statement '..UptoSaid' is the law's where the arguments, and the package variables that the reading takes, are together of bulk at most 1048576: NARROWER than '..Said'. Prove '..Said' where nothing that the law and all that it calls make is longer than what came in: it says more and counts as full. Else prove '..UptoSaid'. A law counts once. -/
mutual
def uptoBulk {H : Type} : DataW H → Nat
  | .lit (.string bytes) => bytes.length + 1
  | .lit _ => 1
  | .nil => 1
  | .ptr d => uptoBulk d + 1
  | .slice elems spare => uptoBulkAll elems + uptoBulkAll spare + 1
  | .agg parts => uptoBulkAll parts + 1
  | .iface _ d => uptoBulk d + 1
  | .map entries => uptoBulkEntries entries + 1
  | .held _ => 1
def uptoBulkAll {H : Type} : List (DataW H) → Nat
  | [] => 0
  | d :: r => uptoBulk d + uptoBulkAll r
def uptoBulkEntries {H : Type} : List (Lit × DataW H) → Nat
  | [] => 0
  | x :: r => uptoBulkEntry x + uptoBulkEntries r
def uptoBulkEntry {H : Type} : Lit × DataW H → Nat
  | (.string bytes, d) => bytes.length + uptoBulk d + 1
  | (_, d) => uptoBulk d + 1
 end
def uptoSmall : (H : Type) → List (DataW H) → Bool := fun _ ds => decide (uptoBulkAll ds ≤ 1048576)
def OpenSpec.upto (s : _root_.Go.ChangeSpec) : _root_.Go.OpenSpec := { _root_.Go.OpenSpec.ofChange s with cond := some uptoSmall }

/-- 'corebelllaw.WorkPlays', WHERE WHAT IT READS IS OF BULK AT MOST 1048576: true; the input reads as it did. -/
def workPlaysUptoRow : OpenClaim := { program := "ytlmkbgclogbpfaa", sum := "796d07fb05a9e3c4caab92481ea135350f027e7f67a9b9f24bed3c4b5e148188", func := "corebell/corebelllaw.WorkPlays", spec := "workPlays", apart := false, narrowed := true }
def WorkPlaysUptoSaid : Prop := workPlaysUptoRow.holds Try.pinned (OpenSpec.upto workPlaysSpec)

/-- 'corebellkeep.WorkOnce', WHERE WHAT IT READS IS OF BULK AT MOST 1048576: true; the input reads as it did. -/
def workOnceUptoRow : OpenClaim := { program := "ytlmkbgclogbpfaa", sum := "796d07fb05a9e3c4caab92481ea135350f027e7f67a9b9f24bed3c4b5e148188", func := "corebell/corebellkeep.WorkOnce", spec := "workOnce", apart := false, narrowed := true }
def WorkOnceUptoSaid : Prop := workOnceUptoRow.holds Try.pinned (OpenSpec.upto workOnceSpec)

/-- 'corebellkeep.WorkFlushed', WHERE WHAT IT READS IS OF BULK AT MOST 1048576: true; the input reads as it did. -/
def workFlushedUptoRow : OpenClaim := { program := "ytlmkbgclogbpfaa", sum := "796d07fb05a9e3c4caab92481ea135350f027e7f67a9b9f24bed3c4b5e148188", func := "corebell/corebellkeep.WorkFlushed", spec := "workFlushed", apart := false, narrowed := true }
def WorkFlushedUptoSaid : Prop := workFlushedUptoRow.holds Try.pinned (OpenSpec.upto workFlushedSpec)

/-- 'corebellkeep.WorkAgain', WHERE WHAT IT READS IS OF BULK AT MOST 1048576: true; the input reads as it did. -/
def workAgainUptoRow : OpenClaim := { program := "ytlmkbgclogbpfaa", sum := "796d07fb05a9e3c4caab92481ea135350f027e7f67a9b9f24bed3c4b5e148188", func := "corebell/corebellkeep.WorkAgain", spec := "workAgain", apart := false, narrowed := true }
def WorkAgainUptoSaid : Prop := workAgainUptoRow.holds Try.pinned (OpenSpec.upto workAgainSpec)

/-- 'corebellkeep.WorkCancelled', WHERE WHAT IT READS IS OF BULK AT MOST 1048576: true; the input reads as it did. -/
def workCancelledUptoRow : OpenClaim := { program := "ytlmkbgclogbpfaa", sum := "796d07fb05a9e3c4caab92481ea135350f027e7f67a9b9f24bed3c4b5e148188", func := "corebell/corebellkeep.WorkCancelled", spec := "workCancelled", unfollowed := true, recurses := true, apart := false, narrowed := true }
def WorkCancelledUptoSaid : Prop := workCancelledUptoRow.holds Try.pinned (OpenSpec.upto workCancelledSpec)

end Rows
end Go.Proofs.Ytlmkbgclogbpfaa
