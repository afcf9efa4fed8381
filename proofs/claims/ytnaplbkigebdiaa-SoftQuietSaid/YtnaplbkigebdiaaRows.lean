/-
  No cell of these rows narrows 'for every input' (looked for: loops, veiled, ifaces, maps, wideKeys, modest, calm, conditions, laid).
  DERIVED. THE GIVEN ROWS OF THIS SEAT. 5 by the template 'for every input the law returns true; each argument reads behind the call as it read before'; 0 by the template 'total and deterministic' (their statements: YtnaplbkigebdiaaTotals.lean).
  GIVEN WITH THE SEED: the statements are not yours to turn. If you find one false, say at which input.
  Laid BY PROGRAM, IN A SANDBOX (cutbox-rows.mjs): the forced cells as the released guide's own fill.sh prints them over the translation afbb5365bbb68bba… (all of the seat's roots in one cut). By AI agents, Wed Nov 11 2026. No macro, syntax, notation, axiom, sorry.
-/
import Derived.Test.YtnaplbkigebdiaaChecked
import GoSem.Claim
import GoSem.ClaimJoined
import GoSem.ClaimMapViews
import Derived.JoinedTies
import Derived.KernelRfl
namespace Go.Proofs.Ytnaplbkigebdiaa
/- THE CELL 'sum', in the pinned program and in every row, IS THE sha256 OF THE DUMP (.gsa) THAT YtnaplbkigebdiaaProg.lean LOADS. Nothing in Lean hashes anything: it is a label: what it is worth is what the hold of that sum in a sandbox is worth. -/
noncomputable def Try.pinned : Pinned := { name := "ytnaplbkigebdiaa", sum := "afbb5365bbb68bbaa76d822d8fe4b7192d86deb89f523a22e5bd905d29d583d6", checked := Try.checked }
namespace Rows
def none {H : Type} : Left H := { results := [], args := [] }

/-- 'corebelllaw.SoftRuns': WHATEVER THE INPUT: true; the input reads as it did. -/
def softRunsSpec : ChangeSpec := { name := "softRuns", fn := fun _ => fun
  | [d1, d2, d3] => { results := [.lit (.bool true)], args := [d1, d2, d3] }
  | _ => none }
def softRunsRow : OpenClaim := { program := "ytnaplbkigebdiaa", sum := "afbb5365bbb68bbaa76d822d8fe4b7192d86deb89f523a22e5bd905d29d583d6", func := "corebell/corebelllaw.SoftRuns", spec := "softRuns", unfollowed := true, recurses := true, apart := false }
def SoftRunsSaid : Prop := softRunsRow.holds Try.pinned (OpenSpec.ofChange softRunsSpec)

/-- ITS FALSE NEIGHBOUR: 'it returns false'. Refute it at one input. -/
def softRunsWrong : ChangeSpec := { name := "softRuns", fn := fun _ => fun
  | [d1, d2, d3] => { results := [.lit (.bool false)], args := [d1, d2, d3] }
  | _ => none }
def SoftRunsWrongFalsely : Prop := softRunsRow.holds Try.pinned (OpenSpec.ofChange softRunsWrong)

/-- 'corebellkeep.SoftAll': WHATEVER THE INPUT: true; the input reads as it did. -/
def softAllSpec : ChangeSpec := { name := "softAll", fn := fun _ => fun
  | [d1, d2, d3] => { results := [.lit (.bool true)], args := [d1, d2, d3] }
  | _ => none }
def softAllRow : OpenClaim := { program := "ytnaplbkigebdiaa", sum := "afbb5365bbb68bbaa76d822d8fe4b7192d86deb89f523a22e5bd905d29d583d6", func := "corebell/corebellkeep.SoftAll", spec := "softAll", apart := false }
def SoftAllSaid : Prop := softAllRow.holds Try.pinned (OpenSpec.ofChange softAllSpec)

/-- ITS FALSE NEIGHBOUR: 'it returns false'. Refute it at one input. -/
def softAllWrong : ChangeSpec := { name := "softAll", fn := fun _ => fun
  | [d1, d2, d3] => { results := [.lit (.bool false)], args := [d1, d2, d3] }
  | _ => none }
def SoftAllWrongFalsely : Prop := softAllRow.holds Try.pinned (OpenSpec.ofChange softAllWrong)

/-- 'corebellkeep.SoftWho': WHATEVER THE INPUT: true; the input reads as it did. -/
def softWhoSpec : ChangeSpec := { name := "softWho", fn := fun _ => fun
  | [d1, d2, d3, d4] => { results := [.lit (.bool true)], args := [d1, d2, d3, d4] }
  | _ => none }
def softWhoRow : OpenClaim := { program := "ytnaplbkigebdiaa", sum := "afbb5365bbb68bbaa76d822d8fe4b7192d86deb89f523a22e5bd905d29d583d6", func := "corebell/corebellkeep.SoftWho", spec := "softWho", apart := false }
def SoftWhoSaid : Prop := softWhoRow.holds Try.pinned (OpenSpec.ofChange softWhoSpec)

/-- ITS FALSE NEIGHBOUR: 'it returns false'. Refute it at one input. -/
def softWhoWrong : ChangeSpec := { name := "softWho", fn := fun _ => fun
  | [d1, d2, d3, d4] => { results := [.lit (.bool false)], args := [d1, d2, d3, d4] }
  | _ => none }
def SoftWhoWrongFalsely : Prop := softWhoRow.holds Try.pinned (OpenSpec.ofChange softWhoWrong)

/-- 'corebellkeep.SoftQuiet': WHATEVER THE INPUT: true; the input reads as it did. -/
def softQuietSpec : ChangeSpec := { name := "softQuiet", fn := fun _ => fun
  | [d1, d2] => { results := [.lit (.bool true)], args := [d1, d2] }
  | _ => none }
def softQuietRow : OpenClaim := { program := "ytnaplbkigebdiaa", sum := "afbb5365bbb68bbaa76d822d8fe4b7192d86deb89f523a22e5bd905d29d583d6", func := "corebell/corebellkeep.SoftQuiet", spec := "softQuiet", unfollowed := true, recurses := true, apart := false }
def SoftQuietSaid : Prop := softQuietRow.holds Try.pinned (OpenSpec.ofChange softQuietSpec)

/-- ITS FALSE NEIGHBOUR: 'it returns false'. Refute it at one input. -/
def softQuietWrong : ChangeSpec := { name := "softQuiet", fn := fun _ => fun
  | [d1, d2] => { results := [.lit (.bool false)], args := [d1, d2] }
  | _ => none }
def SoftQuietWrongFalsely : Prop := softQuietRow.holds Try.pinned (OpenSpec.ofChange softQuietWrong)

/-- 'corebellkeep.SoftPart': WHATEVER THE INPUT: true; the input reads as it did. -/
def softPartSpec : ChangeSpec := { name := "softPart", fn := fun _ => fun
  | [d1, d2, d3] => { results := [.lit (.bool true)], args := [d1, d2, d3] }
  | _ => none }
def softPartRow : OpenClaim := { program := "ytnaplbkigebdiaa", sum := "afbb5365bbb68bbaa76d822d8fe4b7192d86deb89f523a22e5bd905d29d583d6", func := "corebell/corebellkeep.SoftPart", spec := "softPart", apart := false }
def SoftPartSaid : Prop := softPartRow.holds Try.pinned (OpenSpec.ofChange softPartSpec)

/-- ITS FALSE NEIGHBOUR: 'it returns false'. Refute it at one input. -/
def softPartWrong : ChangeSpec := { name := "softPart", fn := fun _ => fun
  | [d1, d2, d3] => { results := [.lit (.bool false)], args := [d1, d2, d3] }
  | _ => none }
def SoftPartWrongFalsely : Prop := softPartRow.holds Try.pinned (OpenSpec.ofChange softPartWrong)

/- THE SECOND FORM. 'bulk': how many values and letters a reading holds, each counted each time it is reached (what is shared counts as often as it is met; a slice's spare places count too). A statement '..UptoSaid' is the law's where the arguments, and the package variables that the reading takes, are together of bulk at most 1048576: NARROWER than '..Said'. Prove '..Said' where nothing that the law and all that it calls make is longer than what came in: it says more and counts as full. Else prove '..UptoSaid'. A law counts once. -/
mutual
def uptoBulk {H : Type} : DataW H → Nat
  | .lit (.string bytes) => bytes.length + 1
  | .lit _ => 1
  | .nil => 1
  | .ptr d => uptoBulk d + 1
  | .slice elems spare => uptoBulkAll elems + uptoBulkAll spare + 1
  | .agg parts => uptoBulkAll parts + 1
  | .iface _ d => uptoBulk d + 1
  | .map entries => uptoBulkEntries entries + 1
  | .held _ => 1
def uptoBulkAll {H : Type} : List (DataW H) → Nat
  | [] => 0
  | d :: r => uptoBulk d + uptoBulkAll r
def uptoBulkEntries {H : Type} : List (Lit × DataW H) → Nat
  | [] => 0
  | x :: r => uptoBulkEntry x + uptoBulkEntries r
def uptoBulkEntry {H : Type} : Lit × DataW H → Nat
  | (.string bytes, d) => bytes.length + uptoBulk d + 1
  | (_, d) => uptoBulk d + 1
 end
def uptoSmall : (H : Type) → List (DataW H) → Bool := fun _ ds => decide (uptoBulkAll ds ≤ 1048576)
def OpenSpec.upto (s : _root_.Go.ChangeSpec) : _root_.Go.OpenSpec := { _root_.Go.OpenSpec.ofChange s with cond := some uptoSmall }

/-- 'corebelllaw.SoftRuns', WHERE WHAT IT READS IS OF BULK AT MOST 1048576: true; the input reads as it did. -/
def softRunsUptoRow : OpenClaim := { program := "ytnaplbkigebdiaa", sum := "afbb5365bbb68bbaa76d822d8fe4b7192d86deb89f523a22e5bd905d29d583d6", func := "corebell/corebelllaw.SoftRuns", spec := "softRuns", unfollowed := true, recurses := true, apart := false, narrowed := true }
def SoftRunsUptoSaid : Prop := softRunsUptoRow.holds Try.pinned (OpenSpec.upto softRunsSpec)

/-- 'corebellkeep.SoftAll', WHERE WHAT IT READS IS OF BULK AT MOST 1048576: true; the input reads as it did. -/
def softAllUptoRow : OpenClaim := { program := "ytnaplbkigebdiaa", sum := "afbb5365bbb68bbaa76d822d8fe4b7192d86deb89f523a22e5bd905d29d583d6", func := "corebell/corebellkeep.SoftAll", spec := "softAll", apart := false, narrowed := true }
def SoftAllUptoSaid : Prop := softAllUptoRow.holds Try.pinned (OpenSpec.upto softAllSpec)

/-- 'corebellkeep.SoftWho', WHERE WHAT IT READS IS OF BULK AT MOST 1048576: true; the input reads as it did. -/
def softWhoUptoRow : OpenClaim := { program := "ytnaplbkigebdiaa", sum := "afbb5365bbb68bbaa76d822d8fe4b7192d86deb89f523a22e5bd905d29d583d6", func := "corebell/corebellkeep.SoftWho", spec := "softWho", apart := false, narrowed := true }
def SoftWhoUptoSaid : Prop := softWhoUptoRow.holds Try.pinned (OpenSpec.upto softWhoSpec)

/-- 'corebellkeep.SoftQuiet', WHERE WHAT IT READS IS OF BULK AT MOST 1048576: true; the input reads as it did. -/
def softQuietUptoRow : OpenClaim := { program := "ytnaplbkigebdiaa", sum := "afbb5365bbb68bbaa76d822d8fe4b7192d86deb89f523a22e5bd905d29d583d6", func := "corebell/corebellkeep.SoftQuiet", spec := "softQuiet", unfollowed := true, recurses := true, apart := false, narrowed := true }
def SoftQuietUptoSaid : Prop := softQuietUptoRow.holds Try.pinned (OpenSpec.upto softQuietSpec)

/-- 'corebellkeep.SoftPart', WHERE WHAT IT READS IS OF BULK AT MOST 1048576: true; the input reads as it did. -/
def softPartUptoRow : OpenClaim := { program := "ytnaplbkigebdiaa", sum := "afbb5365bbb68bbaa76d822d8fe4b7192d86deb89f523a22e5bd905d29d583d6", func := "corebell/corebellkeep.SoftPart", spec := "softPart", apart := false, narrowed := true }
def SoftPartUptoSaid : Prop := softPartUptoRow.holds Try.pinned (OpenSpec.upto softPartSpec)

end Rows
end Go.Proofs.Ytnaplbkigebdiaa
