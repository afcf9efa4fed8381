/-
  No cell of these rows narrows 'for every input' (looked for: loops, veiled, ifaces, maps, wideKeys, modest, calm, conditions, laid).
  DERIVED. THE GIVEN ROWS OF THIS SEAT. 7 by the template 'for every input the law returns true; each argument reads behind the call as it read before'; 0 by the template 'total and deterministic' (their statements: YtkmjbompbkbfaaaTotals.lean).
  GIVEN WITH THE SEED: the statements are not yours to turn. If you find one false, say at which input.
  Laid BY PROGRAM, IN A SANDBOX (cutbox-rows.mjs): the forced cells as the released guide's own fill.sh prints them over the translation db0349b1c62aaee3… (all of the seat's roots in one cut). By AI agents, Wed Nov 11 2026. No macro, syntax, notation, axiom, sorry.
-/
import Derived.Test.YtkmjbompbkbfaaaChecked
import GoSem.Claim
import GoSem.ClaimJoined
import GoSem.ClaimMapViews
import Derived.JoinedTies
import Derived.KernelRfl
namespace Go.Proofs.Ytkmjbompbkbfaaa
/- THE CELL 'sum', in the pinned program and in every row, IS THE sha256 OF THE DUMP (.gsa) THAT YtkmjbompbkbfaaaProg.lean LOADS. Nothing in Lean hashes anything: it is a label: what it is worth is what the hold of that sum in a sandbox is worth. -/
noncomputable def Try.pinned : Pinned := { name := "ytkmjbompbkbfaaa", sum := "db0349b1c62aaee30921679bf5b7071b80d75a6397c44cc92e79e2fc36058d05", checked := Try.checked }
namespace Rows
def none {H : Type} : Left H := { results := [], args := [] }

/-- 'corebelllaw.LineSteps': WHATEVER THE INPUT: true; the input reads as it did. -/
def lineStepsSpec : ChangeSpec := { name := "lineSteps", fn := fun _ => fun
  | [d1, d2] => { results := [.lit (.bool true)], args := [d1, d2] }
  | _ => none }
def lineStepsRow : OpenClaim := { program := "ytkmjbompbkbfaaa", sum := "db0349b1c62aaee30921679bf5b7071b80d75a6397c44cc92e79e2fc36058d05", func := "corebell/corebelllaw.LineSteps", spec := "lineSteps", apart := false }
def LineStepsSaid : Prop := lineStepsRow.holds Try.pinned (OpenSpec.ofChange lineStepsSpec)

/-- ITS FALSE NEIGHBOUR: 'it returns false'. Refute it at one input. -/
def lineStepsWrong : ChangeSpec := { name := "lineSteps", fn := fun _ => fun
  | [d1, d2] => { results := [.lit (.bool false)], args := [d1, d2] }
  | _ => none }
def LineStepsWrongFalsely : Prop := lineStepsRow.holds Try.pinned (OpenSpec.ofChange lineStepsWrong)

/-- 'corebelllaw.LinePlays': WHATEVER THE INPUT: true; the input reads as it did. -/
def linePlaysSpec : ChangeSpec := { name := "linePlays", fn := fun _ => fun
  | [d1, d2] => { results := [.lit (.bool true)], args := [d1, d2] }
  | _ => none }
def linePlaysRow : OpenClaim := { program := "ytkmjbompbkbfaaa", sum := "db0349b1c62aaee30921679bf5b7071b80d75a6397c44cc92e79e2fc36058d05", func := "corebell/corebelllaw.LinePlays", spec := "linePlays", apart := false }
def LinePlaysSaid : Prop := linePlaysRow.holds Try.pinned (OpenSpec.ofChange linePlaysSpec)

/-- ITS FALSE NEIGHBOUR: 'it returns false'. Refute it at one input. -/
def linePlaysWrong : ChangeSpec := { name := "linePlays", fn := fun _ => fun
  | [d1, d2] => { results := [.lit (.bool false)], args := [d1, d2] }
  | _ => none }
def LinePlaysWrongFalsely : Prop := linePlaysRow.holds Try.pinned (OpenSpec.ofChange linePlaysWrong)

/-- 'corebellkeep.LineRight': WHATEVER THE INPUT: true; the input reads as it did. -/
def lineRightSpec : ChangeSpec := { name := "lineRight", fn := fun _ => fun
  | [d1, d2] => { results := [.lit (.bool true)], args := [d1, d2] }
  | _ => none }
def lineRightRow : OpenClaim := { program := "ytkmjbompbkbfaaa", sum := "db0349b1c62aaee30921679bf5b7071b80d75a6397c44cc92e79e2fc36058d05", func := "corebell/corebellkeep.LineRight", spec := "lineRight", apart := false }
def LineRightSaid : Prop := lineRightRow.holds Try.pinned (OpenSpec.ofChange lineRightSpec)

/-- ITS FALSE NEIGHBOUR: 'it returns false'. Refute it at one input. -/
def lineRightWrong : ChangeSpec := { name := "lineRight", fn := fun _ => fun
  | [d1, d2] => { results := [.lit (.bool false)], args := [d1, d2] }
  | _ => none }
def LineRightWrongFalsely : Prop := lineRightRow.holds Try.pinned (OpenSpec.ofChange lineRightWrong)

/-- 'corebellkeep.LineLevel': WHATEVER THE INPUT: true; the input reads as it did. -/
def lineLevelSpec : ChangeSpec := { name := "lineLevel", fn := fun _ => fun
  | [d1, d2, d3] => { results := [.lit (.bool true)], args := [d1, d2, d3] }
  | _ => none }
def lineLevelRow : OpenClaim := { program := "ytkmjbompbkbfaaa", sum := "db0349b1c62aaee30921679bf5b7071b80d75a6397c44cc92e79e2fc36058d05", func := "corebell/corebellkeep.LineLevel", spec := "lineLevel", apart := false }
def LineLevelSaid : Prop := lineLevelRow.holds Try.pinned (OpenSpec.ofChange lineLevelSpec)

/-- ITS FALSE NEIGHBOUR: 'it returns false'. Refute it at one input. -/
def lineLevelWrong : ChangeSpec := { name := "lineLevel", fn := fun _ => fun
  | [d1, d2, d3] => { results := [.lit (.bool false)], args := [d1, d2, d3] }
  | _ => none }
def LineLevelWrongFalsely : Prop := lineLevelRow.holds Try.pinned (OpenSpec.ofChange lineLevelWrong)

/-- 'corebellkeep.LineEdges': WHATEVER THE INPUT: true; the input reads as it did. -/
def lineEdgesSpec : ChangeSpec := { name := "lineEdges", fn := fun _ => fun
  | [d1, d2, d3] => { results := [.lit (.bool true)], args := [d1, d2, d3] }
  | _ => none }
def lineEdgesRow : OpenClaim := { program := "ytkmjbompbkbfaaa", sum := "db0349b1c62aaee30921679bf5b7071b80d75a6397c44cc92e79e2fc36058d05", func := "corebell/corebellkeep.LineEdges", spec := "lineEdges", unfollowed := true, recurses := true, apart := false }
def LineEdgesSaid : Prop := lineEdgesRow.holds Try.pinned (OpenSpec.ofChange lineEdgesSpec)

/-- ITS FALSE NEIGHBOUR: 'it returns false'. Refute it at one input. -/
def lineEdgesWrong : ChangeSpec := { name := "lineEdges", fn := fun _ => fun
  | [d1, d2, d3] => { results := [.lit (.bool false)], args := [d1, d2, d3] }
  | _ => none }
def LineEdgesWrongFalsely : Prop := lineEdgesRow.holds Try.pinned (OpenSpec.ofChange lineEdgesWrong)

/-- 'corebellkeep.LineMask': WHATEVER THE INPUT: true; the input reads as it did. -/
def lineMaskSpec : ChangeSpec := { name := "lineMask", fn := fun _ => fun
  | [d1, d2, d3, d4] => { results := [.lit (.bool true)], args := [d1, d2, d3, d4] }
  | _ => none }
def lineMaskRow : OpenClaim := { program := "ytkmjbompbkbfaaa", sum := "db0349b1c62aaee30921679bf5b7071b80d75a6397c44cc92e79e2fc36058d05", func := "corebell/corebellkeep.LineMask", spec := "lineMask", inPlace := ["slices.overlaps[corebell/api.PinOp]"], apart := false }
def LineMaskSaid : Prop := lineMaskRow.holds Try.pinned (OpenSpec.ofChange lineMaskSpec)

/-- ITS FALSE NEIGHBOUR: 'it returns false'. Refute it at one input. -/
def lineMaskWrong : ChangeSpec := { name := "lineMask", fn := fun _ => fun
  | [d1, d2, d3, d4] => { results := [.lit (.bool false)], args := [d1, d2, d3, d4] }
  | _ => none }
def LineMaskWrongFalsely : Prop := lineMaskRow.holds Try.pinned (OpenSpec.ofChange lineMaskWrong)

/-- 'corebellkeep.LineParts': WHATEVER THE INPUT: true; the input reads as it did. -/
def linePartsSpec : ChangeSpec := { name := "lineParts", fn := fun _ => fun
  | [d1, d2, d3] => { results := [.lit (.bool true)], args := [d1, d2, d3] }
  | _ => none }
def linePartsRow : OpenClaim := { program := "ytkmjbompbkbfaaa", sum := "db0349b1c62aaee30921679bf5b7071b80d75a6397c44cc92e79e2fc36058d05", func := "corebell/corebellkeep.LineParts", spec := "lineParts", apart := false }
def LinePartsSaid : Prop := linePartsRow.holds Try.pinned (OpenSpec.ofChange linePartsSpec)

/-- ITS FALSE NEIGHBOUR: 'it returns false'. Refute it at one input. -/
def linePartsWrong : ChangeSpec := { name := "lineParts", fn := fun _ => fun
  | [d1, d2, d3] => { results := [.lit (.bool false)], args := [d1, d2, d3] }
  | _ => none }
def LinePartsWrongFalsely : Prop := linePartsRow.holds Try.pinned (OpenSpec.ofChange linePartsWrong)

/- THE SECOND FORM. 'bulk': how many values and letters a reading holds, each counted each time it is reached (what is shared counts as often as it is met; a slice's spare places count too). A statement '..UptoSaid' is the law's where the arguments, and the package variables that the reading takes, are together of bulk at most 1048576: NARROWER than '..Said'. Prove '..Said' where nothing that the law and all that it calls make is longer than what came in: it says more and counts as full. Else prove '..UptoSaid'. A law counts once. -/
mutual
def uptoBulk {H : Type} : DataW H → Nat
  | .lit (.string bytes) => bytes.length + 1
  | .lit _ => 1
  | .nil => 1
  | .ptr d => uptoBulk d + 1
  | .slice elems spare => uptoBulkAll elems + uptoBulkAll spare + 1
  | .agg parts => uptoBulkAll parts + 1
  | .iface _ d => uptoBulk d + 1
  | .map entries => uptoBulkEntries entries + 1
  | .held _ => 1
def uptoBulkAll {H : Type} : List (DataW H) → Nat
  | [] => 0
  | d :: r => uptoBulk d + uptoBulkAll r
def uptoBulkEntries {H : Type} : List (Lit × DataW H) → Nat
  | [] => 0
  | x :: r => uptoBulkEntry x + uptoBulkEntries r
def uptoBulkEntry {H : Type} : Lit × DataW H → Nat
  | (.string bytes, d) => bytes.length + uptoBulk d + 1
  | (_, d) => uptoBulk d + 1
 end
def uptoSmall : (H : Type) → List (DataW H) → Bool := fun _ ds => decide (uptoBulkAll ds ≤ 1048576)
def OpenSpec.upto (s : _root_.Go.ChangeSpec) : _root_.Go.OpenSpec := { _root_.Go.OpenSpec.ofChange s with cond := some uptoSmall }

/-- 'corebelllaw.LineSteps', WHERE WHAT IT READS IS OF BULK AT MOST 1048576: true; the input reads as it did. -/
def lineStepsUptoRow : OpenClaim := { program := "ytkmjbompbkbfaaa", sum := "db0349b1c62aaee30921679bf5b7071b80d75a6397c44cc92e79e2fc36058d05", func := "corebell/corebelllaw.LineSteps", spec := "lineSteps", apart := false, narrowed := true }
def LineStepsUptoSaid : Prop := lineStepsUptoRow.holds Try.pinned (OpenSpec.upto lineStepsSpec)

/-- 'corebelllaw.LinePlays', WHERE WHAT IT READS IS OF BULK AT MOST 1048576: true; the input reads as it did. -/
def linePlaysUptoRow : OpenClaim := { program := "ytkmjbompbkbfaaa", sum := "db0349b1c62aaee30921679bf5b7071b80d75a6397c44cc92e79e2fc36058d05", func := "corebell/corebelllaw.LinePlays", spec := "linePlays", apart := false, narrowed := true }
def LinePlaysUptoSaid : Prop := linePlaysUptoRow.holds Try.pinned (OpenSpec.upto linePlaysSpec)

/-- 'corebellkeep.LineRight', WHERE WHAT IT READS IS OF BULK AT MOST 1048576: true; the input reads as it did. -/
def lineRightUptoRow : OpenClaim := { program := "ytkmjbompbkbfaaa", sum := "db0349b1c62aaee30921679bf5b7071b80d75a6397c44cc92e79e2fc36058d05", func := "corebell/corebellkeep.LineRight", spec := "lineRight", apart := false, narrowed := true }
def LineRightUptoSaid : Prop := lineRightUptoRow.holds Try.pinned (OpenSpec.upto lineRightSpec)

/-- 'corebellkeep.LineLevel', WHERE WHAT IT READS IS OF BULK AT MOST 1048576: true; the input reads as it did. -/
def lineLevelUptoRow : OpenClaim := { program := "ytkmjbompbkbfaaa", sum := "db0349b1c62aaee30921679bf5b7071b80d75a6397c44cc92e79e2fc36058d05", func := "corebell/corebellkeep.LineLevel", spec := "lineLevel", apart := false, narrowed := true }
def LineLevelUptoSaid : Prop := lineLevelUptoRow.holds Try.pinned (OpenSpec.upto lineLevelSpec)

/-- 'corebellkeep.LineEdges', WHERE WHAT IT READS IS OF BULK AT MOST 1048576: true; the input reads as it did. -/
def lineEdgesUptoRow : OpenClaim := { program := "ytkmjbompbkbfaaa", sum := "db0349b1c62aaee30921679bf5b7071b80d75a6397c44cc92e79e2fc36058d05", func := "corebell/corebellkeep.LineEdges", spec := "lineEdges", unfollowed := true, recurses := true, apart := false, narrowed := true }
def LineEdgesUptoSaid : Prop := lineEdgesUptoRow.holds Try.pinned (OpenSpec.upto lineEdgesSpec)

/-- 'corebellkeep.LineMask', WHERE WHAT IT READS IS OF BULK AT MOST 1048576: true; the input reads as it did. -/
def lineMaskUptoRow : OpenClaim := { program := "ytkmjbompbkbfaaa", sum := "db0349b1c62aaee30921679bf5b7071b80d75a6397c44cc92e79e2fc36058d05", func := "corebell/corebellkeep.LineMask", spec := "lineMask", inPlace := ["slices.overlaps[corebell/api.PinOp]"], apart := false, narrowed := true }
def LineMaskUptoSaid : Prop := lineMaskUptoRow.holds Try.pinned (OpenSpec.upto lineMaskSpec)

/-- 'corebellkeep.LineParts', WHERE WHAT IT READS IS OF BULK AT MOST 1048576: true; the input reads as it did. -/
def linePartsUptoRow : OpenClaim := { program := "ytkmjbompbkbfaaa", sum := "db0349b1c62aaee30921679bf5b7071b80d75a6397c44cc92e79e2fc36058d05", func := "corebell/corebellkeep.LineParts", spec := "lineParts", apart := false, narrowed := true }
def LinePartsUptoSaid : Prop := linePartsUptoRow.holds Try.pinned (OpenSpec.upto linePartsSpec)

end Rows
end Go.Proofs.Ytkmjbompbkbfaaa
