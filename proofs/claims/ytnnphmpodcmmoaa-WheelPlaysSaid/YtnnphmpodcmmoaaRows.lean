/-
  No cell of these rows narrows 'for every input' (looked for: loops, veiled, ifaces, maps, wideKeys, modest, calm, conditions, laid).
  DERIVED. THE GIVEN ROWS OF THIS SEAT. 6 by the template 'for every input the law returns true; each argument reads behind the call as it read before'; 0 by the template 'total and deterministic' (their statements: YtnnphmpodcmmoaaTotals.lean).
  GIVEN WITH THE SEED: the statements are not yours to turn. If you find one false, say at which input.
  Laid BY PROGRAM, IN A SANDBOX (cutbox-rows.mjs): the forced cells as the released guide's own fill.sh prints them over the translation 887d12d3412f1eba… (all of the seat's roots in one cut). By AI agents, Wed Nov 11 2026. No macro, syntax, notation, axiom, sorry.
-/
import Derived.Test.YtnnphmpodcmmoaaChecked
import GoSem.Claim
import GoSem.ClaimJoined
import GoSem.ClaimMapViews
import Derived.JoinedTies
import Derived.KernelRfl
namespace Go.Proofs.Ytnnphmpodcmmoaa
/- THE CELL 'sum', in the pinned program and in every row, IS THE sha256 OF THE DUMP (.gsa) THAT YtnnphmpodcmmoaaProg.lean LOADS. Nothing in Lean hashes anything: it is a label: what it is worth is what the hold of that sum in a sandbox is worth. -/
noncomputable def Try.pinned : Pinned := { name := "ytnnphmpodcmmoaa", sum := "887d12d3412f1eba1ae8e8a6fbc631b2013e51da8d18f3cae08cd5fb0c1ba541", checked := Try.checked }
namespace Rows
def none {H : Type} : Left H := { results := [], args := [] }

/-- 'corebelllaw.WheelPlays': WHATEVER THE INPUT: true; the input reads as it did. -/
def wheelPlaysSpec : ChangeSpec := { name := "wheelPlays", fn := fun _ => fun
  | [d] => { results := [.lit (.bool true)], args := [d] }
  | _ => none }
def wheelPlaysRow : OpenClaim := { program := "ytnnphmpodcmmoaa", sum := "887d12d3412f1eba1ae8e8a6fbc631b2013e51da8d18f3cae08cd5fb0c1ba541", func := "corebell/corebelllaw.WheelPlays", spec := "wheelPlays", inPlace := ["slices.overlaps[int]"], unfollowed := true, recurses := true, apart := false }
def WheelPlaysSaid : Prop := wheelPlaysRow.holds Try.pinned (OpenSpec.ofChange wheelPlaysSpec)

/-- ITS FALSE NEIGHBOUR: 'it returns false'. Refute it at one input. -/
def wheelPlaysWrong : ChangeSpec := { name := "wheelPlays", fn := fun _ => fun
  | [d] => { results := [.lit (.bool false)], args := [d] }
  | _ => none }
def WheelPlaysWrongFalsely : Prop := wheelPlaysRow.holds Try.pinned (OpenSpec.ofChange wheelPlaysWrong)

/-- 'corebellkeep.WheelOnTime': WHATEVER THE INPUT: true; the input reads as it did. -/
def wheelOnTimeSpec : ChangeSpec := { name := "wheelOnTime", fn := fun _ => fun
  | [d] => { results := [.lit (.bool true)], args := [d] }
  | _ => none }
def wheelOnTimeRow : OpenClaim := { program := "ytnnphmpodcmmoaa", sum := "887d12d3412f1eba1ae8e8a6fbc631b2013e51da8d18f3cae08cd5fb0c1ba541", func := "corebell/corebellkeep.WheelOnTime", spec := "wheelOnTime", inPlace := ["slices.overlaps[int]"], apart := false }
def WheelOnTimeSaid : Prop := wheelOnTimeRow.holds Try.pinned (OpenSpec.ofChange wheelOnTimeSpec)

/-- ITS FALSE NEIGHBOUR: 'it returns false'. Refute it at one input. -/
def wheelOnTimeWrong : ChangeSpec := { name := "wheelOnTime", fn := fun _ => fun
  | [d] => { results := [.lit (.bool false)], args := [d] }
  | _ => none }
def WheelOnTimeWrongFalsely : Prop := wheelOnTimeRow.holds Try.pinned (OpenSpec.ofChange wheelOnTimeWrong)

/-- 'corebellkeep.WheelParts': WHATEVER THE INPUT: true; the input reads as it did. -/
def wheelPartsSpec : ChangeSpec := { name := "wheelParts", fn := fun _ => fun
  | [d] => { results := [.lit (.bool true)], args := [d] }
  | _ => none }
def wheelPartsRow : OpenClaim := { program := "ytnnphmpodcmmoaa", sum := "887d12d3412f1eba1ae8e8a6fbc631b2013e51da8d18f3cae08cd5fb0c1ba541", func := "corebell/corebellkeep.WheelParts", spec := "wheelParts", inPlace := ["slices.overlaps[int]"], apart := false }
def WheelPartsSaid : Prop := wheelPartsRow.holds Try.pinned (OpenSpec.ofChange wheelPartsSpec)

/-- ITS FALSE NEIGHBOUR: 'it returns false'. Refute it at one input. -/
def wheelPartsWrong : ChangeSpec := { name := "wheelParts", fn := fun _ => fun
  | [d] => { results := [.lit (.bool false)], args := [d] }
  | _ => none }
def WheelPartsWrongFalsely : Prop := wheelPartsRow.holds Try.pinned (OpenSpec.ofChange wheelPartsWrong)

/-- 'corebellkeep.WheelCancel': WHATEVER THE INPUT: true; the input reads as it did. -/
def wheelCancelSpec : ChangeSpec := { name := "wheelCancel", fn := fun _ => fun
  | [d1, d2, d3, d4] => { results := [.lit (.bool true)], args := [d1, d2, d3, d4] }
  | _ => none }
def wheelCancelRow : OpenClaim := { program := "ytnnphmpodcmmoaa", sum := "887d12d3412f1eba1ae8e8a6fbc631b2013e51da8d18f3cae08cd5fb0c1ba541", func := "corebell/corebellkeep.WheelCancel", spec := "wheelCancel", inPlace := ["slices.overlaps[int]", "slices.overlaps[corebell/api.TimerOp]"], apart := false }
def WheelCancelSaid : Prop := wheelCancelRow.holds Try.pinned (OpenSpec.ofChange wheelCancelSpec)

/-- ITS FALSE NEIGHBOUR: 'it returns false'. Refute it at one input. -/
def wheelCancelWrong : ChangeSpec := { name := "wheelCancel", fn := fun _ => fun
  | [d1, d2, d3, d4] => { results := [.lit (.bool false)], args := [d1, d2, d3, d4] }
  | _ => none }
def WheelCancelWrongFalsely : Prop := wheelCancelRow.holds Try.pinned (OpenSpec.ofChange wheelCancelWrong)

/-- 'corebellkeep.WheelOrder': WHATEVER THE INPUT: true; the input reads as it did. -/
def wheelOrderSpec : ChangeSpec := { name := "wheelOrder", fn := fun _ => fun
  | [d1, d2, d3] => { results := [.lit (.bool true)], args := [d1, d2, d3] }
  | _ => none }
def wheelOrderRow : OpenClaim := { program := "ytnnphmpodcmmoaa", sum := "887d12d3412f1eba1ae8e8a6fbc631b2013e51da8d18f3cae08cd5fb0c1ba541", func := "corebell/corebellkeep.WheelOrder", spec := "wheelOrder", inPlace := ["slices.overlaps[int]", "slices.overlaps[corebell/api.TimerOp]"], apart := false }
def WheelOrderSaid : Prop := wheelOrderRow.holds Try.pinned (OpenSpec.ofChange wheelOrderSpec)

/-- ITS FALSE NEIGHBOUR: 'it returns false'. Refute it at one input. -/
def wheelOrderWrong : ChangeSpec := { name := "wheelOrder", fn := fun _ => fun
  | [d1, d2, d3] => { results := [.lit (.bool false)], args := [d1, d2, d3] }
  | _ => none }
def WheelOrderWrongFalsely : Prop := wheelOrderRow.holds Try.pinned (OpenSpec.ofChange wheelOrderWrong)

/-- 'corebellkeep.WheelCount': WHATEVER THE INPUT: true; the input reads as it did. -/
def wheelCountSpec : ChangeSpec := { name := "wheelCount", fn := fun _ => fun
  | [d] => { results := [.lit (.bool true)], args := [d] }
  | _ => none }
def wheelCountRow : OpenClaim := { program := "ytnnphmpodcmmoaa", sum := "887d12d3412f1eba1ae8e8a6fbc631b2013e51da8d18f3cae08cd5fb0c1ba541", func := "corebell/corebellkeep.WheelCount", spec := "wheelCount", inPlace := ["slices.overlaps[int]"], apart := false }
def WheelCountSaid : Prop := wheelCountRow.holds Try.pinned (OpenSpec.ofChange wheelCountSpec)

/-- ITS FALSE NEIGHBOUR: 'it returns false'. Refute it at one input. -/
def wheelCountWrong : ChangeSpec := { name := "wheelCount", fn := fun _ => fun
  | [d] => { results := [.lit (.bool false)], args := [d] }
  | _ => none }
def WheelCountWrongFalsely : Prop := wheelCountRow.holds Try.pinned (OpenSpec.ofChange wheelCountWrong)

/- THE SECOND FORM. 'bulk': how many values and letters a reading holds, each counted each time it is reached (what is shared counts as often as it is met; a slice's spare places count too). A statement '..UptoSaid' is the law's where the arguments, and the package variables that the reading takes, are together of bulk at most 1048576: NARROWER than '..Said'. Prove '..Said' where nothing that the law and all that it calls make is longer than what came in: it says more and counts as full. Else prove '..UptoSaid'. A law counts once. -/
mutual
def uptoBulk {H : Type} : DataW H → Nat
  | .lit (.string bytes) => bytes.length + 1
  | .lit _ => 1
  | .nil => 1
  | .ptr d => uptoBulk d + 1
  | .slice elems spare => uptoBulkAll elems + uptoBulkAll spare + 1
  | .agg parts => uptoBulkAll parts + 1
  | .iface _ d => uptoBulk d + 1
  | .map entries => uptoBulkEntries entries + 1
  | .held _ => 1
def uptoBulkAll {H : Type} : List (DataW H) → Nat
  | [] => 0
  | d :: r => uptoBulk d + uptoBulkAll r
def uptoBulkEntries {H : Type} : List (Lit × DataW H) → Nat
  | [] => 0
  | x :: r => uptoBulkEntry x + uptoBulkEntries r
def uptoBulkEntry {H : Type} : Lit × DataW H → Nat
  | (.string bytes, d) => bytes.length + uptoBulk d + 1
  | (_, d) => uptoBulk d + 1
 end
def uptoSmall : (H : Type) → List (DataW H) → Bool := fun _ ds => decide (uptoBulkAll ds ≤ 1048576)
def OpenSpec.upto (s : _root_.Go.ChangeSpec) : _root_.Go.OpenSpec := { _root_.Go.OpenSpec.ofChange s with cond := some uptoSmall }

/-- 'corebelllaw.WheelPlays', WHERE WHAT IT READS IS OF BULK AT MOST 1048576: true; the input reads as it did. -/
def wheelPlaysUptoRow : OpenClaim := { program := "ytnnphmpodcmmoaa", sum := "887d12d3412f1eba1ae8e8a6fbc631b2013e51da8d18f3cae08cd5fb0c1ba541", func := "corebell/corebelllaw.WheelPlays", spec := "wheelPlays", inPlace := ["slices.overlaps[int]"], unfollowed := true, recurses := true, apart := false, narrowed := true }
def WheelPlaysUptoSaid : Prop := wheelPlaysUptoRow.holds Try.pinned (OpenSpec.upto wheelPlaysSpec)

/-- 'corebellkeep.WheelOnTime', WHERE WHAT IT READS IS OF BULK AT MOST 1048576: true; the input reads as it did. -/
def wheelOnTimeUptoRow : OpenClaim := { program := "ytnnphmpodcmmoaa", sum := "887d12d3412f1eba1ae8e8a6fbc631b2013e51da8d18f3cae08cd5fb0c1ba541", func := "corebell/corebellkeep.WheelOnTime", spec := "wheelOnTime", inPlace := ["slices.overlaps[int]"], apart := false, narrowed := true }
def WheelOnTimeUptoSaid : Prop := wheelOnTimeUptoRow.holds Try.pinned (OpenSpec.upto wheelOnTimeSpec)

/-- 'corebellkeep.WheelParts', WHERE WHAT IT READS IS OF BULK AT MOST 1048576: true; the input reads as it did. -/
def wheelPartsUptoRow : OpenClaim := { program := "ytnnphmpodcmmoaa", sum := "887d12d3412f1eba1ae8e8a6fbc631b2013e51da8d18f3cae08cd5fb0c1ba541", func := "corebell/corebellkeep.WheelParts", spec := "wheelParts", inPlace := ["slices.overlaps[int]"], apart := false, narrowed := true }
def WheelPartsUptoSaid : Prop := wheelPartsUptoRow.holds Try.pinned (OpenSpec.upto wheelPartsSpec)

/-- 'corebellkeep.WheelCancel', WHERE WHAT IT READS IS OF BULK AT MOST 1048576: true; the input reads as it did. -/
def wheelCancelUptoRow : OpenClaim := { program := "ytnnphmpodcmmoaa", sum := "887d12d3412f1eba1ae8e8a6fbc631b2013e51da8d18f3cae08cd5fb0c1ba541", func := "corebell/corebellkeep.WheelCancel", spec := "wheelCancel", inPlace := ["slices.overlaps[int]", "slices.overlaps[corebell/api.TimerOp]"], apart := false, narrowed := true }
def WheelCancelUptoSaid : Prop := wheelCancelUptoRow.holds Try.pinned (OpenSpec.upto wheelCancelSpec)

/-- 'corebellkeep.WheelOrder', WHERE WHAT IT READS IS OF BULK AT MOST 1048576: true; the input reads as it did. -/
def wheelOrderUptoRow : OpenClaim := { program := "ytnnphmpodcmmoaa", sum := "887d12d3412f1eba1ae8e8a6fbc631b2013e51da8d18f3cae08cd5fb0c1ba541", func := "corebell/corebellkeep.WheelOrder", spec := "wheelOrder", inPlace := ["slices.overlaps[int]", "slices.overlaps[corebell/api.TimerOp]"], apart := false, narrowed := true }
def WheelOrderUptoSaid : Prop := wheelOrderUptoRow.holds Try.pinned (OpenSpec.upto wheelOrderSpec)

/-- 'corebellkeep.WheelCount', WHERE WHAT IT READS IS OF BULK AT MOST 1048576: true; the input reads as it did. -/
def wheelCountUptoRow : OpenClaim := { program := "ytnnphmpodcmmoaa", sum := "887d12d3412f1eba1ae8e8a6fbc631b2013e51da8d18f3cae08cd5fb0c1ba541", func := "corebell/corebellkeep.WheelCount", spec := "wheelCount", inPlace := ["slices.overlaps[int]"], apart := false, narrowed := true }
def WheelCountUptoSaid : Prop := wheelCountUptoRow.holds Try.pinned (OpenSpec.upto wheelCountSpec)

end Rows
end Go.Proofs.Ytnnphmpodcmmoaa
