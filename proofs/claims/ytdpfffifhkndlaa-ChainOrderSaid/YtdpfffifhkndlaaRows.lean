/-
  No cell of these rows narrows 'for every input' (looked for: loops, veiled, ifaces, maps, wideKeys, modest, calm, conditions, laid).
  DERIVED. THE GIVEN ROWS OF THIS SEAT. 5 by the template 'for every input the law returns true; each argument reads behind the call as it read before'; 0 by the template 'total and deterministic' (their statements: YtdpfffifhkndlaaTotals.lean).
  GIVEN WITH THE SEED: the statements are not yours to turn. If you find one false, say at which input.
  Laid BY PROGRAM, IN A SANDBOX (cutbox-rows.mjs): the forced cells as the released guide's own fill.sh prints them over the translation 96534dd4e29043ca… (all of the seat's roots in one cut). By AI agents, Wed Nov 11 2026. No macro, syntax, notation, axiom, sorry.
-/
import Derived.Test.YtdpfffifhkndlaaChecked
import GoSem.Claim
import GoSem.ClaimJoined
import GoSem.ClaimMapViews
import Derived.JoinedTies
import Derived.KernelRfl
namespace Go.Proofs.Ytdpfffifhkndlaa
/- THE CELL 'sum', in the pinned program and in every row, IS THE sha256 OF THE DUMP (.gsa) THAT YtdpfffifhkndlaaProg.lean LOADS. Nothing in Lean hashes anything: it is a label: what it is worth is what the hold of that sum in a sandbox is worth. -/
noncomputable def Try.pinned : Pinned := { name := "ytdpfffifhkndlaa", sum := "96534dd4e29043ca5e1489d27178679a7216f389d80f78baeaa9bdebbbc3aac7", checked := Try.checked }
namespace Rows
def none {H : Type} : Left H := { results := [], args := [] }

/-- 'corebelllaw.ChainServes': WHATEVER THE INPUT: true; the input reads as it did. -/
def chainServesSpec : ChangeSpec := { name := "chainServes", fn := fun _ => fun
  | [d1, d2] => { results := [.lit (.bool true)], args := [d1, d2] }
  | _ => none }
def chainServesRow : OpenClaim := { program := "ytdpfffifhkndlaa", sum := "96534dd4e29043ca5e1489d27178679a7216f389d80f78baeaa9bdebbbc3aac7", func := "corebell/corebelllaw.ChainServes", spec := "chainServes", apart := false }
def ChainServesSaid : Prop := chainServesRow.holds Try.pinned (OpenSpec.ofChange chainServesSpec)

/-- ITS FALSE NEIGHBOUR: 'it returns false'. Refute it at one input. -/
def chainServesWrong : ChangeSpec := { name := "chainServes", fn := fun _ => fun
  | [d1, d2] => { results := [.lit (.bool false)], args := [d1, d2] }
  | _ => none }
def ChainServesWrongFalsely : Prop := chainServesRow.holds Try.pinned (OpenSpec.ofChange chainServesWrong)

/-- 'corebelllaw.ChainPlays': WHATEVER THE INPUT: true; the input reads as it did. -/
def chainPlaysSpec : ChangeSpec := { name := "chainPlays", fn := fun _ => fun
  | [d1, d2] => { results := [.lit (.bool true)], args := [d1, d2] }
  | _ => none }
def chainPlaysRow : OpenClaim := { program := "ytdpfffifhkndlaa", sum := "96534dd4e29043ca5e1489d27178679a7216f389d80f78baeaa9bdebbbc3aac7", func := "corebell/corebelllaw.ChainPlays", spec := "chainPlays", apart := false }
def ChainPlaysSaid : Prop := chainPlaysRow.holds Try.pinned (OpenSpec.ofChange chainPlaysSpec)

/-- ITS FALSE NEIGHBOUR: 'it returns false'. Refute it at one input. -/
def chainPlaysWrong : ChangeSpec := { name := "chainPlays", fn := fun _ => fun
  | [d1, d2] => { results := [.lit (.bool false)], args := [d1, d2] }
  | _ => none }
def ChainPlaysWrongFalsely : Prop := chainPlaysRow.holds Try.pinned (OpenSpec.ofChange chainPlaysWrong)

/-- 'corebellkeep.ChainAll': WHATEVER THE INPUT: true; the input reads as it did. -/
def chainAllSpec : ChangeSpec := { name := "chainAll", fn := fun _ => fun
  | [d1, d2] => { results := [.lit (.bool true)], args := [d1, d2] }
  | _ => none }
def chainAllRow : OpenClaim := { program := "ytdpfffifhkndlaa", sum := "96534dd4e29043ca5e1489d27178679a7216f389d80f78baeaa9bdebbbc3aac7", func := "corebell/corebellkeep.ChainAll", spec := "chainAll", apart := false }
def ChainAllSaid : Prop := chainAllRow.holds Try.pinned (OpenSpec.ofChange chainAllSpec)

/-- ITS FALSE NEIGHBOUR: 'it returns false'. Refute it at one input. -/
def chainAllWrong : ChangeSpec := { name := "chainAll", fn := fun _ => fun
  | [d1, d2] => { results := [.lit (.bool false)], args := [d1, d2] }
  | _ => none }
def ChainAllWrongFalsely : Prop := chainAllRow.holds Try.pinned (OpenSpec.ofChange chainAllWrong)

/-- 'corebellkeep.ChainOff': WHATEVER THE INPUT: true; the input reads as it did. -/
def chainOffSpec : ChangeSpec := { name := "chainOff", fn := fun _ => fun
  | [d1, d2] => { results := [.lit (.bool true)], args := [d1, d2] }
  | _ => none }
def chainOffRow : OpenClaim := { program := "ytdpfffifhkndlaa", sum := "96534dd4e29043ca5e1489d27178679a7216f389d80f78baeaa9bdebbbc3aac7", func := "corebell/corebellkeep.ChainOff", spec := "chainOff", apart := false }
def ChainOffSaid : Prop := chainOffRow.holds Try.pinned (OpenSpec.ofChange chainOffSpec)

/-- ITS FALSE NEIGHBOUR: 'it returns false'. Refute it at one input. -/
def chainOffWrong : ChangeSpec := { name := "chainOff", fn := fun _ => fun
  | [d1, d2] => { results := [.lit (.bool false)], args := [d1, d2] }
  | _ => none }
def ChainOffWrongFalsely : Prop := chainOffRow.holds Try.pinned (OpenSpec.ofChange chainOffWrong)

/-- 'corebellkeep.ChainOrder': WHATEVER THE INPUT: true; the input reads as it did. -/
def chainOrderSpec : ChangeSpec := { name := "chainOrder", fn := fun _ => fun
  | [d1, d2] => { results := [.lit (.bool true)], args := [d1, d2] }
  | _ => none }
def chainOrderRow : OpenClaim := { program := "ytdpfffifhkndlaa", sum := "96534dd4e29043ca5e1489d27178679a7216f389d80f78baeaa9bdebbbc3aac7", func := "corebell/corebellkeep.ChainOrder", spec := "chainOrder", apart := false }
def ChainOrderSaid : Prop := chainOrderRow.holds Try.pinned (OpenSpec.ofChange chainOrderSpec)

/-- ITS FALSE NEIGHBOUR: 'it returns false'. Refute it at one input. -/
def chainOrderWrong : ChangeSpec := { name := "chainOrder", fn := fun _ => fun
  | [d1, d2] => { results := [.lit (.bool false)], args := [d1, d2] }
  | _ => none }
def ChainOrderWrongFalsely : Prop := chainOrderRow.holds Try.pinned (OpenSpec.ofChange chainOrderWrong)

/- THE SECOND FORM. 'bulk': how many values and letters a reading holds, each counted each time it is reached (what is shared counts as often as it is met; a slice's spare places count too). A statement '..UptoSaid' is the law's where the arguments, and the package variables that the reading takes, are together of bulk at most 1048576: NARROWER than '..Said'. Prove '..Said' where nothing that the law and all that it calls make is longer than what came in: it says more and counts as full. Else prove '..UptoSaid'. A law counts once. -/
mutual
def uptoBulk {H : Type} : DataW H → Nat
  | .lit (.string bytes) => bytes.length + 1
  | .lit _ => 1
  | .nil => 1
  | .ptr d => uptoBulk d + 1
  | .slice elems spare => uptoBulkAll elems + uptoBulkAll spare + 1
  | .agg parts => uptoBulkAll parts + 1
  | .iface _ d => uptoBulk d + 1
  | .map entries => uptoBulkEntries entries + 1
  | .held _ => 1
def uptoBulkAll {H : Type} : List (DataW H) → Nat
  | [] => 0
  | d :: r => uptoBulk d + uptoBulkAll r
def uptoBulkEntries {H : Type} : List (Lit × DataW H) → Nat
  | [] => 0
  | x :: r => uptoBulkEntry x + uptoBulkEntries r
def uptoBulkEntry {H : Type} : Lit × DataW H → Nat
  | (.string bytes, d) => bytes.length + uptoBulk d + 1
  | (_, d) => uptoBulk d + 1
 end
def uptoSmall : (H : Type) → List (DataW H) → Bool := fun _ ds => decide (uptoBulkAll ds ≤ 1048576)
def OpenSpec.upto (s : _root_.Go.ChangeSpec) : _root_.Go.OpenSpec := { _root_.Go.OpenSpec.ofChange s with cond := some uptoSmall }

/-- 'corebelllaw.ChainServes', WHERE WHAT IT READS IS OF BULK AT MOST 1048576: true; the input reads as it did. -/
def chainServesUptoRow : OpenClaim := { program := "ytdpfffifhkndlaa", sum := "96534dd4e29043ca5e1489d27178679a7216f389d80f78baeaa9bdebbbc3aac7", func := "corebell/corebelllaw.ChainServes", spec := "chainServes", apart := false, narrowed := true }
def ChainServesUptoSaid : Prop := chainServesUptoRow.holds Try.pinned (OpenSpec.upto chainServesSpec)

/-- 'corebelllaw.ChainPlays', WHERE WHAT IT READS IS OF BULK AT MOST 1048576: true; the input reads as it did. -/
def chainPlaysUptoRow : OpenClaim := { program := "ytdpfffifhkndlaa", sum := "96534dd4e29043ca5e1489d27178679a7216f389d80f78baeaa9bdebbbc3aac7", func := "corebell/corebelllaw.ChainPlays", spec := "chainPlays", apart := false, narrowed := true }
def ChainPlaysUptoSaid : Prop := chainPlaysUptoRow.holds Try.pinned (OpenSpec.upto chainPlaysSpec)

/-- 'corebellkeep.ChainAll', WHERE WHAT IT READS IS OF BULK AT MOST 1048576: true; the input reads as it did. -/
def chainAllUptoRow : OpenClaim := { program := "ytdpfffifhkndlaa", sum := "96534dd4e29043ca5e1489d27178679a7216f389d80f78baeaa9bdebbbc3aac7", func := "corebell/corebellkeep.ChainAll", spec := "chainAll", apart := false, narrowed := true }
def ChainAllUptoSaid : Prop := chainAllUptoRow.holds Try.pinned (OpenSpec.upto chainAllSpec)

/-- 'corebellkeep.ChainOff', WHERE WHAT IT READS IS OF BULK AT MOST 1048576: true; the input reads as it did. -/
def chainOffUptoRow : OpenClaim := { program := "ytdpfffifhkndlaa", sum := "96534dd4e29043ca5e1489d27178679a7216f389d80f78baeaa9bdebbbc3aac7", func := "corebell/corebellkeep.ChainOff", spec := "chainOff", apart := false, narrowed := true }
def ChainOffUptoSaid : Prop := chainOffUptoRow.holds Try.pinned (OpenSpec.upto chainOffSpec)

/-- 'corebellkeep.ChainOrder', WHERE WHAT IT READS IS OF BULK AT MOST 1048576: true; the input reads as it did. -/
def chainOrderUptoRow : OpenClaim := { program := "ytdpfffifhkndlaa", sum := "96534dd4e29043ca5e1489d27178679a7216f389d80f78baeaa9bdebbbc3aac7", func := "corebell/corebellkeep.ChainOrder", spec := "chainOrder", apart := false, narrowed := true }
def ChainOrderUptoSaid : Prop := chainOrderUptoRow.holds Try.pinned (OpenSpec.upto chainOrderSpec)

end Rows
end Go.Proofs.Ytdpfffifhkndlaa
