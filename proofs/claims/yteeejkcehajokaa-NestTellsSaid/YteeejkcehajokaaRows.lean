/-
  No cell of these rows narrows 'for every input' (looked for: loops, veiled, ifaces, maps, wideKeys, modest, calm, conditions, laid).
  DERIVED. THE GIVEN ROWS OF THIS SEAT. 4 by the template 'for every input the law returns true; each argument reads behind the call as it read before'; 0 by the template 'total and deterministic' (their statements: YteeejkcehajokaaTotals.lean).
  GIVEN WITH THE SEED: the statements are not yours to turn. If you find one false, say at which input.
  Laid BY PROGRAM, IN A SANDBOX (cutbox-rows.mjs): the forced cells as the released guide's own fill.sh prints them over the translation b247f8c67e1f450a… (all of the seat's roots in one cut). By AI agents, Wed Nov 11 2026. No macro, syntax, notation, axiom, sorry.
-/
import Derived.Test.YteeejkcehajokaaChecked
import GoSem.Claim
import GoSem.ClaimJoined
import GoSem.ClaimMapViews
import Derived.JoinedTies
import Derived.KernelRfl
namespace Go.Proofs.Yteeejkcehajokaa
/- THE CELL 'sum', in the pinned program and in every row, IS THE sha256 OF THE DUMP (.gsa) THAT YteeejkcehajokaaProg.lean LOADS. Nothing in Lean hashes anything: it is a label: what it is worth is what the hold of that sum in a sandbox is worth. -/
noncomputable def Try.pinned : Pinned := { name := "yteeejkcehajokaa", sum := "b247f8c67e1f450a97e72ec586460218a8912a26ae68005c156c2e2e6938629e", checked := Try.checked }
namespace Rows
def none {H : Type} : Left H := { results := [], args := [] }

/-- 'corebelllaw.NestTells': WHATEVER THE INPUT: true; the input reads as it did. -/
def nestTellsSpec : ChangeSpec := { name := "nestTells", fn := fun _ => fun
  | [d1, d2, d3] => { results := [.lit (.bool true)], args := [d1, d2, d3] }
  | _ => none }
def nestTellsRow : OpenClaim := { program := "yteeejkcehajokaa", sum := "b247f8c67e1f450a97e72ec586460218a8912a26ae68005c156c2e2e6938629e", func := "corebell/corebelllaw.NestTells", spec := "nestTells", apart := false }
def NestTellsSaid : Prop := nestTellsRow.holds Try.pinned (OpenSpec.ofChange nestTellsSpec)

/-- ITS FALSE NEIGHBOUR: 'it returns false'. Refute it at one input. -/
def nestTellsWrong : ChangeSpec := { name := "nestTells", fn := fun _ => fun
  | [d1, d2, d3] => { results := [.lit (.bool false)], args := [d1, d2, d3] }
  | _ => none }
def NestTellsWrongFalsely : Prop := nestTellsRow.holds Try.pinned (OpenSpec.ofChange nestTellsWrong)

/-- 'corebellkeep.NestBack': WHATEVER THE INPUT: true; the input reads as it did. -/
def nestBackSpec : ChangeSpec := { name := "nestBack", fn := fun _ => fun
  | [d] => { results := [.lit (.bool true)], args := [d] }
  | _ => none }
def nestBackRow : OpenClaim := { program := "yteeejkcehajokaa", sum := "b247f8c67e1f450a97e72ec586460218a8912a26ae68005c156c2e2e6938629e", func := "corebell/corebellkeep.NestBack", spec := "nestBack", apart := false }
def NestBackSaid : Prop := nestBackRow.holds Try.pinned (OpenSpec.ofChange nestBackSpec)

/-- ITS FALSE NEIGHBOUR: 'it returns false'. Refute it at one input. -/
def nestBackWrong : ChangeSpec := { name := "nestBack", fn := fun _ => fun
  | [d] => { results := [.lit (.bool false)], args := [d] }
  | _ => none }
def NestBackWrongFalsely : Prop := nestBackRow.holds Try.pinned (OpenSpec.ofChange nestBackWrong)

/-- 'corebellkeep.NestQuiet': WHATEVER THE INPUT: true; the input reads as it did. -/
def nestQuietSpec : ChangeSpec := { name := "nestQuiet", fn := fun _ => fun
  | [d] => { results := [.lit (.bool true)], args := [d] }
  | _ => none }
def nestQuietRow : OpenClaim := { program := "yteeejkcehajokaa", sum := "b247f8c67e1f450a97e72ec586460218a8912a26ae68005c156c2e2e6938629e", func := "corebell/corebellkeep.NestQuiet", spec := "nestQuiet", apart := false }
def NestQuietSaid : Prop := nestQuietRow.holds Try.pinned (OpenSpec.ofChange nestQuietSpec)

/-- ITS FALSE NEIGHBOUR: 'it returns false'. Refute it at one input. -/
def nestQuietWrong : ChangeSpec := { name := "nestQuiet", fn := fun _ => fun
  | [d] => { results := [.lit (.bool false)], args := [d] }
  | _ => none }
def NestQuietWrongFalsely : Prop := nestQuietRow.holds Try.pinned (OpenSpec.ofChange nestQuietWrong)

/-- 'corebellkeep.NestEven': WHATEVER THE INPUT: true; the input reads as it did. -/
def nestEvenSpec : ChangeSpec := { name := "nestEven", fn := fun _ => fun
  | [d] => { results := [.lit (.bool true)], args := [d] }
  | _ => none }
def nestEvenRow : OpenClaim := { program := "yteeejkcehajokaa", sum := "b247f8c67e1f450a97e72ec586460218a8912a26ae68005c156c2e2e6938629e", func := "corebell/corebellkeep.NestEven", spec := "nestEven", apart := false }
def NestEvenSaid : Prop := nestEvenRow.holds Try.pinned (OpenSpec.ofChange nestEvenSpec)

/-- ITS FALSE NEIGHBOUR: 'it returns false'. Refute it at one input. -/
def nestEvenWrong : ChangeSpec := { name := "nestEven", fn := fun _ => fun
  | [d] => { results := [.lit (.bool false)], args := [d] }
  | _ => none }
def NestEvenWrongFalsely : Prop := nestEvenRow.holds Try.pinned (OpenSpec.ofChange nestEvenWrong)

/- THE SECOND FORM. 'bulk': how many values and letters a reading holds, each counted each time it is reached (what is shared counts as often as it is met; a slice's spare places count too). A statement '..UptoSaid' is the law's where the arguments, and the package variables that the reading takes, are together of bulk at most 1048576: NARROWER than '..Said'. Prove '..Said' where nothing that the law and all that it calls make is longer than what came in: it says more and counts as full. Else prove '..UptoSaid'. A law counts once. -/
mutual
def uptoBulk {H : Type} : DataW H → Nat
  | .lit (.string bytes) => bytes.length + 1
  | .lit _ => 1
  | .nil => 1
  | .ptr d => uptoBulk d + 1
  | .slice elems spare => uptoBulkAll elems + uptoBulkAll spare + 1
  | .agg parts => uptoBulkAll parts + 1
  | .iface _ d => uptoBulk d + 1
  | .map entries => uptoBulkEntries entries + 1
  | .held _ => 1
def uptoBulkAll {H : Type} : List (DataW H) → Nat
  | [] => 0
  | d :: r => uptoBulk d + uptoBulkAll r
def uptoBulkEntries {H : Type} : List (Lit × DataW H) → Nat
  | [] => 0
  | x :: r => uptoBulkEntry x + uptoBulkEntries r
def uptoBulkEntry {H : Type} : Lit × DataW H → Nat
  | (.string bytes, d) => bytes.length + uptoBulk d + 1
  | (_, d) => uptoBulk d + 1
 end
def uptoSmall : (H : Type) → List (DataW H) → Bool := fun _ ds => decide (uptoBulkAll ds ≤ 1048576)
def OpenSpec.upto (s : _root_.Go.ChangeSpec) : _root_.Go.OpenSpec := { _root_.Go.OpenSpec.ofChange s with cond := some uptoSmall }

/-- 'corebelllaw.NestTells', WHERE WHAT IT READS IS OF BULK AT MOST 1048576: true; the input reads as it did. -/
def nestTellsUptoRow : OpenClaim := { program := "yteeejkcehajokaa", sum := "b247f8c67e1f450a97e72ec586460218a8912a26ae68005c156c2e2e6938629e", func := "corebell/corebelllaw.NestTells", spec := "nestTells", apart := false, narrowed := true }
def NestTellsUptoSaid : Prop := nestTellsUptoRow.holds Try.pinned (OpenSpec.upto nestTellsSpec)

/-- 'corebellkeep.NestBack', WHERE WHAT IT READS IS OF BULK AT MOST 1048576: true; the input reads as it did. -/
def nestBackUptoRow : OpenClaim := { program := "yteeejkcehajokaa", sum := "b247f8c67e1f450a97e72ec586460218a8912a26ae68005c156c2e2e6938629e", func := "corebell/corebellkeep.NestBack", spec := "nestBack", apart := false, narrowed := true }
def NestBackUptoSaid : Prop := nestBackUptoRow.holds Try.pinned (OpenSpec.upto nestBackSpec)

/-- 'corebellkeep.NestQuiet', WHERE WHAT IT READS IS OF BULK AT MOST 1048576: true; the input reads as it did. -/
def nestQuietUptoRow : OpenClaim := { program := "yteeejkcehajokaa", sum := "b247f8c67e1f450a97e72ec586460218a8912a26ae68005c156c2e2e6938629e", func := "corebell/corebellkeep.NestQuiet", spec := "nestQuiet", apart := false, narrowed := true }
def NestQuietUptoSaid : Prop := nestQuietUptoRow.holds Try.pinned (OpenSpec.upto nestQuietSpec)

/-- 'corebellkeep.NestEven', WHERE WHAT IT READS IS OF BULK AT MOST 1048576: true; the input reads as it did. -/
def nestEvenUptoRow : OpenClaim := { program := "yteeejkcehajokaa", sum := "b247f8c67e1f450a97e72ec586460218a8912a26ae68005c156c2e2e6938629e", func := "corebell/corebellkeep.NestEven", spec := "nestEven", apart := false, narrowed := true }
def NestEvenUptoSaid : Prop := nestEvenUptoRow.holds Try.pinned (OpenSpec.upto nestEvenSpec)

end Rows
end Go.Proofs.Yteeejkcehajokaa
