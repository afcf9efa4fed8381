/-
  No cell of these rows narrows 'for every input' (looked for: loops, veiled, ifaces, maps, wideKeys, modest, calm, conditions, laid).
  DERIVED. THE GIVEN ROWS OF THIS SEAT. 5 by the template 'for every input the law returns true; each argument reads behind the call as it read before'; 0 by the template 'total and deterministic' (their statements: YtalcfbdnnlapnaaTotals.lean).
  GIVEN WITH THE SEED: the statements are not yours to turn. If you find one false, say at which input.
  Laid BY PROGRAM, IN A SANDBOX (cutbox-rows.mjs): the forced cells as the released guide's own fill.sh prints them over the translation 3b064a4a2f437de9… (all of the seat's roots in one cut). By AI agents, Wed Nov 11 2026. No macro, syntax, notation, axiom, sorry.
-/
import Derived.Test.YtalcfbdnnlapnaaChecked
import GoSem.Claim
import GoSem.ClaimJoined
import GoSem.ClaimMapViews
import Derived.JoinedTies
import Derived.KernelRfl
namespace Go.Proofs.Ytalcfbdnnlapnaa
/- THE CELL 'sum', in the pinned program and in every row, IS THE sha256 OF THE DUMP (.gsa) THAT YtalcfbdnnlapnaaProg.lean LOADS. Nothing in Lean hashes anything: it is a label: what it is worth is what the hold of that sum in a sandbox is worth. -/
noncomputable def Try.pinned : Pinned := { name := "ytalcfbdnnlapnaa", sum := "3b064a4a2f437de94ae03873cd4876381620ce78d39e2f8b77d0c665c423a68e", checked := Try.checked }
namespace Rows
def none {H : Type} : Left H := { results := [], args := [] }

/-- 'corebelllaw.UartSteps': WHATEVER THE INPUT: true; the input reads as it did. -/
def uartStepsSpec : ChangeSpec := { name := "uartSteps", fn := fun _ => fun
  | [d1, d2] => { results := [.lit (.bool true)], args := [d1, d2] }
  | _ => none }
def uartStepsRow : OpenClaim := { program := "ytalcfbdnnlapnaa", sum := "3b064a4a2f437de94ae03873cd4876381620ce78d39e2f8b77d0c665c423a68e", func := "corebell/corebelllaw.UartSteps", spec := "uartSteps", apart := false }
def UartStepsSaid : Prop := uartStepsRow.holds Try.pinned (OpenSpec.ofChange uartStepsSpec)

/-- ITS FALSE NEIGHBOUR: 'it returns false'. Refute it at one input. -/
def uartStepsWrong : ChangeSpec := { name := "uartSteps", fn := fun _ => fun
  | [d1, d2] => { results := [.lit (.bool false)], args := [d1, d2] }
  | _ => none }
def UartStepsWrongFalsely : Prop := uartStepsRow.holds Try.pinned (OpenSpec.ofChange uartStepsWrong)

/-- 'corebelllaw.UartPlays': WHATEVER THE INPUT: true; the input reads as it did. -/
def uartPlaysSpec : ChangeSpec := { name := "uartPlays", fn := fun _ => fun
  | [d] => { results := [.lit (.bool true)], args := [d] }
  | _ => none }
def uartPlaysRow : OpenClaim := { program := "ytalcfbdnnlapnaa", sum := "3b064a4a2f437de94ae03873cd4876381620ce78d39e2f8b77d0c665c423a68e", func := "corebell/corebelllaw.UartPlays", spec := "uartPlays", apart := false }
def UartPlaysSaid : Prop := uartPlaysRow.holds Try.pinned (OpenSpec.ofChange uartPlaysSpec)

/-- ITS FALSE NEIGHBOUR: 'it returns false'. Refute it at one input. -/
def uartPlaysWrong : ChangeSpec := { name := "uartPlays", fn := fun _ => fun
  | [d] => { results := [.lit (.bool false)], args := [d] }
  | _ => none }
def UartPlaysWrongFalsely : Prop := uartPlaysRow.holds Try.pinned (OpenSpec.ofChange uartPlaysWrong)

/-- 'corebellkeep.UartStream': WHATEVER THE INPUT: true; the input reads as it did. -/
def uartStreamSpec : ChangeSpec := { name := "uartStream", fn := fun _ => fun
  | [d] => { results := [.lit (.bool true)], args := [d] }
  | _ => none }
def uartStreamRow : OpenClaim := { program := "ytalcfbdnnlapnaa", sum := "3b064a4a2f437de94ae03873cd4876381620ce78d39e2f8b77d0c665c423a68e", func := "corebell/corebellkeep.UartStream", spec := "uartStream", apart := false }
def UartStreamSaid : Prop := uartStreamRow.holds Try.pinned (OpenSpec.ofChange uartStreamSpec)

/-- ITS FALSE NEIGHBOUR: 'it returns false'. Refute it at one input. -/
def uartStreamWrong : ChangeSpec := { name := "uartStream", fn := fun _ => fun
  | [d] => { results := [.lit (.bool false)], args := [d] }
  | _ => none }
def UartStreamWrongFalsely : Prop := uartStreamRow.holds Try.pinned (OpenSpec.ofChange uartStreamWrong)

/-- 'corebellkeep.UartApart': WHATEVER THE INPUT: true; the input reads as it did. -/
def uartApartSpec : ChangeSpec := { name := "uartApart", fn := fun _ => fun
  | [d1, d2] => { results := [.lit (.bool true)], args := [d1, d2] }
  | _ => none }
def uartApartRow : OpenClaim := { program := "ytalcfbdnnlapnaa", sum := "3b064a4a2f437de94ae03873cd4876381620ce78d39e2f8b77d0c665c423a68e", func := "corebell/corebellkeep.UartApart", spec := "uartApart", apart := false }
def UartApartSaid : Prop := uartApartRow.holds Try.pinned (OpenSpec.ofChange uartApartSpec)

/-- ITS FALSE NEIGHBOUR: 'it returns false'. Refute it at one input. -/
def uartApartWrong : ChangeSpec := { name := "uartApart", fn := fun _ => fun
  | [d1, d2] => { results := [.lit (.bool false)], args := [d1, d2] }
  | _ => none }
def UartApartWrongFalsely : Prop := uartApartRow.holds Try.pinned (OpenSpec.ofChange uartApartWrong)

/-- 'corebellkeep.UartAsks': WHATEVER THE INPUT: true; the input reads as it did. -/
def uartAsksSpec : ChangeSpec := { name := "uartAsks", fn := fun _ => fun
  | [d] => { results := [.lit (.bool true)], args := [d] }
  | _ => none }
def uartAsksRow : OpenClaim := { program := "ytalcfbdnnlapnaa", sum := "3b064a4a2f437de94ae03873cd4876381620ce78d39e2f8b77d0c665c423a68e", func := "corebell/corebellkeep.UartAsks", spec := "uartAsks", apart := false }
def UartAsksSaid : Prop := uartAsksRow.holds Try.pinned (OpenSpec.ofChange uartAsksSpec)

/-- ITS FALSE NEIGHBOUR: 'it returns false'. Refute it at one input. -/
def uartAsksWrong : ChangeSpec := { name := "uartAsks", fn := fun _ => fun
  | [d] => { results := [.lit (.bool false)], args := [d] }
  | _ => none }
def UartAsksWrongFalsely : Prop := uartAsksRow.holds Try.pinned (OpenSpec.ofChange uartAsksWrong)

/- THE SECOND FORM. 'bulk': how many values and letters a reading holds, each counted each time it is reached (what is shared counts as often as it is met; a slice's spare places count too). A statement '..UptoSaid' is the law's where the arguments, and the package variables that the reading takes, are together of bulk at most 1048576: NARROWER than '..Said'. Prove '..Said' where nothing that the law and all that it calls make is longer than what came in: it says more and counts as full. Else prove '..UptoSaid'. A law counts once. -/
mutual
def uptoBulk {H : Type} : DataW H → Nat
  | .lit (.string bytes) => bytes.length + 1
  | .lit _ => 1
  | .nil => 1
  | .ptr d => uptoBulk d + 1
  | .slice elems spare => uptoBulkAll elems + uptoBulkAll spare + 1
  | .agg parts => uptoBulkAll parts + 1
  | .iface _ d => uptoBulk d + 1
  | .map entries => uptoBulkEntries entries + 1
  | .held _ => 1
def uptoBulkAll {H : Type} : List (DataW H) → Nat
  | [] => 0
  | d :: r => uptoBulk d + uptoBulkAll r
def uptoBulkEntries {H : Type} : List (Lit × DataW H) → Nat
  | [] => 0
  | x :: r => uptoBulkEntry x + uptoBulkEntries r
def uptoBulkEntry {H : Type} : Lit × DataW H → Nat
  | (.string bytes, d) => bytes.length + uptoBulk d + 1
  | (_, d) => uptoBulk d + 1
 end
def uptoSmall : (H : Type) → List (DataW H) → Bool := fun _ ds => decide (uptoBulkAll ds ≤ 1048576)
def OpenSpec.upto (s : _root_.Go.ChangeSpec) : _root_.Go.OpenSpec := { _root_.Go.OpenSpec.ofChange s with cond := some uptoSmall }

/-- 'corebelllaw.UartSteps', WHERE WHAT IT READS IS OF BULK AT MOST 1048576: true; the input reads as it did. -/
def uartStepsUptoRow : OpenClaim := { program := "ytalcfbdnnlapnaa", sum := "3b064a4a2f437de94ae03873cd4876381620ce78d39e2f8b77d0c665c423a68e", func := "corebell/corebelllaw.UartSteps", spec := "uartSteps", apart := false, narrowed := true }
def UartStepsUptoSaid : Prop := uartStepsUptoRow.holds Try.pinned (OpenSpec.upto uartStepsSpec)

/-- 'corebelllaw.UartPlays', WHERE WHAT IT READS IS OF BULK AT MOST 1048576: true; the input reads as it did. -/
def uartPlaysUptoRow : OpenClaim := { program := "ytalcfbdnnlapnaa", sum := "3b064a4a2f437de94ae03873cd4876381620ce78d39e2f8b77d0c665c423a68e", func := "corebell/corebelllaw.UartPlays", spec := "uartPlays", apart := false, narrowed := true }
def UartPlaysUptoSaid : Prop := uartPlaysUptoRow.holds Try.pinned (OpenSpec.upto uartPlaysSpec)

/-- 'corebellkeep.UartStream', WHERE WHAT IT READS IS OF BULK AT MOST 1048576: true; the input reads as it did. -/
def uartStreamUptoRow : OpenClaim := { program := "ytalcfbdnnlapnaa", sum := "3b064a4a2f437de94ae03873cd4876381620ce78d39e2f8b77d0c665c423a68e", func := "corebell/corebellkeep.UartStream", spec := "uartStream", apart := false, narrowed := true }
def UartStreamUptoSaid : Prop := uartStreamUptoRow.holds Try.pinned (OpenSpec.upto uartStreamSpec)

/-- 'corebellkeep.UartApart', WHERE WHAT IT READS IS OF BULK AT MOST 1048576: true; the input reads as it did. -/
def uartApartUptoRow : OpenClaim := { program := "ytalcfbdnnlapnaa", sum := "3b064a4a2f437de94ae03873cd4876381620ce78d39e2f8b77d0c665c423a68e", func := "corebell/corebellkeep.UartApart", spec := "uartApart", apart := false, narrowed := true }
def UartApartUptoSaid : Prop := uartApartUptoRow.holds Try.pinned (OpenSpec.upto uartApartSpec)

/-- 'corebellkeep.UartAsks', WHERE WHAT IT READS IS OF BULK AT MOST 1048576: true; the input reads as it did. -/
def uartAsksUptoRow : OpenClaim := { program := "ytalcfbdnnlapnaa", sum := "3b064a4a2f437de94ae03873cd4876381620ce78d39e2f8b77d0c665c423a68e", func := "corebell/corebellkeep.UartAsks", spec := "uartAsks", apart := false, narrowed := true }
def UartAsksUptoSaid : Prop := uartAsksUptoRow.holds Try.pinned (OpenSpec.upto uartAsksSpec)

end Rows
end Go.Proofs.Ytalcfbdnnlapnaa
