/-
  No cell of these rows narrows 'for every input' (looked for: loops, veiled, ifaces, maps, wideKeys, modest, calm, conditions, laid).
  DERIVED. THE GIVEN ROWS OF THIS SEAT. 5 by the template 'for every input the law returns true; each argument reads behind the call as it read before'; 0 by the template 'total and deterministic' (their statements: YtningajaimbncaaTotals.lean).
  GIVEN WITH THE SEED: the statements are not yours to turn. If you find one false, say at which input.
  Laid BY PROGRAM, IN A SANDBOX (cutbox-rows.mjs): the forced cells as the released guide's own fill.sh prints them over the translation a248e240203b75b4… (all of the seat's roots in one cut). By AI agents, Wed Nov 11 2026. No macro, syntax, notation, axiom, sorry.
-/
import Derived.Test.YtningajaimbncaaChecked
import GoSem.Claim
import GoSem.ClaimJoined
import GoSem.ClaimMapViews
import Derived.JoinedTies
import Derived.KernelRfl
namespace Go.Proofs.Ytningajaimbncaa
/- THE CELL 'sum', in the pinned program and in every row, IS THE sha256 OF THE DUMP (.gsa) THAT YtningajaimbncaaProg.lean LOADS. Nothing in Lean hashes anything: it is a label: what it is worth is what the hold of that sum in a sandbox is worth. -/
noncomputable def Try.pinned : Pinned := { name := "ytningajaimbncaa", sum := "a248e240203b75b49f276463a6a9cab1fd5333f92a627be914d144a9c57ee4a7", checked := Try.checked }
namespace Rows
def none {H : Type} : Left H := { results := [], args := [] }

/-- 'corebelllaw.CoresRun': WHATEVER THE INPUT: true; the input reads as it did. -/
def coresRunSpec : ChangeSpec := { name := "coresRun", fn := fun _ => fun
  | [d1, d2, d3, d4] => { results := [.lit (.bool true)], args := [d1, d2, d3, d4] }
  | _ => none }
def coresRunRow : OpenClaim := { program := "ytningajaimbncaa", sum := "a248e240203b75b49f276463a6a9cab1fd5333f92a627be914d144a9c57ee4a7", func := "corebell/corebelllaw.CoresRun", spec := "coresRun", unfollowed := true, recurses := true, apart := false }
def CoresRunSaid : Prop := coresRunRow.holds Try.pinned (OpenSpec.ofChange coresRunSpec)

/-- ITS FALSE NEIGHBOUR: 'it returns false'. Refute it at one input. -/
def coresRunWrong : ChangeSpec := { name := "coresRun", fn := fun _ => fun
  | [d1, d2, d3, d4] => { results := [.lit (.bool false)], args := [d1, d2, d3, d4] }
  | _ => none }
def CoresRunWrongFalsely : Prop := coresRunRow.holds Try.pinned (OpenSpec.ofChange coresRunWrong)

/-- 'corebellkeep.CoresBusy': WHATEVER THE INPUT: true; the input reads as it did. -/
def coresBusySpec : ChangeSpec := { name := "coresBusy", fn := fun _ => fun
  | [d1, d2, d3, d4] => { results := [.lit (.bool true)], args := [d1, d2, d3, d4] }
  | _ => none }
def coresBusyRow : OpenClaim := { program := "ytningajaimbncaa", sum := "a248e240203b75b49f276463a6a9cab1fd5333f92a627be914d144a9c57ee4a7", func := "corebell/corebellkeep.CoresBusy", spec := "coresBusy", unfollowed := true, recurses := true, apart := false }
def CoresBusySaid : Prop := coresBusyRow.holds Try.pinned (OpenSpec.ofChange coresBusySpec)

/-- ITS FALSE NEIGHBOUR: 'it returns false'. Refute it at one input. -/
def coresBusyWrong : ChangeSpec := { name := "coresBusy", fn := fun _ => fun
  | [d1, d2, d3, d4] => { results := [.lit (.bool false)], args := [d1, d2, d3, d4] }
  | _ => none }
def CoresBusyWrongFalsely : Prop := coresBusyRow.holds Try.pinned (OpenSpec.ofChange coresBusyWrong)

/-- 'corebellkeep.CoresFair': WHATEVER THE INPUT: true; the input reads as it did. -/
def coresFairSpec : ChangeSpec := { name := "coresFair", fn := fun _ => fun
  | [d1, d2, d3, d4] => { results := [.lit (.bool true)], args := [d1, d2, d3, d4] }
  | _ => none }
def coresFairRow : OpenClaim := { program := "ytningajaimbncaa", sum := "a248e240203b75b49f276463a6a9cab1fd5333f92a627be914d144a9c57ee4a7", func := "corebell/corebellkeep.CoresFair", spec := "coresFair", unfollowed := true, recurses := true, apart := false }
def CoresFairSaid : Prop := coresFairRow.holds Try.pinned (OpenSpec.ofChange coresFairSpec)

/-- ITS FALSE NEIGHBOUR: 'it returns false'. Refute it at one input. -/
def coresFairWrong : ChangeSpec := { name := "coresFair", fn := fun _ => fun
  | [d1, d2, d3, d4] => { results := [.lit (.bool false)], args := [d1, d2, d3, d4] }
  | _ => none }
def CoresFairWrongFalsely : Prop := coresFairRow.holds Try.pinned (OpenSpec.ofChange coresFairWrong)

/-- 'corebellkeep.CoresAlone': WHATEVER THE INPUT: true; the input reads as it did. -/
def coresAloneSpec : ChangeSpec := { name := "coresAlone", fn := fun _ => fun
  | [d1, d2, d3, d4, d5] => { results := [.lit (.bool true)], args := [d1, d2, d3, d4, d5] }
  | _ => none }
def coresAloneRow : OpenClaim := { program := "ytningajaimbncaa", sum := "a248e240203b75b49f276463a6a9cab1fd5333f92a627be914d144a9c57ee4a7", func := "corebell/corebellkeep.CoresAlone", spec := "coresAlone", unfollowed := true, recurses := true, apart := false }
def CoresAloneSaid : Prop := coresAloneRow.holds Try.pinned (OpenSpec.ofChange coresAloneSpec)

/-- ITS FALSE NEIGHBOUR: 'it returns false'. Refute it at one input. -/
def coresAloneWrong : ChangeSpec := { name := "coresAlone", fn := fun _ => fun
  | [d1, d2, d3, d4, d5] => { results := [.lit (.bool false)], args := [d1, d2, d3, d4, d5] }
  | _ => none }
def CoresAloneWrongFalsely : Prop := coresAloneRow.holds Try.pinned (OpenSpec.ofChange coresAloneWrong)

/-- 'corebellkeep.CoresDone': WHATEVER THE INPUT: true; the input reads as it did. -/
def coresDoneSpec : ChangeSpec := { name := "coresDone", fn := fun _ => fun
  | [d1, d2, d3] => { results := [.lit (.bool true)], args := [d1, d2, d3] }
  | _ => none }
def coresDoneRow : OpenClaim := { program := "ytningajaimbncaa", sum := "a248e240203b75b49f276463a6a9cab1fd5333f92a627be914d144a9c57ee4a7", func := "corebell/corebellkeep.CoresDone", spec := "coresDone", unfollowed := true, recurses := true, apart := false }
def CoresDoneSaid : Prop := coresDoneRow.holds Try.pinned (OpenSpec.ofChange coresDoneSpec)

/-- ITS FALSE NEIGHBOUR: 'it returns false'. Refute it at one input. -/
def coresDoneWrong : ChangeSpec := { name := "coresDone", fn := fun _ => fun
  | [d1, d2, d3] => { results := [.lit (.bool false)], args := [d1, d2, d3] }
  | _ => none }
def CoresDoneWrongFalsely : Prop := coresDoneRow.holds Try.pinned (OpenSpec.ofChange coresDoneWrong)

/- THE SECOND FORM. 'bulk': how many values and letters a reading holds, each counted each time it is reached (what is shared counts as often as it is met; a slice's spare places count too). A statement '..UptoSaid' is the law's where the arguments, and the package variables that the reading takes, are together of bulk at most 1048576: NARROWER than '..Said'. Prove '..Said' where nothing that the law and all that it calls make is longer than what came in: it says more and counts as full. Else prove '..UptoSaid'. A law counts once. -/
mutual
def uptoBulk {H : Type} : DataW H → Nat
  | .lit (.string bytes) => bytes.length + 1
  | .lit _ => 1
  | .nil => 1
  | .ptr d => uptoBulk d + 1
  | .slice elems spare => uptoBulkAll elems + uptoBulkAll spare + 1
  | .agg parts => uptoBulkAll parts + 1
  | .iface _ d => uptoBulk d + 1
  | .map entries => uptoBulkEntries entries + 1
  | .held _ => 1
def uptoBulkAll {H : Type} : List (DataW H) → Nat
  | [] => 0
  | d :: r => uptoBulk d + uptoBulkAll r
def uptoBulkEntries {H : Type} : List (Lit × DataW H) → Nat
  | [] => 0
  | x :: r => uptoBulkEntry x + uptoBulkEntries r
def uptoBulkEntry {H : Type} : Lit × DataW H → Nat
  | (.string bytes, d) => bytes.length + uptoBulk d + 1
  | (_, d) => uptoBulk d + 1
 end
def uptoSmall : (H : Type) → List (DataW H) → Bool := fun _ ds => decide (uptoBulkAll ds ≤ 1048576)
def OpenSpec.upto (s : _root_.Go.ChangeSpec) : _root_.Go.OpenSpec := { _root_.Go.OpenSpec.ofChange s with cond := some uptoSmall }

/-- 'corebelllaw.CoresRun', WHERE WHAT IT READS IS OF BULK AT MOST 1048576: true; the input reads as it did. -/
def coresRunUptoRow : OpenClaim := { program := "ytningajaimbncaa", sum := "a248e240203b75b49f276463a6a9cab1fd5333f92a627be914d144a9c57ee4a7", func := "corebell/corebelllaw.CoresRun", spec := "coresRun", unfollowed := true, recurses := true, apart := false, narrowed := true }
def CoresRunUptoSaid : Prop := coresRunUptoRow.holds Try.pinned (OpenSpec.upto coresRunSpec)

/-- 'corebellkeep.CoresBusy', WHERE WHAT IT READS IS OF BULK AT MOST 1048576: true; the input reads as it did. -/
def coresBusyUptoRow : OpenClaim := { program := "ytningajaimbncaa", sum := "a248e240203b75b49f276463a6a9cab1fd5333f92a627be914d144a9c57ee4a7", func := "corebell/corebellkeep.CoresBusy", spec := "coresBusy", unfollowed := true, recurses := true, apart := false, narrowed := true }
def CoresBusyUptoSaid : Prop := coresBusyUptoRow.holds Try.pinned (OpenSpec.upto coresBusySpec)

/-- 'corebellkeep.CoresFair', WHERE WHAT IT READS IS OF BULK AT MOST 1048576: true; the input reads as it did. -/
def coresFairUptoRow : OpenClaim := { program := "ytningajaimbncaa", sum := "a248e240203b75b49f276463a6a9cab1fd5333f92a627be914d144a9c57ee4a7", func := "corebell/corebellkeep.CoresFair", spec := "coresFair", unfollowed := true, recurses := true, apart := false, narrowed := true }
def CoresFairUptoSaid : Prop := coresFairUptoRow.holds Try.pinned (OpenSpec.upto coresFairSpec)

/-- 'corebellkeep.CoresAlone', WHERE WHAT IT READS IS OF BULK AT MOST 1048576: true; the input reads as it did. -/
def coresAloneUptoRow : OpenClaim := { program := "ytningajaimbncaa", sum := "a248e240203b75b49f276463a6a9cab1fd5333f92a627be914d144a9c57ee4a7", func := "corebell/corebellkeep.CoresAlone", spec := "coresAlone", unfollowed := true, recurses := true, apart := false, narrowed := true }
def CoresAloneUptoSaid : Prop := coresAloneUptoRow.holds Try.pinned (OpenSpec.upto coresAloneSpec)

/-- 'corebellkeep.CoresDone', WHERE WHAT IT READS IS OF BULK AT MOST 1048576: true; the input reads as it did. -/
def coresDoneUptoRow : OpenClaim := { program := "ytningajaimbncaa", sum := "a248e240203b75b49f276463a6a9cab1fd5333f92a627be914d144a9c57ee4a7", func := "corebell/corebellkeep.CoresDone", spec := "coresDone", unfollowed := true, recurses := true, apart := false, narrowed := true }
def CoresDoneUptoSaid : Prop := coresDoneUptoRow.holds Try.pinned (OpenSpec.upto coresDoneSpec)

end Rows
end Go.Proofs.Ytningajaimbncaa
