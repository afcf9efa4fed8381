/-
  NARROWER THAN 'FOR EVERY INPUT', by the rows' own cells (each row's printed sentence says how): TtyTells: laid · TtyTypes: laid · TtyErase: laid · TtyPlain: laid · TtyWord: laid · TtyReads: laid.
  DERIVED. THE GIVEN ROWS OF THIS SEAT. 6 by the template 'for every input the law returns true; each argument reads behind the call as it read before'; 0 by the template 'total and deterministic' (their statements: YtomgifdnnfbpnaaDoorTotals.lean).
  GIVEN WITH THE SEED: the statements are not yours to turn. If you find one false, say at which input.
  Laid BY PROGRAM, IN A SANDBOX (cutbox-rows.mjs): the forced cells as the released guide's own fill.sh prints them over the translation b8cc3b6591ed3441… (all of the seat's roots in one cut). By AI agents, Wed Nov 11 2026. No macro, syntax, notation, axiom, sorry.
-/
import Derived.Test.YtomgifdnnfbpnaaDoorChecked
import GoSem.PinnedTables
import GoSem.Claim
import GoSem.ClaimJoined
import GoSem.ClaimMapViews
import Derived.JoinedTies
import Derived.KernelRfl
namespace Go.Proofs.YtomgifdnnfbpnaaDoor
/- THE CELL 'sum', in the pinned program and in every row, IS THE sha256 OF THE DUMP (.gsa) THAT YtomgifdnnfbpnaaDoorProg.lean LOADS. Nothing in Lean hashes anything: it is a label: what it is worth is what the hold of that sum in a sandbox is worth. -/
noncomputable def Tryd.pinned : Pinned := { name := "ytomgifdnnfbpnaadoor", sum := "b8cc3b6591ed3441bad933131a5cc5469c6f85ed6d25bdbd4d7e632e74c599b5", checked := Tryd.checked }
namespace Rows
def none {H : Type} : Left H := { results := [], args := [] }

/- WHAT THE LISTED PACKAGE-LEVEL VARIABLES READ AS WHEN THE CALL BEGINS. Each datum BY PROGRAM (the guide's laid-datum.mjs) off the statement by which the dump's own 'gosem.cut.vars' lays the variable. In a bare row this is a premise. The card (YtomgifdnnfbpnaaDoorCards.lean) ties it to the program's text. -/
def laid_unicode_utf8_acceptRanges {H : Type} : DataW H := .agg [.agg [.lit (.int .u8 128), .lit (.int .u8 191)], .agg [.lit (.int .u8 160), .lit (.int .u8 191)], .agg [.lit (.int .u8 128), .lit (.int .u8 159)], .agg [.lit (.int .u8 144), .lit (.int .u8 191)], .agg [.lit (.int .u8 128), .lit (.int .u8 143)], .agg [.lit (.int .u8 0), .lit (.int .u8 0)], .agg [.lit (.int .u8 0), .lit (.int .u8 0)], .agg [.lit (.int .u8 0), .lit (.int .u8 0)], .agg [.lit (.int .u8 0), .lit (.int .u8 0)], .agg [.lit (.int .u8 0), .lit (.int .u8 0)], .agg [.lit (.int .u8 0), .lit (.int .u8 0)], .agg [.lit (.int .u8 0), .lit (.int .u8 0)], .agg [.lit (.int .u8 0), .lit (.int .u8 0)], .agg [.lit (.int .u8 0), .lit (.int .u8 0)], .agg [.lit (.int .u8 0), .lit (.int .u8 0)], .agg [.lit (.int .u8 0), .lit (.int .u8 0)]]
/-- One of Go's own tables, pinned by name: the form's constant. -/
def laid_unicode_utf8_first : DataW Unit := Go.Pinned.utf8First

/-- 'corebelllaw.TtyTells': WHATEVER THE INPUT: true; the input reads as it did. -/
def ttyTellsSpec : ChangeSpec := { name := "ttyTells", fn := fun _ => fun
  | [d1, d2, d3] => { results := [.lit (.bool true)], args := [d1, d2, d3] }
  | _ => none }
def ttyTellsRow : OpenClaim := { program := "ytomgifdnnfbpnaadoor", sum := "b8cc3b6591ed3441bad933131a5cc5469c6f85ed6d25bdbd4d7e632e74c599b5", func := "corebell/corebelllaw.TtyTells", spec := "ttyTells", named := ["unicode/utf8.first", "unicode/utf8.acceptRanges"], apart := false, laid := [("unicode/utf8.acceptRanges", laid_unicode_utf8_acceptRanges), ("unicode/utf8.first", laid_unicode_utf8_first)] }
def TtyTellsSaid : Prop := ttyTellsRow.holds Tryd.pinned (OpenSpec.ofChange ttyTellsSpec)

/-- ITS FALSE NEIGHBOUR: 'it returns false'. Refute it at one input. -/
def ttyTellsWrong : ChangeSpec := { name := "ttyTells", fn := fun _ => fun
  | [d1, d2, d3] => { results := [.lit (.bool false)], args := [d1, d2, d3] }
  | _ => none }
def TtyTellsWrongFalsely : Prop := ttyTellsRow.holds Tryd.pinned (OpenSpec.ofChange ttyTellsWrong)

/-- 'corebelllaw.TtyTypes': WHATEVER THE INPUT: true; the input reads as it did. -/
def ttyTypesSpec : ChangeSpec := { name := "ttyTypes", fn := fun _ => fun
  | [d] => { results := [.lit (.bool true)], args := [d] }
  | _ => none }
def ttyTypesRow : OpenClaim := { program := "ytomgifdnnfbpnaadoor", sum := "b8cc3b6591ed3441bad933131a5cc5469c6f85ed6d25bdbd4d7e632e74c599b5", func := "corebell/corebelllaw.TtyTypes", spec := "ttyTypes", named := ["unicode/utf8.first", "unicode/utf8.acceptRanges"], apart := false, laid := [("unicode/utf8.acceptRanges", laid_unicode_utf8_acceptRanges), ("unicode/utf8.first", laid_unicode_utf8_first)] }
def TtyTypesSaid : Prop := ttyTypesRow.holds Tryd.pinned (OpenSpec.ofChange ttyTypesSpec)

/-- ITS FALSE NEIGHBOUR: 'it returns false'. Refute it at one input. -/
def ttyTypesWrong : ChangeSpec := { name := "ttyTypes", fn := fun _ => fun
  | [d] => { results := [.lit (.bool false)], args := [d] }
  | _ => none }
def TtyTypesWrongFalsely : Prop := ttyTypesRow.holds Tryd.pinned (OpenSpec.ofChange ttyTypesWrong)

/-- 'corebellkeep.TtyErase': WHATEVER THE INPUT: true; the input reads as it did. -/
def ttyEraseSpec : ChangeSpec := { name := "ttyErase", fn := fun _ => fun
  | [d1, d2, d3] => { results := [.lit (.bool true)], args := [d1, d2, d3] }
  | _ => none }
def ttyEraseRow : OpenClaim := { program := "ytomgifdnnfbpnaadoor", sum := "b8cc3b6591ed3441bad933131a5cc5469c6f85ed6d25bdbd4d7e632e74c599b5", func := "corebell/corebellkeep.TtyErase", spec := "ttyErase", unfollowed := true, recurses := true, named := ["unicode/utf8.first", "unicode/utf8.acceptRanges"], apart := false, laid := [("unicode/utf8.acceptRanges", laid_unicode_utf8_acceptRanges), ("unicode/utf8.first", laid_unicode_utf8_first)] }
def TtyEraseSaid : Prop := ttyEraseRow.holds Tryd.pinned (OpenSpec.ofChange ttyEraseSpec)

/-- ITS FALSE NEIGHBOUR: 'it returns false'. Refute it at one input. -/
def ttyEraseWrong : ChangeSpec := { name := "ttyErase", fn := fun _ => fun
  | [d1, d2, d3] => { results := [.lit (.bool false)], args := [d1, d2, d3] }
  | _ => none }
def TtyEraseWrongFalsely : Prop := ttyEraseRow.holds Tryd.pinned (OpenSpec.ofChange ttyEraseWrong)

/-- 'corebellkeep.TtyPlain': WHATEVER THE INPUT: true; the input reads as it did. -/
def ttyPlainSpec : ChangeSpec := { name := "ttyPlain", fn := fun _ => fun
  | [d1, d2] => { results := [.lit (.bool true)], args := [d1, d2] }
  | _ => none }
def ttyPlainRow : OpenClaim := { program := "ytomgifdnnfbpnaadoor", sum := "b8cc3b6591ed3441bad933131a5cc5469c6f85ed6d25bdbd4d7e632e74c599b5", func := "corebell/corebellkeep.TtyPlain", spec := "ttyPlain", unfollowed := true, recurses := true, named := ["unicode/utf8.first", "unicode/utf8.acceptRanges"], apart := false, laid := [("unicode/utf8.acceptRanges", laid_unicode_utf8_acceptRanges), ("unicode/utf8.first", laid_unicode_utf8_first)] }
def TtyPlainSaid : Prop := ttyPlainRow.holds Tryd.pinned (OpenSpec.ofChange ttyPlainSpec)

/-- ITS FALSE NEIGHBOUR: 'it returns false'. Refute it at one input. -/
def ttyPlainWrong : ChangeSpec := { name := "ttyPlain", fn := fun _ => fun
  | [d1, d2] => { results := [.lit (.bool false)], args := [d1, d2] }
  | _ => none }
def TtyPlainWrongFalsely : Prop := ttyPlainRow.holds Tryd.pinned (OpenSpec.ofChange ttyPlainWrong)

/-- 'corebellkeep.TtyWord': WHATEVER THE INPUT: true; the input reads as it did. -/
def ttyWordSpec : ChangeSpec := { name := "ttyWord", fn := fun _ => fun
  | [d1, d2, d3] => { results := [.lit (.bool true)], args := [d1, d2, d3] }
  | _ => none }
def ttyWordRow : OpenClaim := { program := "ytomgifdnnfbpnaadoor", sum := "b8cc3b6591ed3441bad933131a5cc5469c6f85ed6d25bdbd4d7e632e74c599b5", func := "corebell/corebellkeep.TtyWord", spec := "ttyWord", unfollowed := true, recurses := true, named := ["unicode/utf8.first", "unicode/utf8.acceptRanges"], apart := false, laid := [("unicode/utf8.acceptRanges", laid_unicode_utf8_acceptRanges), ("unicode/utf8.first", laid_unicode_utf8_first)] }
def TtyWordSaid : Prop := ttyWordRow.holds Tryd.pinned (OpenSpec.ofChange ttyWordSpec)

/-- ITS FALSE NEIGHBOUR: 'it returns false'. Refute it at one input. -/
def ttyWordWrong : ChangeSpec := { name := "ttyWord", fn := fun _ => fun
  | [d1, d2, d3] => { results := [.lit (.bool false)], args := [d1, d2, d3] }
  | _ => none }
def TtyWordWrongFalsely : Prop := ttyWordRow.holds Tryd.pinned (OpenSpec.ofChange ttyWordWrong)

/-- 'corebellkeep.TtyReads': WHATEVER THE INPUT: true; the input reads as it did. -/
def ttyReadsSpec : ChangeSpec := { name := "ttyReads", fn := fun _ => fun
  | [d1, d2, d3] => { results := [.lit (.bool true)], args := [d1, d2, d3] }
  | _ => none }
def ttyReadsRow : OpenClaim := { program := "ytomgifdnnfbpnaadoor", sum := "b8cc3b6591ed3441bad933131a5cc5469c6f85ed6d25bdbd4d7e632e74c599b5", func := "corebell/corebellkeep.TtyReads", spec := "ttyReads", named := ["unicode/utf8.first", "unicode/utf8.acceptRanges"], apart := false, laid := [("unicode/utf8.acceptRanges", laid_unicode_utf8_acceptRanges), ("unicode/utf8.first", laid_unicode_utf8_first)] }
def TtyReadsSaid : Prop := ttyReadsRow.holds Tryd.pinned (OpenSpec.ofChange ttyReadsSpec)

/-- ITS FALSE NEIGHBOUR: 'it returns false'. Refute it at one input. -/
def ttyReadsWrong : ChangeSpec := { name := "ttyReads", fn := fun _ => fun
  | [d1, d2, d3] => { results := [.lit (.bool false)], args := [d1, d2, d3] }
  | _ => none }
def TtyReadsWrongFalsely : Prop := ttyReadsRow.holds Tryd.pinned (OpenSpec.ofChange ttyReadsWrong)

/- THE SECOND FORM. 'bulk': how many values and letters a reading holds, each counted each time it is reached (what is shared counts as often as it is met; a slice's spare places count too). A statement '..UptoSaid' is the law's where the arguments, and the package variables that the reading takes, are together of bulk at most 1048576: NARROWER than '..Said'. Prove '..Said' where nothing that the law and all that it calls make is longer than what came in: it says more and counts as full. Else prove '..UptoSaid'. A law counts once. -/
mutual
def uptoBulk {H : Type} : DataW H → Nat
  | .lit (.string bytes) => bytes.length + 1
  | .lit _ => 1
  | .nil => 1
  | .ptr d => uptoBulk d + 1
  | .slice elems spare => uptoBulkAll elems + uptoBulkAll spare + 1
  | .agg parts => uptoBulkAll parts + 1
  | .iface _ d => uptoBulk d + 1
  | .map entries => uptoBulkEntries entries + 1
  | .held _ => 1
def uptoBulkAll {H : Type} : List (DataW H) → Nat
  | [] => 0
  | d :: r => uptoBulk d + uptoBulkAll r
def uptoBulkEntries {H : Type} : List (Lit × DataW H) → Nat
  | [] => 0
  | x :: r => uptoBulkEntry x + uptoBulkEntries r
def uptoBulkEntry {H : Type} : Lit × DataW H → Nat
  | (.string bytes, d) => bytes.length + uptoBulk d + 1
  | (_, d) => uptoBulk d + 1
 end
def uptoSmall : (H : Type) → List (DataW H) → Bool := fun _ ds => decide (uptoBulkAll ds ≤ 1048576)
def OpenSpec.upto (s : _root_.Go.ChangeSpec) : _root_.Go.OpenSpec := { _root_.Go.OpenSpec.ofChange s with cond := some uptoSmall }

/-- 'corebelllaw.TtyTells', WHERE WHAT IT READS IS OF BULK AT MOST 1048576: true; the input reads as it did. -/
def ttyTellsUptoRow : OpenClaim := { program := "ytomgifdnnfbpnaadoor", sum := "b8cc3b6591ed3441bad933131a5cc5469c6f85ed6d25bdbd4d7e632e74c599b5", func := "corebell/corebelllaw.TtyTells", spec := "ttyTells", named := ["unicode/utf8.first", "unicode/utf8.acceptRanges"], apart := false, laid := [("unicode/utf8.acceptRanges", laid_unicode_utf8_acceptRanges), ("unicode/utf8.first", laid_unicode_utf8_first)], narrowed := true }
def TtyTellsUptoSaid : Prop := ttyTellsUptoRow.holds Tryd.pinned (OpenSpec.upto ttyTellsSpec)

/-- 'corebelllaw.TtyTypes', WHERE WHAT IT READS IS OF BULK AT MOST 1048576: true; the input reads as it did. -/
def ttyTypesUptoRow : OpenClaim := { program := "ytomgifdnnfbpnaadoor", sum := "b8cc3b6591ed3441bad933131a5cc5469c6f85ed6d25bdbd4d7e632e74c599b5", func := "corebell/corebelllaw.TtyTypes", spec := "ttyTypes", named := ["unicode/utf8.first", "unicode/utf8.acceptRanges"], apart := false, laid := [("unicode/utf8.acceptRanges", laid_unicode_utf8_acceptRanges), ("unicode/utf8.first", laid_unicode_utf8_first)], narrowed := true }
def TtyTypesUptoSaid : Prop := ttyTypesUptoRow.holds Tryd.pinned (OpenSpec.upto ttyTypesSpec)

/-- 'corebellkeep.TtyErase', WHERE WHAT IT READS IS OF BULK AT MOST 1048576: true; the input reads as it did. -/
def ttyEraseUptoRow : OpenClaim := { program := "ytomgifdnnfbpnaadoor", sum := "b8cc3b6591ed3441bad933131a5cc5469c6f85ed6d25bdbd4d7e632e74c599b5", func := "corebell/corebellkeep.TtyErase", spec := "ttyErase", unfollowed := true, recurses := true, named := ["unicode/utf8.first", "unicode/utf8.acceptRanges"], apart := false, laid := [("unicode/utf8.acceptRanges", laid_unicode_utf8_acceptRanges), ("unicode/utf8.first", laid_unicode_utf8_first)], narrowed := true }
def TtyEraseUptoSaid : Prop := ttyEraseUptoRow.holds Tryd.pinned (OpenSpec.upto ttyEraseSpec)

/-- 'corebellkeep.TtyPlain', WHERE WHAT IT READS IS OF BULK AT MOST 1048576: true; the input reads as it did. -/
def ttyPlainUptoRow : OpenClaim := { program := "ytomgifdnnfbpnaadoor", sum := "b8cc3b6591ed3441bad933131a5cc5469c6f85ed6d25bdbd4d7e632e74c599b5", func := "corebell/corebellkeep.TtyPlain", spec := "ttyPlain", unfollowed := true, recurses := true, named := ["unicode/utf8.first", "unicode/utf8.acceptRanges"], apart := false, laid := [("unicode/utf8.acceptRanges", laid_unicode_utf8_acceptRanges), ("unicode/utf8.first", laid_unicode_utf8_first)], narrowed := true }
def TtyPlainUptoSaid : Prop := ttyPlainUptoRow.holds Tryd.pinned (OpenSpec.upto ttyPlainSpec)

/-- 'corebellkeep.TtyWord', WHERE WHAT IT READS IS OF BULK AT MOST 1048576: true; the input reads as it did. -/
def ttyWordUptoRow : OpenClaim := { program := "ytomgifdnnfbpnaadoor", sum := "b8cc3b6591ed3441bad933131a5cc5469c6f85ed6d25bdbd4d7e632e74c599b5", func := "corebell/corebellkeep.TtyWord", spec := "ttyWord", unfollowed := true, recurses := true, named := ["unicode/utf8.first", "unicode/utf8.acceptRanges"], apart := false, laid := [("unicode/utf8.acceptRanges", laid_unicode_utf8_acceptRanges), ("unicode/utf8.first", laid_unicode_utf8_first)], narrowed := true }
def TtyWordUptoSaid : Prop := ttyWordUptoRow.holds Tryd.pinned (OpenSpec.upto ttyWordSpec)

/-- 'corebellkeep.TtyReads', WHERE WHAT IT READS IS OF BULK AT MOST 1048576: true; the input reads as it did. -/
def ttyReadsUptoRow : OpenClaim := { program := "ytomgifdnnfbpnaadoor", sum := "b8cc3b6591ed3441bad933131a5cc5469c6f85ed6d25bdbd4d7e632e74c599b5", func := "corebell/corebellkeep.TtyReads", spec := "ttyReads", named := ["unicode/utf8.first", "unicode/utf8.acceptRanges"], apart := false, laid := [("unicode/utf8.acceptRanges", laid_unicode_utf8_acceptRanges), ("unicode/utf8.first", laid_unicode_utf8_first)], narrowed := true }
def TtyReadsUptoSaid : Prop := ttyReadsUptoRow.holds Tryd.pinned (OpenSpec.upto ttyReadsSpec)

end Rows
end Go.Proofs.YtomgifdnnfbpnaaDoor
