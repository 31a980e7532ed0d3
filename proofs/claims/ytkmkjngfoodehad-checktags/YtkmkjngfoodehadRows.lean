/-
  No cell of these rows narrows 'for every input' (looked for: loops, veiled, ifaces, maps, wideKeys, modest, calm, conditions, laid).
  DERIVED. THE GIVEN ROWS OF THIS SEAT. 6 by the template 'for every input the law returns true; each argument reads behind the call as it read before'; 0 by the template 'total and deterministic' (their statements: YtkmkjngfoodehadTotals.lean).
  GIVEN WITH THE SEED: the statements are not yours to turn. If you find one false, say at which input.
  Laid BY PROGRAM, IN A SANDBOX (cutbox-rows.mjs): the forced cells as the released guide's own fill.sh prints them over the translation 363fdae395ee45de… (all of the seat's roots in one cut). By AI agents, Wed Nov 11 2026. No macro, syntax, notation, axiom, sorry.
-/
import Derived.Test.YtkmkjngfoodehadChecked
import GoSem.Claim
import GoSem.ClaimJoined
import GoSem.ClaimMapViews
import Derived.JoinedTies
import Derived.KernelRfl
namespace Go.Proofs.Ytkmkjngfoodehad
/- THE CELL 'sum', in the pinned program and in every row, IS THE sha256 OF THE DUMP (.gsa) THAT YtkmkjngfoodehadProg.lean LOADS. Nothing in Lean hashes anything: it is a label: what it is worth is what the hold of that sum in a sandbox is worth. -/
noncomputable def Try.pinned : Pinned := { name := "ytkmkjngfoodehad", sum := "363fdae395ee45de7d52f311ad712f75f7fd4c1056b5f46b6c6553beac393b32", checked := Try.checked }
namespace Rows
def none {H : Type} : Left H := { results := [], args := [] }

/-- 'framewardenkeep.TlbLast': WHATEVER THE INPUT: true; the input reads as it did. -/
def tlbLastSpec : ChangeSpec := { name := "tlbLast", fn := fun _ => fun
  | [d1, d2] => { results := [.lit (.bool true)], args := [d1, d2] }
  | _ => none }
def tlbLastRow : OpenClaim := { program := "ytkmkjngfoodehad", sum := "363fdae395ee45de7d52f311ad712f75f7fd4c1056b5f46b6c6553beac393b32", func := "framewarden/framewardenkeep.TlbLast", spec := "tlbLast", unfollowed := true, recurses := true, apart := false }
def TlbLastSaid : Prop := tlbLastRow.holds Try.pinned (OpenSpec.ofChange tlbLastSpec)

/-- ITS FALSE NEIGHBOUR: 'it returns false'. Refute it at one input. -/
def tlbLastWrong : ChangeSpec := { name := "tlbLast", fn := fun _ => fun
  | [d1, d2] => { results := [.lit (.bool false)], args := [d1, d2] }
  | _ => none }
def TlbLastWrongFalsely : Prop := tlbLastRow.holds Try.pinned (OpenSpec.ofChange tlbLastWrong)

/-- 'framewardenkeep.TlbOther': WHATEVER THE INPUT: true; the input reads as it did. -/
def tlbOtherSpec : ChangeSpec := { name := "tlbOther", fn := fun _ => fun
  | [d1, d2] => { results := [.lit (.bool true)], args := [d1, d2] }
  | _ => none }
def tlbOtherRow : OpenClaim := { program := "ytkmkjngfoodehad", sum := "363fdae395ee45de7d52f311ad712f75f7fd4c1056b5f46b6c6553beac393b32", func := "framewarden/framewardenkeep.TlbOther", spec := "tlbOther", unfollowed := true, recurses := true, apart := false }
def TlbOtherSaid : Prop := tlbOtherRow.holds Try.pinned (OpenSpec.ofChange tlbOtherSpec)

/-- ITS FALSE NEIGHBOUR: 'it returns false'. Refute it at one input. -/
def tlbOtherWrong : ChangeSpec := { name := "tlbOther", fn := fun _ => fun
  | [d1, d2] => { results := [.lit (.bool false)], args := [d1, d2] }
  | _ => none }
def TlbOtherWrongFalsely : Prop := tlbOtherRow.holds Try.pinned (OpenSpec.ofChange tlbOtherWrong)

/-- 'framewardenlaw.CheckTells': WHATEVER THE INPUT: true; the input reads as it did. -/
def checkTellsSpec : ChangeSpec := { name := "checkTells", fn := fun _ => fun
  | [d1, d2, d3, d4, d5] => { results := [.lit (.bool true)], args := [d1, d2, d3, d4, d5] }
  | _ => none }
def checkTellsRow : OpenClaim := { program := "ytkmkjngfoodehad", sum := "363fdae395ee45de7d52f311ad712f75f7fd4c1056b5f46b6c6553beac393b32", func := "framewarden/framewardenlaw.CheckTells", spec := "checkTells", apart := false }
def CheckTellsSaid : Prop := checkTellsRow.holds Try.pinned (OpenSpec.ofChange checkTellsSpec)

/-- ITS FALSE NEIGHBOUR: 'it returns false'. Refute it at one input. -/
def checkTellsWrong : ChangeSpec := { name := "checkTells", fn := fun _ => fun
  | [d1, d2, d3, d4, d5] => { results := [.lit (.bool false)], args := [d1, d2, d3, d4, d5] }
  | _ => none }
def CheckTellsWrongFalsely : Prop := checkTellsRow.holds Try.pinned (OpenSpec.ofChange checkTellsWrong)

/-- 'framewardenkeep.CheckMore': WHATEVER THE INPUT: true; the input reads as it did. -/
def checkMoreSpec : ChangeSpec := { name := "checkMore", fn := fun _ => fun
  | [d1, d2, d3, d4, d5] => { results := [.lit (.bool true)], args := [d1, d2, d3, d4, d5] }
  | _ => none }
def checkMoreRow : OpenClaim := { program := "ytkmkjngfoodehad", sum := "363fdae395ee45de7d52f311ad712f75f7fd4c1056b5f46b6c6553beac393b32", func := "framewarden/framewardenkeep.CheckMore", spec := "checkMore", apart := false }
def CheckMoreSaid : Prop := checkMoreRow.holds Try.pinned (OpenSpec.ofChange checkMoreSpec)

/-- ITS FALSE NEIGHBOUR: 'it returns false'. Refute it at one input. -/
def checkMoreWrong : ChangeSpec := { name := "checkMore", fn := fun _ => fun
  | [d1, d2, d3, d4, d5] => { results := [.lit (.bool false)], args := [d1, d2, d3, d4, d5] }
  | _ => none }
def CheckMoreWrongFalsely : Prop := checkMoreRow.holds Try.pinned (OpenSpec.ofChange checkMoreWrong)

/-- 'framewardenkeep.CheckWrite': WHATEVER THE INPUT: true; the input reads as it did. -/
def checkWriteSpec : ChangeSpec := { name := "checkWrite", fn := fun _ => fun
  | [d1, d2, d3] => { results := [.lit (.bool true)], args := [d1, d2, d3] }
  | _ => none }
def checkWriteRow : OpenClaim := { program := "ytkmkjngfoodehad", sum := "363fdae395ee45de7d52f311ad712f75f7fd4c1056b5f46b6c6553beac393b32", func := "framewarden/framewardenkeep.CheckWrite", spec := "checkWrite", apart := false }
def CheckWriteSaid : Prop := checkWriteRow.holds Try.pinned (OpenSpec.ofChange checkWriteSpec)

/-- ITS FALSE NEIGHBOUR: 'it returns false'. Refute it at one input. -/
def checkWriteWrong : ChangeSpec := { name := "checkWrite", fn := fun _ => fun
  | [d1, d2, d3] => { results := [.lit (.bool false)], args := [d1, d2, d3] }
  | _ => none }
def CheckWriteWrongFalsely : Prop := checkWriteRow.holds Try.pinned (OpenSpec.ofChange checkWriteWrong)

/-- 'framewardenkeep.CheckTags': WHATEVER THE INPUT: true; the input reads as it did. -/
def checkTagsSpec : ChangeSpec := { name := "checkTags", fn := fun _ => fun
  | [d1, d2, d3, d4] => { results := [.lit (.bool true)], args := [d1, d2, d3, d4] }
  | _ => none }
def checkTagsRow : OpenClaim := { program := "ytkmkjngfoodehad", sum := "363fdae395ee45de7d52f311ad712f75f7fd4c1056b5f46b6c6553beac393b32", func := "framewarden/framewardenkeep.CheckTags", spec := "checkTags", apart := false }
def CheckTagsSaid : Prop := checkTagsRow.holds Try.pinned (OpenSpec.ofChange checkTagsSpec)

/-- ITS FALSE NEIGHBOUR: 'it returns false'. Refute it at one input. -/
def checkTagsWrong : ChangeSpec := { name := "checkTags", fn := fun _ => fun
  | [d1, d2, d3, d4] => { results := [.lit (.bool false)], args := [d1, d2, d3, d4] }
  | _ => none }
def CheckTagsWrongFalsely : Prop := checkTagsRow.holds Try.pinned (OpenSpec.ofChange checkTagsWrong)

/- THE SECOND FORM. 'bulk': how many values and letters a reading holds, each counted each time it is reached (what is shared counts as often as it is met; a slice's spare places count too). A statement '..UptoSaid' is the law's where the arguments, and the package variables that the reading takes, are together of bulk at most 1048576: NARROWER than '..Said'. Prove '..Said' where nothing that the law and all that it calls make is longer than what came in: it says more and counts as full. Else prove '..UptoSaid'. A law counts once. -/
mutual
def uptoBulk {H : Type} : DataW H → Nat
  | .lit (.string bytes) => bytes.length + 1
  | .lit _ => 1
  | .nil => 1
  | .ptr d => uptoBulk d + 1
  | .slice elems spare => uptoBulkAll elems + uptoBulkAll spare + 1
  | .agg parts => uptoBulkAll parts + 1
  | .iface _ d => uptoBulk d + 1
  | .map entries => uptoBulkEntries entries + 1
  | .held _ => 1
def uptoBulkAll {H : Type} : List (DataW H) → Nat
  | [] => 0
  | d :: r => uptoBulk d + uptoBulkAll r
def uptoBulkEntries {H : Type} : List (Lit × DataW H) → Nat
  | [] => 0
  | x :: r => uptoBulkEntry x + uptoBulkEntries r
def uptoBulkEntry {H : Type} : Lit × DataW H → Nat
  | (.string bytes, d) => bytes.length + uptoBulk d + 1
  | (_, d) => uptoBulk d + 1
 end
def uptoSmall : (H : Type) → List (DataW H) → Bool := fun _ ds => decide (uptoBulkAll ds ≤ 1048576)
def OpenSpec.upto (s : _root_.Go.ChangeSpec) : _root_.Go.OpenSpec := { _root_.Go.OpenSpec.ofChange s with cond := some uptoSmall }

/-- 'framewardenkeep.TlbLast', WHERE WHAT IT READS IS OF BULK AT MOST 1048576: true; the input reads as it did. -/
def tlbLastUptoRow : OpenClaim := { program := "ytkmkjngfoodehad", sum := "363fdae395ee45de7d52f311ad712f75f7fd4c1056b5f46b6c6553beac393b32", func := "framewarden/framewardenkeep.TlbLast", spec := "tlbLast", unfollowed := true, recurses := true, apart := false, narrowed := true }
def TlbLastUptoSaid : Prop := tlbLastUptoRow.holds Try.pinned (OpenSpec.upto tlbLastSpec)

/-- 'framewardenkeep.TlbOther', WHERE WHAT IT READS IS OF BULK AT MOST 1048576: true; the input reads as it did. -/
def tlbOtherUptoRow : OpenClaim := { program := "ytkmkjngfoodehad", sum := "363fdae395ee45de7d52f311ad712f75f7fd4c1056b5f46b6c6553beac393b32", func := "framewarden/framewardenkeep.TlbOther", spec := "tlbOther", unfollowed := true, recurses := true, apart := false, narrowed := true }
def TlbOtherUptoSaid : Prop := tlbOtherUptoRow.holds Try.pinned (OpenSpec.upto tlbOtherSpec)

/-- 'framewardenlaw.CheckTells', WHERE WHAT IT READS IS OF BULK AT MOST 1048576: true; the input reads as it did. -/
def checkTellsUptoRow : OpenClaim := { program := "ytkmkjngfoodehad", sum := "363fdae395ee45de7d52f311ad712f75f7fd4c1056b5f46b6c6553beac393b32", func := "framewarden/framewardenlaw.CheckTells", spec := "checkTells", apart := false, narrowed := true }
def CheckTellsUptoSaid : Prop := checkTellsUptoRow.holds Try.pinned (OpenSpec.upto checkTellsSpec)

/-- 'framewardenkeep.CheckMore', WHERE WHAT IT READS IS OF BULK AT MOST 1048576: true; the input reads as it did. -/
def checkMoreUptoRow : OpenClaim := { program := "ytkmkjngfoodehad", sum := "363fdae395ee45de7d52f311ad712f75f7fd4c1056b5f46b6c6553beac393b32", func := "framewarden/framewardenkeep.CheckMore", spec := "checkMore", apart := false, narrowed := true }
def CheckMoreUptoSaid : Prop := checkMoreUptoRow.holds Try.pinned (OpenSpec.upto checkMoreSpec)

/-- 'framewardenkeep.CheckWrite', WHERE WHAT IT READS IS OF BULK AT MOST 1048576: true; the input reads as it did. -/
def checkWriteUptoRow : OpenClaim := { program := "ytkmkjngfoodehad", sum := "363fdae395ee45de7d52f311ad712f75f7fd4c1056b5f46b6c6553beac393b32", func := "framewarden/framewardenkeep.CheckWrite", spec := "checkWrite", apart := false, narrowed := true }
def CheckWriteUptoSaid : Prop := checkWriteUptoRow.holds Try.pinned (OpenSpec.upto checkWriteSpec)

/-- 'framewardenkeep.CheckTags', WHERE WHAT IT READS IS OF BULK AT MOST 1048576: true; the input reads as it did. -/
def checkTagsUptoRow : OpenClaim := { program := "ytkmkjngfoodehad", sum := "363fdae395ee45de7d52f311ad712f75f7fd4c1056b5f46b6c6553beac393b32", func := "framewarden/framewardenkeep.CheckTags", spec := "checkTags", apart := false, narrowed := true }
def CheckTagsUptoSaid : Prop := checkTagsUptoRow.holds Try.pinned (OpenSpec.upto checkTagsSpec)

end Rows
end Go.Proofs.Ytkmkjngfoodehad
