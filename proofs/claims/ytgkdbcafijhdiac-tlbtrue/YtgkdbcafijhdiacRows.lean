/-
  No cell of these rows narrows 'for every input' (looked for: loops, veiled, ifaces, maps, wideKeys, modest, calm, conditions, laid).
  DERIVED. THE GIVEN ROWS OF THIS SEAT. 6 by the template 'for every input the law returns true; each argument reads behind the call as it read before'; 0 by the template 'total and deterministic' (their statements: YtgkdbcafijhdiacTotals.lean).
  GIVEN WITH THE SEED: the statements are not yours to turn. If you find one false, say at which input.
  Laid BY PROGRAM, IN A SANDBOX (cutbox-rows.mjs): the forced cells as the released guide's own fill.sh prints them over the translation 47412f4ab629fae2… (all of the seat's roots in one cut). By AI agents, Wed Nov 11 2026. No macro, syntax, notation, axiom, sorry.
-/
import Derived.Test.YtgkdbcafijhdiacChecked
import GoSem.Claim
import GoSem.ClaimJoined
import GoSem.ClaimMapViews
import Derived.JoinedTies
import Derived.KernelRfl
namespace Go.Proofs.Ytgkdbcafijhdiac
/- THE CELL 'sum', in the pinned program and in every row, IS THE sha256 OF THE DUMP (.gsa) THAT YtgkdbcafijhdiacProg.lean LOADS. Nothing in Lean hashes anything: it is a label: what it is worth is what the hold of that sum in a sandbox is worth. -/
noncomputable def Try.pinned : Pinned := { name := "ytgkdbcafijhdiac", sum := "47412f4ab629fae283f51952d4c691d966813c29422d3c9b4e13a74d4d42578a", checked := Try.checked }
namespace Rows
def none {H : Type} : Left H := { results := [], args := [] }

/-- 'framewardenlaw.TableReads': WHATEVER THE INPUT: true; the input reads as it did. -/
def tableReadsSpec : ChangeSpec := { name := "tableReads", fn := fun _ => fun
  | [d1, d2, d3] => { results := [.lit (.bool true)], args := [d1, d2, d3] }
  | _ => none }
def tableReadsRow : OpenClaim := { program := "ytgkdbcafijhdiac", sum := "47412f4ab629fae283f51952d4c691d966813c29422d3c9b4e13a74d4d42578a", func := "framewarden/framewardenlaw.TableReads", spec := "tableReads", apart := false }
def TableReadsSaid : Prop := tableReadsRow.holds Try.pinned (OpenSpec.ofChange tableReadsSpec)

/-- ITS FALSE NEIGHBOUR: 'it returns false'. Refute it at one input. -/
def tableReadsWrong : ChangeSpec := { name := "tableReads", fn := fun _ => fun
  | [d1, d2, d3] => { results := [.lit (.bool false)], args := [d1, d2, d3] }
  | _ => none }
def TableReadsWrongFalsely : Prop := tableReadsRow.holds Try.pinned (OpenSpec.ofChange tableReadsWrong)

/-- 'framewardenlaw.TableWrites': WHATEVER THE INPUT: true; the input reads as it did. -/
def tableWritesSpec : ChangeSpec := { name := "tableWrites", fn := fun _ => fun
  | [d1, d2, d3, d4, d5] => { results := [.lit (.bool true)], args := [d1, d2, d3, d4, d5] }
  | _ => none }
def tableWritesRow : OpenClaim := { program := "ytgkdbcafijhdiac", sum := "47412f4ab629fae283f51952d4c691d966813c29422d3c9b4e13a74d4d42578a", func := "framewarden/framewardenlaw.TableWrites", spec := "tableWrites", apart := false }
def TableWritesSaid : Prop := tableWritesRow.holds Try.pinned (OpenSpec.ofChange tableWritesSpec)

/-- ITS FALSE NEIGHBOUR: 'it returns false'. Refute it at one input. -/
def tableWritesWrong : ChangeSpec := { name := "tableWrites", fn := fun _ => fun
  | [d1, d2, d3, d4, d5] => { results := [.lit (.bool false)], args := [d1, d2, d3, d4, d5] }
  | _ => none }
def TableWritesWrongFalsely : Prop := tableWritesRow.holds Try.pinned (OpenSpec.ofChange tableWritesWrong)

/-- 'framewardenkeep.TableBack': WHATEVER THE INPUT: true; the input reads as it did. -/
def tableBackSpec : ChangeSpec := { name := "tableBack", fn := fun _ => fun
  | [d1, d2, d3, d4, d5] => { results := [.lit (.bool true)], args := [d1, d2, d3, d4, d5] }
  | _ => none }
def tableBackRow : OpenClaim := { program := "ytgkdbcafijhdiac", sum := "47412f4ab629fae283f51952d4c691d966813c29422d3c9b4e13a74d4d42578a", func := "framewarden/framewardenkeep.TableBack", spec := "tableBack", apart := false }
def TableBackSaid : Prop := tableBackRow.holds Try.pinned (OpenSpec.ofChange tableBackSpec)

/-- ITS FALSE NEIGHBOUR: 'it returns false'. Refute it at one input. -/
def tableBackWrong : ChangeSpec := { name := "tableBack", fn := fun _ => fun
  | [d1, d2, d3, d4, d5] => { results := [.lit (.bool false)], args := [d1, d2, d3, d4, d5] }
  | _ => none }
def TableBackWrongFalsely : Prop := tableBackRow.holds Try.pinned (OpenSpec.ofChange tableBackWrong)

/-- 'framewardenkeep.TableLink': WHATEVER THE INPUT: true; the input reads as it did. -/
def tableLinkSpec : ChangeSpec := { name := "tableLink", fn := fun _ => fun
  | [d1, d2, d3, d4, d5] => { results := [.lit (.bool true)], args := [d1, d2, d3, d4, d5] }
  | _ => none }
def tableLinkRow : OpenClaim := { program := "ytgkdbcafijhdiac", sum := "47412f4ab629fae283f51952d4c691d966813c29422d3c9b4e13a74d4d42578a", func := "framewarden/framewardenkeep.TableLink", spec := "tableLink", apart := false }
def TableLinkSaid : Prop := tableLinkRow.holds Try.pinned (OpenSpec.ofChange tableLinkSpec)

/-- ITS FALSE NEIGHBOUR: 'it returns false'. Refute it at one input. -/
def tableLinkWrong : ChangeSpec := { name := "tableLink", fn := fun _ => fun
  | [d1, d2, d3, d4, d5] => { results := [.lit (.bool false)], args := [d1, d2, d3, d4, d5] }
  | _ => none }
def TableLinkWrongFalsely : Prop := tableLinkRow.holds Try.pinned (OpenSpec.ofChange tableLinkWrong)

/-- 'framewardenlaw.TlbPlays': WHATEVER THE INPUT: true; the input reads as it did. -/
def tlbPlaysSpec : ChangeSpec := { name := "tlbPlays", fn := fun _ => fun
  | [d] => { results := [.lit (.bool true)], args := [d] }
  | _ => none }
def tlbPlaysRow : OpenClaim := { program := "ytgkdbcafijhdiac", sum := "47412f4ab629fae283f51952d4c691d966813c29422d3c9b4e13a74d4d42578a", func := "framewarden/framewardenlaw.TlbPlays", spec := "tlbPlays", apart := false }
def TlbPlaysSaid : Prop := tlbPlaysRow.holds Try.pinned (OpenSpec.ofChange tlbPlaysSpec)

/-- ITS FALSE NEIGHBOUR: 'it returns false'. Refute it at one input. -/
def tlbPlaysWrong : ChangeSpec := { name := "tlbPlays", fn := fun _ => fun
  | [d] => { results := [.lit (.bool false)], args := [d] }
  | _ => none }
def TlbPlaysWrongFalsely : Prop := tlbPlaysRow.holds Try.pinned (OpenSpec.ofChange tlbPlaysWrong)

/-- 'framewardenkeep.TlbTrue': WHATEVER THE INPUT: true; the input reads as it did. -/
def tlbTrueSpec : ChangeSpec := { name := "tlbTrue", fn := fun _ => fun
  | [d] => { results := [.lit (.bool true)], args := [d] }
  | _ => none }
def tlbTrueRow : OpenClaim := { program := "ytgkdbcafijhdiac", sum := "47412f4ab629fae283f51952d4c691d966813c29422d3c9b4e13a74d4d42578a", func := "framewarden/framewardenkeep.TlbTrue", spec := "tlbTrue", unfollowed := true, recurses := true, apart := false }
def TlbTrueSaid : Prop := tlbTrueRow.holds Try.pinned (OpenSpec.ofChange tlbTrueSpec)

/-- ITS FALSE NEIGHBOUR: 'it returns false'. Refute it at one input. -/
def tlbTrueWrong : ChangeSpec := { name := "tlbTrue", fn := fun _ => fun
  | [d] => { results := [.lit (.bool false)], args := [d] }
  | _ => none }
def TlbTrueWrongFalsely : Prop := tlbTrueRow.holds Try.pinned (OpenSpec.ofChange tlbTrueWrong)

/- THE SECOND FORM. 'bulk': how many values and letters a reading holds, each counted each time it is reached (what is shared counts as often as it is met; a slice's spare places count too). A statement '..UptoSaid' is the law's where the arguments, and the package variables that the reading takes, are together of bulk at most 1048576: NARROWER than '..Said'. Prove '..Said' where nothing that the law and all that it calls make is longer than what came in: it says more and counts as full. Else prove '..UptoSaid'. A law counts once. -/
mutual
def uptoBulk {H : Type} : DataW H → Nat
  | .lit (.string bytes) => bytes.length + 1
  | .lit _ => 1
  | .nil => 1
  | .ptr d => uptoBulk d + 1
  | .slice elems spare => uptoBulkAll elems + uptoBulkAll spare + 1
  | .agg parts => uptoBulkAll parts + 1
  | .iface _ d => uptoBulk d + 1
  | .map entries => uptoBulkEntries entries + 1
  | .held _ => 1
def uptoBulkAll {H : Type} : List (DataW H) → Nat
  | [] => 0
  | d :: r => uptoBulk d + uptoBulkAll r
def uptoBulkEntries {H : Type} : List (Lit × DataW H) → Nat
  | [] => 0
  | x :: r => uptoBulkEntry x + uptoBulkEntries r
def uptoBulkEntry {H : Type} : Lit × DataW H → Nat
  | (.string bytes, d) => bytes.length + uptoBulk d + 1
  | (_, d) => uptoBulk d + 1
 end
def uptoSmall : (H : Type) → List (DataW H) → Bool := fun _ ds => decide (uptoBulkAll ds ≤ 1048576)
def OpenSpec.upto (s : _root_.Go.ChangeSpec) : _root_.Go.OpenSpec := { _root_.Go.OpenSpec.ofChange s with cond := some uptoSmall }

/-- 'framewardenlaw.TableReads', WHERE WHAT IT READS IS OF BULK AT MOST 1048576: true; the input reads as it did. -/
def tableReadsUptoRow : OpenClaim := { program := "ytgkdbcafijhdiac", sum := "47412f4ab629fae283f51952d4c691d966813c29422d3c9b4e13a74d4d42578a", func := "framewarden/framewardenlaw.TableReads", spec := "tableReads", apart := false, narrowed := true }
def TableReadsUptoSaid : Prop := tableReadsUptoRow.holds Try.pinned (OpenSpec.upto tableReadsSpec)

/-- 'framewardenlaw.TableWrites', WHERE WHAT IT READS IS OF BULK AT MOST 1048576: true; the input reads as it did. -/
def tableWritesUptoRow : OpenClaim := { program := "ytgkdbcafijhdiac", sum := "47412f4ab629fae283f51952d4c691d966813c29422d3c9b4e13a74d4d42578a", func := "framewarden/framewardenlaw.TableWrites", spec := "tableWrites", apart := false, narrowed := true }
def TableWritesUptoSaid : Prop := tableWritesUptoRow.holds Try.pinned (OpenSpec.upto tableWritesSpec)

/-- 'framewardenkeep.TableBack', WHERE WHAT IT READS IS OF BULK AT MOST 1048576: true; the input reads as it did. -/
def tableBackUptoRow : OpenClaim := { program := "ytgkdbcafijhdiac", sum := "47412f4ab629fae283f51952d4c691d966813c29422d3c9b4e13a74d4d42578a", func := "framewarden/framewardenkeep.TableBack", spec := "tableBack", apart := false, narrowed := true }
def TableBackUptoSaid : Prop := tableBackUptoRow.holds Try.pinned (OpenSpec.upto tableBackSpec)

/-- 'framewardenkeep.TableLink', WHERE WHAT IT READS IS OF BULK AT MOST 1048576: true; the input reads as it did. -/
def tableLinkUptoRow : OpenClaim := { program := "ytgkdbcafijhdiac", sum := "47412f4ab629fae283f51952d4c691d966813c29422d3c9b4e13a74d4d42578a", func := "framewarden/framewardenkeep.TableLink", spec := "tableLink", apart := false, narrowed := true }
def TableLinkUptoSaid : Prop := tableLinkUptoRow.holds Try.pinned (OpenSpec.upto tableLinkSpec)

/-- 'framewardenlaw.TlbPlays', WHERE WHAT IT READS IS OF BULK AT MOST 1048576: true; the input reads as it did. -/
def tlbPlaysUptoRow : OpenClaim := { program := "ytgkdbcafijhdiac", sum := "47412f4ab629fae283f51952d4c691d966813c29422d3c9b4e13a74d4d42578a", func := "framewarden/framewardenlaw.TlbPlays", spec := "tlbPlays", apart := false, narrowed := true }
def TlbPlaysUptoSaid : Prop := tlbPlaysUptoRow.holds Try.pinned (OpenSpec.upto tlbPlaysSpec)

/-- 'framewardenkeep.TlbTrue', WHERE WHAT IT READS IS OF BULK AT MOST 1048576: true; the input reads as it did. -/
def tlbTrueUptoRow : OpenClaim := { program := "ytgkdbcafijhdiac", sum := "47412f4ab629fae283f51952d4c691d966813c29422d3c9b4e13a74d4d42578a", func := "framewarden/framewardenkeep.TlbTrue", spec := "tlbTrue", unfollowed := true, recurses := true, apart := false, narrowed := true }
def TlbTrueUptoSaid : Prop := tlbTrueUptoRow.holds Try.pinned (OpenSpec.upto tlbTrueSpec)

end Rows
end Go.Proofs.Ytgkdbcafijhdiac
