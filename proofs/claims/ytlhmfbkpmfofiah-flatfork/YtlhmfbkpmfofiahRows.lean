/-
  No cell of these rows narrows 'for every input' (looked for: loops, veiled, ifaces, maps, wideKeys, modest, calm, conditions, laid).
  DERIVED. THE GIVEN ROWS OF THIS SEAT. 6 by the template 'for every input the law returns true; each argument reads behind the call as it read before'; 0 by the template 'total and deterministic' (their statements: YtlhmfbkpmfofiahTotals.lean).
  GIVEN WITH THE SEED: the statements are not yours to turn. If you find one false, say at which input.
  Laid BY PROGRAM, IN A SANDBOX (cutbox-rows.mjs): the forced cells as the released guide's own fill.sh prints them over the translation 941ddb990b311c77… (all of the seat's roots in one cut). By AI agents, Wed Nov 11 2026. No macro, syntax, notation, axiom, sorry.
-/
import Derived.Test.YtlhmfbkpmfofiahChecked
import GoSem.Claim
import GoSem.ClaimJoined
import GoSem.ClaimMapViews
import Derived.JoinedTies
import Derived.KernelRfl
namespace Go.Proofs.Ytlhmfbkpmfofiah
/- THE CELL 'sum', in the pinned program and in every row, IS THE sha256 OF THE DUMP (.gsa) THAT YtlhmfbkpmfofiahProg.lean LOADS. Nothing in Lean hashes anything: it is a label: what it is worth is what the hold of that sum in a sandbox is worth. -/
noncomputable def Try.pinned : Pinned := { name := "ytlhmfbkpmfofiah", sum := "941ddb990b311c77bcd4eeab1ced64362721fd7f9f224aa58fe0646c99c1c153", checked := Try.checked }
namespace Rows
def none {H : Type} : Left H := { results := [], args := [] }

/-- 'framewardenlaw.PoolTells': WHATEVER THE INPUT: true; the input reads as it did. -/
def poolTellsSpec : ChangeSpec := { name := "poolTells", fn := fun _ => fun
  | [d1, d2] => { results := [.lit (.bool true)], args := [d1, d2] }
  | _ => none }
def poolTellsRow : OpenClaim := { program := "ytlhmfbkpmfofiah", sum := "941ddb990b311c77bcd4eeab1ced64362721fd7f9f224aa58fe0646c99c1c153", func := "framewarden/framewardenlaw.PoolTells", spec := "poolTells", inPlace := ["slices.overlaps[framewarden/api.Block]"], apart := false }
def PoolTellsSaid : Prop := poolTellsRow.holds Try.pinned (OpenSpec.ofChange poolTellsSpec)

/-- ITS FALSE NEIGHBOUR: 'it returns false'. Refute it at one input. -/
def poolTellsWrong : ChangeSpec := { name := "poolTells", fn := fun _ => fun
  | [d1, d2] => { results := [.lit (.bool false)], args := [d1, d2] }
  | _ => none }
def PoolTellsWrongFalsely : Prop := poolTellsRow.holds Try.pinned (OpenSpec.ofChange poolTellsWrong)

/-- 'framewardenkeep.PoolBack': WHATEVER THE INPUT: true; the input reads as it did. -/
def poolBackSpec : ChangeSpec := { name := "poolBack", fn := fun _ => fun
  | [d] => { results := [.lit (.bool true)], args := [d] }
  | _ => none }
def poolBackRow : OpenClaim := { program := "ytlhmfbkpmfofiah", sum := "941ddb990b311c77bcd4eeab1ced64362721fd7f9f224aa58fe0646c99c1c153", func := "framewarden/framewardenkeep.PoolBack", spec := "poolBack", inPlace := ["slices.overlaps[framewarden/api.Block]"], apart := false }
def PoolBackSaid : Prop := poolBackRow.holds Try.pinned (OpenSpec.ofChange poolBackSpec)

/-- ITS FALSE NEIGHBOUR: 'it returns false'. Refute it at one input. -/
def poolBackWrong : ChangeSpec := { name := "poolBack", fn := fun _ => fun
  | [d] => { results := [.lit (.bool false)], args := [d] }
  | _ => none }
def PoolBackWrongFalsely : Prop := poolBackRow.holds Try.pinned (OpenSpec.ofChange poolBackWrong)

/-- 'framewardenkeep.PoolAll': WHATEVER THE INPUT: true; the input reads as it did. -/
def poolAllSpec : ChangeSpec := { name := "poolAll", fn := fun _ => fun
  | [d] => { results := [.lit (.bool true)], args := [d] }
  | _ => none }
def poolAllRow : OpenClaim := { program := "ytlhmfbkpmfofiah", sum := "941ddb990b311c77bcd4eeab1ced64362721fd7f9f224aa58fe0646c99c1c153", func := "framewarden/framewardenkeep.PoolAll", spec := "poolAll", inPlace := ["slices.overlaps[framewarden/api.Block]"], apart := false }
def PoolAllSaid : Prop := poolAllRow.holds Try.pinned (OpenSpec.ofChange poolAllSpec)

/-- ITS FALSE NEIGHBOUR: 'it returns false'. Refute it at one input. -/
def poolAllWrong : ChangeSpec := { name := "poolAll", fn := fun _ => fun
  | [d] => { results := [.lit (.bool false)], args := [d] }
  | _ => none }
def PoolAllWrongFalsely : Prop := poolAllRow.holds Try.pinned (OpenSpec.ofChange poolAllWrong)

/-- 'framewardenlaw.FlatRuns': WHATEVER THE INPUT: true; the input reads as it did. -/
def flatRunsSpec : ChangeSpec := { name := "flatRuns", fn := fun _ => fun
  | [d] => { results := [.lit (.bool true)], args := [d] }
  | _ => none }
def flatRunsRow : OpenClaim := { program := "ytlhmfbkpmfofiah", sum := "941ddb990b311c77bcd4eeab1ced64362721fd7f9f224aa58fe0646c99c1c153", func := "framewarden/framewardenlaw.FlatRuns", spec := "flatRuns", unfollowed := true, recurses := true, apart := false }
def FlatRunsSaid : Prop := flatRunsRow.holds Try.pinned (OpenSpec.ofChange flatRunsSpec)

/-- ITS FALSE NEIGHBOUR: 'it returns false'. Refute it at one input. -/
def flatRunsWrong : ChangeSpec := { name := "flatRuns", fn := fun _ => fun
  | [d] => { results := [.lit (.bool false)], args := [d] }
  | _ => none }
def FlatRunsWrongFalsely : Prop := flatRunsRow.holds Try.pinned (OpenSpec.ofChange flatRunsWrong)

/-- 'framewardenkeep.FlatApart': WHATEVER THE INPUT: true; the input reads as it did. -/
def flatApartSpec : ChangeSpec := { name := "flatApart", fn := fun _ => fun
  | [d1, d2] => { results := [.lit (.bool true)], args := [d1, d2] }
  | _ => none }
def flatApartRow : OpenClaim := { program := "ytlhmfbkpmfofiah", sum := "941ddb990b311c77bcd4eeab1ced64362721fd7f9f224aa58fe0646c99c1c153", func := "framewarden/framewardenkeep.FlatApart", spec := "flatApart", unfollowed := true, recurses := true, apart := false }
def FlatApartSaid : Prop := flatApartRow.holds Try.pinned (OpenSpec.ofChange flatApartSpec)

/-- ITS FALSE NEIGHBOUR: 'it returns false'. Refute it at one input. -/
def flatApartWrong : ChangeSpec := { name := "flatApart", fn := fun _ => fun
  | [d1, d2] => { results := [.lit (.bool false)], args := [d1, d2] }
  | _ => none }
def FlatApartWrongFalsely : Prop := flatApartRow.holds Try.pinned (OpenSpec.ofChange flatApartWrong)

/-- 'framewardenkeep.FlatFork': WHATEVER THE INPUT: true; the input reads as it did. -/
def flatForkSpec : ChangeSpec := { name := "flatFork", fn := fun _ => fun
  | [d1, d2] => { results := [.lit (.bool true)], args := [d1, d2] }
  | _ => none }
def flatForkRow : OpenClaim := { program := "ytlhmfbkpmfofiah", sum := "941ddb990b311c77bcd4eeab1ced64362721fd7f9f224aa58fe0646c99c1c153", func := "framewarden/framewardenkeep.FlatFork", spec := "flatFork", unfollowed := true, recurses := true, apart := false }
def FlatForkSaid : Prop := flatForkRow.holds Try.pinned (OpenSpec.ofChange flatForkSpec)

/-- ITS FALSE NEIGHBOUR: 'it returns false'. Refute it at one input. -/
def flatForkWrong : ChangeSpec := { name := "flatFork", fn := fun _ => fun
  | [d1, d2] => { results := [.lit (.bool false)], args := [d1, d2] }
  | _ => none }
def FlatForkWrongFalsely : Prop := flatForkRow.holds Try.pinned (OpenSpec.ofChange flatForkWrong)

/- THE SECOND FORM. 'bulk': how many values and letters a reading holds, each counted each time it is reached (what is shared counts as often as it is met; a slice's spare places count too). A statement '..UptoSaid' is the law's where the arguments, and the package variables that the reading takes, are together of bulk at most 1048576: NARROWER than '..Said'. Prove '..Said' where nothing that the law and all that it calls make is longer than what came in: it says more and counts as full. Else prove '..UptoSaid'. A law counts once. -/
mutual
def uptoBulk {H : Type} : DataW H → Nat
  | .lit (.string bytes) => bytes.length + 1
  | .lit _ => 1
  | .nil => 1
  | .ptr d => uptoBulk d + 1
  | .slice elems spare => uptoBulkAll elems + uptoBulkAll spare + 1
  | .agg parts => uptoBulkAll parts + 1
  | .iface _ d => uptoBulk d + 1
  | .map entries => uptoBulkEntries entries + 1
  | .held _ => 1
def uptoBulkAll {H : Type} : List (DataW H) → Nat
  | [] => 0
  | d :: r => uptoBulk d + uptoBulkAll r
def uptoBulkEntries {H : Type} : List (Lit × DataW H) → Nat
  | [] => 0
  | x :: r => uptoBulkEntry x + uptoBulkEntries r
def uptoBulkEntry {H : Type} : Lit × DataW H → Nat
  | (.string bytes, d) => bytes.length + uptoBulk d + 1
  | (_, d) => uptoBulk d + 1
 end
def uptoSmall : (H : Type) → List (DataW H) → Bool := fun _ ds => decide (uptoBulkAll ds ≤ 1048576)
def OpenSpec.upto (s : _root_.Go.ChangeSpec) : _root_.Go.OpenSpec := { _root_.Go.OpenSpec.ofChange s with cond := some uptoSmall }

/-- 'framewardenlaw.PoolTells', WHERE WHAT IT READS IS OF BULK AT MOST 1048576: true; the input reads as it did. -/
def poolTellsUptoRow : OpenClaim := { program := "ytlhmfbkpmfofiah", sum := "941ddb990b311c77bcd4eeab1ced64362721fd7f9f224aa58fe0646c99c1c153", func := "framewarden/framewardenlaw.PoolTells", spec := "poolTells", inPlace := ["slices.overlaps[framewarden/api.Block]"], apart := false, narrowed := true }
def PoolTellsUptoSaid : Prop := poolTellsUptoRow.holds Try.pinned (OpenSpec.upto poolTellsSpec)

/-- 'framewardenkeep.PoolBack', WHERE WHAT IT READS IS OF BULK AT MOST 1048576: true; the input reads as it did. -/
def poolBackUptoRow : OpenClaim := { program := "ytlhmfbkpmfofiah", sum := "941ddb990b311c77bcd4eeab1ced64362721fd7f9f224aa58fe0646c99c1c153", func := "framewarden/framewardenkeep.PoolBack", spec := "poolBack", inPlace := ["slices.overlaps[framewarden/api.Block]"], apart := false, narrowed := true }
def PoolBackUptoSaid : Prop := poolBackUptoRow.holds Try.pinned (OpenSpec.upto poolBackSpec)

/-- 'framewardenkeep.PoolAll', WHERE WHAT IT READS IS OF BULK AT MOST 1048576: true; the input reads as it did. -/
def poolAllUptoRow : OpenClaim := { program := "ytlhmfbkpmfofiah", sum := "941ddb990b311c77bcd4eeab1ced64362721fd7f9f224aa58fe0646c99c1c153", func := "framewarden/framewardenkeep.PoolAll", spec := "poolAll", inPlace := ["slices.overlaps[framewarden/api.Block]"], apart := false, narrowed := true }
def PoolAllUptoSaid : Prop := poolAllUptoRow.holds Try.pinned (OpenSpec.upto poolAllSpec)

/-- 'framewardenlaw.FlatRuns', WHERE WHAT IT READS IS OF BULK AT MOST 1048576: true; the input reads as it did. -/
def flatRunsUptoRow : OpenClaim := { program := "ytlhmfbkpmfofiah", sum := "941ddb990b311c77bcd4eeab1ced64362721fd7f9f224aa58fe0646c99c1c153", func := "framewarden/framewardenlaw.FlatRuns", spec := "flatRuns", unfollowed := true, recurses := true, apart := false, narrowed := true }
def FlatRunsUptoSaid : Prop := flatRunsUptoRow.holds Try.pinned (OpenSpec.upto flatRunsSpec)

/-- 'framewardenkeep.FlatApart', WHERE WHAT IT READS IS OF BULK AT MOST 1048576: true; the input reads as it did. -/
def flatApartUptoRow : OpenClaim := { program := "ytlhmfbkpmfofiah", sum := "941ddb990b311c77bcd4eeab1ced64362721fd7f9f224aa58fe0646c99c1c153", func := "framewarden/framewardenkeep.FlatApart", spec := "flatApart", unfollowed := true, recurses := true, apart := false, narrowed := true }
def FlatApartUptoSaid : Prop := flatApartUptoRow.holds Try.pinned (OpenSpec.upto flatApartSpec)

/-- 'framewardenkeep.FlatFork', WHERE WHAT IT READS IS OF BULK AT MOST 1048576: true; the input reads as it did. -/
def flatForkUptoRow : OpenClaim := { program := "ytlhmfbkpmfofiah", sum := "941ddb990b311c77bcd4eeab1ced64362721fd7f9f224aa58fe0646c99c1c153", func := "framewarden/framewardenkeep.FlatFork", spec := "flatFork", unfollowed := true, recurses := true, apart := false, narrowed := true }
def FlatForkUptoSaid : Prop := flatForkUptoRow.holds Try.pinned (OpenSpec.upto flatForkSpec)

end Rows
end Go.Proofs.Ytlhmfbkpmfofiah
