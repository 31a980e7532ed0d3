/-
  No cell of these rows narrows 'for every input' (looked for: loops, veiled, ifaces, maps, wideKeys, modest, calm, conditions, laid).
  DERIVED. THE GIVEN ROWS OF THIS SEAT. 3 by the template 'for every input the law returns true; each argument reads behind the call as it read before'; 0 by the template 'total and deterministic' (their statements: YtgjkijakknfkcaaTotals.lean).
  GIVEN WITH THE SEED: the statements are not yours to turn. If you find one false, say at which input.
  Laid BY PROGRAM, IN A SANDBOX (cutbox-rows.mjs): the forced cells as the released guide's own fill.sh prints them over the translation c827e8a3eee60d2a… (all of the seat's roots in one cut). By AI agents, Wed Nov 11 2026. No macro, syntax, notation, axiom, sorry.
-/
import Derived.Test.YtgjkijakknfkcaaChecked
import GoSem.Claim
import GoSem.ClaimJoined
import GoSem.ClaimMapViews
import Derived.JoinedTies
import Derived.KernelRfl
namespace Go.Proofs.Ytgjkijakknfkcaa
/- THE CELL 'sum', in the pinned program and in every row, IS THE sha256 OF THE DUMP (.gsa) THAT YtgjkijakknfkcaaProg.lean LOADS. Nothing in Lean hashes anything: it is a label: what it is worth is what the hold of that sum in a sandbox is worth. -/
noncomputable def Try.pinned : Pinned := { name := "ytgjkijakknfkcaa", sum := "c827e8a3eee60d2a0e12effe2a40a59b291e8271c784759857c4b59c33f44b99", checked := Try.checked }
namespace Rows
def none {H : Type} : Left H := { results := [], args := [] }

/-- 'framewardenlaw.RamTells': WHATEVER THE INPUT: true; the input reads as it did. -/
def ramTellsSpec : ChangeSpec := { name := "ramTells", fn := fun _ => fun
  | [d1, d2, d3, d4] => { results := [.lit (.bool true)], args := [d1, d2, d3, d4] }
  | _ => none }
def ramTellsRow : OpenClaim := { program := "ytgjkijakknfkcaa", sum := "c827e8a3eee60d2a0e12effe2a40a59b291e8271c784759857c4b59c33f44b99", func := "framewarden/framewardenlaw.RamTells", spec := "ramTells", apart := false }
def RamTellsSaid : Prop := ramTellsRow.holds Try.pinned (OpenSpec.ofChange ramTellsSpec)

/-- ITS FALSE NEIGHBOUR: 'it returns false'. Refute it at one input. -/
def ramTellsWrong : ChangeSpec := { name := "ramTells", fn := fun _ => fun
  | [d1, d2, d3, d4] => { results := [.lit (.bool false)], args := [d1, d2, d3, d4] }
  | _ => none }
def RamTellsWrongFalsely : Prop := ramTellsRow.holds Try.pinned (OpenSpec.ofChange ramTellsWrong)

/-- 'framewardenkeep.RamBack': WHATEVER THE INPUT: true; the input reads as it did. -/
def ramBackSpec : ChangeSpec := { name := "ramBack", fn := fun _ => fun
  | [d1, d2, d3, d4, d5, d6] => { results := [.lit (.bool true)], args := [d1, d2, d3, d4, d5, d6] }
  | _ => none }
def ramBackRow : OpenClaim := { program := "ytgjkijakknfkcaa", sum := "c827e8a3eee60d2a0e12effe2a40a59b291e8271c784759857c4b59c33f44b99", func := "framewarden/framewardenkeep.RamBack", spec := "ramBack", apart := false }
def RamBackSaid : Prop := ramBackRow.holds Try.pinned (OpenSpec.ofChange ramBackSpec)

/-- ITS FALSE NEIGHBOUR: 'it returns false'. Refute it at one input. -/
def ramBackWrong : ChangeSpec := { name := "ramBack", fn := fun _ => fun
  | [d1, d2, d3, d4, d5, d6] => { results := [.lit (.bool false)], args := [d1, d2, d3, d4, d5, d6] }
  | _ => none }
def RamBackWrongFalsely : Prop := ramBackRow.holds Try.pinned (OpenSpec.ofChange ramBackWrong)

/-- 'framewardenkeep.RamOver': WHATEVER THE INPUT: true; the input reads as it did. -/
def ramOverSpec : ChangeSpec := { name := "ramOver", fn := fun _ => fun
  | [d1, d2, d3, d4, d5, d6, d7] => { results := [.lit (.bool true)], args := [d1, d2, d3, d4, d5, d6, d7] }
  | _ => none }
def ramOverRow : OpenClaim := { program := "ytgjkijakknfkcaa", sum := "c827e8a3eee60d2a0e12effe2a40a59b291e8271c784759857c4b59c33f44b99", func := "framewarden/framewardenkeep.RamOver", spec := "ramOver", apart := false }
def RamOverSaid : Prop := ramOverRow.holds Try.pinned (OpenSpec.ofChange ramOverSpec)

/-- ITS FALSE NEIGHBOUR: 'it returns false'. Refute it at one input. -/
def ramOverWrong : ChangeSpec := { name := "ramOver", fn := fun _ => fun
  | [d1, d2, d3, d4, d5, d6, d7] => { results := [.lit (.bool false)], args := [d1, d2, d3, d4, d5, d6, d7] }
  | _ => none }
def RamOverWrongFalsely : Prop := ramOverRow.holds Try.pinned (OpenSpec.ofChange ramOverWrong)

/- THE SECOND FORM. 'bulk': how many values and letters a reading holds, each counted each time it is reached (what is shared counts as often as it is met; a slice's spare places count too). A statement '..UptoSaid' is the law's where the arguments, and the package variables that the reading takes, are together of bulk at most 1048576: NARROWER than '..Said'. Prove '..Said' where nothing that the law and all that it calls make is longer than what came in: it says more and counts as full. Else prove '..UptoSaid'. A law counts once. -/
mutual
def uptoBulk {H : Type} : DataW H → Nat
  | .lit (.string bytes) => bytes.length + 1
  | .lit _ => 1
  | .nil => 1
  | .ptr d => uptoBulk d + 1
  | .slice elems spare => uptoBulkAll elems + uptoBulkAll spare + 1
  | .agg parts => uptoBulkAll parts + 1
  | .iface _ d => uptoBulk d + 1
  | .map entries => uptoBulkEntries entries + 1
  | .held _ => 1
def uptoBulkAll {H : Type} : List (DataW H) → Nat
  | [] => 0
  | d :: r => uptoBulk d + uptoBulkAll r
def uptoBulkEntries {H : Type} : List (Lit × DataW H) → Nat
  | [] => 0
  | x :: r => uptoBulkEntry x + uptoBulkEntries r
def uptoBulkEntry {H : Type} : Lit × DataW H → Nat
  | (.string bytes, d) => bytes.length + uptoBulk d + 1
  | (_, d) => uptoBulk d + 1
 end
def uptoSmall : (H : Type) → List (DataW H) → Bool := fun _ ds => decide (uptoBulkAll ds ≤ 1048576)
def OpenSpec.upto (s : _root_.Go.ChangeSpec) : _root_.Go.OpenSpec := { _root_.Go.OpenSpec.ofChange s with cond := some uptoSmall }

/-- 'framewardenlaw.RamTells', WHERE WHAT IT READS IS OF BULK AT MOST 1048576: true; the input reads as it did. -/
def ramTellsUptoRow : OpenClaim := { program := "ytgjkijakknfkcaa", sum := "c827e8a3eee60d2a0e12effe2a40a59b291e8271c784759857c4b59c33f44b99", func := "framewarden/framewardenlaw.RamTells", spec := "ramTells", apart := false, narrowed := true }
def RamTellsUptoSaid : Prop := ramTellsUptoRow.holds Try.pinned (OpenSpec.upto ramTellsSpec)

/-- 'framewardenkeep.RamBack', WHERE WHAT IT READS IS OF BULK AT MOST 1048576: true; the input reads as it did. -/
def ramBackUptoRow : OpenClaim := { program := "ytgjkijakknfkcaa", sum := "c827e8a3eee60d2a0e12effe2a40a59b291e8271c784759857c4b59c33f44b99", func := "framewarden/framewardenkeep.RamBack", spec := "ramBack", apart := false, narrowed := true }
def RamBackUptoSaid : Prop := ramBackUptoRow.holds Try.pinned (OpenSpec.upto ramBackSpec)

/-- 'framewardenkeep.RamOver', WHERE WHAT IT READS IS OF BULK AT MOST 1048576: true; the input reads as it did. -/
def ramOverUptoRow : OpenClaim := { program := "ytgjkijakknfkcaa", sum := "c827e8a3eee60d2a0e12effe2a40a59b291e8271c784759857c4b59c33f44b99", func := "framewarden/framewardenkeep.RamOver", spec := "ramOver", apart := false, narrowed := true }
def RamOverUptoSaid : Prop := ramOverUptoRow.holds Try.pinned (OpenSpec.upto ramOverSpec)

end Rows
end Go.Proofs.Ytgjkijakknfkcaa
