/-
  No cell of these rows narrows 'for every input' (looked for: loops, veiled, ifaces, maps, wideKeys, modest, calm, conditions, laid).
  DERIVED. THE GIVEN ROWS OF THIS SEAT. 6 by the template 'for every input the law returns true; each argument reads behind the call as it read before'; 0 by the template 'total and deterministic' (their statements: YtflhcphdggabeaaTotals.lean).
  GIVEN WITH THE SEED: the statements are not yours to turn. If you find one false, say at which input.
  Laid BY PROGRAM, IN A SANDBOX (cutbox-rows.mjs): the forced cells as the released guide's own fill.sh prints them over the translation c12a76e4b7ac3bcd… (all of the seat's roots in one cut). By AI agents, Wed Nov 11 2026. No macro, syntax, notation, axiom, sorry.
-/
import Derived.Test.YtflhcphdggabeaaChecked
import GoSem.Claim
import GoSem.ClaimJoined
import GoSem.ClaimMapViews
import Derived.JoinedTies
import Derived.KernelRfl
namespace Go.Proofs.Ytflhcphdggabeaa
/- THE CELL 'sum', in the pinned program and in every row, IS THE sha256 OF THE DUMP (.gsa) THAT YtflhcphdggabeaaProg.lean LOADS. Nothing in Lean hashes anything: it is a label: what it is worth is what the hold of that sum in a sandbox is worth. -/
noncomputable def Try.pinned : Pinned := { name := "ytflhcphdggabeaa", sum := "c12a76e4b7ac3bcd9568243f8ce1f835bc38caf1afc40739322cb019a6fe486d", checked := Try.checked }
namespace Rows
def none {H : Type} : Left H := { results := [], args := [] }

/-- 'framewardenlaw.RamTells': WHATEVER THE INPUT: true; the input reads as it did. -/
def ramTellsSpec : ChangeSpec := { name := "ramTells", fn := fun _ => fun
  | [d1, d2, d3, d4] => { results := [.lit (.bool true)], args := [d1, d2, d3, d4] }
  | _ => none }
def ramTellsRow : OpenClaim := { program := "ytflhcphdggabeaa", sum := "c12a76e4b7ac3bcd9568243f8ce1f835bc38caf1afc40739322cb019a6fe486d", func := "framewarden/framewardenlaw.RamTells", spec := "ramTells", apart := false }
def RamTellsSaid : Prop := ramTellsRow.holds Try.pinned (OpenSpec.ofChange ramTellsSpec)

/-- ITS FALSE NEIGHBOUR: 'it returns false'. Refute it at one input. -/
def ramTellsWrong : ChangeSpec := { name := "ramTells", fn := fun _ => fun
  | [d1, d2, d3, d4] => { results := [.lit (.bool false)], args := [d1, d2, d3, d4] }
  | _ => none }
def RamTellsWrongFalsely : Prop := ramTellsRow.holds Try.pinned (OpenSpec.ofChange ramTellsWrong)

/-- 'framewardenkeep.RamBack': WHATEVER THE INPUT: true; the input reads as it did. -/
def ramBackSpec : ChangeSpec := { name := "ramBack", fn := fun _ => fun
  | [d1, d2, d3, d4, d5, d6] => { results := [.lit (.bool true)], args := [d1, d2, d3, d4, d5, d6] }
  | _ => none }
def ramBackRow : OpenClaim := { program := "ytflhcphdggabeaa", sum := "c12a76e4b7ac3bcd9568243f8ce1f835bc38caf1afc40739322cb019a6fe486d", func := "framewarden/framewardenkeep.RamBack", spec := "ramBack", apart := false }
def RamBackSaid : Prop := ramBackRow.holds Try.pinned (OpenSpec.ofChange ramBackSpec)

/-- ITS FALSE NEIGHBOUR: 'it returns false'. Refute it at one input. -/
def ramBackWrong : ChangeSpec := { name := "ramBack", fn := fun _ => fun
  | [d1, d2, d3, d4, d5, d6] => { results := [.lit (.bool false)], args := [d1, d2, d3, d4, d5, d6] }
  | _ => none }
def RamBackWrongFalsely : Prop := ramBackRow.holds Try.pinned (OpenSpec.ofChange ramBackWrong)

/-- 'framewardenkeep.RamOver': WHATEVER THE INPUT: true; the input reads as it did. -/
def ramOverSpec : ChangeSpec := { name := "ramOver", fn := fun _ => fun
  | [d1, d2, d3, d4, d5, d6, d7] => { results := [.lit (.bool true)], args := [d1, d2, d3, d4, d5, d6, d7] }
  | _ => none }
def ramOverRow : OpenClaim := { program := "ytflhcphdggabeaa", sum := "c12a76e4b7ac3bcd9568243f8ce1f835bc38caf1afc40739322cb019a6fe486d", func := "framewarden/framewardenkeep.RamOver", spec := "ramOver", apart := false }
def RamOverSaid : Prop := ramOverRow.holds Try.pinned (OpenSpec.ofChange ramOverSpec)

/-- ITS FALSE NEIGHBOUR: 'it returns false'. Refute it at one input. -/
def ramOverWrong : ChangeSpec := { name := "ramOver", fn := fun _ => fun
  | [d1, d2, d3, d4, d5, d6, d7] => { results := [.lit (.bool false)], args := [d1, d2, d3, d4, d5, d6, d7] }
  | _ => none }
def RamOverWrongFalsely : Prop := ramOverRow.holds Try.pinned (OpenSpec.ofChange ramOverWrong)

/-- 'framewardenlaw.BuddyTells': WHATEVER THE INPUT: true; the input reads as it did. -/
def buddyTellsSpec : ChangeSpec := { name := "buddyTells", fn := fun _ => fun
  | [d1, d2, d3] => { results := [.lit (.bool true)], args := [d1, d2, d3] }
  | _ => none }
def buddyTellsRow : OpenClaim := { program := "ytflhcphdggabeaa", sum := "c12a76e4b7ac3bcd9568243f8ce1f835bc38caf1afc40739322cb019a6fe486d", func := "framewarden/framewardenlaw.BuddyTells", spec := "buddyTells", inPlace := ["slices.overlaps[framewarden/api.Block]"], apart := false }
def BuddyTellsSaid : Prop := buddyTellsRow.holds Try.pinned (OpenSpec.ofChange buddyTellsSpec)

/-- ITS FALSE NEIGHBOUR: 'it returns false'. Refute it at one input. -/
def buddyTellsWrong : ChangeSpec := { name := "buddyTells", fn := fun _ => fun
  | [d1, d2, d3] => { results := [.lit (.bool false)], args := [d1, d2, d3] }
  | _ => none }
def BuddyTellsWrongFalsely : Prop := buddyTellsRow.holds Try.pinned (OpenSpec.ofChange buddyTellsWrong)

/-- 'framewardenkeep.BuddyBack': WHATEVER THE INPUT: true; the input reads as it did. -/
def buddyBackSpec : ChangeSpec := { name := "buddyBack", fn := fun _ => fun
  | [d1, d2] => { results := [.lit (.bool true)], args := [d1, d2] }
  | _ => none }
def buddyBackRow : OpenClaim := { program := "ytflhcphdggabeaa", sum := "c12a76e4b7ac3bcd9568243f8ce1f835bc38caf1afc40739322cb019a6fe486d", func := "framewarden/framewardenkeep.BuddyBack", spec := "buddyBack", inPlace := ["slices.overlaps[framewarden/api.Block]"], apart := false }
def BuddyBackSaid : Prop := buddyBackRow.holds Try.pinned (OpenSpec.ofChange buddyBackSpec)

/-- ITS FALSE NEIGHBOUR: 'it returns false'. Refute it at one input. -/
def buddyBackWrong : ChangeSpec := { name := "buddyBack", fn := fun _ => fun
  | [d1, d2] => { results := [.lit (.bool false)], args := [d1, d2] }
  | _ => none }
def BuddyBackWrongFalsely : Prop := buddyBackRow.holds Try.pinned (OpenSpec.ofChange buddyBackWrong)

/-- 'framewardenkeep.BuddyApart': WHATEVER THE INPUT: true; the input reads as it did. -/
def buddyApartSpec : ChangeSpec := { name := "buddyApart", fn := fun _ => fun
  | [d] => { results := [.lit (.bool true)], args := [d] }
  | _ => none }
def buddyApartRow : OpenClaim := { program := "ytflhcphdggabeaa", sum := "c12a76e4b7ac3bcd9568243f8ce1f835bc38caf1afc40739322cb019a6fe486d", func := "framewarden/framewardenkeep.BuddyApart", spec := "buddyApart", inPlace := ["slices.overlaps[framewarden/api.Block]"], apart := false }
def BuddyApartSaid : Prop := buddyApartRow.holds Try.pinned (OpenSpec.ofChange buddyApartSpec)

/-- ITS FALSE NEIGHBOUR: 'it returns false'. Refute it at one input. -/
def buddyApartWrong : ChangeSpec := { name := "buddyApart", fn := fun _ => fun
  | [d] => { results := [.lit (.bool false)], args := [d] }
  | _ => none }
def BuddyApartWrongFalsely : Prop := buddyApartRow.holds Try.pinned (OpenSpec.ofChange buddyApartWrong)

/- THE SECOND FORM. 'bulk': how many values and letters a reading holds, each counted each time it is reached (what is shared counts as often as it is met; a slice's spare places count too). A statement '..UptoSaid' is the law's where the arguments, and the package variables that the reading takes, are together of bulk at most 1048576: NARROWER than '..Said'. Prove '..Said' where nothing that the law and all that it calls make is longer than what came in: it says more and counts as full. Else prove '..UptoSaid'. A law counts once. -/
mutual
def uptoBulk {H : Type} : DataW H → Nat
  | .lit (.string bytes) => bytes.length + 1
  | .lit _ => 1
  | .nil => 1
  | .ptr d => uptoBulk d + 1
  | .slice elems spare => uptoBulkAll elems + uptoBulkAll spare + 1
  | .agg parts => uptoBulkAll parts + 1
  | .iface _ d => uptoBulk d + 1
  | .map entries => uptoBulkEntries entries + 1
  | .held _ => 1
def uptoBulkAll {H : Type} : List (DataW H) → Nat
  | [] => 0
  | d :: r => uptoBulk d + uptoBulkAll r
def uptoBulkEntries {H : Type} : List (Lit × DataW H) → Nat
  | [] => 0
  | x :: r => uptoBulkEntry x + uptoBulkEntries r
def uptoBulkEntry {H : Type} : Lit × DataW H → Nat
  | (.string bytes, d) => bytes.length + uptoBulk d + 1
  | (_, d) => uptoBulk d + 1
 end
def uptoSmall : (H : Type) → List (DataW H) → Bool := fun _ ds => decide (uptoBulkAll ds ≤ 1048576)
def OpenSpec.upto (s : _root_.Go.ChangeSpec) : _root_.Go.OpenSpec := { _root_.Go.OpenSpec.ofChange s with cond := some uptoSmall }

/-- 'framewardenlaw.RamTells', WHERE WHAT IT READS IS OF BULK AT MOST 1048576: true; the input reads as it did. -/
def ramTellsUptoRow : OpenClaim := { program := "ytflhcphdggabeaa", sum := "c12a76e4b7ac3bcd9568243f8ce1f835bc38caf1afc40739322cb019a6fe486d", func := "framewarden/framewardenlaw.RamTells", spec := "ramTells", apart := false, narrowed := true }
def RamTellsUptoSaid : Prop := ramTellsUptoRow.holds Try.pinned (OpenSpec.upto ramTellsSpec)

/-- 'framewardenkeep.RamBack', WHERE WHAT IT READS IS OF BULK AT MOST 1048576: true; the input reads as it did. -/
def ramBackUptoRow : OpenClaim := { program := "ytflhcphdggabeaa", sum := "c12a76e4b7ac3bcd9568243f8ce1f835bc38caf1afc40739322cb019a6fe486d", func := "framewarden/framewardenkeep.RamBack", spec := "ramBack", apart := false, narrowed := true }
def RamBackUptoSaid : Prop := ramBackUptoRow.holds Try.pinned (OpenSpec.upto ramBackSpec)

/-- 'framewardenkeep.RamOver', WHERE WHAT IT READS IS OF BULK AT MOST 1048576: true; the input reads as it did. -/
def ramOverUptoRow : OpenClaim := { program := "ytflhcphdggabeaa", sum := "c12a76e4b7ac3bcd9568243f8ce1f835bc38caf1afc40739322cb019a6fe486d", func := "framewarden/framewardenkeep.RamOver", spec := "ramOver", apart := false, narrowed := true }
def RamOverUptoSaid : Prop := ramOverUptoRow.holds Try.pinned (OpenSpec.upto ramOverSpec)

/-- 'framewardenlaw.BuddyTells', WHERE WHAT IT READS IS OF BULK AT MOST 1048576: true; the input reads as it did. -/
def buddyTellsUptoRow : OpenClaim := { program := "ytflhcphdggabeaa", sum := "c12a76e4b7ac3bcd9568243f8ce1f835bc38caf1afc40739322cb019a6fe486d", func := "framewarden/framewardenlaw.BuddyTells", spec := "buddyTells", inPlace := ["slices.overlaps[framewarden/api.Block]"], apart := false, narrowed := true }
def BuddyTellsUptoSaid : Prop := buddyTellsUptoRow.holds Try.pinned (OpenSpec.upto buddyTellsSpec)

/-- 'framewardenkeep.BuddyBack', WHERE WHAT IT READS IS OF BULK AT MOST 1048576: true; the input reads as it did. -/
def buddyBackUptoRow : OpenClaim := { program := "ytflhcphdggabeaa", sum := "c12a76e4b7ac3bcd9568243f8ce1f835bc38caf1afc40739322cb019a6fe486d", func := "framewarden/framewardenkeep.BuddyBack", spec := "buddyBack", inPlace := ["slices.overlaps[framewarden/api.Block]"], apart := false, narrowed := true }
def BuddyBackUptoSaid : Prop := buddyBackUptoRow.holds Try.pinned (OpenSpec.upto buddyBackSpec)

/-- 'framewardenkeep.BuddyApart', WHERE WHAT IT READS IS OF BULK AT MOST 1048576: true; the input reads as it did. -/
def buddyApartUptoRow : OpenClaim := { program := "ytflhcphdggabeaa", sum := "c12a76e4b7ac3bcd9568243f8ce1f835bc38caf1afc40739322cb019a6fe486d", func := "framewarden/framewardenkeep.BuddyApart", spec := "buddyApart", inPlace := ["slices.overlaps[framewarden/api.Block]"], apart := false, narrowed := true }
def BuddyApartUptoSaid : Prop := buddyApartUptoRow.holds Try.pinned (OpenSpec.upto buddyApartSpec)

end Rows
end Go.Proofs.Ytflhcphdggabeaa
