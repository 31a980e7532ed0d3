/- What comes in as a slice of bools reads as a list. -/
import Derived.Test.YtidaoomhnfgckagBools
import Derived.Test.YtidaoomhnfgckagRecsOpen
import Derived.Deep.Strs
namespace Go.Proofs.Ytidaoomhnfgckag
open Go.ChangeShapes Go.WideShapes Go.ChangeAt Go.RowKit Go.Deep Go.Joins
set_option linter.unusedVariables false
set_option linter.unusedSimpArgs false

theorem cells_bool : Try.prog.cellsOf 4 = 1 := by kernel_rfl
theorem bytes_bool : Try.prog.bytesOf 4 = 1 := by kernel_rfl

theorem bool_read {H : Type} {enc : TypeId × Value → H} {w : World} {base : Nat} {spare : Nat → Bool} {held : Bool} {n : Nat} {cs : List Value} {y : DataW H × List MemPlace}
    (h : DataW.trod enc Try.prog w base spare held n 4 cs = some y) : ∃ x : Bool, cs = encB x := by
  obtain ⟨x, e, -⟩ := DataW.trod_bool Try.underlying4 h
  exact ⟨x, e⟩

theorem bools_open {H : Type} {enc : TypeId × Value → H} {w : World} {base : Nat} {spare : Nat → Bool} {held : Bool} {a : Option Addr} {len cap : Nat} {d : DataW H} {p : List MemPlace} (B : Nat)
    (h : DataW.Trod enc Try.prog w base spare held 22 (.slice a len cap) d p) (hre : ∀ elems sp, d = .slice elems sp → elems.length + sp.length ≤ B) : ∃ l, IsRecs encB B w (.slice a len cap) l :=
  recs_open shB Try.underlying22 cells_bool (fun _ _ _ h => bool_read h) h _ hre

end Go.Proofs.Ytidaoomhnfgckag
