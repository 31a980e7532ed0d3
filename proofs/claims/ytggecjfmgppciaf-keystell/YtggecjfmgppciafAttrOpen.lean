/- What comes in as an api.Attr reads as numbers and truths. -/
import Derived.Test.YtggecjfmgppciafRows
import Derived.Deep.Strs
import Derived.Lib.SmallJoins
import Derived.OpenShut
import Derived.SizedLaws
namespace Go.Proofs.Ytggecjfmgppciaf
open Go.ChangeShapes Go.WideShapes Go.ChangeAt Go.RowKit Go.Deep Go.Joins
set_option linter.unusedVariables false
set_option linter.unusedSimpArgs false

theorem cells_attr : Try.prog.cellsOf 31 = 4 := by kernel_rfl
theorem cells_aint : Try.prog.cellsOf 3 = 1 := by kernel_rfl
theorem cells_abool : Try.prog.cellsOf 4 = 1 := by kernel_rfl

theorem attr_read {H : Type} {enc : TypeId × Value → H} {w : World} {base : Nat} {spare : Nat → Bool} {held : Bool} {n : Nat} {cs : List Value} {y : DataW H × List MemPlace}
    (h : DataW.trod enc Try.prog w base spare held n 31 cs = some y) : ∃ (r k : Int) (t s : Bool), cs = [.int .i64 r, .int .i64 k, .bool t, .bool s] ∧ (Lit.int .i64 r).wf = true ∧ (Lit.int .i64 k).wf = true := by
  obtain ⟨y0, y1, y2, y3, k, -, hl, h0, h1, h2, h3⟩ := trod_struct4 Try.underlying31 h
  rw [cells_attr] at hl
  match cs, hl with
  | [a, b, c, d], _ =>
    simp [cells_aint, cells_abool] at h0 h1 h2 h3
    obtain ⟨x0, e0, -, w0⟩ := DataW.trod_int Try.underlying3 h0
    obtain ⟨x1, e1, -, w1⟩ := DataW.trod_int Try.underlying3 h1
    obtain ⟨x2, e2, -⟩ := DataW.trod_bool Try.underlying4 h2
    obtain ⟨x3, e3, -⟩ := DataW.trod_bool Try.underlying4 h3
    simp only [List.cons.injEq, and_true] at e0 e1 e2 e3
    exact ⟨x0, x1, x2, x3, by rw [e0, e1, e2, e3], w0, w1⟩

theorem attr_open {H : Type} {enc : TypeId × Value → H} {w : World} {base b0 : Nat} {spare : Nat → Bool} {held : Bool} {r : Reach} {v : Value} {d : DataW H} {p : List MemPlace}
    (hv : Value.okWide Try.prog w r b0 31 v) (h : DataW.Trod enc Try.prog w base spare held 31 v d p) :
    ∃ (x y : Int) (t s : Bool), v = .agg #[.int .i64 x, .int .i64 y, .bool t, .bool s] := by
  obtain ⟨cs, rfl, hsz⟩ := okWide_struct Try.underlying31 hv
  obtain ⟨fuel, hf⟩ := h
  obtain ⟨x, y, t, s, hx, -⟩ := attr_read hf
  simp only [Value.cells] at hx
  refine ⟨x, y, t, s, ?_⟩
  congr 1
  apply Array.ext'
  rw [hx]

end Go.Proofs.Ytggecjfmgppciaf
