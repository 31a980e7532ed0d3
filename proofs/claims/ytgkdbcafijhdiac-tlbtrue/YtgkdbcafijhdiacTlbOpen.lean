/- What comes in as a slice of api.Cached, or as one, reads as a list, or as four numbers. -/
import Derived.Test.YtgkdbcafijhdiacTlb1
import Derived.Test.YtgkdbcafijhdiacRecsOpen
import Derived.Deep.Strs
namespace Go.Proofs.Ytgkdbcafijhdiac
open Go.ChangeShapes Go.WideShapes Go.ChangeAt Go.RowKit Go.Deep Go.Joins
set_option linter.unusedVariables false
set_option linter.unusedSimpArgs false

theorem cells_cached : Try.prog.cellsOf 40 = 4 := by kernel_rfl
theorem cells_centry : Try.prog.cellsOf 27 = 2 := by kernel_rfl
theorem cells_cint : Try.prog.cellsOf 3 = 1 := by kernel_rfl
theorem bytes_cached : Try.prog.bytesOf 40 = 32 := by kernel_rfl

theorem cached_read {H : Type} {enc : TypeId × Value → H} {w : World} {base : Nat} {spare : Nat → Bool} {held : Bool} {n : Nat} {cs : List Value} {y : DataW H × List MemPlace}
    (h : DataW.trod enc Try.prog w base spare held n 40 cs = some y) : ∃ x : C4, cs = encC x := by
  obtain ⟨y0, y1, y2, k, -, hl, h0, h1, h2⟩ := trod_struct3 Try.underlying40 h
  obtain ⟨z0, z1, k', -, hl', g0, g1⟩ := trod_struct2 Try.underlying27 h2
  rw [cells_cached] at hl
  match cs, hl with
  | [a, b, c, d], _ =>
    simp [cells_cint, cells_centry] at h0 h1 g0 g1
    obtain ⟨x0, e0, -⟩ := DataW.trod_int Try.underlying3 h0
    obtain ⟨x1, e1, -⟩ := DataW.trod_int Try.underlying3 h1
    obtain ⟨x2, e2, -⟩ := DataW.trod_int Try.underlying3 g0
    obtain ⟨x3, e3, -⟩ := DataW.trod_int Try.underlying3 g1
    simp only [List.cons.injEq, and_true] at e0 e1 e2 e3
    exact ⟨(x0, x1, x2, x3), by rw [e0, e1, e2, e3]; rfl⟩

theorem cacheds_open {H : Type} {enc : TypeId × Value → H} {w : World} {base : Nat} {spare : Nat → Bool} {held : Bool} {a : Option Addr} {len cap : Nat} {d : DataW H} {p : List MemPlace}
    (h : DataW.Trod enc Try.prog w base spare held 37 (.slice a len cap) d p) (hre : ∀ elems sp, d = .slice elems sp → (elems.length + sp.length) * 32 ≤ 140737488351232) : ∃ l, IsRecs encC 4398046510976 w (.slice a len cap) l :=
  recs_open shC Try.underlying37 cells_cached (fun _ _ _ h => cached_read h) h _ (fun el sp hd => by have := hre el sp hd; omega)

theorem cached_open {H : Type} {enc : TypeId × Value → H} {w : World} {base b0 : Nat} {spare : Nat → Bool} {held : Bool} {r : Reach} {v : Value} {d : DataW H} {p : List MemPlace}
    (hv : Value.okWide Try.prog w r b0 40 v) (h : DataW.Trod enc Try.prog w base spare held 40 v d p) :
    ∃ x y z u : Int, v = .agg #[.int .i64 x, .int .i64 y, .int .i64 z, .int .i64 u] := by
  obtain ⟨cs, rfl, hsz⟩ := okWide_struct Try.underlying40 hv
  obtain ⟨fuel, hf⟩ := h
  obtain ⟨⟨x, y, z, u⟩, hx⟩ := cached_read hf
  simp only [Value.cells] at hx
  refine ⟨x, y, z, u, ?_⟩
  congr 1
  apply Array.ext'
  rw [hx]
  rfl

end Go.Proofs.Ytgkdbcafijhdiac
