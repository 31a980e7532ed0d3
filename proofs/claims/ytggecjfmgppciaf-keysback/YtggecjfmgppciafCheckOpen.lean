/- What comes in as an array of four api.Key reads as numbers and truths. -/
import Derived.Test.YtggecjfmgppciafAttrOpen
namespace Go.Proofs.Ytggecjfmgppciaf
open Go.ChangeShapes Go.WideShapes Go.ChangeAt Go.RowKit Go.Deep Go.Joins
set_option linter.unusedVariables false
set_option linter.unusedSimpArgs false

theorem cells_key : Try.prog.cellsOf 44 = 2 := by kernel_rfl
theorem cells_keys : Try.prog.cellsOf 45 = 8 := by kernel_rfl

theorem key_read {H : Type} {enc : TypeId × Value → H} {w : World} {base : Nat} {spare : Nat → Bool} {held : Bool} {n : Nat} {cs : List Value} {y : DataW H × List MemPlace}
    (h : DataW.trod enc Try.prog w base spare held n 44 cs = some y) : ∃ (t : Bool) (d : Int), cs = [.bool t, .int .i64 d] := by
  obtain ⟨y0, y1, k, -, hl, h0, h1⟩ := trod_struct2 Try.underlying44 h
  rw [cells_key] at hl
  match cs, hl with
  | [a, b], _ =>
    simp [cells_aint, cells_abool] at h0 h1
    obtain ⟨x0, e0, -⟩ := DataW.trod_bool Try.underlying4 h0
    obtain ⟨x1, e1, -⟩ := DataW.trod_int Try.underlying3 h1
    simp only [List.cons.injEq, and_true] at e0 e1
    exact ⟨x0, x1, by rw [e0, e1]⟩

/-- Four keys as they lie. -/
abbrev keysV (t0 : Bool) (d0 : Int) (t1 : Bool) (d1 : Int) (t2 : Bool) (d2 : Int) (t3 : Bool) (d3 : Int) : Value :=
  .agg #[.bool t0, .int .i64 d0, .bool t1, .int .i64 d1, .bool t2, .int .i64 d2, .bool t3, .int .i64 d3]

theorem keys_open {H : Type} {enc : TypeId × Value → H} {w : World} {base b0 : Nat} {spare : Nat → Bool} {held : Bool} {r : Reach} {v : Value} {d : DataW H} {p : List MemPlace}
    (hv : Value.okWide Try.prog w r b0 45 v) (h : DataW.Trod enc Try.prog w base spare held 45 v d p) :
    ∃ (t0 : Bool) (d0 : Int) (t1 : Bool) (d1 : Int) (t2 : Bool) (d2 : Int) (t3 : Bool) (d3 : Int), v = keysV t0 d0 t1 d1 t2 d2 t3 d3 := by
  simp only [Value.okWide, Try.underlying45] at hv
  obtain ⟨cs, rfl, hsz, -⟩ := hv
  obtain ⟨fuel, hf⟩ := h
  obtain ⟨xs, m, -, -, hl, hlen, hall⟩ := DataW.trod_array Try.underlying45 hf
  rw [cells_keys] at hl
  simp only [Value.cells] at hl hall
  obtain ⟨l⟩ := cs
  simp only at hl hall
  match l, hl, xs, hlen with
  | [a0, a1, a2, a3, a4, a5, a6, a7], _, [y0, y1, y2, y3], _ =>
    have g0 := hall 0 (by decide)
    have g1 := hall 1 (by decide)
    have g2 := hall 2 (by decide)
    have g3 := hall 3 (by decide)
    simp [cells_key] at g0 g1 g2 g3
    obtain ⟨t0, d0, e0⟩ := key_read g0
    obtain ⟨t1, d1, e1⟩ := key_read g1
    obtain ⟨t2, d2, e2⟩ := key_read g2
    obtain ⟨t3, d3, e3⟩ := key_read g3
    simp only [List.cons.injEq, and_true] at e0 e1 e2 e3
    refine ⟨t0, d0, t1, d1, t2, d2, t3, d3, ?_⟩
    rw [e0.1, e0.2, e1.1, e1.2, e2.1, e2.2, e3.1, e3.2]

end Go.Proofs.Ytggecjfmgppciaf
