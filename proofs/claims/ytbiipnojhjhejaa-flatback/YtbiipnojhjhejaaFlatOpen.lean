/- What comes in as a slice of api.Op, or as one, reads as a list of things done, or as one. -/
import Derived.Test.YtbiipnojhjhejaaFlat16
import Derived.Test.YtbiipnojhjhejaaJOpen
namespace Go.Proofs.Ytbiipnojhjhejaa
set_option maxRecDepth 100000
open Go.ChangeShapes Go.WideShapes Go.ChangeAt Go.RowKit Go.Deep Go.Joins
set_option linter.unusedVariables false
set_option linter.unusedSimpArgs false

/-- All numbers are of sixty-four bits. -/
structure wfO (o : O12) : Prop where
  kind : bdI o.kind
  proc : bdI o.proc
  page : bdI o.page
  count : bdI o.count
  rights : bdI o.rights
  key : bdI o.key
  draw : bdI o.draw
  addr : bdI o.addr
  size : bdI o.size
  value : bdI o.value
  tag : bdI o.tag

theorem cells_op : Try.prog.cellsOf 24 = 12 := by kernel_rfl
theorem bytes_op : Try.prog.bytesOf 24 = 96 := by kernel_rfl

theorem op_read {H : Type} {enc : TypeId × Value → H} {w : World} {base : Nat} {spare : Nat → Bool} {held : Bool} {n : Nat} {cs : List Value} {y : DataW H × List MemPlace}
    (h : DataW.trod enc Try.prog w base spare held n 24 cs = some y) : ∃ x : O12, cs = encO x ∧ wfO x := by
  obtain ⟨xs, n, -, rfl, hl, hlen, hf⟩ := DataW.trod_struct Try.underlying24 h
  rw [cells_op] at hl
  match xs, hlen with
  | [y0, y1, y2, y3, y4, y5, y6, y7, y8, y9, y10, y11], _ =>
    have h0 := hf 0 _ rfl
    have h1 := hf 1 _ rfl
    have h2 := hf 2 _ rfl
    have h3 := hf 3 _ rfl
    have h4 := hf 4 _ rfl
    have h5 := hf 5 _ rfl
    have h6 := hf 6 _ rfl
    have h7 := hf 7 _ rfl
    have h8 := hf 8 _ rfl
    have h9 := hf 9 _ rfl
    have h10 := hf 10 _ rfl
    have h11 := hf 11 _ rfl
    match cs, hl with
    | [c0, c1, c2, c3, c4, c5, c6, c7, c8, c9, c10, c11], _ =>
      simp [cells_aint, cells_abool] at h0 h1 h2 h3 h4 h5 h6 h7 h8 h9 h10 h11
      obtain ⟨x0, e0, -, w0⟩ := DataW.trod_int Try.underlying3 h0
      obtain ⟨x1, e1, -, w1⟩ := DataW.trod_int Try.underlying3 h1
      obtain ⟨x2, e2, -, w2⟩ := DataW.trod_int Try.underlying3 h2
      obtain ⟨x3, e3, -, w3⟩ := DataW.trod_int Try.underlying3 h3
      obtain ⟨x4, e4, -, w4⟩ := DataW.trod_int Try.underlying3 h4
      obtain ⟨x5, e5, -, w5⟩ := DataW.trod_int Try.underlying3 h5
      obtain ⟨x6, e6, -⟩ := DataW.trod_bool Try.underlying4 h6
      obtain ⟨x7, e7, -, w7⟩ := DataW.trod_int Try.underlying3 h7
      obtain ⟨x8, e8, -, w8⟩ := DataW.trod_int Try.underlying3 h8
      obtain ⟨x9, e9, -, w9⟩ := DataW.trod_int Try.underlying3 h9
      obtain ⟨x10, e10, -, w10⟩ := DataW.trod_int Try.underlying3 h10
      obtain ⟨x11, e11, -, w11⟩ := DataW.trod_int Try.underlying3 h11
      simp only [List.cons.injEq, and_true] at e0 e1 e2 e3 e4 e5 e6 e7 e8 e9 e10 e11
      exact ⟨⟨x0, x1, x2, x3, x4, x5, x6, x7, x8, x9, x10, x11⟩, by rw [e0, e1, e2, e3, e4, e5, e6, e7, e8, e9, e10, e11]; rfl, ⟨wf_bd w0, wf_bd w1, wf_bd w2, wf_bd w3, wf_bd w4, wf_bd w5, wf_bd w7, wf_bd w8, wf_bd w9, wf_bd w10, wf_bd w11⟩⟩

theorem ops_open {H : Type} {enc : TypeId × Value → H} {w : World} {base : Nat} {spare : Nat → Bool} {held : Bool} {a : Option Addr} {len cap : Nat} {d : DataW H} {p : List MemPlace}
    (h : DataW.Trod enc Try.prog w base spare held 22 (.slice a len cap) d p) (hre : ∀ elems sp, d = .slice elems sp → (elems.length + sp.length) * 96 ≤ 140737488351232) : ∃ l, IsRecs encO 1466015503658 w (.slice a len cap) l ∧ ∀ x ∈ l, wfO x :=
  haveI : Inhabited O12 := ⟨zO⟩
  recs_open_ok wfO shO Try.underlying22 cells_op (fun _ _ _ h => op_read h) h _ (fun el sp hd => by have := hre el sp hd; omega)

theorem op_open {H : Type} {enc : TypeId × Value → H} {w : World} {base b0 : Nat} {spare : Nat → Bool} {held : Bool} {r : Reach} {v : Value} {d : DataW H} {p : List MemPlace}
    (hv : Value.okWide Try.prog w r b0 24 v) (h : DataW.Trod enc Try.prog w base spare held 24 v d p) : ∃ o : O12, v = opV o ∧ wfO o := by
  obtain ⟨cs, rfl, hsz⟩ := okWide_struct Try.underlying24 hv
  obtain ⟨fuel, hf⟩ := h
  obtain ⟨o, hx, hw⟩ := op_read hf
  simp only [Value.cells] at hx
  refine ⟨o, ?_, hw⟩
  congr 1
  apply Array.ext'
  rw [hx]
  rfl

end Go.Proofs.Ytbiipnojhjhejaa
