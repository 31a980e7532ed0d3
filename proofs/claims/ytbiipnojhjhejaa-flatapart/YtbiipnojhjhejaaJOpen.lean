/- What comes in as a slice of structs reads as a list: in general. -/
import Derived.Test.YtbiipnojhjhejaaJRecs
import Derived.Deep.Slices
import Derived.Lib.SmallJoins
import Derived.OpenShut
import Derived.SizedLaws
import Derived.Test.YtbiipnojhjhejaaJCheck
import Derived.Deep.Strs
namespace Go.Proofs.Ytbiipnojhjhejaa
set_option maxRecDepth 100000
open Go.ChangeShapes Go.WideShapes Go.ChangeAt Go.RowKit Go.Deep Go.Joins
set_option linter.unusedVariables false
set_option linter.unusedSimpArgs false

/-- Elements that each read as enc of something: so does the slice. -/
theorem recs_open {α : Type} [Inhabited α] {m : Nat} {enc : α → List Value} (S : Shape α m enc) {H : Type} {ench : TypeId × Value → H} {P : Program} {w : World} {base : Nat} {spare : Nat → Bool} {held : Bool} {t e : TypeId} {a : Option Addr} {len cap : Nat} {d : DataW H} {p : List MemPlace}
    (ht : P.underlying t = some (.slice e)) (hce : P.cellsOf e = m) (hel : ∀ n cs y, DataW.trod ench P w base spare held n e cs = some y → ∃ x : α, cs = enc x)
    (h : DataW.Trod ench P w base spare held t (.slice a len cap) d p) (B : Nat) (hre : ∀ elems sp, d = .slice elems sp → elems.length + sp.length ≤ B) : ∃ l, IsRecs enc B w (.slice a len cap) l := by
  obtain ⟨fuel, hf⟩ := h
  rcases open_slice ht hf with ⟨hcs, _⟩ | ⟨x, l', c, n, k, D, Pl, hcs, hb, hl, hm, hmm, hx, hcell⟩
  · simp [Value.cells] at hcs
    obtain ⟨rfl, rfl, rfl⟩ := hcs
    exact ⟨[], isRecs_nil _ _ _ _⟩
  · simp [Value.cells] at hcs
    obtain ⟨rfl, rfl, rfl⟩ := hcs
    have hlm : len ≤ n := by rw [hmm]; split <;> omega
    have hd := hre _ _ (congrArg Prod.fst hx)
    simp only [List.length_map, List.length_range] at hd
    rw [hce] at hcell
    have each : ∀ i, i < len → ∃ q : α, w.cells? base (x.add (i * m)) m = some (enc q) := by
      intro i hi
      obtain ⟨cs, h1, h2⟩ := hcell i (by omega)
      obtain ⟨q, rfl⟩ := hel _ _ _ h2
      exact ⟨q, h1⟩
    obtain ⟨q, hq⟩ := choose_lt each
    have hlen : ((List.range len).map q).length = len := by simp
    refine ⟨(List.range len).map q, some x, cap, by rw [hlen], by omega, by omega, fun hp => ?_⟩
    rw [hlen] at hp
    obtain ⟨b, off, spot⟩ := x
    have hc0 := (World.cells?_some (hq 0 hp)).2.2 0 S.pos
    rw [add_add, Nat.zero_mul, Nat.zero_add] at hc0
    have hg0 : (enc (q 0))[0]? = some ((enc (q 0))[0]'(by rw [S.len]; exact S.pos)) := List.getElem?_eq_getElem _
    have hspot : spot = none := by
      rw [hg0] at hc0
      simpa [Addr.add] using World.cell?_spot hc0
    subst hspot
    refine ⟨b, off, rfl, fun j u hj => ?_⟩
    have hjl : j < len * m := by
      have := (List.getElem?_eq_some_iff.1 hj).1
      rw [flatL_len S, hlen] at this
      exact this
    have hjm : j / m < len := by
      rw [Nat.div_lt_iff_lt_mul S.pos]
      exact hjl
    have hjr : j % m < m := Nat.mod_lt _ S.pos
    have hje : j / m * m + j % m = j := Nat.div_add_mod' j m
    rw [← hje, flatL_get S _ (q 0) (j / m) (j % m) (by rw [hlen]; exact hjm) hjr] at hj
    have hgd : ((List.range len).map q).getD (j / m) (q 0) = q (j / m) := by
      rw [List.getD_eq_getElem?_getD, List.getElem?_map, List.getElem?_range hjm]
      rfl
    rw [hgd] at hj
    have hcj := (World.cells?_some (hq (j / m) hjm)).2.2 (j % m) hjr
    rw [add_add, hje, add_none, hj] at hcj
    exact hcj

end Go.Proofs.Ytbiipnojhjhejaa

/- What comes in as a slice of api.Region, or as one, reads as a list of spans with what they are like, or as one. -/
namespace Go.Proofs.Ytbiipnojhjhejaa
set_option maxRecDepth 100000
open Go.ChangeShapes Go.WideShapes Go.ChangeAt Go.RowKit Go.Deep Go.Joins
set_option linter.unusedVariables false
set_option linter.unusedSimpArgs false

theorem recs_open_ok {α : Type} [Inhabited α] {m : Nat} {enc : α → List Value} (ok : α → Prop) (S : Shape α m enc) {H : Type} {ench : TypeId × Value → H} {P : Program} {w : World} {base : Nat} {spare : Nat → Bool} {held : Bool} {t e : TypeId} {a : Option Addr} {len cap : Nat} {d : DataW H} {p : List MemPlace}
    (ht : P.underlying t = some (.slice e)) (hce : P.cellsOf e = m) (hel : ∀ n cs y, DataW.trod ench P w base spare held n e cs = some y → ∃ x : α, cs = enc x ∧ ok x)
    (h : DataW.Trod ench P w base spare held t (.slice a len cap) d p) (B : Nat) (hre : ∀ elems sp, d = .slice elems sp → elems.length + sp.length ≤ B) : ∃ l, IsRecs enc B w (.slice a len cap) l ∧ ∀ x ∈ l, ok x := by
  obtain ⟨fuel, hf⟩ := h
  rcases open_slice ht hf with ⟨hcs, _⟩ | ⟨x, l', c, n, k, D, Pl, hcs, hb, hl, hm, hmm, hx, hcell⟩
  · simp [Value.cells] at hcs
    obtain ⟨rfl, rfl, rfl⟩ := hcs
    exact ⟨[], isRecs_nil _ _ _ _, fun x hx => by simp at hx⟩
  · simp [Value.cells] at hcs
    obtain ⟨rfl, rfl, rfl⟩ := hcs
    have hlm : len ≤ n := by rw [hmm]; split <;> omega
    have hd := hre _ _ (congrArg Prod.fst hx)
    simp only [List.length_map, List.length_range] at hd
    rw [hce] at hcell
    have each : ∀ i, i < len → ∃ q : α, w.cells? base (x.add (i * m)) m = some (enc q) ∧ ok q := by
      intro i hi
      obtain ⟨cs, h1, h2⟩ := hcell i (by omega)
      obtain ⟨q, rfl, hq⟩ := hel _ _ _ h2
      exact ⟨q, h1, hq⟩
    obtain ⟨q, hqq⟩ := choose_lt each
    have hq := fun i hi => (hqq i hi).1
    have hlen : ((List.range len).map q).length = len := by simp
    refine ⟨(List.range len).map q, ⟨some x, cap, by rw [hlen], by omega, by omega, fun hp => ?_⟩, fun y hy => by
      obtain ⟨i, hi, rfl⟩ := List.mem_map.1 hy
      exact (hqq i (List.mem_range.1 hi)).2⟩
    rw [hlen] at hp
    obtain ⟨b, off, spot⟩ := x
    have hc0 := (World.cells?_some (hq 0 hp)).2.2 0 S.pos
    rw [add_add, Nat.zero_mul, Nat.zero_add] at hc0
    have hg0 : (enc (q 0))[0]? = some ((enc (q 0))[0]'(by rw [S.len]; exact S.pos)) := List.getElem?_eq_getElem _
    have hspot : spot = none := by
      rw [hg0] at hc0
      simpa [Addr.add] using World.cell?_spot hc0
    subst hspot
    refine ⟨b, off, rfl, fun j u hj => ?_⟩
    have hjl : j < len * m := by
      have := (List.getElem?_eq_some_iff.1 hj).1
      rw [flatL_len S, hlen] at this
      exact this
    have hjm : j / m < len := by
      rw [Nat.div_lt_iff_lt_mul S.pos]
      exact hjl
    have hjr : j % m < m := Nat.mod_lt _ S.pos
    have hje : j / m * m + j % m = j := Nat.div_add_mod' j m
    rw [← hje, flatL_get S _ (q 0) (j / m) (j % m) (by rw [hlen]; exact hjm) hjr] at hj
    have hgd : ((List.range len).map q).getD (j / m) (q 0) = q (j / m) := by
      rw [List.getD_eq_getElem?_getD, List.getElem?_map, List.getElem?_range hjm]
      rfl
    rw [hgd] at hj
    have hcj := (World.cells?_some (hq (j / m) hjm)).2.2 (j % m) hjr
    rw [add_add, hje, add_none, hj] at hcj
    exact hcj

theorem cells_region : Try.prog.cellsOf 50 = 6 := by kernel_rfl
theorem bytes_region : Try.prog.bytesOf 50 = 40 := by kernel_rfl

theorem region_read {H : Type} {enc : TypeId × Value → H} {w : World} {base : Nat} {spare : Nat → Bool} {held : Bool} {n : Nat} {cs : List Value} {y : DataW H × List MemPlace}
    (h : DataW.trod enc Try.prog w base spare held n 50 cs = some y) : ∃ x : R6, cs = encR x ∧ wfR x := by
  obtain ⟨y0, y1, y2, k, -, hl, h0, h1, h2⟩ := trod_struct3 Try.underlying50 h
  rw [cells_region] at hl
  match cs, hl with
  | [a, b, c, d, e, f], _ =>
    simp [cells_aint, cells_attr] at h0 h1 h2
    obtain ⟨x0, e0, -, w0⟩ := DataW.trod_int Try.underlying3 h0
    obtain ⟨x1, e1, -, w1⟩ := DataW.trod_int Try.underlying3 h1
    obtain ⟨r, k, t, s, e2, w2, w3⟩ := attr_read h2
    simp only [List.cons.injEq, and_true] at e0 e1 e2
    exact ⟨(x0, x1, r, k, t, s), by rw [e0, e1, e2.1, e2.2.1, e2.2.2.1, e2.2.2.2]; rfl, wf_bd w0, wf_bd w1⟩

theorem regions_open {H : Type} {enc : TypeId × Value → H} {w : World} {base : Nat} {spare : Nat → Bool} {held : Bool} {a : Option Addr} {len cap : Nat} {d : DataW H} {p : List MemPlace}
    (h : DataW.Trod enc Try.prog w base spare held 27 (.slice a len cap) d p) (hre : ∀ elems sp, d = .slice elems sp → (elems.length + sp.length) * 40 ≤ 140737488351232) : ∃ l, IsRecs encR 3518437208780 w (.slice a len cap) l ∧ ∀ x ∈ l, wfR x :=
  recs_open_ok wfR shR Try.underlying27 cells_region (fun _ _ _ h => region_read h) h _ (fun el sp hd => by have := hre el sp hd; omega)

theorem region_open {H : Type} {enc : TypeId × Value → H} {w : World} {base b0 : Nat} {spare : Nat → Bool} {held : Bool} {r : Reach} {v : Value} {d : DataW H} {p : List MemPlace}
    (hv : Value.okWide Try.prog w r b0 50 v) (h : DataW.Trod enc Try.prog w base spare held 50 v d p) :
    ∃ (x y r k : Int) (t s : Bool), v = .agg #[.int .i64 x, .int .i64 y, .int .i64 r, .int .i64 k, .bool t, .bool s] := by
  obtain ⟨cs, rfl, hsz⟩ := okWide_struct Try.underlying50 hv
  obtain ⟨fuel, hf⟩ := h
  obtain ⟨⟨x, y, r, k, t, s⟩, hx, -⟩ := region_read hf
  simp only [Value.cells] at hx
  refine ⟨x, y, r, k, t, s, ?_⟩
  congr 1
  apply Array.ext'
  rw [hx]
  rfl

end Go.Proofs.Ytbiipnojhjhejaa
