/- What comes in as a slice of structs reads as a list: in general. -/
import Derived.Test.YtlhmfbkpmfofiaiRecs
import Derived.Deep.Slices
import Derived.Lib.SmallJoins
import Derived.OpenShut
import Derived.SizedLaws
namespace Go.Proofs.Ytlhmfbkpmfofiai
set_option maxRecDepth 100000
open Go.ChangeShapes Go.WideShapes Go.ChangeAt Go.RowKit Go.Deep Go.Joins
set_option linter.unusedVariables false
set_option linter.unusedSimpArgs false

/-- Elements that each read as enc of something: so does the slice. -/
theorem recs_open {α : Type} [Inhabited α] {m : Nat} {enc : α → List Value} (S : Shape α m enc) {H : Type} {ench : TypeId × Value → H} {P : Program} {w : World} {base : Nat} {spare : Nat → Bool} {held : Bool} {t e : TypeId} {a : Option Addr} {len cap : Nat} {d : DataW H} {p : List MemPlace}
    (ht : P.underlying t = some (.slice e)) (hce : P.cellsOf e = m) (hel : ∀ n cs y, DataW.trod ench P w base spare held n e cs = some y → ∃ x : α, cs = enc x)
    (h : DataW.Trod ench P w base spare held t (.slice a len cap) d p) (B : Nat) (hre : ∀ elems sp, d = .slice elems sp → elems.length + sp.length ≤ B) : ∃ l, IsRecs enc B w (.slice a len cap) l := by
  obtain ⟨fuel, hf⟩ := h
  rcases open_slice ht hf with ⟨hcs, _⟩ | ⟨x, l', c, n, k, D, Pl, hcs, hb, hl, hm, hmm, hx, hcell⟩
  · simp [Value.cells] at hcs
    obtain ⟨rfl, rfl, rfl⟩ := hcs
    exact ⟨[], isRecs_nil _ _ _ _⟩
  · simp [Value.cells] at hcs
    obtain ⟨rfl, rfl, rfl⟩ := hcs
    have hlm : len ≤ n := by rw [hmm]; split <;> omega
    have hd := hre _ _ (congrArg Prod.fst hx)
    simp only [List.length_map, List.length_range] at hd
    rw [hce] at hcell
    have each : ∀ i, i < len → ∃ q : α, w.cells? base (x.add (i * m)) m = some (enc q) := by
      intro i hi
      obtain ⟨cs, h1, h2⟩ := hcell i (by omega)
      obtain ⟨q, rfl⟩ := hel _ _ _ h2
      exact ⟨q, h1⟩
    obtain ⟨q, hq⟩ := choose_lt each
    have hlen : ((List.range len).map q).length = len := by simp
    refine ⟨(List.range len).map q, some x, cap, by rw [hlen], by omega, by omega, fun hp => ?_⟩
    rw [hlen] at hp
    obtain ⟨b, off, spot⟩ := x
    have hc0 := (World.cells?_some (hq 0 hp)).2.2 0 S.pos
    rw [add_add, Nat.zero_mul, Nat.zero_add] at hc0
    have hg0 : (enc (q 0))[0]? = some ((enc (q 0))[0]'(by rw [S.len]; exact S.pos)) := List.getElem?_eq_getElem _
    have hspot : spot = none := by
      rw [hg0] at hc0
      simpa [Addr.add] using World.cell?_spot hc0
    subst hspot
    refine ⟨b, off, rfl, fun j u hj => ?_⟩
    have hjl : j < len * m := by
      have := (List.getElem?_eq_some_iff.1 hj).1
      rw [flatL_len S, hlen] at this
      exact this
    have hjm : j / m < len := by
      rw [Nat.div_lt_iff_lt_mul S.pos]
      exact hjl
    have hjr : j % m < m := Nat.mod_lt _ S.pos
    have hje : j / m * m + j % m = j := Nat.div_add_mod' j m
    rw [← hje, flatL_get S _ (q 0) (j / m) (j % m) (by rw [hlen]; exact hjm) hjr] at hj
    have hgd : ((List.range len).map q).getD (j / m) (q 0) = q (j / m) := by
      rw [List.getD_eq_getElem?_getD, List.getElem?_map, List.getElem?_range hjm]
      rfl
    rw [hgd] at hj
    have hcj := (World.cells?_some (hq (j / m) hjm)).2.2 (j % m) hjr
    rw [add_add, hje, add_none, hj] at hcj
    exact hcj

end Go.Proofs.Ytlhmfbkpmfofiai
