/- The pages of a process that is shown, one by one: what each is, and where it lies. -/
import Derived.Test.YtbiipnojhjhejaaFlatBackR
namespace Go.Proofs.Ytbiipnojhjhejaa
set_option maxRecDepth 100000
open Go.RowKit
set_option linter.unusedSimpArgs false
set_option linter.unusedVariables false

/-- The numbers of the pages. -/
def pgsL (l : List R6) : List Nat := l.flatMap fun x => (List.range (x.2.1 - x.1).toNat).map fun i => x.1.toNat + i

theorem pagesL_map (p : Pr) (l : List R6) : pagesL p l = (pgsL l).map (pageAt p) := by
  unfold pagesL pgsL pagesR
  rw [List.map_flatMap]
  congr 1
  funext x
  rw [List.map_map]
  rfl

theorem pgsL_lt : ∀ {l : List R6} {lo hi : Int}, Asc lo hi l → 0 ≤ lo → hi ≤ 64 → ∀ m ∈ pgsL l, m < 64
  | x :: r, lo, hi, h, h0, h1, m, hm => by
    obtain ⟨a1, a2, a3⟩ := h
    have hle := a3.le
    unfold pgsL at hm
    rw [List.flatMap_cons, List.mem_append] at hm
    rcases hm with hm | hm
    · obtain ⟨i, hi', rfl⟩ := List.mem_map.1 hm
      rw [List.mem_range] at hi'
      omega
    · exact pgsL_lt a3 (by omega) h1 m hm

/-- Page k of a process, and of one with the same regions. -/
theorem pagesL_at {p q : Pr} {l : List R6} {k : Nat} (hk : k < (pagesL p l).length) : ∃ m, m ∈ pgsL l ∧ (pagesL p l).getD k z0 = pageAt p m ∧ (pagesL q l).getD k z0 = pageAt q m := by
  rw [pagesL_map, List.length_map] at hk
  refine ⟨(pgsL l)[k], List.getElem_mem hk, ?_, ?_⟩
  · rw [pagesL_map, List.getD_eq_getElem?_getD, List.getElem?_map, List.getElem?_eq_getElem hk]
    rfl
  · rw [pagesL_map, List.getD_eq_getElem?_getD, List.getElem?_map, List.getElem?_eq_getElem hk]
    rfl

theorem pagesL_len2 (p q : Pr) (l : List R6) : (pagesL p l).length = (pagesL q l).length := by rw [pagesL_map, pagesL_map, List.length_map, List.length_map]

/-- A page's own cells, at this time and later. -/
theorem OwnPg.page {base : Nat} {w : World} {a : Option Addr} {n c : Nat} {l : List Sl} (h : OwnPg base w (.slice a n c) l) {k : Nat} (hk : k < l.length) :
    ∃ b off, a = some ⟨b, off, none⟩ ∧ ∃ ba bc ta tc, (∀ w2, Below w.heap.size w w2 → w2.cell? ⟨b, off + k * 3, none⟩ = some (.int .i64 (l.getD k z0).1) ∧ w2.cell? ⟨b, off + k * 3 + 1, none⟩ = some (.slice ba (l.getD k z0).2.1.length bc) ∧ w2.cell? ⟨b, off + k * 3 + 2, none⟩ = some (.slice ta (l.getD k z0).2.2.length tc)) ∧
      IsBytes w (.slice ba (l.getD k z0).2.1.length bc) (l.getD k z0).2.1 ∧ IsRecs encI 17592186043904 w (.slice ta (l.getD k z0).2.2.length tc) (l.getD k z0).2.2 := by
  obtain ⟨L, h1, h2, h3⟩ := h
  have hkL : k < L.length := by rw [h1]; exact hk
  obtain ⟨a', c', e1, -, -, hc⟩ := h2.recs (B := L.length) (Nat.le_refl _)
  injection e1 with e1 e2 e3
  subst e1
  obtain ⟨b, off, rfl, hcc⟩ := hc (by omega)
  have hr := (h3 k hk).rd
  obtain ⟨⟨r, ⟨ba, bn, bc⟩, ⟨ta, tn, tc⟩⟩, hp⟩ : ∃ q, q = L.getD k v0 := ⟨_, rfl⟩
  rw [← hp] at hr
  obtain ⟨r1, r2, r3⟩ := hr
  obtain ⟨aa, cc, f1⟩ := r2.form'
  injection f1 with f1 f3 f4
  obtain ⟨aa', cc', g1⟩ := r3.form
  injection g1 with g1 g3 g4
  simp only at r1 f3 g3
  subst f3
  subst g3
  refine ⟨b, off, rfl, ba, bc, ta, tc, fun w2 hb => ?_, r2, r3⟩
  obtain ⟨q0, q1, q2⟩ := cell3 hcc hb k hkL hp
  rw [r1] at q0
  exact ⟨q0, q1, q2⟩

/-- A byte of it. -/
theorem IsBytes.at {w w2 : World} {a : Option Addr} {n c : Nat} {zs : List Int} (h : IsBytes w (.slice a n c) zs) (hb : Below w.heap.size w w2) {i : Nat} (hi : i < zs.length) : ∃ b off, a = some ⟨b, off, none⟩ ∧ w2.cell? ⟨b, off + i, none⟩ = some (.int .u8 (zs.getD i 0)) := by
  obtain ⟨a', c', e, -, -, -, hc⟩ := h
  injection e with e1 e2 e3
  subst e1
  obtain ⟨b, off, rfl, hcc⟩ := hc (by omega)
  exact ⟨b, off, rfl, (hb.cell (cell_lt (hcc i hi))).trans (hcc i hi)⟩

end Go.Proofs.Ytbiipnojhjhejaa
