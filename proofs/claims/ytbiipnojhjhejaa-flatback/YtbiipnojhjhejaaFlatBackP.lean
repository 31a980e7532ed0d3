/- The pages of two processes that differ in their bytes alone, one by one. -/
import Derived.Test.YtbiipnojhjhejaaFlatPg
import Derived.Test.YtbiipnojhjhejaaFlatIeq
namespace Go.Proofs.Ytbiipnojhjhejaa
set_option maxRecDepth 100000
open Go.RowKit
set_option linter.unusedSimpArgs false
set_option linter.unusedVariables false

theorem bts_at (p : Pr) (f n : Nat) {i : Nat} (hi : i < n) : (bts p f n).getD i 0 = p.B (f + i) := by
  unfold bts
  rw [List.getD_eq_getElem?_getD, List.getElem?_map, List.getElem?_range hi]
  rfl

/-- What page k of both is, and where it lies. -/
def PgTwo (w : World) (p q : Pr) (a6 a8 : Option Addr) (k : Nat) : Prop :=
  ∃ (m b off b' off' : Nat) (ba ba' ta ta' : Option Addr) (bc bc' tc tc' : Nat), m < 64 ∧ a6 = some ⟨b, off, none⟩ ∧ a8 = some ⟨b', off', none⟩ ∧
    (∀ w3, Below w.heap.size w w3 → (w3.cell? ⟨b, off + k * 3, none⟩ = some (.int .i64 (m : Int)) ∧ w3.cell? ⟨b, off + k * 3 + 1, none⟩ = some (.slice ba 64 bc) ∧ w3.cell? ⟨b, off + k * 3 + 2, none⟩ = some (.slice ta 4 tc)) ∧
      w3.cell? ⟨b', off' + k * 3 + 1, none⟩ = some (.slice ba' 64 bc') ∧ w3.cell? ⟨b', off' + k * 3 + 2, none⟩ = some (.slice ta' 4 tc')) ∧
    (∀ i, i < 64 → ∃ (g o g' o' : Nat), ba = some ⟨g, o, none⟩ ∧ ba' = some ⟨g', o', none⟩ ∧ ∀ w3, Below w.heap.size w w3 → w3.cell? ⟨g, o + i, none⟩ = some (.int .u8 (p.B (m * 64 + i))) ∧ w3.cell? ⟨g', o' + i, none⟩ = some (.int .u8 (q.B (m * 64 + i)))) ∧
    (∀ w3, Below w.heap.size w w3 → Calls Try.prog 14 #[.slice ta 4 tc, .slice ta' 4 tc'] w3 fun e w4 => e = .returned (.bool true) ∧ Below w3.heap.size w3 w4)

theorem back_pages {zX zY : Nat} {w : World} {p q : Pr} {a6 a8 : Option Addr} {n6 c6 n8 c8 : Nat} (hT : q.T = p.T) (hp : PInv p) (h1 : OwnPg zX w (.slice a6 n6 c6) (pagesL p p.L)) (h2 : OwnPg zY w (.slice a8 n8 c8) (pagesL q p.L)) :
    n8 = n6 ∧ n6 ≤ 4096 ∧ ∀ k, k < n6 → PgTwo w p q a6 a8 k := by
  have e1 : n6 = (pagesL p p.L).length := by
    obtain ⟨L, l1, l2, l3⟩ := h1
    obtain ⟨a, c, hf⟩ := l2.form
    injection hf with f1 f2 f3
    omega
  have e2 : n8 = (pagesL q p.L).length := by
    obtain ⟨L, l1, l2, l3⟩ := h2
    obtain ⟨a, c, hf⟩ := l2.form
    injection hf with f1 f2 f3
    omega
  have e3 := pagesL_len2 p q p.L
  refine ⟨by omega, by rw [e1]; exact hp.few.2, fun k hk => ?_⟩
  obtain ⟨m, hm, g1, g2⟩ := pagesL_at (p := p) (q := q) (l := p.L) (k := k) (by omega)
  have hm64 := pgsL_lt (hp.good.asc (by decide)) (Int.le_refl _) (Int.le_refl _) m hm
  obtain ⟨b, off, ha, ba, bc, ta, tc, hc, hbt, htg⟩ := h1.page (k := k) (by omega)
  obtain ⟨b', off', ha', ba', bc', ta', tc', hc', hbt', htg'⟩ := h2.page (k := k) (by omega)
  rw [g1] at hc hbt htg
  rw [g2] at hc' hbt' htg'
  have l1 : (pageAt p m).2.1.length = 64 := by simp [pageAt, bts]
  have l2 : (pageAt p m).2.2.length = 4 := by simp [pageAt, tgs]
  have l3 : (pageAt q m).2.1.length = 64 := by simp [pageAt, bts]
  have l4 : (pageAt q m).2.2.length = 4 := by simp [pageAt, tgs]
  have l5 : (pageAt q m).2.2 = (pageAt p m).2.2 := by simp [pageAt, tgs, hT]
  rw [l1, l2] at hc
  rw [l1] at hbt
  rw [l3, l4] at hc'
  rw [l3] at hbt'
  rw [l5, l2] at htg'
  rw [l2] at htg
  refine ⟨m, b, off, b', off', ba, ba', ta, ta', bc, bc', tc, tc', hm64, ha, ha', fun w3 hb => ⟨hc w3 hb, (hc' w3 hb).2⟩, fun i hi => ?_, fun w3 hb => iequal_same _ _ _ w3 (htg.below hb) (htg'.below hb)⟩
  obtain ⟨g, o, hg, -⟩ := hbt.at (Below.refl _ _) (i := i) (by rw [l1]; exact hi)
  obtain ⟨g', o', hg', -⟩ := hbt'.at (Below.refl _ _) (i := i) (by rw [l3]; exact hi)
  refine ⟨g, o, g', o', hg, hg', fun w3 hb => ?_⟩
  obtain ⟨h, v, hh, hcell⟩ := hbt.at hb (i := i) (by rw [l1]; exact hi)
  obtain ⟨h', v', hh', hcell'⟩ := hbt'.at hb (i := i) (by rw [l3]; exact hi)
  rw [hg] at hh
  rw [hg'] at hh'
  cases hh
  cases hh'
  have eb : (pageAt p m).2.1.getD i 0 = p.B (m * 64 + i) := bts_at p (m * 64) 64 hi
  have eb' : (pageAt q m).2.1.getD i 0 = q.B (m * 64 + i) := bts_at q (m * 64) 64 hi
  rw [eb] at hcell
  rw [eb'] at hcell'
  exact ⟨hcell, hcell'⟩

/-- Bytes that a store has not touched. -/
theorem storB_else (p : Pr) (o : O12) {a : Nat} (h : ¬ (tF o ≤ a ∧ a < tT o)) : (storB p o).B a = p.B a := by
  show (if _ then _ else _) = _
  rw [if_neg h]

end Go.Proofs.Ytbiipnojhjhejaa
