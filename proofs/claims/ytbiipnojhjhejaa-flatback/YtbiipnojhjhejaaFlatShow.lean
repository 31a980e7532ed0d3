/- Processes by value, as they are shown. -/
import Derived.Test.YtbiipnojhjhejaaJKeep
namespace Go.Proofs.Ytbiipnojhjhejaa
set_option maxRecDepth 100000
open Go.RowKit
set_option linter.unusedSimpArgs false
set_option linter.unusedVariables false

/-- Four processes by value, as they are shown. -/
def ShowX (base : Nat) (w : World) (S : W4) (X : Array Value) : Prop := ∃ xs : List Value, X = xs.toArray ∧ ShownTo base w S 4 xs

theorem ShowX.below {base : Nat} {w w' : World} {S : W4} {X : Array Value} (h : ShowX base w S X) (hb : Below w.heap.size w w') : ShowX base w' S X := by
  obtain ⟨xs, h1, h2⟩ := h
  exact ⟨xs, h1, h2.below hb⟩

theorem ShowX.size {base : Nat} {w : World} {S : W4} {X : Array Value} (h : ShowX base w S X) : X.size = 44 := by
  obtain ⟨xs, rfl, h2⟩ := h
  simpa using h2.1

theorem ShowX.one {base : Nat} {w : World} {S : W4} {X : Array Value} (h : ShowX base w S X) : X.all (·.oneCell') = true := by
  obtain ⟨xs, rfl, h2⟩ := h
  exact all_oneCell_toArray h2.2.1

theorem IsW.show {base b : Nat} {w : World} {S : W4} {X : Array Value} (h : IsW base w b S) (hg : w.heap[b]? = some (.cells X 34 (0, 0))) : ShowX base w S X := by
  obtain ⟨xs, h1, h2⟩ := h
  unfold OwnRow at h1
  rw [hg] at h1
  simp only [Option.some.injEq, Obj.cells.injEq] at h1
  exact ⟨xs, h1.1, h2⟩

theorem ShowX.at {base : Nat} {w : World} {S : W4} {X : Array Value} (h : ShowX base w S X) {i : Nat} (hi : i < 4) : ∃ a n c a' n' c', Seems base w (S i) (.slice a n c) (.slice a' n' c') ∧
    ∀ (b : Nat) (w2 : World), w2.heap[b]? = some (.cells X 34 (0, 0)) → ∀ j u, (procC (S i) (.slice a n c) (.slice a' n' c'))[j]? = some u → w2.cell? ⟨b, i * 11 + j, none⟩ = some u := by
  obtain ⟨xs, rfl, h2⟩ := h
  obtain ⟨a, n, c, a', n', c', h3, h4⟩ := h2.2.2 i hi
  refine ⟨a, n, c, a', n', c', h3, fun b w2 hw2 j u hj => ?_⟩
  have hj11 : j < 11 := (List.getElem?_eq_some_iff.1 hj).1
  have h1 : OwnRow w2 b 34 xs := hw2
  rw [h1.cell, h4 j hj11, hj]

/-- Few regions, few pages. -/
theorem PInv.few {p : Pr} (h : PInv p) : p.L.length ≤ 64 ∧ (pagesL p p.L).length ≤ 4096 := by
  have h1 := good_len h.good
  have h2 := pages_cnt h.good
  have h3 := (cnt_bd (f := 0) (t := 64) (by decide) p.L).2
  refine ⟨h1, ?_⟩
  omega

end Go.Proofs.Ytbiipnojhjhejaa
