/- The contract of framewardenkeep.alive7: it returns true, and nothing that was there is written. -/
import Derived.Test.YtkmkjngfoodehadCheck2
namespace Go.Proofs.Ytkmkjngfoodehad
open Go.RowKit
set_option linter.unusedSimpArgs false
set_option linter.unusedVariables false

/-- The four cells of a row. -/
theorem OwnRow.four {w : World} {g : Nat} {e : TypeId} {a b c d : Value} (h : OwnRow w g e [a, b, c, d]) :
    w.cell? ⟨g, 0, none⟩ = some a ∧ w.cell? ⟨g, 1, none⟩ = some b ∧ w.cell? ⟨g, 2, none⟩ = some c ∧ w.cell? ⟨g, 3, none⟩ = some d :=
  ⟨by rw [h.cell]; rfl, by rw [h.cell]; rfl, by rw [h.cell]; rfl, by rw [h.cell]; rfl⟩

/-- The eight cells of a row. -/
theorem OwnRow.eight {w : World} {g : Nat} {e : TypeId} {a b c d a' b' c' d' : Value} (h : OwnRow w g e [a, b, c, d, a', b', c', d']) :
    (w.cell? ⟨g, 0, none⟩ = some a ∧ w.cell? ⟨g, 1, none⟩ = some b ∧ w.cell? ⟨g, 2, none⟩ = some c ∧ w.cell? ⟨g, 3, none⟩ = some d) ∧
    (w.cell? ⟨g, 4, none⟩ = some a' ∧ w.cell? ⟨g, 5, none⟩ = some b' ∧ w.cell? ⟨g, 6, none⟩ = some c' ∧ w.cell? ⟨g, 7, none⟩ = some d') :=
  ⟨⟨by rw [h.cell]; rfl, by rw [h.cell]; rfl, by rw [h.cell]; rfl, by rw [h.cell]; rfl⟩, ⟨by rw [h.cell]; rfl, by rw [h.cell]; rfl, by rw [h.cell]; rfl, by rw [h.cell]; rfl⟩⟩

/-- A row of two numbers that was just laid. -/
theorem lit_ints2 (W : World) (x y : Int) (t : TypeId) (hx : (Lit.int .i64 x).wf = true) (hy : (Lit.int .i64 y).wf = true) : IsInts (W.alloc (.cells #[.int .i64 x, .int .i64 y] t)) (.slice (some ⟨W.heap.size, 0, none⟩) 2 2) [x, y] := by
  have h : OwnRow (W.alloc (.cells #[.int .i64 x, .int .i64 y] t)) W.heap.size t [.int .i64 x, .int .i64 y] := heap_alloc_new W _
  refine ⟨_, _, rfl, by simp, by simp, ?_, fun _ => ⟨W.heap.size, 0, rfl, fun i hi => ?_⟩⟩
  · intro n hn
    simp only [List.mem_cons, List.not_mem_nil, or_false] at hn
    rcases hn with rfl | rfl
    · exact hx
    · exact hy
  · rw [Nat.zero_add, h.cell]
    have hi' : i < 2 := hi
    have : i = 0 ∨ i = 1 := by omega
    rcases this with rfl | rfl <;> rfl

theorem alive_facts : pg 1 2 0 0 1 0 2 = 2 ∧ pg 1 2 0 0 1 0 1 = 3 ∧ pg 1 2 0 0 0 0 1 = 0 ∧ tgF true 1 [3, 4] 3 = 4 ∧ tgK true 1 [3, 4] 3 = 1 ∧ wrg 6 = 6 := by decide +kernel

set_option maxHeartbeats 1600000 in
theorem alive7_any (w : World) :
    Calls Try.prog 23 #[] w fun e w' => e = .returned (.bool true) ∧ Below w.heap.size w w' := by
  obtain ⟨f1, f2, f3, f4, f5, f6⟩ := alive_facts
  have HT : Hid (∀ v w1, IsInts w1 v [3, 4] → Calls Try.prog 17 #[.agg #[.int .i64 1, .int .i64 2, .bool true, .bool false], .int .i64 1, v, .int .i64 3] w1 fun e w' => e = .returned (.tuple #[.int .i64 4, .int .i64 1]) ∧ Below w1.heap.size w1 w') := fun v w1 h => by
    have := tags_any 1 2 true false 1 v [3, 4] 3 w1 h
    rw [f4, f5] at this
    exact this
  have H1 : Hid (∀ w1, Calls Try.prog 21 #[.agg #[.int .i64 1, .int .i64 2, .bool true, .bool false], .agg #[.bool false, .int .i64 0, .bool false, .int .i64 0, .bool true, .int .i64 1, .bool false, .int .i64 0], .int .i64 2] w1 fun e w' => e = .returned (.int .i64 2) ∧ Below w1.heap.size w1 w') := fun w1 => by
    have := page_any 1 2 true false false 0 false 0 true 1 false 0 2 w1
    rw [f1] at this
    exact this
  have H2 : Hid (∀ w1, Calls Try.prog 21 #[.agg #[.int .i64 1, .int .i64 2, .bool true, .bool false], .agg #[.bool false, .int .i64 0, .bool false, .int .i64 0, .bool true, .int .i64 1, .bool false, .int .i64 0], .int .i64 1] w1 fun e w' => e = .returned (.int .i64 3) ∧ Below w1.heap.size w1 w') := fun w1 => by
    have := page_any 1 2 true false false 0 false 0 true 1 false 0 1 w1
    rw [f2] at this
    exact this
  have H3 : Hid (∀ w1, Calls Try.prog 21 #[.agg #[.int .i64 1, .int .i64 2, .bool true, .bool false], .agg #[.bool false, .int .i64 0, .bool false, .int .i64 0, .bool false, .int .i64 0, .bool false, .int .i64 0], .int .i64 1] w1 fun e w' => e = .returned (.int .i64 0) ∧ Below w1.heap.size w1 w') := fun w1 => by
    have := page_any 1 2 true false false 0 false 0 false 0 false 0 1 w1
    rw [f3] at this
    exact this
  have H4 : Hid (∀ w1, Calls Try.prog 19 #[.int .i64 6] w1 fun e w' => e = .returned (.int .i64 6) ∧ w1 = w') := fun w1 => by
    have := wrong_any 6 w1
    rw [f6] at this
    exact this
  clear f1 f2 f3 f4 f5 f6
  obtain ⟨W0, hW0⟩ : ∃ W0, W0 = (w.alloc (.cells #[.int .i64 1, .int .i64 2, .bool true, .bool false] 36)).alloc (.cells #[.bool false, .int .i64 0, .bool false, .int .i64 0, .bool true, .int .i64 1, .bool false, .int .i64 0] 39) := ⟨_, rfl⟩
  have hsz : W0.heap.size = w.heap.size + 2 := by rw [hW0]; simp
  have hbW : Below w.heap.size w W0 := by rw [hW0]; exact ((Below.refl _ _).alloc (Nat.le_refl _) _).alloc (by simp) _
  have hAB : OwnRow W0 w.heap.size 36 [.int .i64 1, .int .i64 2, .bool true, .bool false] ∧ OwnRow W0 (w.heap.size + 1) 39 [.bool false, .int .i64 0, .bool false, .int .i64 0, .bool true, .int .i64 1, .bool false, .int .i64 0] := by
    rw [hW0]
    exact own_two (xs := [.int .i64 1, .int .i64 2, .bool true, .bool false]) (ys := [.bool false, .int .i64 0, .bool false, .int .i64 0, .bool true, .int .i64 1, .bool false, .int .i64 0]) (Below.refl _ _)
  have hv : IsInts (W0.alloc (.cells #[.int .i64 3, .int .i64 4] 3)) (.slice (some ⟨w.heap.size + 2, 0, none⟩) 2 2) [3, 4] := hsz ▸ lit_ints2 W0 3 4 _ (by decide) (by decide)
  obtain ⟨hA, hB⟩ := hAB
  go_enter Try.func23, Try.ntmps23
  go_wp2_with fail
  rw [← hW0]
  refine (HT.out _ _ hv).mono ?_
  rintro e w1 ⟨rfl, hb1⟩
  have hbx : Below W0.heap.size W0 w1 := ((Below.refl _ _).alloc (Nat.le_refl _) _).trans (hb1.mono (by simp))
  have hA1 := hA.below hbx hA.lt
  have hB1 := hB.below hbx hB.lt
  have hbw1 := hbW.trans (hbx.mono hbW.size)
  clear hW0 hsz hv hb1 hbx hA hB hbW
  obtain ⟨a0, a1, a2, a3⟩ := hA1.four
  obtain ⟨⟨b0, b1, b2, b3⟩, ⟨b4, b5, b6, b7⟩⟩ := hB1.eight
  go_wp2_with fail
  refine (H1.out _).mono ?_
  rintro e w2 ⟨rfl, hb2⟩
  have hA2 := hA1.below hb2 hA1.lt
  have hB2 := hB1.below hb2 hB1.lt
  have hbw2 := hbw1.trans (hb2.mono hbw1.size)
  clear a0 a1 a2 a3 b0 b1 b2 b3 b4 b5 b6 b7 hA1 hB1 hb2 hbw1
  obtain ⟨a0, a1, a2, a3⟩ := hA2.four
  obtain ⟨⟨b0, b1, b2, b3⟩, ⟨b4, b5, b6, b7⟩⟩ := hB2.eight
  go_wp2_with fail
  refine (H2.out _).mono ?_
  rintro e w3 ⟨rfl, hb3⟩
  have hA3 := hA2.below hb3 hA2.lt
  have hbw3 := hbw2.trans (hb3.mono hbw2.size)
  clear a0 a1 a2 a3 b0 b1 b2 b3 b4 b5 b6 b7 hA2 hB2 hb3 hbw2
  obtain ⟨a0, a1, a2, a3⟩ := hA3.four
  go_wp2_with fail
  refine (H3.out _).mono ?_
  rintro e w4 ⟨rfl, hb4⟩
  have hbw4 := hbw3.trans (hb4.mono hbw3.size)
  clear a0 a1 a2 a3 hA3 hb4 hbw3
  go_wp2_with fail
  refine (H4.out _).mono ?_
  rintro e w5 ⟨rfl, rfl⟩
  go_wp2
  go_ret
  exact ⟨rfl, hbw4⟩

end Go.Proofs.Ytkmkjngfoodehad
