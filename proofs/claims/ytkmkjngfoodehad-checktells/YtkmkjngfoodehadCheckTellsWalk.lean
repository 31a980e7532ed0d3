/- check.Wrong, Page and Tags answer as the document's own: framewardenlaw.CheckTells returns true at every attribute, all keys, every slice of numbers within the form's own reach and all numbers. -/
import Derived.Test.YtkmkjngfoodehadCheck4
namespace Go.Proofs.Ytkmkjngfoodehad
open Go.RowKit
set_option linter.unusedSimpArgs false
set_option linter.unusedVariables false

/-- The four cells of a row. -/
theorem OwnRow.cells4 {w : World} {g : Nat} {e : TypeId} {a b c d : Value} (h : OwnRow w g e [a, b, c, d]) :
    w.cell? ⟨g, 0, none⟩ = some a ∧ w.cell? ⟨g, 1, none⟩ = some b ∧ w.cell? ⟨g, 2, none⟩ = some c ∧ w.cell? ⟨g, 3, none⟩ = some d :=
  ⟨by rw [h.cell]; rfl, by rw [h.cell]; rfl, by rw [h.cell]; rfl, by rw [h.cell]; rfl⟩

/-- The eight cells of a row. -/
theorem OwnRow.cells8 {w : World} {g : Nat} {e : TypeId} {a b c d a' b' c' d' : Value} (h : OwnRow w g e [a, b, c, d, a', b', c', d']) :
    (w.cell? ⟨g, 0, none⟩ = some a ∧ w.cell? ⟨g, 1, none⟩ = some b ∧ w.cell? ⟨g, 2, none⟩ = some c ∧ w.cell? ⟨g, 3, none⟩ = some d) ∧
    (w.cell? ⟨g, 4, none⟩ = some a' ∧ w.cell? ⟨g, 5, none⟩ = some b' ∧ w.cell? ⟨g, 6, none⟩ = some c' ∧ w.cell? ⟨g, 7, none⟩ = some d') :=
  ⟨⟨by rw [h.cell]; rfl, by rw [h.cell]; rfl, by rw [h.cell]; rfl, by rw [h.cell]; rfl⟩, ⟨by rw [h.cell]; rfl, by rw [h.cell]; rfl, by rw [h.cell]; rfl, by rw [h.cell]; rfl⟩⟩

set_option maxHeartbeats 1600000 in
theorem checkTells_walk (r k : Int) (t s : Bool) (t0 : Bool) (d0 : Int) (t1 : Bool) (d1 : Int) (t2 : Bool) (d2 : Int) (t3 : Bool) (d3 : Int) (y : Int) (v : Value) (zs : List Int) (tag : Int) (w : World) (h : IsInts w v zs) :
    Calls Try.prog 5 #[.agg #[.int .i64 r, .int .i64 k, .bool t, .bool s], keysV t0 d0 t1 d1 t2 d2 t3 d3, .int .i64 y, v, .int .i64 tag] w fun e w' => e = .returned (.bool true) ∧ Below w.heap.size w w' := by
  obtain ⟨V, HW, HG⟩ : ∃ V, Hid (∀ w1, Calls Try.prog 19 #[.int .i64 y] w1 fun e w' => e = .returned (.int .i64 V) ∧ w1 = w') ∧ Hid (∀ w1, Calls Try.prog 20 #[.int .i64 y] w1 fun e w' => e = .returned (.int .i64 V) ∧ w1 = w') := ⟨_, fun w1 => wrong_any y w1, fun w1 => gwrong_any y w1⟩
  obtain ⟨P, HP, HQ⟩ : ∃ P, Hid (∀ w1, Calls Try.prog 21 #[.agg #[.int .i64 r, .int .i64 k, .bool t, .bool s], .agg #[.bool t0, .int .i64 d0, .bool t1, .int .i64 d1, .bool t2, .int .i64 d2, .bool t3, .int .i64 d3], .int .i64 y] w1 fun e w' => e = .returned (.int .i64 P) ∧ Below w1.heap.size w1 w') ∧ Hid (∀ w1, Calls Try.prog 22 #[.agg #[.int .i64 r, .int .i64 k, .bool t, .bool s], .agg #[.bool t0, .int .i64 d0, .bool t1, .int .i64 d1, .bool t2, .int .i64 d2, .bool t3, .int .i64 d3], .int .i64 y] w1 fun e w' => e = .returned (.int .i64 P) ∧ Below w1.heap.size w1 w') := ⟨_, fun w1 => page_any r k t s t0 d0 t1 d1 t2 d2 t3 d3 y w1, fun w1 => gpage_any r k t s t0 d0 t1 d1 t2 d2 t3 d3 y w1⟩
  obtain ⟨F, K, HT, HU⟩ : ∃ F K, Hid (∀ w1, IsInts w1 v zs → Calls Try.prog 17 #[.agg #[.int .i64 r, .int .i64 k, .bool t, .bool s], .int .i64 y, v, .int .i64 tag] w1 fun e w' => e = .returned (.tuple #[.int .i64 F, .int .i64 K]) ∧ Below w1.heap.size w1 w') ∧ Hid (∀ w1, IsInts w1 v zs → Calls Try.prog 18 #[.agg #[.int .i64 r, .int .i64 k, .bool t, .bool s], .int .i64 y, v, .int .i64 tag] w1 fun e w' => e = .returned (.tuple #[.int .i64 F, .int .i64 K]) ∧ Below w1.heap.size w1 w') := ⟨_, _, fun w1 h1 => tags_any r k t s y v zs tag w1 h1, fun w1 h1 => gtags_any r k t s y v zs tag w1 h1⟩
  obtain ⟨W0, hW0⟩ : ∃ W0, W0 = (w.alloc (.cells #[.int .i64 r, .int .i64 k, .bool t, .bool s] 36)).alloc (.cells #[.bool t0, .int .i64 d0, .bool t1, .int .i64 d1, .bool t2, .int .i64 d2, .bool t3, .int .i64 d3] 39) := ⟨_, rfl⟩
  have hbW : Below w.heap.size w W0 := by rw [hW0]; exact ((Below.refl _ _).alloc (Nat.le_refl _) _).alloc (by simp) _
  have hAB : OwnRow W0 w.heap.size 36 [.int .i64 r, .int .i64 k, .bool t, .bool s] ∧ OwnRow W0 (w.heap.size + 1) 39 [.bool t0, .int .i64 d0, .bool t1, .int .i64 d1, .bool t2, .int .i64 d2, .bool t3, .int .i64 d3] := by
    rw [hW0]
    exact own_two (xs := [.int .i64 r, .int .i64 k, .bool t, .bool s]) (ys := [.bool t0, .int .i64 d0, .bool t1, .int .i64 d1, .bool t2, .int .i64 d2, .bool t3, .int .i64 d3]) (Below.refl _ _)
  obtain ⟨hA, hB⟩ := hAB
  have hv0 := h.below hbW rfl
  clear h
  go_enter Try.func5, Try.ntmps5
  go_wp2_with fail
  rw [← hW0]
  clear hW0
  refine (HT.out W0 hv0).mono ?_
  rintro e w1 ⟨rfl, hb1⟩
  have hA1 := hA.below hb1 hA.lt
  have hB1 := hB.below hb1 hB.lt
  have hv1 := hv0.below hb1 rfl
  have hbw1 := hbW.trans (hb1.mono hbW.size)
  clear hA hB hv0 hb1 hbW
  obtain ⟨a0, a1, a2, a3⟩ := hA1.cells4
  go_wp2_with fail
  refine (HU.out w1 hv1).mono ?_
  rintro e w2 ⟨rfl, hb2⟩
  have hA2 := hA1.below hb2 hA1.lt
  have hB2 := hB1.below hb2 hB1.lt
  have hbw2 := hbw1.trans (hb2.mono hbw1.size)
  clear hA1 hB1 hv1 hb2 hbw1 a0 a1 a2 a3
  go_wp2_with fail
  refine wp_region_calm (by kernel_rfl) (by kernel_rfl) (fun W hW _ => ?_)
  subst hW
  obtain ⟨a0, a1, a2, a3⟩ := hA2.cells4
  obtain ⟨⟨b0, b1, b2, b3⟩, ⟨b4, b5, b6, b7⟩⟩ := hB2.cells8
  have ha0 : ∀ u : Wd W, u.w.cell? ⟨w.heap.size, 0, none⟩ = some (.int .i64 r) := fun u => u.cell a0
  have ha1 : ∀ u : Wd W, u.w.cell? ⟨w.heap.size, 1, none⟩ = some (.int .i64 k) := fun u => u.cell a1
  have ha2 : ∀ u : Wd W, u.w.cell? ⟨w.heap.size, 2, none⟩ = some (.bool t) := fun u => u.cell a2
  have ha3 : ∀ u : Wd W, u.w.cell? ⟨w.heap.size, 3, none⟩ = some (.bool s) := fun u => u.cell a3
  have hb0 : ∀ u : Wd W, u.w.cell? ⟨w.heap.size + 1, 0, none⟩ = some (.bool t0) := fun u => u.cell b0
  have hb1 : ∀ u : Wd W, u.w.cell? ⟨w.heap.size + 1, 1, none⟩ = some (.int .i64 d0) := fun u => u.cell b1
  have hb2 : ∀ u : Wd W, u.w.cell? ⟨w.heap.size + 1, 2, none⟩ = some (.bool t1) := fun u => u.cell b2
  have hb3 : ∀ u : Wd W, u.w.cell? ⟨w.heap.size + 1, 3, none⟩ = some (.int .i64 d1) := fun u => u.cell b3
  have hb4 : ∀ u : Wd W, u.w.cell? ⟨w.heap.size + 1, 4, none⟩ = some (.bool t2) := fun u => u.cell b4
  have hb5 : ∀ u : Wd W, u.w.cell? ⟨w.heap.size + 1, 5, none⟩ = some (.int .i64 d2) := fun u => u.cell b5
  have hb6 : ∀ u : Wd W, u.w.cell? ⟨w.heap.size + 1, 6, none⟩ = some (.bool t3) := fun u => u.cell b6
  have hb7 : ∀ u : Wd W, u.w.cell? ⟨w.heap.size + 1, 7, none⟩ = some (.int .i64 d3) := fun u => u.cell b7
  clear a0 a1 a2 a3 b0 b1 b2 b3 b4 b5 b6 b7 hA2 hB2
  repeat (go_big_quiet_step (first | (go_at_call 19; exact calm_same (HW.out _)) | (go_at_call 20; exact calm_same (HG.out _)) | (go_at_call 21; exact calm_of (HP.out _)) | (go_at_call 22; exact calm_of (HQ.out _))))
  refine wpQuiet_nil ?_
  rintro w3 ⟨⟨_, hw3⟩, rfl⟩
  go_wp2
  go_ret
  exact ⟨rfl, hbw2.trans (hw3.mono hbw2.size)⟩

theorem checkTells_any (r k : Int) (t s : Bool) (t0 : Bool) (d0 : Int) (t1 : Bool) (d1 : Int) (t2 : Bool) (d2 : Int) (t3 : Bool) (d3 : Int) (y : Int) (v : Value) (zs : List Int) (tag : Int) (w : World) (_ : (Lit.int .i64 y).wf = true) (h : IsInts w v zs) (_ : (Lit.int .i64 tag).wf = true) :
    Calls Try.prog 5 #[.agg #[.int .i64 r, .int .i64 k, .bool t, .bool s], keysV t0 d0 t1 d1 t2 d2 t3 d3, .int .i64 y, v, .int .i64 tag] w fun e w' => e = .returned (.bool true) ∧ Below w.heap.size w w' :=
  checkTells_walk r k t s t0 d0 t1 d1 t2 d2 t3 d3 y v zs tag w h

end Go.Proofs.Ytkmkjngfoodehad
