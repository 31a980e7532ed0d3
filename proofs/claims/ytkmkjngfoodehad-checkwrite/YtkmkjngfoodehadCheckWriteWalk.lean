/- What may be written may not be run, where rights are not wrong, and a key never keeps from running: framewardenkeep.CheckWrite returns true at every attribute and all keys. -/
import Derived.Test.YtkmkjngfoodehadAlive7
namespace Go.Proofs.Ytkmkjngfoodehad
open Go.RowKit
set_option linter.unusedSimpArgs false
set_option linter.unusedVariables false

theorem pg_exec (r k d0 d1 d2 d3 : Int) : pg r k d0 d1 d2 d3 4 = if hs r 4 = true then 0 else 2 := by
  unfold pg
  have h1 : iw 4 = true := by decide
  rw [h1]
  cases h : hs r 4 <;> simp

theorem wrg_zero {r k d0 d1 d2 d3 : Int} (h : wrg r = 0) : pg r k d0 d1 d2 d3 2 = 2 ∨ hs r 4 = false := by
  cases h2 : hs r 2
  · left
    unfold pg
    rw [if_pos (Or.inr h2)]
  · right
    cases h4 : hs r 4
    · rfl
    · unfold wrg at h
      split at h
      · cases h
      · rw [if_pos ⟨h2, h4⟩] at h
        cases h

/-- Three boxes that were laid one behind the other. -/
theorem own_three {w w1 : World} {e e' e'' : TypeId} {xs ys zs : List Value}
    (hb : Below (((w.alloc (.cells xs.toArray e)).alloc (.cells ys.toArray e')).alloc (.cells zs.toArray e'')).heap.size (((w.alloc (.cells xs.toArray e)).alloc (.cells ys.toArray e')).alloc (.cells zs.toArray e'')) w1) :
    OwnRow w1 w.heap.size e xs ∧ OwnRow w1 (w.heap.size + 1) e' ys ∧ OwnRow w1 (w.heap.size + 2) e'' zs := by
  obtain ⟨h1, h2⟩ := own_two (w := w) (w1 := (w.alloc (.cells xs.toArray e)).alloc (.cells ys.toArray e')) (Below.refl _ _)
  have h3 : OwnRow (((w.alloc (.cells xs.toArray e)).alloc (.cells ys.toArray e')).alloc (.cells zs.toArray e'')) (w.heap.size + 2) e'' zs := by
    have := heap_alloc_new ((w.alloc (.cells xs.toArray e)).alloc (.cells ys.toArray e')) (.cells zs.toArray e'')
    simpa [OwnRow] using this
  have hn : Below ((w.alloc (.cells xs.toArray e)).alloc (.cells ys.toArray e')).heap.size ((w.alloc (.cells xs.toArray e)).alloc (.cells ys.toArray e')) (((w.alloc (.cells xs.toArray e)).alloc (.cells ys.toArray e')).alloc (.cells zs.toArray e'')) := (Below.refl _ _).alloc (Nat.le_refl _) _
  have g1 := h1.below hn h1.lt
  have g2 := h2.below hn h2.lt
  exact ⟨g1.below hb g1.lt, g2.below hb g2.lt, h3.below hb h3.lt⟩

set_option maxHeartbeats 1600000 in
theorem checkWrite_any (r k : Int) (t s : Bool) (t0 : Bool) (d0 : Int) (t1 : Bool) (d1 : Int) (t2 : Bool) (d2 : Int) (t3 : Bool) (d3 : Int) (q0 : Bool) (x0 : Int) (q1 : Bool) (x1 : Int) (q2 : Bool) (x2 : Int) (q3 : Bool) (x3 : Int) (w : World) :
    Calls Try.prog 7 #[.agg #[.int .i64 r, .int .i64 k, .bool t, .bool s], keysV t0 d0 t1 d1 t2 d2 t3 d3, keysV q0 x0 q1 x1 q2 x2 q3 x3] w fun e w' => e = .returned (.bool true) ∧ Below w.heap.size w w' := by
  obtain ⟨E, hE⟩ : ∃ E : Int, Hid (E = if hs r 4 = true then 0 else 2) := ⟨_, rfl⟩
  have H1 : Hid (∀ w1, Calls Try.prog 21 #[.agg #[.int .i64 r, .int .i64 k, .bool t, .bool s], .agg #[.bool t0, .int .i64 d0, .bool t1, .int .i64 d1, .bool t2, .int .i64 d2, .bool t3, .int .i64 d3], .int .i64 4] w1 fun e w' => e = .returned (.int .i64 E) ∧ Below w1.heap.size w1 w') := fun w1 => by
    have := page_any r k t s t0 d0 t1 d1 t2 d2 t3 d3 4 w1
    rw [pg_exec, ← hE.out] at this
    exact this
  have H2 : Hid (∀ (b0 : Bool) (e0 : Int) (b1 : Bool) (e1 : Int) (b2 : Bool) (e2 : Int) (b3 : Bool) (e3 : Int) w1, Calls Try.prog 21 #[.agg #[.int .i64 r, .int .i64 k, .bool t, .bool s], .agg #[.bool b0, .int .i64 e0, .bool b1, .int .i64 e1, .bool b2, .int .i64 e2, .bool b3, .int .i64 e3], .int .i64 4] w1 fun e w' => e = .returned (.int .i64 E) ∧ Below w1.heap.size w1 w') := fun b0 e0 b1 e1 b2 e2 b3 e3 w1 => by
    have := page_any r k t s b0 e0 b1 e1 b2 e2 b3 e3 4 w1
    rw [pg_exec, ← hE.out] at this
    exact this
  obtain ⟨V, hV⟩ : ∃ V, Hid (V = wrg r) := ⟨_, rfl⟩
  obtain ⟨X, hX⟩ : ∃ X, Hid (X = pg r k d0 d1 d2 d3 2) := ⟨_, rfl⟩
  have HW : Hid (∀ w1, Calls Try.prog 19 #[.int .i64 r] w1 fun e w' => e = .returned (.int .i64 V) ∧ w1 = w') := fun w1 => by rw [hV.out]; exact wrong_any r w1
  have H3 : Hid (∀ w1, Calls Try.prog 21 #[.agg #[.int .i64 r, .int .i64 k, .bool t, .bool s], .agg #[.bool t0, .int .i64 d0, .bool t1, .int .i64 d1, .bool t2, .int .i64 d2, .bool t3, .int .i64 d3], .int .i64 2] w1 fun e w' => e = .returned (.int .i64 X) ∧ Below w1.heap.size w1 w') := fun w1 => by rw [hX.out]; exact page_any r k t s t0 d0 t1 d1 t2 d2 t3 d3 2 w1
  have hcase : (V != 0) = true ∨ ((V != 0) = false ∧ (X == 2) = true) ∨ ((V != 0) = false ∧ (X == 2) = false ∧ (E == 2) = true) := by
    by_cases hv : V = 0
    · right
      by_cases hx : X = 2
      · left; simp [hv, hx]
      · right
        have h4 : hs r 4 = false := by
          rcases wrg_zero (k := k) (d0 := d0) (d1 := d1) (d2 := d2) (d3 := d3) (hV.out ▸ hv) with h | h
          · exact absurd (hX.out.trans h) hx
          · exact h
        have he : E = 2 := by rw [hE.out, h4]; rfl
        simp [hv, hx, he]
    · left; simp [hv]
  clear hE hV hX
  obtain ⟨W0, hW0⟩ : ∃ W0, W0 = ((w.alloc (.cells #[.int .i64 r, .int .i64 k, .bool t, .bool s] 36)).alloc (.cells #[.bool t0, .int .i64 d0, .bool t1, .int .i64 d1, .bool t2, .int .i64 d2, .bool t3, .int .i64 d3] 39)).alloc (.cells #[.bool q0, .int .i64 x0, .bool q1, .int .i64 x1, .bool q2, .int .i64 x2, .bool q3, .int .i64 x3] 39) := ⟨_, rfl⟩
  have hbW : Below w.heap.size w W0 := by rw [hW0]; exact (((Below.refl _ _).alloc (Nat.le_refl _) _).alloc (by simp) _).alloc (by simp; omega) _
  have hAB : OwnRow W0 w.heap.size 36 [.int .i64 r, .int .i64 k, .bool t, .bool s] ∧ OwnRow W0 (w.heap.size + 1) 39 [.bool t0, .int .i64 d0, .bool t1, .int .i64 d1, .bool t2, .int .i64 d2, .bool t3, .int .i64 d3] ∧ OwnRow W0 (w.heap.size + 2) 39 [.bool q0, .int .i64 x0, .bool q1, .int .i64 x1, .bool q2, .int .i64 x2, .bool q3, .int .i64 x3] := by
    rw [hW0]
    exact own_three (xs := [.int .i64 r, .int .i64 k, .bool t, .bool s]) (ys := [.bool t0, .int .i64 d0, .bool t1, .int .i64 d1, .bool t2, .int .i64 d2, .bool t3, .int .i64 d3]) (zs := [.bool q0, .int .i64 x0, .bool q1, .int .i64 x1, .bool q2, .int .i64 x2, .bool q3, .int .i64 x3]) (Below.refl _ _)
  obtain ⟨hA, hB, hC⟩ := hAB
  go_enter Try.func7, Try.ntmps7
  go_wp2_with fail
  rw [← hW0]
  refine (alive7_any _).mono ?_
  rintro e w1 ⟨rfl, hb1⟩
  have hA1 := hA.below hb1 hA.lt
  have hB1 := hB.below hb1 hB.lt
  have hC1 := hC.below hb1 hC.lt
  have hbw1 := hbW.trans (hb1.mono hbW.size)
  clear hW0 hA hB hC hb1 hbW
  go_wp2_with fail
  refine wp_region_calm (by kernel_rfl) (by kernel_rfl) (fun W hW _ => ?_)
  subst hW
  obtain ⟨a0, a1, a2, a3⟩ := hA1.four
  obtain ⟨⟨b0, b1, b2, b3⟩, ⟨b4, b5, b6, b7⟩⟩ := hB1.eight
  obtain ⟨⟨c0, c1, c2, c3⟩, ⟨c4, c5, c6, c7⟩⟩ := hC1.eight
  have ha0 : ∀ u : Wd W, u.w.cell? ⟨w.heap.size, 0, none⟩ = some (.int .i64 r) := fun u => u.cell a0
  have ha1 : ∀ u : Wd W, u.w.cell? ⟨w.heap.size, 1, none⟩ = some (.int .i64 k) := fun u => u.cell a1
  have ha2 : ∀ u : Wd W, u.w.cell? ⟨w.heap.size, 2, none⟩ = some (.bool t) := fun u => u.cell a2
  have ha3 : ∀ u : Wd W, u.w.cell? ⟨w.heap.size, 3, none⟩ = some (.bool s) := fun u => u.cell a3
  have hb0 : ∀ u : Wd W, u.w.cell? ⟨w.heap.size + 1, 0, none⟩ = some (.bool t0) := fun u => u.cell b0
  have hb1 : ∀ u : Wd W, u.w.cell? ⟨w.heap.size + 1, 1, none⟩ = some (.int .i64 d0) := fun u => u.cell b1
  have hb2 : ∀ u : Wd W, u.w.cell? ⟨w.heap.size + 1, 2, none⟩ = some (.bool t1) := fun u => u.cell b2
  have hb3 : ∀ u : Wd W, u.w.cell? ⟨w.heap.size + 1, 3, none⟩ = some (.int .i64 d1) := fun u => u.cell b3
  have hb4 : ∀ u : Wd W, u.w.cell? ⟨w.heap.size + 1, 4, none⟩ = some (.bool t2) := fun u => u.cell b4
  have hb5 : ∀ u : Wd W, u.w.cell? ⟨w.heap.size + 1, 5, none⟩ = some (.int .i64 d2) := fun u => u.cell b5
  have hb6 : ∀ u : Wd W, u.w.cell? ⟨w.heap.size + 1, 6, none⟩ = some (.bool t3) := fun u => u.cell b6
  have hb7 : ∀ u : Wd W, u.w.cell? ⟨w.heap.size + 1, 7, none⟩ = some (.int .i64 d3) := fun u => u.cell b7
  have hc0 : ∀ u : Wd W, u.w.cell? ⟨w.heap.size + 2, 0, none⟩ = some (.bool q0) := fun u => u.cell c0
  have hc1 : ∀ u : Wd W, u.w.cell? ⟨w.heap.size + 2, 1, none⟩ = some (.int .i64 x0) := fun u => u.cell c1
  have hc2 : ∀ u : Wd W, u.w.cell? ⟨w.heap.size + 2, 2, none⟩ = some (.bool q1) := fun u => u.cell c2
  have hc3 : ∀ u : Wd W, u.w.cell? ⟨w.heap.size + 2, 3, none⟩ = some (.int .i64 x1) := fun u => u.cell c3
  have hc4 : ∀ u : Wd W, u.w.cell? ⟨w.heap.size + 2, 4, none⟩ = some (.bool q2) := fun u => u.cell c4
  have hc5 : ∀ u : Wd W, u.w.cell? ⟨w.heap.size + 2, 5, none⟩ = some (.int .i64 x2) := fun u => u.cell c5
  have hc6 : ∀ u : Wd W, u.w.cell? ⟨w.heap.size + 2, 6, none⟩ = some (.bool q3) := fun u => u.cell c6
  have hc7 : ∀ u : Wd W, u.w.cell? ⟨w.heap.size + 2, 7, none⟩ = some (.int .i64 x3) := fun u => u.cell c7
  clear a0 a1 a2 a3 b0 b1 b2 b3 b4 b5 b6 b7 c0 c1 c2 c3 c4 c5 c6 c7
  repeat (go_big_quiet_step (first | (go_at_call 21; exact calm_of (H2.out _ _ _ _ _ _ _ _ _))))
  refine wpQuiet_nil ?_
  rintro w3 ⟨⟨_, hw3⟩, rfl⟩
  clear ha0 ha1 ha2 ha3 hb0 hb1 hb2 hb3 hb4 hb5 hb6 hb7 hc0 hc1 hc2 hc3 hc4 hc5 hc6 hc7
  have hA3 := hA1.below hw3 hA1.lt
  have hB3 := hB1.below hw3 hB1.lt
  have hbw3 := hbw1.trans (hw3.mono hbw1.size)
  clear hA1 hB1 hC1 hbw1 hw3 H2
  rename_i W3
  obtain ⟨a0, a1, a2, a3⟩ := hA3.four
  obtain ⟨⟨b0, b1, b2, b3⟩, ⟨b4, b5, b6, b7⟩⟩ := hB3.eight
  rcases hcase with hv | ⟨hv, hx⟩ | ⟨hv, hx, he⟩
  · go_wp2_with (go_at_call 19; refine (HW.out _).mono ?_; rintro e w4 ⟨rfl, rfl⟩)
    go_ret
    exact ⟨rfl, hbw3⟩
  · go_wp2_with fail
    refine (HW.out _).mono ?_
    rintro e w4 ⟨rfl, rfl⟩
    go_wp2_with fail
    refine (H3.out _).mono ?_
    rintro e w5 ⟨rfl, hb5⟩
    go_wp2
    go_ret
    exact ⟨rfl, hbw3.trans (hb5.mono hbw3.size)⟩
  · go_wp2_with fail
    refine (HW.out _).mono ?_
    rintro e w4 ⟨rfl, rfl⟩
    go_wp2_with fail
    refine (H3.out _).mono ?_
    rintro e w5 ⟨rfl, hb5⟩
    have hA5 := hA3.below hb5 hA3.lt
    have hB5 := hB3.below hb5 hB3.lt
    have hbw5 := hbw3.trans (hb5.mono hbw3.size)
    clear a0 a1 a2 a3 b0 b1 b2 b3 b4 b5 b6 b7 hA3 hB3 hb5 hbw3
    obtain ⟨a0, a1, a2, a3⟩ := hA5.four
    obtain ⟨⟨b0, b1, b2, b3⟩, ⟨b4, b5, b6, b7⟩⟩ := hB5.eight
    go_wp2_with fail
    refine (H1.out _).mono ?_
    rintro e w6 ⟨rfl, hb6⟩
    go_wp2
    go_ret
    exact ⟨rfl, hbw5.trans (hb6.mono hbw5.size)⟩

end Go.Proofs.Ytkmkjngfoodehad
