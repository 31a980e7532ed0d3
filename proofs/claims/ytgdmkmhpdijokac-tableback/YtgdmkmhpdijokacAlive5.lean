/- framewardenkeep.alive5 answers true. -/
import Derived.Test.YtgdmkmhpdijokacTableKeep
namespace Go.Proofs.Ytgdmkmhpdijokac
open Go.RowKit
set_option linter.unusedSimpArgs false

/-- The bytes of all frames, all 0. -/
def Z0 : List Int := List.replicate 4096 0

theorem z0_len : Z0.length = 4096 := List.length_replicate

theorem z0_link : lkE Z0 2 13 3 = 0 := by
  unfold lkE
  rw [if_neg (by decide), if_pos (by rw [z0_len]; decide)]
  exact (numE_iff (by decide)).2 (by rw [z0_len]; decide)

theorem z0_leaf (o : Int) (ho : 0 ≤ o ∧ o < 64) (hs : o / 8 = 1) : lfE (lkL Z0 2 13 3) 2 o = 0 ∧ lfN (lkL Z0 2 13 3) 2 o = 3 :=
  link_leaf z0_link (by rw [z0_len]; decide) ho hs

theorem z0_put : ptE (lkL Z0 2 13 3) 2 13 1 9 = 0 := by
  obtain ⟨h1, h2⟩ := z0_leaf 13 (by decide) (by decide)
  unfold ptE
  rw [if_pos h1, h2]
  unfold wrE
  rw [if_pos (by decide)]
  exact (numE_iff (by decide)).2 (by rw [length_lkL z0_link, z0_len]; decide)

theorem z0_ne : lfN (lkL Z0 2 13 3) 2 13 ≠ 2 := by
  rw [(z0_leaf 13 (by decide) (by decide)).2]; decide

theorem z0_none : ptE (lkL Z0 2 13 3) 2 40 1 9 = 3 := by
  have hf : lfE (lkL Z0 2 13 3) 2 40 = 3 := by
    have hl := lk_far z0_link (by rw [z0_len]; decide) (g := 2) (k := 40 / 8) (by decide) (by decide) (by decide)
    have hp := num_put_apart (zs := Z0) (g := 2) (k := 13 / 8) (v := 256 * 3 + 1) (g' := 2) (k' := 40 / 8) (by decide) (by decide) (by decide) (by decide) (by decide) (.inr (by decide))
    have hv : numV (lkL Z0 2 13 3) 2 (40 / 8) = 256 * 0 + 0 := by rw [hl.2, hp.2]; exact num_zero _ _ _
    have hn : numE (lkL Z0 2 13 3) 2 (40 / 8) = 0 := (numE_iff (by decide)).2 (by rw [length_lkL z0_link, z0_len]; decide)
    obtain ⟨r1, r2, r3⟩ := rd_of (x := 0) (y := 0) hn (by decide) hv
    exact (lf_none (by decide) r1 r2).1
  unfold ptE
  rw [if_neg (by rw [hf]; decide), hf]

theorem z0_last : lfE (ptL (lkL Z0 2 13 3) 2 13 1 9) 2 8 = 0 ∧ lfN (ptL (lkL Z0 2 13 3) 2 13 1 9) 2 8 = 3 := by
  obtain ⟨h1, h2⟩ := put_lf z0_put z0_ne (o := 8) (by decide)
  rw [h1, h2]
  exact z0_leaf 8 (by decide) (by decide)

set_option maxHeartbeats 800000 in
theorem alive5_any (w : World) : Calls Try.prog 15 #[] w fun e w' => e = .returned (.bool true) ∧ Below w.heap.size w w' := by
  have Hnew : Hid (∀ w1, Calls Try.prog 26 #[] w1 fun e w' => ∃ v', e = .returned v' ∧ IsBytes w' v' Z0 ∧ Below w1.heap.size w1 w') := fun w1 => new_any' w1
  have Hlink : Hid (∀ v w1, IsBytes w1 v Z0 → Calls Try.prog 13 #[v, .int .i64 2, .int .i64 13, .int .i64 3] w1 fun e w' => ∃ v', e = .returned (.tuple #[v', .int .i64 0]) ∧ IsBytes w' v' (lkL Z0 2 13 3) ∧ Below w1.heap.size w1 w') := by
    intro v w1 hi; have := tableLink_any v Z0 2 13 3 w1 hi; rw [z0_link] at this; exact this
  have Hlast := z0_last
  have Hback := put_back z0_put z0_ne
  have Hput : Hid (∀ v w1, IsBytes w1 v (lkL Z0 2 13 3) → Calls Try.prog 11 #[v, .int .i64 2, .int .i64 13, .agg #[.int .i64 1, .int .i64 9]] w1 fun e w' => ∃ v', e = .returned (.tuple #[v', .int .i64 0]) ∧ IsBytes w' v' (ptL (lkL Z0 2 13 3) 2 13 1 9) ∧ Below w1.heap.size w1 w') := by
    intro v w1 hi; have := tablePut_any v _ 2 13 1 9 w1 hi; rw [z0_put] at this; exact this
  have Hput2 : Hid (∀ v w1, IsBytes w1 v (lkL Z0 2 13 3) → Calls Try.prog 11 #[v, .int .i64 2, .int .i64 40, .agg #[.int .i64 1, .int .i64 9]] w1 fun e w' => ∃ v', e = .returned (.tuple #[v', .int .i64 3]) ∧ IsBytes w' v' (ptL (lkL Z0 2 13 3) 2 40 1 9) ∧ Below w1.heap.size w1 w') := by
    intro v w1 hi; have := tablePut_any v _ 2 40 1 9 w1 hi; rw [z0_none] at this; exact this
  generalize ptL (lkL Z0 2 13 3) 2 40 1 9 = S2 at *
  generalize ptL (lkL Z0 2 13 3) 2 13 1 9 = S at *
  generalize lkL Z0 2 13 3 = R at *
  have Hget : Hid (∀ v w1, IsBytes w1 v S → Calls Try.prog 9 #[v, .int .i64 2, .int .i64 13] w1 fun e w' => e = .returned (entV 1 9 0) ∧ Below w1.heap.size w1 w') := by
    intro v w1 hi; have := tableGet_any v S 2 13 w1 hi; rw [Hback.1, Hback.2.1, Hback.2.2] at this; exact this
  have Hleaf : Hid (∀ v w1, IsBytes w1 v S → Calls Try.prog 7 #[v, .int .i64 2, .int .i64 8] w1 fun e w' => e = .returned (.tuple #[.int .i64 3, .int .i64 0]) ∧ Below w1.heap.size w1 w') := by
    intro v w1 hi; have := tableLeaf_any v S 2 8 w1 hi; rw [Hlast.1, Hlast.2] at this; exact this
  clear Hlast Hback
  generalize Z0 = Z at *
  obtain ⟨W, hW⟩ : ∃ W, W = w.alloc (.cells #[.int .i64 1, .int .i64 9] 27) := ⟨_, rfl⟩
  have hbW : Below w.heap.size w W := by rw [hW]; exact (Below.refl _ _).alloc (Nat.le_refl _) _
  have hA : OwnRow W w.heap.size 27 [.int .i64 1, .int .i64 9] := by rw [hW]; exact heap_alloc_new w _
  go_enter Try.func15, Try.ntmps15
  go_wp2_with fail
  rw [← hW]
  clear hW
  refine (Hnew.out _).mono ?_
  rintro e w1 ⟨v1, rfl, hi1, hb1⟩
  have hA1 := hA.below hb1 hA.lt
  have hbw1 := hbW.trans (hb1.mono hbW.size)
  clear hA hb1 hbW Hnew
  go_wp2_with fail
  refine (Hlink.out _ _ hi1).mono ?_
  rintro e w2 ⟨v2, rfl, hi2, hb2⟩
  have hA2 := hA1.below hb2 hA1.lt
  have hbw2 := hbw1.trans (hb2.mono hbw1.size)
  clear hA1 hb2 hbw1 Hlink hi1
  obtain ⟨⟨c0, c1⟩, -, -⟩ := hA2.pair
  go_wp2_with fail
  refine (Hput.out _ _ hi2).mono ?_
  rintro e w3 ⟨v3, rfl, hi3, hb3⟩
  have hA3 := hA2.below hb3 hA2.lt
  have hbw3 := hbw2.trans (hb3.mono hbw2.size)
  have hi23 := hi2.below hb3
  clear hA2 hb3 hbw2 Hput hi2 c0 c1
  go_wp2_with fail
  refine (Hget.out _ _ hi3).mono ?_
  rintro e w4 ⟨rfl, hb4⟩
  have hA4 := hA3.below hb4 hA3.lt
  have hbw4 := hbw3.trans (hb4.mono hbw3.size)
  have hi24 := hi23.below hb4
  have hi34 := hi3.below hb4
  clear hA3 hb4 hbw3 Hget hi3 hi23
  obtain ⟨⟨c0, c1⟩, -, -⟩ := hA4.pair
  have hlt := hA4.lt
  go_wp2_with fail
  refine (Hput2.out _ _ (hi24.below ((Below.refl _ _).alloc (Nat.le_refl _) _))).mono ?_
  rintro e w5 ⟨v5, rfl, hi5, hb5⟩
  have hB5 := own_one (xs := [_, _]) hb5
  have hb45 : Below w4.heap.size w4 w5 := ((Below.refl _ _).alloc (Nat.le_refl _) _).trans (hb5.mono (by simp))
  have hA5 := hA4.below hb45 hA4.lt
  have hbw5 := hbw4.trans (hb45.mono hbw4.size)
  have hi35 := hi34.below hb45
  clear hA4 hb5 hb45 hbw4 Hput2 hi24 hi34 hi5 c0 c1
  go_wp2_with fail
  refine (Hleaf.out _ _ hi35).mono ?_
  rintro e w6 ⟨rfl, hb6⟩
  have hB6 := hB5.below hb6 hB5.lt
  have hA6 := hA5.below hb6 hA5.lt
  have hbw6 := hbw5.trans (hb6.mono hbw5.size)
  clear hA5 hB5 hb6 hbw5 hi35 Hleaf
  obtain ⟨⟨c0, c1⟩, -, -⟩ := hA6.pair
  obtain ⟨⟨d0, d1⟩, -, -⟩ := hB6.pair
  clear hA6 hB6
  go_wp2
  go_ret
  exact ⟨rfl, hbw6⟩
end Go.Proofs.Ytgdmkmhpdijokac
