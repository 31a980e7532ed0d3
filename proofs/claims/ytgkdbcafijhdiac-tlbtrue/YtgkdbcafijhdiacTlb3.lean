/- The contracts of tlb.hear and of tlb.Play: what is remembered. -/
import Derived.Test.YtgkdbcafijhdiacTlb2
namespace Go.Proofs.Ytgkdbcafijhdiac
open Go.RowKit
set_option linter.unusedSimpArgs false
set_option linter.unusedVariables false

set_option maxHeartbeats 1600000 in
theorem hear_any (base g : Nat) (l : List C4) (a b c d : Int) (w : World) (hb : base ≤ g) (hg : g < w.heap.size) (h : RowC w g 9 l) (hl : l.length ≤ 8) :
    Calls Try.prog 35 #[.slice (some ⟨g, 0, none⟩) l.length 9, .agg #[.int .i64 a, .int .i64 b, .int .i64 c, .int .i64 d]] w fun e w' => e = .returned (.slice (some ⟨g, 0, none⟩) (hr l (a, b, c, d)).length 9) ∧ RowC w' g 9 (hr l (a, b, c, d)) ∧ Below base w w' ∧ Spare g w w' := by
  obtain ⟨i0, hi0, hz0, hz1, hz2⟩ := info_parts info_cached
  have HF : Hid (∀ w1, Below w.heap.size w w1 → Calls Try.prog 43 #[.slice (some ⟨g, 0, none⟩) l.length 9, .agg #[.int .i64 a, .int .i64 b, .int .i64 c, .int .i64 d]] w1 fun e w' => e = .returned (.slice (some ⟨g, 0, none⟩) (fgt l (a, b, c, d)).length 9) ∧ RowC w' g 9 (fgt l (a, b, c, d)) ∧ Below base w1 w' ∧ Spare g w1 w') :=
    fun w1 hw1 => forget_any base g 9 l a b c d w1 hb (h.below hw1) (by decide)
  have hle := fgt_le l (a, b, c, d)
  have HR : Hid (hr l (a, b, c, d) = if b < 0 ∨ c = 0 then fgt l (a, b, c, d) else if 8 < (fgt l (a, b, c, d)).length + 1 then (fgt l (a, b, c, d) ++ [(a, b, c, d)]).drop 1 else fgt l (a, b, c, d) ++ [(a, b, c, d)]) := rfl
  obtain ⟨f, hf⟩ : ∃ f, f = fgt l (a, b, c, d) := ⟨_, rfl⟩
  obtain ⟨R, hR⟩ : ∃ R, R = hr l (a, b, c, d) := ⟨_, rfl⟩
  rw [← hf, ← hR] at HR
  rw [← hf] at HF hle
  rw [← hR]
  clear hf hR
  by_cases h1 : b < 0
  · obtain rfl : R = f := by rw [HR.out, if_pos (Or.inl h1)]
    go_enter Try.func35, Try.ntmps35
    go_wp2_with (go_at_call 43; refine (HF.out _ ((Below.refl _ _).alloc (Nat.le_refl _) _)).mono ?_; rintro e w2 ⟨rfl, hr2, hw2, hs2⟩; obtain ⟨q0, q1, q2, q3⟩ := (hs2.row (xs := [.int .i64 a, .int .i64 b, .int .i64 c, .int .i64 d]) (heap_alloc_new w _) (by omega)).quad)
    go_ret
    exact ⟨rfl, hr2, ((Below.refl base w).alloc (by omega) _).trans hw2, ((Spare.refl g w).alloc _).trans hs2⟩
  · by_cases h2 : c = 0
    · obtain rfl : R = f := by rw [HR.out, if_pos (Or.inr h2)]
      subst h2
      clear HR
      go_enter Try.func35, Try.ntmps35
      go_wp2_with (go_at_call 43; refine (HF.out _ ((Below.refl _ _).alloc (Nat.le_refl _) _)).mono ?_; rintro e w2 ⟨rfl, hr2, hw2, hs2⟩; obtain ⟨q0, q1, q2, q3⟩ := (hs2.row (xs := [.int .i64 a, .int .i64 b, .int .i64 0, .int .i64 d]) (heap_alloc_new w _) (by omega)).quad)
      go_ret
      exact ⟨rfl, hr2, ((Below.refl base w).alloc (by omega) _).trans hw2, ((Spare.refl g w).alloc _).trans hs2⟩
    · have hR := HR.out
      rw [if_neg (by omega)] at hR
      have hd1 : decide (b < 0) = false := by simpa using h1
      have hd2 : (c == 0) = false := by simpa using h2
      have HAP : Hid (∀ (w2 : World), RowC w2 g 9 f → g < w2.heap.size → ∀ t, RowC ((w2.alloc (.cells #[.int .i64 a, .int .i64 b, .int .i64 c, .int .i64 d] t)).setCells g (f.length * 4) (encC (a, b, c, d))) g 9 (f ++ [(a, b, c, d)])) :=
        fun w2 hr2 hg2 t => (hr2.below ((Below.refl _ _).alloc (Nat.le_refl _) _)).push (by omega)
      by_cases h3 : 8 < f.length + 1
      · rw [if_pos h3] at hR
        have HD : Hid (∀ w1, RowC w1 g 9 (f ++ [(a, b, c, d)]) → Calls Try.prog 44 #[.slice (some ⟨g, 0, none⟩) 9 9, .int .i64 0, .int .i64 1] w1 fun e w' => e = .returned (.slice (some ⟨g, 0, none⟩) R.length 9) ∧ RowC w' g 9 R ∧ Below base w1 w' ∧ Spare g w1 w') := by
          intro w1 hw1
          have := cdelete_any base g 9 (f ++ [(a, b, c, d)]) 0 w1 hb hw1 (by simp) (by decide)
          rw [List.eraseIdx_zero, ← List.drop_one, ← hR, List.length_append, show f.length + [(a, b, c, d)].length = 9 by simp; omega] at this
          simpa using this
        clear hR HR
        obtain ⟨m, hm⟩ : ∃ m, m = f.length := ⟨_, rfl⟩
        have hm8 : f.length = 8 := by omega
        have HM : Hid (f.length = 8) := hm8
        have HP : Hid (∀ (w2 : World), RowC w2 g 9 f → g < w2.heap.size → ∀ t, RowC ((w2.alloc (.cells #[.int .i64 a, .int .i64 b, .int .i64 c, .int .i64 d] t)).setCells g 32 (encC (a, b, c, d))) g 9 (f ++ [(a, b, c, d)])) := by
          intro w2 h2' h3' t
          have := HAP.out w2 h2' h3' t
          rw [HM.out] at this
          exact this
        have HS : Hid (∀ (w2 : World), RowC w2 g 9 f → g < w2.heap.size → ∀ o, ∀ j, j < (encC (a, b, c, d)).length → ((w2.alloc o).cell? ⟨g, 0 + 8 * 4 + j, none⟩).isSome = true ∧ (w2.alloc o).frozen? ⟨g, 0 + 8 * 4 + j, none⟩ = false) := by
          intro w2 h2' h3' o
          have := (h2'.below ((Below.refl _ _).alloc (Nat.le_refl _) o)).room (by omega) (a, b, c, d)
          rw [HM.out] at this
          exact this
        rw [hm8] at HF
        clear hm hm8 h3 hle HAP
        go_enter Try.func35, Try.ntmps35
        go_wp2_with (first
          | (go_at_call 43; refine (HF.out _ ((Below.refl _ _).alloc (Nat.le_refl _) _)).mono ?_; rintro e w2 ⟨rfl, hr2, hw2, hs2⟩; obtain ⟨q0, q1, q2, q3⟩ := (hs2.row (xs := [.int .i64 a, .int .i64 b, .int .i64 c, .int .i64 d]) (heap_alloc_new w _) (by omega)).quad; have hg2 : Hid (g < w2.heap.size) := (by have := hw2.size; simp at this; show _ < _; omega))
          | (at_builtin; go_must (refine wpList_append_fits rfl _ _ 37 rfl 40 i0 4 Try.underlying37 hi0 hz1 g 0 8 9 rfl ⟨w2.heap.size, 0, none⟩ 1 1 (encC (a, b, c, d)) rfl rfl (box_add w2 a b c d _) (shC.one _) (by omega) (HS.out w2 hr2 hg2.out _) ?_))
          | (go_at_call 44; refine (HD.out _ (HP.out w2 hr2 hg2.out _)).mono ?_; rintro e w3 ⟨rfl, hr3, hw3, hs3⟩))
        go_ret
        have hg2' := hg2.out
        refine ⟨rfl, hr3, ?_, ?_⟩
        · exact ((((Below.refl base w).alloc (by omega) _).trans hw2).trans (below_setCells hb _ _ w2 _ ((Below.refl base w2).alloc (by omega) _))).trans hw3
        · exact ((((Spare.refl g w).alloc _).trans hs2).trans (((Spare.refl g w2).alloc _).setCells _ _)).trans hs3
      · rw [if_neg h3] at hR
        have hlR : R.length = f.length + 1 := by rw [hR]; simp
        have HR2 : Hid (R = f ++ [(a, b, c, d)]) := hR
        have HS : Hid (∀ (w2 : World), RowC w2 g 9 f → g < w2.heap.size → ∀ o, ∀ j, j < (encC (a, b, c, d)).length → ((w2.alloc o).cell? ⟨g, 0 + f.length * 4 + j, none⟩).isSome = true ∧ (w2.alloc o).frozen? ⟨g, 0 + f.length * 4 + j, none⟩ = false) := by
          intro w2 h2' h3' o
          exact (h2'.below ((Below.refl _ _).alloc (Nat.le_refl _) o)).room (by omega) (a, b, c, d)
        rw [hlR]
        clear hR HR hlR
        go_enter Try.func35, Try.ntmps35
        go_wp2_with (first
          | (go_at_call 43; refine (HF.out _ ((Below.refl _ _).alloc (Nat.le_refl _) _)).mono ?_; rintro e w2 ⟨rfl, hr2, hw2, hs2⟩; obtain ⟨q0, q1, q2, q3⟩ := (hs2.row (xs := [.int .i64 a, .int .i64 b, .int .i64 c, .int .i64 d]) (heap_alloc_new w _) (by omega)).quad; have hg2 : Hid (g < w2.heap.size) := (by have := hw2.size; simp at this; show _ < _; omega))
          | (at_builtin; go_must (refine wpList_append_fits rfl _ _ 37 rfl 40 i0 4 Try.underlying37 hi0 hz1 g 0 f.length 9 rfl ⟨w2.heap.size, 0, none⟩ 1 1 (encC (a, b, c, d)) rfl rfl (box_add w2 a b c d _) (shC.one _) (by omega) (HS.out w2 hr2 hg2.out _) ?_)))
        go_ret
        have hg2' := hg2.out
        refine ⟨rfl, ?_, ?_, ?_⟩
        · rw [HR2.out]
          exact HAP.out w2 hr2 hg2' _
        · exact (((Below.refl base w).alloc (by omega) _).trans hw2).trans (below_setCells hb _ _ w2 _ ((Below.refl base w2).alloc (by omega) _))
        · exact (((Spare.refl g w).alloc _).trans hs2).trans (((Spare.refl g w2).alloc _).setCells _ _)

end Go.Proofs.Ytgkdbcafijhdiac
