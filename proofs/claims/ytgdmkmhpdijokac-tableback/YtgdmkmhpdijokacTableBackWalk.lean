/- What a page's entry became it is, and no other page's entry has changed: framewardenkeep.TableBack returns true at every list of bytes, root, page, entry and other page. -/
import Derived.Test.YtgdmkmhpdijokacAlive5
import Derived.Test.YtgdmkmhpdijokacEntryOpen
namespace Go.Proofs.Ytgdmkmhpdijokac
open Go.RowKit
set_option linter.unusedSimpArgs false

theorem IsBytes.empty {w : World} {v : Value} (h : IsBytes w v []) : ∃ a cap, v = .slice a 0 cap := by
  obtain ⟨a, cap, rfl, _⟩ := h; exact ⟨a, cap, rfl⟩

theorem wrap_div8 {o : Int} (h : (Lit.int .i64 o).wf = true) : wrap64 (o.tdiv 8) = o.tdiv 8 := by
  have hb := bounds_i64 h
  have h1 : o.tdiv 8 * 8 + o.tmod 8 = o := Int.tdiv_mul_add_tmod o 8
  have h2 : -8 < o.tmod 8 := by
    have := Int.lt_tmod_of_pos o (show (0 : Int) < 8 by decide); omega
  have h3 : o.tmod 8 < 8 := Int.tmod_lt_of_pos o (by decide)
  unfold wrap64
  omega

set_option maxHeartbeats 1600000 in
theorem tableBack_walk (v : Value) (zs : List Int) (f p x y o : Int) (w : World) (h : IsBytes w v zs) (_hf : (Lit.int .i64 f).wf = true) (_hp : (Lit.int .i64 p).wf = true) (_ho : (Lit.int .i64 o).wf = true) :
    Calls Try.prog 5 #[v, .int .i64 f, .int .i64 p, .agg #[.int .i64 x, .int .i64 y], .int .i64 o] w fun e w' => e = .returned (.bool true) ∧ Below w.heap.size w w' := by
  have Hput : Hid (∀ w1, IsBytes w1 v zs → Calls Try.prog 11 #[v, .int .i64 f, .int .i64 p, .agg #[.int .i64 x, .int .i64 y]] w1 fun e w' => ∃ v', e = .returned (.tuple #[v', .int .i64 (ptE zs f p x y)]) ∧ IsBytes w' v' (ptL zs f p x y) ∧ Below w1.heap.size w1 w') := fun w1 hi => tablePut_any v zs f p x y w1 hi
  have Hleaf : Hid (∀ w1, IsBytes w1 v zs → Calls Try.prog 7 #[v, .int .i64 f, .int .i64 p] w1 fun e w' => e = .returned (.tuple #[.int .i64 (lfN zs f p), .int .i64 (lfE zs f p)]) ∧ Below w1.heap.size w1 w') := fun w1 hi => tableLeaf_any v zs f p w1 hi
  have Hleafo : Hid (∀ w1, IsBytes w1 v zs → Calls Try.prog 7 #[v, .int .i64 f, .int .i64 o] w1 fun e w' => e = .returned (.tuple #[.int .i64 (lfN zs f o), .int .i64 (lfE zs f o)]) ∧ Below w1.heap.size w1 w') := fun w1 hi => tableLeaf_any v zs f o w1 hi
  have Hgeto : Hid (∀ w1, IsBytes w1 v zs → Calls Try.prog 9 #[v, .int .i64 f, .int .i64 o] w1 fun e w' => e = .returned (entV (gtK zs f o) (gtN zs f o) (gtE zs f o)) ∧ Below w1.heap.size w1 w') := fun w1 hi => tableGet_any v zs f o w1 hi
  have Hgets : Hid (∀ v' w1, IsBytes w1 v' (ptL zs f p x y) → Calls Try.prog 9 #[v', .int .i64 f, .int .i64 p] w1 fun e w' => e = .returned (entV (gtK (ptL zs f p x y) f p) (gtN (ptL zs f p x y) f p) (gtE (ptL zs f p x y) f p)) ∧ Below w1.heap.size w1 w') := fun v' w1 hi => tableGet_any v' _ f p w1 hi
  have Hgetso : Hid (∀ v' w1, IsBytes w1 v' (ptL zs f p x y) → Calls Try.prog 9 #[v', .int .i64 f, .int .i64 o] w1 fun e w' => e = .returned (entV (gtK (ptL zs f p x y) f o) (gtN (ptL zs f p x y) f o) (gtE (ptL zs f p x y) f o)) ∧ Below w1.heap.size w1 w') := fun v' w1 hi => tableGet_any v' _ f o w1 hi
  have hzero : Hid (ptE zs f p x y ≠ 0 → ptL zs f p x y = []) := by
    intro hne
    unfold ptE at hne
    unfold ptL
    by_cases h0 : lfE zs f p = 0
    · rw [if_pos h0] at hne ⊢
      unfold wrL; rw [if_neg hne]
    · rw [if_neg h0]
  have hback : Hid (ptE zs f p x y = 0 → lfN zs f p ≠ f → gtE (ptL zs f p x y) f p = 0 ∧ gtK (ptL zs f p x y) f p = x ∧ gtN (ptL zs f p x y) f p = y) := fun he hne => put_back he hne
  have hother : Hid (ptE zs f p x y = 0 → lfN zs f p ≠ f → o ≠ p → (lfE zs f o = 0 → lfN zs f o = lfN zs f p → o.tdiv 8 = p.tdiv 8) → gtE (ptL zs f p x y) f o = gtE zs f o ∧ gtK (ptL zs f p x y) f o = gtK zs f o ∧ gtN (ptL zs f p x y) f o = gtN zs f o) := by
    intro he hne hop hfar
    refine put_other he hne hop fun h1 h2 => ?_
    have hpo := lfE_page h1
    have hpp := lfE_page (ptE_leaf he)
    have := hfar h1 h2
    rw [Int.tdiv_eq_ediv_of_nonneg hpo.1, Int.tdiv_eq_ediv_of_nonneg hpp.1] at this
    exact this
  generalize gtE (ptL zs f p x y) f p = SE at *
  generalize gtK (ptL zs f p x y) f p = SK at *
  generalize gtN (ptL zs f p x y) f p = SN at *
  generalize gtE (ptL zs f p x y) f o = OE at *
  generalize gtK (ptL zs f p x y) f o = OK at *
  generalize gtN (ptL zs f p x y) f o = ON at *
  generalize gtE zs f o = RE at *
  generalize gtK zs f o = RK at *
  generalize gtN zs f o = RN at *
  generalize ptE zs f p x y = PE at *
  generalize ptL zs f p x y = S at *
  generalize lfE zs f p = LE at *
  generalize lfN zs f p = LN at *
  generalize lfE zs f o = FE at *
  generalize lfN zs f o = FN at *
  obtain ⟨W, hW⟩ : ∃ W, W = w.alloc (.cells #[.int .i64 x, .int .i64 y] 27) := ⟨_, rfl⟩
  have hbW : Below w.heap.size w W := by rw [hW]; exact (Below.refl _ _).alloc (Nat.le_refl _) _
  have hA : OwnRow W w.heap.size 27 [.int .i64 x, .int .i64 y] := by rw [hW]; exact heap_alloc_new w _
  go_enter Try.func5, Try.ntmps5
  go_wp2_with fail
  rw [← hW]
  clear hW
  refine (alive5_any _).mono ?_
  rintro e w1 ⟨rfl, hb1⟩
  have hA1 := hA.below hb1 hA.lt
  have hbw1 := hbW.trans (hb1.mono hbW.size)
  have h1 := h.below hbw1
  clear hA hb1 hbW
  obtain ⟨⟨c0, c1⟩, -, -⟩ := hA1.pair
  go_wp2_with fail
  refine (Hput.out _ h1).mono ?_
  rintro e w2 ⟨v2, rfl, hi2, hb2⟩
  have hA2 := hA1.below hb2 hA1.lt
  have hbw2 := hbw1.trans (hb2.mono hbw1.size)
  clear hA1 hb2 hbw1 h1 c0 c1 Hput
  by_cases he : PE = 0
  · subst he
    go_wp2_with fail
    refine (Hgets.out _ _ hi2).mono ?_
    rintro e w3 ⟨rfl, hb3⟩
    have hA3 := hA2.below hb3 hA2.lt
    have hbw3 := hbw2.trans (hb3.mono hbw2.size)
    have hi3 := hi2.below hb3
    have h3 := h.below hbw3
    clear hA2 hb3 hbw2 hi2 Hgets
    go_wp2_with fail
    refine (Hleaf.out _ (h3.below ((Below.refl _ _).alloc (Nat.le_refl _) _))).mono ?_
    rintro e w4 ⟨rfl, hb4⟩
    have hB4 := own_one (xs := [_, _]) hb4
    have hb34 : Below w3.heap.size w3 w4 := ((Below.refl _ _).alloc (Nat.le_refl _) _).trans (hb4.mono (by simp))
    have hA4 := hA3.below hb34 hA3.lt
    have hbw4 := hbw3.trans (hb34.mono hbw3.size)
    have hi4 := hi3.below hb34
    have h4 := h.below hbw4
    clear hA3 hb4 hb34 hbw3 hi3 h3 Hleaf
    by_cases hne : LN = f
    · have hq : (LN == f) = true := by rw [beq_iff_eq]; exact hne
      clear hne
      go_wp2
      go_ret
      exact ⟨rfl, hbw4⟩
    · have hq : (LN == f) = false := by rw [beq_eq_false_iff_ne]; exact hne
      obtain ⟨rfl, rfl, rfl⟩ := hback.out (by simp) hne
      obtain ⟨⟨c0, c1⟩, -, -⟩ := hA4.pair
      obtain ⟨⟨d0, d1⟩, -, -⟩ := hB4.pair
      have hoth : Hid (o ≠ p → (FE = 0 → FN = LN → o.tdiv 8 = p.tdiv 8) → OE = RE ∧ OK = RK ∧ ON = RN) := fun hop hfar => hother.out (by simp) hne hop hfar
      clear hback hother hzero hne
      go_wp2_with fail
      refine (Hleafo.out _ h4).mono ?_
      rintro e w5 ⟨rfl, hb5⟩
      have hbw5 := hbw4.trans (hb5.mono hbw4.size)
      have h5 := h.below hbw5
      have hi5 := hi4.below hb5
      clear hA4 hB4 hb5 hbw4 hi4 h4 c0 c1 d0 d1 Hleafo
      have hcase : (((FE == 0) = true ∧ (FN == LN) = true ∧ (o.tdiv 8 != p.tdiv 8) = true) ∨ ((FE == 0) = false ∧ (o == p) = true) ∨ ((FE == 0) = true ∧ (FN == LN) = false ∧ (o == p) = true) ∨ ((FE == 0) = true ∧ (FN == LN) = true ∧ (o.tdiv 8 != p.tdiv 8) = false ∧ (o == p) = true))
          ∨ ((OE = RE ∧ OK = RK ∧ ON = RN) ∧ (((FE == 0) = false ∧ (o == p) = false) ∨ ((FE == 0) = true ∧ (FN == LN) = false ∧ (o == p) = false) ∨ ((FE == 0) = true ∧ (FN == LN) = true ∧ (o.tdiv 8 != p.tdiv 8) = false ∧ (o == p) = false))) := by
        by_cases hop : o = p
        · left
          have hop' : (o == p) = true := by rw [beq_iff_eq]; exact hop
          cases hA : (FE == 0)
          · exact .inr (.inl ⟨rfl, hop'⟩)
          · cases hB : (FN == LN)
            · exact .inr (.inr (.inl ⟨rfl, rfl, hop'⟩))
            · cases hC : (o.tdiv 8 != p.tdiv 8)
              · exact .inr (.inr (.inr ⟨rfl, rfl, rfl, hop'⟩))
              · exact .inl ⟨rfl, rfl, rfl⟩
        · have hop' : (o == p) = false := by rw [beq_eq_false_iff_ne]; exact hop
          cases hA : (FE == 0)
          · exact .inr ⟨hoth.out hop (fun h1 _ => by rw [h1] at hA; cases hA), .inl ⟨rfl, hop'⟩⟩
          · cases hB : (FN == LN)
            · exact .inr ⟨hoth.out hop (fun _ h2 => by rw [h2, beq_self_eq_true] at hB; cases hB), .inr (.inl ⟨rfl, rfl, hop'⟩)⟩
            · cases hC : (o.tdiv 8 != p.tdiv 8)
              · exact .inr ⟨hoth.out hop (fun _ _ => by
                  by_cases hd : o.tdiv 8 = p.tdiv 8
                  · exact hd
                  · have : (o.tdiv 8 != p.tdiv 8) = true := by rw [bne_iff_ne]; exact hd
                    rw [this] at hC; cases hC), .inr (.inr ⟨rfl, rfl, rfl, hop'⟩)⟩
              · exact .inl (.inl ⟨rfl, rfl, rfl⟩)
      clear hoth
      have wo : wrap64 (o.tdiv 8) = o.tdiv 8 := wrap_div8 _ho
      have wp : wrap64 (p.tdiv 8) = p.tdiv 8 := wrap_div8 _hp
      rcases hcase with hcase | ⟨⟨rfl, rfl, rfl⟩, hcase⟩
      · clear Hgeto Hgetso
        rcases hcase with ⟨k1, k2, k3⟩ | ⟨k1, k4⟩ | ⟨k1, k2, k4⟩ | ⟨k1, k2, k3, k4⟩
        all_goals
          go_wp2
          go_ret
          exact ⟨rfl, hbw5⟩
      · rcases hcase with ⟨k1, k4⟩ | ⟨k1, k2, k4⟩ | ⟨k1, k2, k3, k4⟩
        all_goals
          go_wp2_with fail
          refine (Hgeto.out _ h5).mono ?_
          rintro e w6 ⟨rfl, hb6⟩
          have hbw6 := hbw5.trans (hb6.mono hbw5.size)
          have hi6 := hi5.below hb6
          clear hb6 h5 hi5 k1 k4 hbw5
          go_wp2_with fail
          refine (Hgetso.out _ _ (hi6.below ((Below.refl _ _).alloc (Nat.le_refl _) _))).mono ?_
          rintro e w7 ⟨rfl, hb7⟩
          have hB7 := own_one (xs := [_, _]) hb7
          have hbw7 := hbw6.trans (((Below.refl _ _).alloc (Nat.le_refl _) _).trans (hb7.mono (by simp)) |>.mono hbw6.size)
          obtain ⟨⟨d0, d1⟩, -, -⟩ := hB7.pair
          have hlt := hB7.lt
          clear hB7 hb7 hi6 hbw6
          go_wp2
          go_ret
          exact ⟨rfl, hbw7.alloc hbw7.size _⟩
  · have hs := hzero.out he
    subst hs
    obtain ⟨a, cap, rfl⟩ := hi2.empty
    have he' : (PE != 0) = true := by rw [bne_iff_ne]; exact he
    clear he
    go_wp2
    go_ret
    exact ⟨rfl, hbw2⟩
end Go.Proofs.Ytgdmkmhpdijokac
