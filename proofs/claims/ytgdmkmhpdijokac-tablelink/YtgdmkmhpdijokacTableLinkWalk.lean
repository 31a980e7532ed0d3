/- A new leaf is empty, and pages of other leaves have what they had: framewardenkeep.TableLink returns true at every list of bytes, root, page, leaf and other page. -/
import Derived.Test.YtgdmkmhpdijokacAlive5
namespace Go.Proofs.Ytgdmkmhpdijokac
open Go.RowKit
set_option linter.unusedSimpArgs false

set_option maxHeartbeats 1600000 in
theorem tableLink_walk (v : Value) (zs : List Int) (f p l o : Int) (w : World) (h : IsBytes w v zs) (_hf : (Lit.int .i64 f).wf = true) (_hp : (Lit.int .i64 p).wf = true) (_hl : (Lit.int .i64 l).wf = true) (_ho : (Lit.int .i64 o).wf = true) :
    Calls Try.prog 6 #[v, .int .i64 f, .int .i64 p, .int .i64 l, .int .i64 o] w fun e w' => e = .returned (.bool true) ∧ Below w.heap.size w w' := by
  have Hlink : Hid (∀ w1, IsBytes w1 v zs → Calls Try.prog 13 #[v, .int .i64 f, .int .i64 p, .int .i64 l] w1 fun e w' => ∃ v', e = .returned (.tuple #[v', .int .i64 (lkE zs f p l)]) ∧ IsBytes w' v' (lkL zs f p l) ∧ Below w1.heap.size w1 w') := fun w1 hi => tableLink_any v zs f p l w1 hi
  have Hleafs : Hid (∀ v' w1, IsBytes w1 v' (lkL zs f p l) → Calls Try.prog 7 #[v', .int .i64 f, .int .i64 p] w1 fun e w' => e = .returned (.tuple #[.int .i64 (lfN (lkL zs f p l) f p), .int .i64 (lfE (lkL zs f p l) f p)]) ∧ Below w1.heap.size w1 w') := fun v' w1 hi => tableLeaf_any v' _ f p w1 hi
  have Hgets : Hid (∀ v' w1, IsBytes w1 v' (lkL zs f p l) → Calls Try.prog 9 #[v', .int .i64 f, .int .i64 o] w1 fun e w' => e = .returned (entV (gtK (lkL zs f p l) f o) (gtN (lkL zs f p l) f o) (gtE (lkL zs f p l) f o)) ∧ Below w1.heap.size w1 w') := fun v' w1 hi => tableGet_any v' _ f o w1 hi
  have Hleafo : Hid (∀ w1, IsBytes w1 v zs → Calls Try.prog 7 #[v, .int .i64 f, .int .i64 o] w1 fun e w' => e = .returned (.tuple #[.int .i64 (lfN zs f o), .int .i64 (lfE zs f o)]) ∧ Below w1.heap.size w1 w') := fun w1 hi => tableLeaf_any v zs f o w1 hi
  have Hgeto : Hid (∀ w1, IsBytes w1 v zs → Calls Try.prog 9 #[v, .int .i64 f, .int .i64 o] w1 fun e w' => e = .returned (entV (gtK zs f o) (gtN zs f o) (gtE zs f o)) ∧ Below w1.heap.size w1 w') := fun w1 hi => tableGet_any v zs f o w1 hi
  have hform : Hid (∀ w1, IsBytes w1 v zs → ∃ a cap, v = .slice a zs.length cap ∧ zs.length ≤ 140737488351232) := fun w1 hi => hi.form
  have hzero : Hid (lkE zs f p l ≠ 0 → lkL zs f p l = []) := fun hne => by unfold lkL; rw [if_neg hne]
  have hpage : Hid (lkE zs f p l = 0 → 0 ≤ p ∧ p < 64) := fun he => by have := lk_ok he; exact ⟨this.2.1, this.2.2.1⟩
  have hroom : lkE zs f p l = 0 → zs.length = 4096 → 64 * l + 64 ≤ zs.length := fun he hn => by have := lk_ok he; omega
  have hleaf : Hid (lkE zs f p l = 0 → zs.length = 4096 → lfE (lkL zs f p l) f p = 0 ∧ lfN (lkL zs f p l) f p = l) := fun he hn => by
    have := lk_ok he; exact link_leaf he (hroom he hn) ⟨this.2.1, this.2.2.1⟩ rfl
  have hempty : Hid (lkE zs f p l = 0 → zs.length = 4096 → 0 ≤ o ∧ o < 64 → o / 8 = p / 8 → gtE (lkL zs f p l) f o = 0 ∧ gtK (lkL zs f p l) f o = 0 ∧ gtN (lkL zs f p l) f o = 0) := fun he hn ho hs => link_empty he (hroom he hn) ho hs
  have hother : Hid (lkE zs f p l = 0 → zs.length = 4096 → 0 ≤ o ∧ o < 64 → o / 8 ≠ p / 8 → (lfE zs f o = 0 → lfN zs f o ≠ l ∧ lfN zs f o ≠ f) → gtE (lkL zs f p l) f o = gtE zs f o ∧ gtK (lkL zs f p l) f o = gtK zs f o ∧ gtN (lkL zs f p l) f o = gtN zs f o) := fun he hn ho hs hfar => link_other he (hroom he hn) ho hs hfar
  clear hroom
  generalize lfE (lkL zs f p l) f p = SE at *
  generalize lfN (lkL zs f p l) f p = SN at *
  generalize gtE (lkL zs f p l) f o = OE at *
  generalize gtK (lkL zs f p l) f o = OK at *
  generalize gtN (lkL zs f p l) f o = ON at *
  generalize gtE zs f o = RE at *
  generalize gtK zs f o = RK at *
  generalize gtN zs f o = RN at *
  generalize lkE zs f p l = KE at *
  generalize lkL zs f p l = S at *
  generalize lfE zs f o = FE at *
  generalize lfN zs f o = FN at *
  go_enter Try.func6, Try.ntmps6
  go_wp2_with fail
  refine (alive5_any _).mono ?_
  rintro e w1 ⟨rfl, hb1⟩
  have h1 := h.below hb1
  go_wp2_with fail
  refine (Hlink.out _ h1).mono ?_
  rintro e w2 ⟨v2, rfl, hi2, hb2⟩
  have hbw2 := hb1.trans (hb2.mono hb1.size)
  have h2 := h.below hbw2
  clear hb1 h1 hb2 Hlink
  by_cases he : KE = 0
  · by_cases hn : zs.length = 4096
    · by_cases ho : 0 ≤ o ∧ o < 64
      · obtain ⟨rfl, rfl⟩ := hleaf.out he hn
        have hpg := hpage.out he
        have hemp : Hid (o / 8 = p / 8 → OE = 0 ∧ OK = 0 ∧ ON = 0) := fun hs => hempty.out he hn ho hs
        have hoth : Hid (o / 8 ≠ p / 8 → (FE = 0 → FN ≠ SN ∧ FN ≠ f) → OE = RE ∧ OK = RK ∧ ON = RN) := fun hs hfar => hother.out he hn ho hs hfar
        clear hleaf hempty hother hpage hzero
        subst he
        obtain ⟨a, cap, rfl, hlen⟩ := hform.out _ h2
        have hn' : ((zs.length : Int) != 4096) = false := by rw [hn]; rfl
        have HN : Hid (zs.length = 4096) := hn
        obtain ⟨ho0, ho1⟩ := ho
        obtain ⟨hp0, hp1⟩ := hpg
        have to : o.tdiv 8 = o / 8 := Int.tdiv_eq_ediv_of_nonneg ho0
        have tp : p.tdiv 8 = p / 8 := Int.tdiv_eq_ediv_of_nonneg hp0
        have go0 : 0 ≤ o / 8 ∧ o / 8 < 8 := by omega
        have gp0 : 0 ≤ p / 8 ∧ p / 8 < 8 := by omega
        generalize o / 8 = oq at *
        generalize p / 8 = pq at *
        clear hn
        go_wp2_with fail
        refine (Hleafs.out _ _ hi2).mono ?_
        rintro e w3 ⟨rfl, hb3⟩
        have hbw3 := hbw2.trans (hb3.mono hbw2.size)
        have h3 := h.below hbw3
        have hi3 := hi2.below hb3
        clear hb3 h2 hi2 hbw2 Hleafs
        go_wp2_with fail
        refine (Hgets.out _ _ hi3).mono ?_
        rintro e w4 ⟨rfl, hb4⟩
        have hbw4 := hbw3.trans (hb4.mono hbw3.size)
        have h4 := h.below hbw4
        clear hb4 h3 hi3 hbw3 Hgets
        by_cases hs : oq = pq
        · obtain ⟨rfl, rfl, rfl⟩ := hemp.out hs
          have hs' : (oq == pq) = true := by rw [beq_iff_eq]; exact hs
          clear hemp hoth hs
          go_wp2
          go_ret
          exact ⟨rfl, hbw4.alloc hbw4.size _⟩
        · have hs' : (oq == pq) = false := by rw [beq_eq_false_iff_ne]; exact hs
          have hot : Hid ((FE = 0 → FN ≠ SN ∧ FN ≠ f) → OE = RE ∧ OK = RK ∧ ON = RN) := fun hfar => hoth.out hs hfar
          clear hemp hoth hs
          go_wp2_with fail
          refine (Hleafo.out _ (h4.below ((Below.refl _ _).alloc (Nat.le_refl _) _))).mono ?_
          rintro e w5 ⟨rfl, hb5⟩
          have hB5 := own_one (xs := [_, _]) hb5
          have hbw5 := hbw4.trans (((Below.refl _ _).alloc (Nat.le_refl _) _).trans (hb5.mono (by simp)) |>.mono hbw4.size)
          have h5 := h.below hbw5
          clear hb5 h4 hbw4 Hleafo
          have hcase : (((FE == 0) = true ∧ (FN == SN) = true) ∨ ((FE == 0) = true ∧ (FN == SN) = false ∧ (FN == f) = true)) ∨ ((OE = RE ∧ OK = RK ∧ ON = RN) ∧ ((FE == 0) = false ∨ ((FE == 0) = true ∧ (FN == SN) = false ∧ (FN == f) = false))) := by
            cases hA : (FE == 0)
            · exact .inr ⟨hot.out (fun h1 => by rw [h1] at hA; cases hA), .inl rfl⟩
            · cases hB : (FN == SN)
              · cases hC : (FN == f)
                · exact .inr ⟨hot.out (fun _ => ⟨by rw [beq_eq_false_iff_ne] at hB; exact hB, by rw [beq_eq_false_iff_ne] at hC; exact hC⟩), .inr ⟨rfl, rfl, rfl⟩⟩
                · exact .inl (.inr ⟨rfl, rfl, rfl⟩)
              · exact .inl (.inl ⟨rfl, rfl⟩)
          clear hot
          rcases hcase with hcase | ⟨⟨rfl, rfl, rfl⟩, hcase⟩
          · clear Hgeto
            rcases hcase with ⟨k1, k2⟩ | ⟨k1, k2, k3⟩
            all_goals
              go_wp2
              go_ret
              exact ⟨rfl, hbw5⟩
          · rcases hcase with k1 | ⟨k1, k2, k3⟩
            all_goals
              go_wp2_with fail
              refine (Hgeto.out _ h5).mono ?_
              rintro e w6 ⟨rfl, hb6⟩
              have hbw6 := hbw5.trans (hb6.mono hbw5.size)
              have hB6 := hB5.below hb6 hB5.lt
              obtain ⟨⟨d0, d1⟩, -, -⟩ := hB6.pair
              have hlt := hB6.lt
              clear hB5 hB6 hb6 h5 hbw5 Hgeto
              go_wp2
              go_ret
              exact ⟨rfl, hbw6.alloc hbw6.size _⟩
      · subst he
        obtain ⟨a, cap, rfl, hlen⟩ := hform.out _ h2
        have hn' : ((zs.length : Int) != 4096) = false := by rw [hn]; rfl
        clear hleaf hempty hother hpage hzero hn Hleafs Hgets Hleafo Hgeto
        have ho' : o < 0 ∨ (0 ≤ o ∧ 64 ≤ o) := by omega
        clear ho
        rcases ho' with ho | ⟨ho0, ho⟩
        all_goals
          go_wp2
          go_ret
          exact ⟨rfl, hbw2⟩
    · subst he
      obtain ⟨a, cap, rfl, hlen⟩ := hform.out _ h2
      have hn' : ((zs.length : Int) != 4096) = true := by rw [bne_iff_ne]; omega
      clear hleaf hempty hother hpage hzero hn Hleafs Hgets Hleafo Hgeto
      go_wp2
      go_ret
      exact ⟨rfl, hbw2⟩
  · have hs := hzero.out he
    subst hs
    obtain ⟨a, cap, rfl⟩ : ∃ a cap, v2 = .slice a 0 cap := by obtain ⟨a, cap, rfl, _⟩ := hi2; exact ⟨a, cap, rfl⟩
    have he' : (KE != 0) = true := by rw [bne_iff_ne]; exact he
    have he2 : (KE == 0) = false := by rw [beq_eq_false_iff_ne]; exact he
    clear he
    go_wp2
    go_ret
    exact ⟨rfl, hbw2⟩
end Go.Proofs.Ytgdmkmhpdijokac
