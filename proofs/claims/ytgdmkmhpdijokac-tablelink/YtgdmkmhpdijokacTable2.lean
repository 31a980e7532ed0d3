/- The contracts of table.Leaf and table.Get. -/
import Derived.Test.YtgdmkmhpdijokacTable1
namespace Go.Proofs.Ytgdmkmhpdijokac
open Go.RowKit
set_option linter.unusedSimpArgs false

theorem lf_page {zs : List Int} {f p : Int} (h : ¬ (0 ≤ p ∧ p < 64)) : lfE zs f p = 2 ∧ lfN zs f p = 0 := by
  have : lfE zs f p = 2 := by unfold lfE; rw [if_neg h]
  exact ⟨this, by unfold lfN; rw [this]; rfl⟩
theorem lf_read {zs : List Int} {f p : Int} (h : 0 ≤ p ∧ p < 64) (hr : rdE zs f (p / 8) ≠ 0) : lfE zs f p = rdE zs f (p / 8) ∧ lfN zs f p = 0 := by
  have : lfE zs f p = rdE zs f (p / 8) := by unfold lfE; rw [if_pos h, if_neg hr]
  exact ⟨this, by unfold lfN; rw [this, if_neg hr]⟩
theorem lf_here {zs : List Int} {f p : Int} (h : 0 ≤ p ∧ p < 64) (hr : rdE zs f (p / 8) = 0) (hk : rdK zs f (p / 8) = 1) : lfE zs f p = 0 ∧ lfN zs f p = rdN zs f (p / 8) := by
  have : lfE zs f p = 0 := by unfold lfE; rw [if_pos h, if_pos hr, if_pos hk]
  exact ⟨this, by unfold lfN; rw [if_pos this]⟩
theorem lf_none {zs : List Int} {f p : Int} (h : 0 ≤ p ∧ p < 64) (hr : rdE zs f (p / 8) = 0) (hk : rdK zs f (p / 8) = 0) : lfE zs f p = 3 ∧ lfN zs f p = 0 := by
  have : lfE zs f p = 3 := by unfold lfE; rw [if_pos h, if_pos hr, if_neg (by omega), if_pos hk]
  exact ⟨this, by unfold lfN; rw [this]; rfl⟩
theorem lf_out {zs : List Int} {f p : Int} (h : 0 ≤ p ∧ p < 64) (hr : rdE zs f (p / 8) = 0) (hk : rdK zs f (p / 8) = 2) : lfE zs f p = 1 ∧ lfN zs f p = 0 := by
  have : lfE zs f p = 1 := by unfold lfE; rw [if_pos h, if_pos hr, if_neg (by omega), if_neg (by omega)]
  exact ⟨this, by unfold lfN; rw [this]; rfl⟩

set_option maxHeartbeats 800000 in
theorem tableLeaf_any (v : Value) (zs : List Int) (f p : Int) (w : World) (h : IsBytes w v zs) :
    Calls Try.prog 7 #[v, .int .i64 f, .int .i64 p] w fun e w' => e = .returned (.tuple #[.int .i64 (lfN zs f p), .int .i64 (lfE zs f p)]) ∧ Below w.heap.size w w' := by
  by_cases hp : 0 ≤ p ∧ p < 64
  · have hd : decide (0 ≤ p ∧ p < 64) = true := by simpa using hp
    have hq : p.tdiv 8 = p / 8 := Int.tdiv_eq_ediv_of_nonneg hp.1
    have hq0 : 0 ≤ p / 8 ∧ p / 8 < 8 := by omega
    have hbd := rd_bd zs f (p / 8)
    have hcase : (rdE zs f (p / 8) ≠ 0 ∧ lfE zs f p = rdE zs f (p / 8) ∧ lfN zs f p = 0) ∨ (rdE zs f (p / 8) = 0 ∧ rdK zs f (p / 8) = 1 ∧ lfE zs f p = 0 ∧ lfN zs f p = rdN zs f (p / 8))
        ∨ (rdE zs f (p / 8) = 0 ∧ rdK zs f (p / 8) = 0 ∧ lfE zs f p = 3 ∧ lfN zs f p = 0) ∨ (rdE zs f (p / 8) = 0 ∧ rdK zs f (p / 8) = 2 ∧ lfE zs f p = 1 ∧ lfN zs f p = 0) := by
      by_cases hr : rdE zs f (p / 8) = 0
      · have hk : rdK zs f (p / 8) = 1 ∨ rdK zs f (p / 8) = 0 ∨ rdK zs f (p / 8) = 2 := by omega
        rcases hk with hk | hk | hk
        · exact .inr (.inl ⟨hr, hk, lf_here hp hr hk⟩)
        · exact .inr (.inr (.inl ⟨hr, hk, lf_none hp hr hk⟩))
        · exact .inr (.inr (.inr ⟨hr, hk, lf_out hp hr hk⟩))
      · exact .inl ⟨hr, lf_read hp hr⟩
    have hread := fun w1 (h1 : IsBytes w1 v zs) => tableRead_any v zs f (p / 8) w1 h1 hq0.1 hq0.2
    have Hread : Hid (∀ w1, IsBytes w1 v zs → Calls Try.prog 17 #[v, .int .i64 f, .int .i64 (p / 8)] w1 fun e w' => e = .returned (entV (rdK zs f (p / 8)) (rdN zs f (p / 8)) (rdE zs f (p / 8))) ∧ Below w1.heap.size w1 w') := hread
    clear hread hbd
    generalize rdE zs f (p / 8) = E at *
    generalize rdK zs f (p / 8) = K at *
    generalize rdN zs f (p / 8) = N at *
    generalize lfE zs f p = LE at *
    generalize lfN zs f p = LN at *
    generalize p / 8 = q at *
    go_enter Try.func7, Try.ntmps7
    go_wp2_with (go_at_call 16; refine (isPage_any _ _).mono ?_; rintro e w' ⟨rfl, rfl⟩)
    refine (Hread.out _ h).mono ?_
    rintro e w1 ⟨rfl, hb1⟩
    clear hq hd hq0 Hread
    rcases hcase with ⟨hE, rfl, rfl⟩ | ⟨rfl, rfl, rfl, rfl⟩ | ⟨rfl, rfl, rfl, rfl⟩ | ⟨rfl, rfl, rfl, rfl⟩
    · have hE' : (LE != 0) = true := by rw [bne_iff_ne]; exact hE
      clear hE
      go_wp2
      go_ret2
      exact ⟨rfl, hb1.alloc hb1.size _⟩
    all_goals
      go_wp2
      go_ret2
      exact ⟨rfl, hb1.alloc hb1.size _⟩
  · obtain ⟨e1, e2⟩ := lf_page (zs := zs) (f := f) hp
    rw [e1, e2]
    have hd : decide (0 ≤ p ∧ p < 64) = false := by simpa using hp
    go_enter Try.func7, Try.ntmps7
    go_wp2_with (go_at_call 16; refine (isPage_any _ _).mono ?_; rintro e w' ⟨rfl, rfl⟩)
    go_ret2
    exact ⟨rfl, Below.refl _ _⟩

theorem lfE_page {zs : List Int} {f p : Int} (h : lfE zs f p = 0) : 0 ≤ p ∧ p < 64 := by
  by_cases hp : 0 ≤ p ∧ p < 64
  · exact hp
  · rw [(lf_page hp).1] at h; cases h

set_option maxHeartbeats 800000 in
theorem tableGet_any (v : Value) (zs : List Int) (f p : Int) (w : World) (h : IsBytes w v zs) :
    Calls Try.prog 9 #[v, .int .i64 f, .int .i64 p] w fun e w' => e = .returned (entV (gtK zs f p) (gtN zs f p) (gtE zs f p)) ∧ Below w.heap.size w w' := by
  have Hleaf : Hid (∀ w1, IsBytes w1 v zs → Calls Try.prog 7 #[v, .int .i64 f, .int .i64 p] w1 fun e w' => e = .returned (.tuple #[.int .i64 (lfN zs f p), .int .i64 (lfE zs f p)]) ∧ Below w1.heap.size w1 w') := fun w1 h1 => tableLeaf_any v zs f p w1 h1
  by_cases h0 : lfE zs f p = 0
  · have hp := lfE_page h0
    have hm : p.tmod 8 = p % 8 := Int.tmod_eq_emod_of_nonneg hp.1
    have Hread : Hid (∀ w1, IsBytes w1 v zs → Calls Try.prog 17 #[v, .int .i64 (lfN zs f p), .int .i64 (p % 8)] w1 fun e w' => e = .returned (entV (gtK zs f p) (gtN zs f p) (gtE zs f p)) ∧ Below w1.heap.size w1 w') := by
      intro w1 h1
      have := tableRead_any v zs (lfN zs f p) (p % 8) w1 h1 (by omega) (by omega)
      unfold gtK gtN gtE
      rw [if_pos h0, if_pos h0, if_pos h0]
      exact this
    have hq : 0 ≤ p % 8 ∧ p % 8 < 8 := by omega
    rw [h0] at Hleaf
    generalize lfN zs f p = L at *
    generalize gtK zs f p = K at *
    generalize gtN zs f p = N at *
    generalize gtE zs f p = E at *
    generalize p % 8 = q at *
    clear h0
    go_enter Try.func9, Try.ntmps9
    go_wp2_with fail
    refine (Hleaf.out _ (h.below ((Below.refl _ _).alloc (Nat.le_refl _) _))).mono ?_
    rintro e w1 ⟨rfl, hb1⟩
    have ho := own_one (xs := [_, _]) hb1
    have hbw : Below w.heap.size w w1 := ((Below.refl _ _).alloc (Nat.le_refl _) _).trans (hb1.mono (by simp))
    have h1 := h.below hbw
    clear hb1 Hleaf
    go_wp2_with fail
    refine (Hread.out _ h1).mono ?_
    rintro e w2 ⟨rfl, hb2⟩
    have ho2 := ho.below hb2 ho.lt
    have hbw2 := hbw.trans (hb2.mono hbw.size)
    obtain ⟨⟨c0, c1⟩, f0, f1⟩ := ho2.pair
    have hlt := ho2.lt
    clear ho ho2 hbw hb2 Hread
    go_wp2
    exact bodyPost_ret (v := entV K N E) (by simp [results, Try.results9, go_sem, c0, c1, hlt]) rfl ⟨rfl, (hbw2.setCell (Nat.le_refl _) _).setCell (Nat.le_refl _) _⟩
  · have e1 : gtK zs f p = 0 := by unfold gtK; rw [if_neg h0]
    have e2 : gtN zs f p = 0 := by unfold gtN; rw [if_neg h0]
    rw [e1, e2]
    have hcase : (lfE zs f p = 3 ∧ gtE zs f p = 0) ∨ (lfE zs f p ≠ 3 ∧ lfE zs f p ≠ 0 ∧ gtE zs f p = lfE zs f p) := by
      unfold gtE
      rw [if_neg h0]
      by_cases h3 : lfE zs f p = 3
      · left; exact ⟨h3, by rw [if_pos h3]⟩
      · right; exact ⟨h3, h0, by rw [if_neg h3]⟩
    generalize lfN zs f p = L at *
    generalize lfE zs f p = E at *
    generalize gtE zs f p = G at *
    clear h0 e1 e2
    go_enter Try.func9, Try.ntmps9
    go_wp2_with fail
    refine (Hleaf.out _ (h.below ((Below.refl _ _).alloc (Nat.le_refl _) _))).mono ?_
    rintro e w1 ⟨rfl, hb1⟩
    have ho := own_one (xs := [_, _]) hb1
    have hbw : Below w.heap.size w w1 := ((Below.refl _ _).alloc (Nat.le_refl _) _).trans (hb1.mono (by simp))
    clear hb1 Hleaf
    obtain ⟨⟨c0, c1⟩, f0, f1⟩ := ho.pair
    have hlt := ho.lt
    clear ho
    rcases hcase with ⟨rfl, rfl⟩ | ⟨h3, h0, rfl⟩
    · go_wp2
      exact bodyPost_ret (v := entV 0 0 0) (by simp [results, Try.results9, go_sem, c0, c1, hlt]) rfl ⟨rfl, (hbw.setCell (Nat.le_refl _) _).setCell (Nat.le_refl _) _⟩
    · have h3' : (G == 3) = false := by rw [beq_eq_false_iff_ne]; exact h3
      have h0' : (G != 0) = true := by rw [bne_iff_ne]; exact h0
      clear h3 h0
      go_wp2
      exact bodyPost_ret (v := entV 0 0 G) (by simp [results, Try.results9, go_sem, c0, c1, hlt]) rfl ⟨rfl, (hbw.setCell (Nat.le_refl _) _).setCell (Nat.le_refl _) _⟩

end Go.Proofs.Ytgdmkmhpdijokac
