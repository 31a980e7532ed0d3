/- The contract of the document's own answer framewardenref.MRight: it answers what pool.Right answers. -/
import Derived.Test.YticmloddkngfnahPoolSays
namespace Go.Proofs.Yticmloddkngfnah
open Go.RowKit
set_option linter.unusedSimpArgs false
set_option linter.unusedVariables false

theorem fit_bits {l : List (Int × Int)} {B : Nat → Bool} (h : ∀ t : Nat, t < 64 → (B t = true ↔ covL l t)) {k : Nat} (hk : k < 64) : B k = covB l k := by
  rw [Bool.eq_iff_iff, h k hk, covB_iff]

set_option maxRecDepth 100000 in
set_option maxHeartbeats 1600000 in
theorem mright_any (v : Value) (l : List (Int × Int)) (R : Nat → Int) (w : World) (h : IsBlocks w v l) :
    Calls Try.prog 15 #[.agg (poolC v R).toArray] w fun e w' => e = .returned (.bool (poolB l R)) ∧ Below w.heap.size w w' := by
  have HI : Hid (∀ w1, Below w.heap.size w w1 → IsBlocks w1 v l) := fun w1 hb => h.below hb
  have hbA : Below w.heap.size w (w.alloc (.cells (poolC v R).toArray 25)) := (Below.refl _ _).alloc (Nat.le_refl _) _
  have hro : OwnRow (w.alloc (.cells (poolC v R).toArray 25)) w.heap.size 25 (poolC v R) := heap_alloc_new w _
  obtain ⟨va, vn, vc, rfl⟩ := h.form
  have hc0 : (w.alloc (.cells (poolC (.slice va vn vc) R).toArray 25)).cell? ⟨w.heap.size, 0, none⟩ = some (.slice va vn vc) := by rw [hro.cell]; rfl
  obtain ⟨X, hX⟩ : ∃ X, Hid (X = (poolC (.slice va vn vc) R).toArray) := ⟨_, rfl⟩
  rw [← hX.out] at hbA hro hc0 ⊢
  clear hX h
  obtain ⟨w0, hw0⟩ : ∃ w0, w0 = w.alloc (.cells X 25) := ⟨_, rfl⟩
  go_enter Try.func15, Try.ntmps15
  go_wp2_with fail
  rw [← hw0] at hro hbA ⊢
  clear hw0 hc0
  refine (bfree_any _ l _ (HI.out _ hbA)).mono ?_
  rintro e w1 ⟨⟨G, B, rfl, hrow, hg, hok, hB⟩ | ⟨rfl, hno⟩, hb1⟩
  · have hro1 := hro.below hb1 hro.lt
    have hbb1 := hbA.trans (hb1.mono hbA.size)
    have hc1 : w1.cell? ⟨w.heap.size, 0, none⟩ = some (.slice va vn vc) := by rw [hro1.cell]; rfl
    clear hro hbA hg hok
    cases hr : rightB l with
    | false =>
      have HP : Hid (poolB l R = false) := by show _ = _; unfold poolB; rw [hr]; rfl
      have HR : Hid (rightB l = false) := hr
      clear hr
      go_wp2_with fail
      refine (bright_is _ l _ (HI.out _ hbb1) HR.out).mono ?_
      rintro e w2 ⟨rfl, hb2⟩
      go_wp2
      go_ret
      exact ⟨ret_bool HP.out.symm, hbb1.trans (hb2.mono hbb1.size)⟩
    | true =>
      have HR : Hid (rightB l = true) := hr
      clear hr
      go_wp2_with fail
      refine (bright_is _ l _ (HI.out _ hbb1) HR.out).mono ?_
      rintro e w2 ⟨rfl, hb2⟩
      have hrow2 := hrow.below hb2 hrow.lt
      have hro2 := hro1.below hb2 hro1.lt
      have hbb2 := hbb1.trans (hb2.mono hbb1.size)
      have HF2 : Hid (OwnRow w2 G 4 (bitsL B) ∧ OwnRow w2 w.heap.size 25 (poolC (.slice va vn vc) R) ∧ Below w.heap.size w w2) := ⟨hrow2, hro2, hbb2⟩
      have HB : Hid (∀ k : Nat, k < 64 → B k = covB l k) := fun k hk => fit_bits hB hk
      clear hrow hro1 hbb1 hb1 hb2 hrow2 hro2 hbb2 hc1 hB
      go_wp2_with fail
      go_loop [23] (fun i => ∃ k : Nat, k ≤ 64 ∧ i = .int .i64 k ∧ Hid (∀ i, i < k → fitB l R i = true)) (fun i => 64 - (intOf i).toNat)
      case atStart => exact ⟨0, Nat.zero_le _, rfl, (fun i hi => by omega)⟩
      case round =>
        obtain ⟨k, hk, rfl, hfit⟩ := hrel
        by_cases hlt : k < 64
        · have e0 : w2.cell? ⟨G, k, none⟩ = some (.bool (covB l k)) := by rw [HF2.out.1.cell, bitsL_get _ _ hlt, HB.out k hlt]
          have e1 : w2.cell? ⟨w.heap.size, 1 + k, none⟩ = some (.int .i64 (R k)) := HF2.out.2.1.refs k hlt
          have HF : Hid (fitB l R k = (decide (0 ≤ R k) && (covB l k == decide (R k = 0)))) := rfl
          have HN : Hid (fitB l R k = false → poolB l R = false) := fun hf => poolB_no hlt hf
          have HY' : Hid (fitB l R k = true → ∀ i, i < k + 1 → fitB l R i = true) := fun hf i hi => by
            by_cases he : i = k
            · rw [he]; exact hf
            · exact hfit.out i (by omega)
          generalize covB l k = c at *
          generalize R k = r at *
          generalize fitB l R k = f at *
          clear hfit
          by_cases h1 : r < 0
          · have HP : Hid (poolB l R = false) := HN.out (by rw [HF.out]; simp; omega)
            clear HF HN HY'
            go_wp2
            go_ret
            exact ⟨ret_bool HP.out.symm, HF2.out.2.2⟩
          · by_cases h2 : r = 0
            · subst h2
              cases c with
              | true =>
                have HT : Hid _ := HY'.out (by rw [HF.out]; rfl)
                clear HF HN HY'
                go_wp2
                exact ⟨⟨k + 1, by omega, by go_num, HT.out⟩, by simp [intOf]; omega⟩
              | false =>
                have HP : Hid (poolB l R = false) := HN.out (by rw [HF.out]; rfl)
                clear HF HN HY'
                go_wp2
                go_ret
                exact ⟨ret_bool HP.out.symm, HF2.out.2.2⟩
            · have hd : (r == 0) = false := by simpa using h2
              have hd1 : decide (r < 0) = false := by simp; omega
              cases c with
              | true =>
                have HP : Hid (poolB l R = false) := HN.out (by rw [HF.out]; simp [h2])
                clear HF HN HY'
                go_wp2
                go_ret
                exact ⟨ret_bool HP.out.symm, HF2.out.2.2⟩
              | false =>
                have HT : Hid _ := HY'.out (by rw [HF.out]; simp [h2]; omega)
                clear HF HN HY'
                go_wp2
                exact ⟨⟨k + 1, by omega, by go_num, HT.out⟩, by simp [intOf]; omega⟩
        · obtain rfl : k = 64 := by omega
          have HP : Hid (poolB l R = true) := poolB_yes HR.out hfit.out
          go_wp2
          go_ret
          exact ⟨ret_bool HP.out.symm, HF2.out.2.2⟩
  · have HP : Hid (poolB l R = false) := by
      show _ = _
      rw [Bool.eq_false_iff]
      intro hp
      exact hno (okB_of_good (good_of_right (poolB_right hp)))
    clear hno
    go_wp2
    go_ret
    exact ⟨ret_bool HP.out.symm, hbA.trans (hb1.mono hbA.size)⟩

end Go.Proofs.Yticmloddkngfnah
