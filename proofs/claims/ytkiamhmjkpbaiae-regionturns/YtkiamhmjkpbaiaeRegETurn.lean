/- The contract of the document's own answer framewardenref.HEach with the closure framewardenlaw.RegionTurns$1$1. -/
import Derived.Test.YtkiamhmjkpbaiaeRegRef5
namespace Go.Proofs.Ytkiamhmjkpbaiae
open Go.RowKit
set_option linter.unusedSimpArgs false
set_option linter.unusedVariables false

set_option maxHeartbeats 3200000 in
theorem heach_turn (caps : Array Value) (φ : A4 → A4) (v : Value) (l : List R6) (f t : Int) (B : Nat) (w : World) (h : IsRecs encR B w v l) (hB : B ≤ 3518437208883)
    (hφ : ∀ w1 p o, Below w.heap.size w w1 → AtP w1 p o → o ≠ none → Calls Try.prog 22 (#[.pointer p] ++ caps) w1 fun e w' => ∃ p', e = .returned (.pointer p') ∧ AtP w' p' ((Option.map φ) o) ∧ Below w1.heap.size w1 w') :
    Calls Try.prog 16 #[v, .int .i64 f, .int .i64 t, .int .i64 (1), .func (.func 22) #[] caps] w fun e w' => ∃ v', e = .returned (lstV v' (chE l f t)) ∧ OwnR 31 6 encR w.heap.size w' v' (chL φ l f t) ∧ Below w.heap.size w w' := by
  have HR : Hid (Calls Try.prog 12 #[v] w fun e w' => e = .returned (.bool (rightR l)) ∧ Below w.heap.size w w') := hright_any v l B w h (by omega)
  cases hr : rightR l with
  | false =>
    have hw : wrE l f t = 1 := by unfold wrE; rw [hr]; rfl
    have hE : (chE l f t) = 1 := by unfold chE; rw [if_neg (by omega)]; exact hw
    have HL : Hid ((chL φ l f t) = []) := by unfold chL; rw [hE]; rfl
    rw [hE]
    rw [hr] at HR
    obtain ⟨va, vc, rfl⟩ := h.form
    clear h hφ hE hw
    go_enter Try.func16, Try.ntmps16
    go_wp2_with (go_at_call 12; refine HR.out.mono ?_; rintro e w1 ⟨rfl, hw1⟩)
    go_ret2
    exact ⟨_, rfl, by rw [HL.out]; exact ownR_nil _ _ _, hw1⟩
  | true =>
    rw [hr] at HR
    cases hs : isSp f t with
    | false =>
      have hw : wrE l f t = 2 := by unfold wrE; rw [hr, hs]; rfl
      have hE : (chE l f t) = 2 := by unfold chE; rw [if_neg (by omega)]; exact hw
      have HL : Hid ((chL φ l f t) = []) := by unfold chL; rw [hE]; rfl
      rw [hE]
      obtain ⟨va, vc, rfl⟩ := h.form
      have hbad : ¬ (0 ≤ f ∧ f < t ∧ t ≤ 64) := fun hh => by rw [isSp_iff.2 hh] at hs; cases hs
      have hcase : (decide (f < 0) = true) ∨ (decide (f < 0) = false ∧ decide (64 < t) = true) ∨ (decide (f < 0) = false ∧ decide (64 < t) = false ∧ decide (t ≤ f) = true) := by
        by_cases a1 : f < 0
        · exact Or.inl (by simpa using a1)
        · by_cases a2 : 64 < t
          · exact Or.inr (Or.inl ⟨by simpa using a1, by simpa using a2⟩)
          · exact Or.inr (Or.inr ⟨by simpa using a1, by simpa using a2, by simp; omega⟩)
      clear h hφ hE hw hbad
      rcases hcase with d1 | ⟨d1, d2⟩ | ⟨d1, d2, d3⟩
      all_goals
        go_enter Try.func16, Try.ntmps16
        go_wp2_with (go_at_call 12; refine HR.out.mono ?_; rintro e w1 ⟨rfl, hw1⟩)
        go_ret2
        exact ⟨_, rfl, by rw [HL.out]; exact ownR_nil _ _ _, hw1⟩
    | true =>
      have hw : wrE l f t = 0 := by unfold wrE; rw [hr, hs]; rfl
      have HW : Hid (wrE l f t = 0) := hw
      have hsp := isSp_iff.1 hs
      have hasc := (good_of_right hr).asc (by decide)
      have HPg : Hid (∀ w1, Below w.heap.size w w1 → Calls Try.prog 32 #[v] w1 fun e w' => ∃ A, e = .returned (.tuple #[.agg (ptrsL A).toArray, .bool true]) ∧ Pts w' A (fun i => atR l i) ∧ Below w1.heap.size w1 w') := by
        intro w1 hb
        refine (hpages_any v l B w1 (h.below hb) (by omega)).mono ?_
        rintro e w' ⟨A, b, he, h1, h2, h3⟩
        have hb1 := h1.2 hasc
        subst hb1
        exact ⟨A, he, h2 rfl, h3⟩
      have HRg : Hid (∀ A o w1, Pts w1 A o → Calls Try.prog 33 #[.agg (ptrsL A).toArray] w1 fun e w' => ∃ v', e = .returned v' ∧ OwnR 31 6 encR w1.heap.size w' v' (regs o) ∧ Below w1.heap.size w1 w') := fun A o w1 hA => hregions_any A o w1 hA
      have HF : Hid _ := hφ
      obtain ⟨va, vc, rfl⟩ := h.form
      obtain ⟨n, hn⟩ : ∃ n, Hid (n = l.length) := ⟨_, rfl⟩
      rw [← hn.out] at HR HPg ⊢
      obtain ⟨F, rfl⟩ : ∃ F : Nat, f = F := ⟨f.toNat, by omega⟩
      obtain ⟨s1, s2, s3⟩ := hsp
      clear h hφ hasc hs hr hw
      have d1 : decide ((F : Int) < 0) = false := by simp
      have d2 : decide (64 < t) = false := by simp; omega
      have d3 : decide (t ≤ (F : Int)) = false := by simp; omega
      go_enter Try.func16, Try.ntmps16
      go_wp2_with fail
      refine HR.out.mono ?_
      rintro e w1 ⟨rfl, hw1⟩
      go_wp2_with fail
      refine (HPg.out _ hw1).mono ?_
      rintro e w2 ⟨A, rfl, hpt, hw2⟩
      have hx2 := hw1.trans (hw2.mono hw1.size)
      have HA := arr_facts A
      obtain ⟨X, hX⟩ : ∃ X, Hid (X = (ptrsL A).toArray) := ⟨_, rfl⟩
      rw [← hX.out] at HA ⊢
      have HAF : Hid _ := HA
      have HPT : Hid (Pts w2 A (fun i => atR l i)) := hpt
      clear HA hpt HR HPg hw1 hw2
      go_wp2_with (refine wpList_store_row rfl 51 (.tmp 12) _ rfl w2.heap.size X rfl rfl 51 _ (heap_alloc_new w2 _) HAF.out.1 (by rw [HAF.out.2.1]; rfl) HAF.out.2.2 ?_; rw [World.setRow_alloc_new])
      go_loopw [14] (fun p wr => ∃ (q : Nat) (A' : Nat → Option Addr), p = .int .i64 q ∧ F ≤ q ∧ (q : Int) ≤ t ∧ Hid (OwnRow wr w2.heap.size 51 (ptrsL A')) ∧ Hid (Pts wr A' (turnO (Option.map φ) l F q)) ∧ Hid (∀ i : Nat, iv F q i = true → atR l i ≠ none) ∧ Below w.heap.size w wr) (fun i _ => 64 - (intOf i).toNat)
      case atStart =>
        refine ⟨F, A, rfl, Nat.le_refl _, by omega, by show OwnRow _ _ _ _; have := heap_alloc_new w2 (.cells X 51); rw [hX.out] at this ⊢; exact this, fun i hi => ?_, fun i hi => by rw [iv_iff] at hi; omega, hx2.alloc hx2.size _⟩
        have e2 : turnO (Option.map φ) l F F i = atR l i := by unfold turnO; rw [if_neg (by rw [iv_iff]; omega)]
        rw [e2]
        exact (HPT.out i hi).below ((Below.refl _ _).alloc (Nat.le_refl _) _)
      case round =>
        obtain ⟨q, A', rfl, hq1, hq2, hrow, hp, hinv, hbel⟩ := hrel
        have hz : w2.heap.size < wr.heap.size := hrow.out.lt
        have hbs := hbel.size
        have hx2s := hx2.size
        by_cases hq3 : (q : Int) < t
        · have hq64 : q < 64 := by omega
          have hap := hp.out q hq64
          have e2 : turnO (Option.map φ) l F q q = atR l q := by unfold turnO; rw [if_neg (by rw [iv_iff]; omega)]
          rw [e2] at hap
          clear e2
          have hf0 := hrow.out.free q
          have hcq : wr.cell? ⟨w2.heap.size, q, none⟩ = some (.pointer (A' q)) := by rw [hrow.out.cell, ptrsL_get _ _ hq64]
          have HIV : Hid (iv F t q = true) := iv_iff.2 ⟨by omega, hq3⟩
          cases ho : atR l q with
          | some a =>
            rw [ho] at hap
            have hap2 := hap
            obtain ⟨b, off, hA0, -⟩ := hap2
            rw [hA0] at hcq hap
            rw [show some a = atR l q from ho.symm] at hap
            clear hA0
            go_wp2_with (go_at_call 22; refine (HF.out _ _ _ hbel hap (by rw [ho]; exact fun h => by cases h)).mono ?_; rintro e w4 ⟨p', rfl, hp', hw4⟩; have hr4 := hrow.out.below hw4 hrow.out.lt; have hc4 := (hw4.cell (cell_lt hcq)).trans hcq; have hf4 := hr4.free q; have hz4 := hr4.lt; have HR4 : Hid (OwnRow w4 w2.heap.size 51 (ptrsL A')) := hr4; clear hr4)
            have hpp := hp.out.below hw4
            obtain ⟨t1, t2⟩ := turn_put HR4.out hpp (by omega) hp'
            exact ⟨⟨q + 1, _, by go_num, by omega, by omega, t1, t2, (fun i hi => by by_cases hiq : i = q; exact hiq ▸ (by rw [ho]; exact fun h => by cases h); exact hinv.out i (by rw [iv_iff] at hi ⊢; omega)), (hbel.trans (hw4.mono hbs)).setCell hx2s _⟩, by simp [intOf]; omega⟩
          | none =>
            have hA0 : A' q = none := by rw [ho] at hap; exact hap
            rw [hA0] at hcq
            have hE := ch_none HW.out q HIV.out ho
            have HL : Hid (chL φ l F t = []) := by unfold chL; rw [hE]; rfl
            have HE3 : Hid _ := hE
            clear hE hA0 ho hap
            go_wp2
            go_ret2
            exact ⟨_, by rw [HE3.out]; rfl, by rw [HL.out]; exact ownR_nil _ _ _, hbel⟩
        · obtain ⟨Y, hY⟩ : ∃ Y, Hid (Y = (ptrsL A').toArray) := ⟨_, rfl⟩
          have HY := arr_facts A'
          rw [← hY.out] at HY
          have HYF : Hid _ := HY
          clear HY
          have HRw : Hid (wr.heap[w2.heap.size]? = some (.cells Y 51 (0, 0))) := by rw [hY.out]; exact hrow.out
          have hqt : (q : Int) = t := by omega
          have hdn := ch_done (φ := φ) HW.out (fun i hi => hinv.out i (by rw [hqt]; exact hi))
          have HG : Hid (Calls Try.prog 33 #[.agg Y] wr fun e w' => ∃ v', e = .returned v' ∧ OwnR 31 6 encR wr.heap.size w' v' (chL φ l (F : Int) t) ∧ Below wr.heap.size wr w') := by
            rw [hY.out]
            have := HRg.out A' _ wr hp.out
            rw [hqt, hdn.2] at this
            exact this
          have HE0 : Hid ((chE l (F : Int) t) = 0) := hdn.1
          clear hdn hqt
          have hdq : decide ((q : Int) < t) = false := by simp; omega
          go_wp2_with (first
            | (refine wpList_load_row rfl 51 (.tmp 12) rfl w2.heap.size rfl 51 Y (0, 0) _ HRw.out Try.underlying51 rfl HYF.out.1 ?_)
            | (go_at_call 33; refine HG.out.mono ?_; rintro e w5 ⟨v5, rfl, ho5, hw5⟩))
          go_ret2
          exact ⟨v5, by rw [HE0.out]; rfl, ho5.mono hbs, hbel.trans (hw5.mono hbs)⟩

end Go.Proofs.Ytkiamhmjkpbaiae
