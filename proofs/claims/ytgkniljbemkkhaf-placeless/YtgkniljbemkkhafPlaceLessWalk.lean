/- The walk of framewardenkeep.PlaceLess: it returns true, and nothing that was there is written. -/
import Derived.Test.YtgkniljbemkkhafAlive9
namespace Go.Proofs.Ytgkniljbemkkhaf
open Go.RowKit
set_option linter.unusedSimpArgs false
set_option linter.unusedVariables false

set_option maxHeartbeats 1600000 in
theorem placeLess_any (v : Value) (l : List R6) (c f t : Int) (w : World) (h : IsRecs encR 3518437208780 w v l) (_ : ∀ x ∈ l, wfR x) (hc0 : (Lit.int .i64 c).wf = true) (_ : (Lit.int .i64 f).wf = true) (_ : (Lit.int .i64 t).wf = true) :
    Calls Try.prog 5 #[v, .int .i64 c, .int .i64 f, .int .i64 t] w fun e w' => e = .returned (.bool true) ∧ Below w.heap.size w w' := by
  have hcb := wf_bd hc0
  have Hal : Hid (∀ w1, Calls Try.prog 11 #[] w1 fun e w' => e = .returned (.bool true) ∧ Below w1.heap.size w1 w') := alive9_any
  clear hc0
  by_cases hc2 : c < 2
  · obtain ⟨va, vn, rfl⟩ := h.form
    clear h
    go_enter Try.func5, Try.ntmps5
    go_wp2_with (go_at_call 11; refine (Hal.out _).mono ?_; rintro e w1 ⟨rfl, hw1⟩)
    go_ret
    exact ⟨rfl, hw1⟩
  · have hcb1 : bdI (c - 1) := ⟨by have := hcb.1; omega, by have := hcb.2; omega⟩
    have HA1 : Hid (∀ w1, Below w.heap.size w w1 → Calls Try.prog 9 #[v, .int .i64 (c - 1)] w1 fun e w' => ∃ v', e = .returned v' ∧ OwnR 3 1 encI w1.heap.size w' v' (allP l (c - 1)) ∧ Below w1.heap.size w1 w') := fun w1 hb => all_any v l (c - 1) _ w1 (h.below hb) (by decide) hcb1
    have HA : Hid (∀ w1, Below w.heap.size w w1 → Calls Try.prog 9 #[v, .int .i64 c] w1 fun e w' => ∃ v', e = .returned v' ∧ OwnR 3 1 encI w1.heap.size w' v' (allP l c) ∧ Below w1.heap.size w1 w') := fun w1 hb => all_any v l c _ w1 (h.below hb) (by decide) hcb
    have HC : Hid (∀ w1, Below w.heap.size w w1 → Calls Try.prog 15 #[v, .int .i64 f, .int .i64 t] w1 fun e w' => ∃ v', e = .returned (lstV v' (wrE l f t)) ∧ OwnR 36 6 encR w1.heap.size w' v' (cutL l f t) ∧ Below w1.heap.size w1 w') := fun w1 hb => cut_any v l f t _ w1 (h.below hb) (by decide)
    have HG : Hid (wrE l f t = 0 → (cutL l f t).length ≤ 64) := fun h0 => good_len (cut_pages h0).2.2.1
    have HAC : Hid (∀ w1 v1 base, wrE l f t = 0 → OwnR 36 6 encR base w1 v1 (cutL l f t) → Calls Try.prog 9 #[v1, .int .i64 c] w1 fun e w' => ∃ v', e = .returned v' ∧ OwnR 3 1 encI w1.heap.size w' v' (allP (cutL l f t) c) ∧ Below w1.heap.size w1 w') := fun w1 v1 base h0 ho => all_any v1 _ c 1000 w1 (ho.recs (Nat.le_trans (HG.out h0) (by decide))) (by decide) hcb
    have HM1 : Hid (∀ p ∈ allP l c, p ∈ allP l (c - 1)) := fun p hp => less_said hp (by omega)
    have HM2 : Hid (wrE l f t = 0 → ∀ p ∈ allP l c, p ∈ allP (cutL l f t) c) := fun h0 p hp => cut_said hp h0
    have HK : Hid (∀ w1 v1 base L p, L.length ≤ 64 → p ∈ L → OwnR 3 1 encI base w1 v1 L → Calls Try.prog 14 #[v1, .int .i64 p] w1 fun e w' => e = .returned (.bool true) ∧ Below w1.heap.size w1 w') := fun w1 v1 base L p hl hp ho => icontains_is v1 L p 64 w1 (ho.recs hl) (by decide) (by simpa using hp)
    have l1 := allP_len l c
    have l2 := allP_len l (c - 1)
    have l3 := allP_len (cutL l f t) c
    obtain ⟨va, vn, rfl⟩ := h.form
    obtain ⟨n, hn⟩ : ∃ n, Hid (n = l.length) := ⟨_, rfl⟩
    rw [← hn.out] at HA1 HA HC ⊢
    generalize wrE l f t = E at *
    generalize cutL l f t = M at *
    generalize hl1 : allP l c = L1 at *
    generalize allP l (c - 1) = L2 at *
    generalize allP M c = L3 at *
    clear h HG hl1
    have hc1 : wrap64 (c - 1) = c - 1 := by have := hcb.1; have := hcb.2; unfold wrap64; omega
    go_enter Try.func5, Try.ntmps5
    go_wp2_with fail
    refine (Hal.out _).mono ?_
    rintro e w1 ⟨rfl, hw1⟩
    go_wp2_with fail
    refine (HA1.out _ hw1).mono ?_
    rintro e w2 ⟨v2, rfl, ho2, hw2⟩
    have hx2 := hw1.trans (hw2.mono hw1.size)
    obtain ⟨a2, m2, rfl⟩ := ho2.form
    go_wp2_with fail
    refine (HC.out _ hx2).mono ?_
    rintro e w3 ⟨v3, rfl, ho3, hw3⟩
    have hx3 := hx2.trans (hw3.mono hx2.size)
    have ho23 := ho2.below hw3
    obtain ⟨a3, m3, rfl⟩ := ho3.form
    clear ho2 hw2
    go_wp2_with fail
    refine (HA.out _ hx3).mono ?_
    rintro e w4 ⟨v4, rfl, ho4, hw4⟩
    have hx4 := hx3.trans (hw4.mono hx3.size)
    have ho24 := ho23.below hw4
    have ho34 := ho3.below hw4
    clear ho23 ho3 hw3
    obtain ⟨a4, m4, rfl, h41, h42, hcell'⟩ := ho4.recs (B := 64) l1
    obtain ⟨k4, hk4⟩ : ∃ n, Hid (n = L1.length) := ⟨_, rfl⟩
    rw [← hk4.out] at h41 h42 hcell' ⊢
    have HO2 : Hid (∀ w1, Below w4.heap.size w4 w1 → OwnR 3 1 encI w1.heap.size w1 (.slice a2 L2.length m2) L2 ∨ OwnR 3 1 encI 0 w1 (.slice a2 L2.length m2) L2) := fun w1 hb => Or.inr ((ho24.below hb).mono (Nat.zero_le _))
    have HO2' : Hid (∀ w1, Below w4.heap.size w4 w1 → OwnR 3 1 encI 0 w1 (.slice a2 L2.length m2) L2) := fun w1 hb => (ho24.below hb).mono (Nat.zero_le _)
    have HO3' : Hid (∀ w1, Below w4.heap.size w4 w1 → OwnR 36 6 encR 0 w1 (.slice a3 M.length m3) M) := fun w1 hb => (ho34.below hb).mono (Nat.zero_le _)
    clear HO2 ho24 ho34 ho4 HA HA1 HC Hal
    go_wp2_with fail
    go_loopw [33] (fun i wr => ∃ k : Nat, k ≤ k4 ∧ i = .int .i64 k ∧ Below w4.heap.size w4 wr) (fun i _ => k4 - (intOf i).toNat)
    case atStart => exact ⟨0, Nat.zero_le _, rfl, Below.refl _ _⟩
    case round =>
      obtain ⟨k, hk, rfl, hbel⟩ := hrel
      by_cases hlt : k < k4
      · obtain ⟨b, off, rfl, hcell⟩ := hcell' (by omega)
        have hkl : k < L1.length := by rw [← hk4.out]; exact hlt
        have hmem := getD_mem hkl
        obtain ⟨p, hp⟩ : ∃ p, p = L1.getD k 0 := ⟨_, rfl⟩
        have hk0 := cell1 hcell hbel k hkl hp
        rw [← hp] at hmem
        have HP2 : Hid (p ∈ L2) := HM1.out p hmem
        have HP3 : Hid (E = 0 → p ∈ L3) := fun h0 => HM2.out h0 p hmem
        clear hp hkl hmem
        by_cases hE : E = 0
        · have HP3' : Hid (p ∈ L3) := HP3.out hE
          have HACc : Hid (∀ w1 v1 base, OwnR 36 6 encR base w1 v1 M → Calls Try.prog 9 #[v1, .int .i64 c] w1 fun e w' => ∃ v', e = .returned v' ∧ OwnR 3 1 encI w1.heap.size w' v' L3 ∧ Below w1.heap.size w1 w') := fun w1 v1 base ho => HAC.out w1 v1 base hE ho
          subst hE
          go_wp2_with fail
          refine (HK.out _ _ _ _ _ l2 HP2.out (HO2'.out _ hbel)).mono ?_
          rintro e w5 ⟨rfl, hw5⟩
          have hb5 := hbel.trans (hw5.mono hbel.size)
          go_wp2_with fail
          refine (HACc.out _ _ _ (HO3'.out _ hb5)).mono ?_
          rintro e w6 ⟨v6, rfl, ho6, hw6⟩
          have hb6 := hb5.trans (hw6.mono hb5.size)
          obtain ⟨a6, m6, rfl⟩ := ho6.form
          go_wp2_with fail
          refine (HK.out _ _ _ _ _ l3 HP3'.out ho6).mono ?_
          rintro e w7 ⟨rfl, hw7⟩
          go_wp2
          go_roundw
          case rel => exact ⟨k + 1, by omega, by go_num, hb6.trans (hw7.mono hb6.size)⟩
          case measure => simp [intOf]; omega
        · have hE2 : (E == 0) = false := by simpa using hE
          go_wp2_with fail
          refine (HK.out _ _ _ _ _ l2 HP2.out (HO2'.out _ hbel)).mono ?_
          rintro e w5 ⟨rfl, hw5⟩
          go_wp2
          go_roundw
          case rel => exact ⟨k + 1, by omega, by go_num, hbel.trans (hw5.mono hbel.size)⟩
          case measure => simp [intOf]; omega
      · go_wp2
        go_ret
        exact ⟨rfl, hx4.trans (hbel.mono hx4.size)⟩

end Go.Proofs.Ytgkniljbemkkhaf
