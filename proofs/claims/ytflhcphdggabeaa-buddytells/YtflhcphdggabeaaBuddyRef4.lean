/- The contract of the document's own answer framewardenref.BGive: it answers what buddy.Give answers. -/
import Derived.Test.YtflhcphdggabeaaBuddyRef3
namespace Go.Proofs.Ytflhcphdggabeaa
open Go.RowKit
set_option linter.unusedSimpArgs false
set_option linter.unusedVariables false

theorem okB_one {x y : Int} : okB [(x, y)] ↔ isBlk x y = true := by
  unfold okB AllBlk
  simp

theorem bright_is {f : Bool} (v : Value) (l : List (Int × Int)) (w : World) (h : IsBlocks w v l) (hf : rightB l = f) :
    Calls Try.prog 23 #[v] w fun e w' => e = .returned (.bool f) ∧ Below w.heap.size w w' := hf ▸ bright_any v l w h

/-- The bits of F, and of M below k. -/
def orTo (F M : Nat → Bool) (k : Nat) : Nat → Bool := fun t => F t || (decide (t < k) && M t)

theorem orTo_zero (F M : Nat → Bool) : orTo F M 0 = F := by funext t; simp [orTo]

theorem orTo_succ (F M : Nat → Bool) (k : Nat) : upd (orTo F M k) k (F k || M k) = orTo F M (k + 1) := by
  funext t
  unfold upd orTo
  by_cases h : t = k
  · subst h; simp
  · rw [if_neg h]
    congr 2
    rw [decide_eq_decide]
    omega

theorem orTo_at (F M : Nat → Bool) (k : Nat) : orTo F M k k = F k := by simp [orTo]

theorem set_none_row {w : World} {g i : Nat} {b : Bool} {B : Nat → Bool} {g' : Nat} {e : TypeId} {xs : List Value} (h : OwnRow w g' e xs) (hne : g' ≠ g) (v : Value) : OwnRow (w.setCell ⟨g, i, none⟩ v) g' e xs :=
  h.of_block (Below.heap_setCell w ⟨g, i, none⟩ v g' hne)

set_option maxRecDepth 100000 in
set_option maxHeartbeats 4000000 in
theorem bgive_any (v : Value) (l : List (Int × Int)) (x y : Int) (w : World) (h : IsBlocks w v l) :
    Calls Try.prog 19 #[v, .agg #[.int .i64 x, .int .i64 y]] w fun e w' => ∃ v', e = .returned (.tuple #[v', .int .i64 (giveE l x y)]) ∧ OwnB w.heap.size w' v' (giveL l x y) ∧ Below w.heap.size w w' := by
  have hnil : ∀ w', OwnB w.heap.size w' (.slice none 0 0) [] := fun w' => ⟨rfl, Or.inl ⟨rfl, rfl⟩⟩
  have HI : Hid (IsBlocks w v l) := h
  have hbA : Below w.heap.size w (w.alloc (.cells #[.int .i64 x, .int .i64 y] 37)) := (Below.refl _ _).alloc (Nat.le_refl _) _
  have hro : OwnRow (w.alloc (.cells #[.int .i64 x, .int .i64 y] 37)) w.heap.size 37 [.int .i64 x, .int .i64 y] := heap_alloc_new w _
  clear h
  obtain ⟨w0, hw0⟩ : ∃ w0, w0 = w.alloc (.cells #[.int .i64 x, .int .i64 y] 37) := ⟨_, rfl⟩
  by_cases hr : rightB l = true
  · have hlr := right_len hr
    go_enter Try.func19, Try.ntmps19
    go_wp2_with fail
    rw [← hw0] at hro hbA ⊢
    clear hw0
    refine (bright_is _ l _ (HI.out.below hbA) hr).mono ?_
    rintro e w1 ⟨rfl, hb1⟩
    have hro1 := hro.below hb1 hro.lt
    have hbA1 := hbA.trans (hb1.mono hbA.size)
    have hc0 : w1.cell? ⟨w.heap.size, 0, none⟩ = some (.int .i64 x) := by rw [hro1.cell]; rfl
    have hc1 : w1.cell? ⟨w.heap.size, 1, none⟩ = some (.int .i64 y) := by rw [hro1.cell]; rfl
    have hbB : Below w1.heap.size w1 (w1.alloc (.cells #[.int .i64 x, .int .i64 y] 37)) := (Below.refl _ _).alloc (Nat.le_refl _) _
    have hIB : IsBlocks (w1.alloc (.cells #[.int .i64 x, .int .i64 y] 37)) (.slice (some ⟨w1.heap.size, 0, none⟩) 1 1) [(x, y)] := by
      refine ⟨_, _, rfl, by simp, by simp, fun _ => ⟨w1.heap.size, 0, rfl, fun i hi => ?_⟩⟩
      obtain rfl : i = 0 := by simp at hi; omega
      exact ⟨by simp, by simp⟩
    have HIB : Hid _ := hIB
    clear hIB
    have hbA2 := hbA1.trans (hbB.mono hbA1.size)
    go_wp2_with fail
    refine (bfree_any _ [(x, y)] _ HIB.out).mono ?_
    rintro e w2 ⟨⟨g, M, rfl, hrow, hg, hok, hM⟩ | ⟨rfl, hno⟩, hb2⟩
    · have hb := okB_one.1 hok
      have hbA3 := hbA2.trans (hb2.mono hbA2.size)
      go_wp2_with fail
      refine (bfree_any _ l _ (HI.out.below hbA3)).mono ?_
      rintro e w3 ⟨⟨g2, F, rfl, hrow2, hg2, hok2, hF⟩ | ⟨rfl, hno⟩, hb3⟩
      · have hbA4 := hbA3.trans (hb3.mono hbA3.size)
        have hgl := hrow.lt
        have hrowM := hrow.below hb3 hgl
        have hwg : w.heap.size ≤ g := Nat.le_trans hbA2.size hg
        have hwg2 : w.heap.size ≤ g2 := Nat.le_trans hbA3.size hg2
        have hgg : g ≠ g2 := by omega
        have HM : Hid (∀ t : Nat, t < 64 → (M t = true ↔ cov (x, y) t)) := fun t ht => by rw [hM t ht, covL_one]
        have HF : Hid (∀ t : Nat, t < 64 → (F t = true ↔ covL l t)) := hF
        clear hM hF hrow hok hok2 hc0 hc1 hro1 hro
        go_wp2_with fail
        go_loopw [30] (fun i wr => ∃ k : Nat, k ≤ 64 ∧ i = .int .i64 k ∧ OwnRow wr g 4 (bitsL M) ∧ OwnRow wr g2 4 (bitsL (orTo F M k)) ∧ (∀ t : Nat, t < k → ¬ (M t = true ∧ F t = true)) ∧ Below w.heap.size w wr) (fun i _ => 64 - (intOf i).toNat)
        case atStart => exact ⟨0, by omega, rfl, hrowM, by rw [orTo_zero]; exact hrow2, fun t ht => by omega, hbA4⟩
        clear hrowM hrow2 hbA4 hb3 hb2 hbA3
        case round =>
          obtain ⟨k, hk, rfl, hrM, hrF, hcf, hbel⟩ := hrel
          by_cases hlt : k < 64
          · have hcM : wr.cell? ⟨g, k, none⟩ = some (.bool (M k)) := by rw [hrM.cell]; exact bitsL_get _ _ hlt
            have hcF : wr.cell? ⟨g2, k, none⟩ = some (.bool (F k)) := by rw [hrF.cell, bitsL_get _ _ hlt, orTo_at]
            have hfz := hrF.free k
            have hki : (k : Int) < 64 := by omega
            have HRM : Hid (∀ b : Value, OwnRow (wr.setCell ⟨g2, k, none⟩ b) g 4 (bitsL M)) := fun b => hrM.of_block (Below.heap_setCell wr ⟨g2, k, none⟩ b g hgg)
            have HRF : Hid (OwnRow (wr.setCell ⟨g2, k, none⟩ (.bool (F k || M k))) g2 4 (bitsL (orTo F M (k + 1)))) := by
              have := hrF.set k (.bool (F k || M k))
              rw [bitsL_set, orTo_succ] at this
              exact this
            cases hMk : M k with
            | true =>
              cases hFk : F k with
              | true =>
                have hm : l.any (meets x y) = true := (meets_iff hb (rightB_blk hr)).2 ⟨k, (HF.out k hlt).1 hFk, (HM.out k hlt).1 hMk⟩
                have HE : Hid (giveE l x y = 7) := by show _ = _; simp [giveE, hr, hb, hm]
                have HL : Hid (giveL l x y = []) := giveL_bad (by rw [HE.out]; decide)
                rw [hMk] at hcM
                rw [hFk] at hcF
                clear hcf HRM HRF hrM hrF hm
                go_wp2
                go_ret2
                exact ⟨_, by rw [HE.out]; rfl, by rw [HL.out]; exact hnil _, hbel⟩
              | false =>
                rw [hMk, hFk] at HRF
                rw [hMk] at hcM
                rw [hFk] at hcF
                have HCF : Hid (∀ t : Nat, t < k + 1 → ¬ (M t = true ∧ F t = true)) := fun t ht hc => by
                  by_cases h : t = k
                  · rw [h, hFk] at hc; exact absurd hc.2 (by simp)
                  · exact hcf t (by omega) hc
                clear hcf hrM hrF
                go_wp2
                exact ⟨⟨k + 1, by omega, by go_num, HRM.out _, HRF.out, HCF.out, hbel.setCell hwg2 _⟩, by simp [intOf]; omega⟩
            | false =>
              have HCF : Hid (∀ t : Nat, t < k + 1 → ¬ (M t = true ∧ F t = true)) := fun t ht hc => by
                by_cases h : t = k
                · rw [h, hMk] at hc; exact absurd hc.1 (by simp)
                · exact hcf t (by omega) hc
              rw [hMk] at HRF
              rw [hMk] at hcM
              cases hFk : F k with
              | true =>
                rw [hFk] at hcF HRF
                clear hcf hrM hrF
                go_wp2
                exact ⟨⟨k + 1, by omega, by go_num, HRM.out _, HRF.out, HCF.out, hbel.setCell hwg2 _⟩, by simp [intOf]; omega⟩
              | false =>
                rw [hFk] at hcF HRF
                clear hcf hrM hrF
                go_wp2
                exact ⟨⟨k + 1, by omega, by go_num, HRM.out _, HRF.out, HCF.out, hbel.setCell hwg2 _⟩, by simp [intOf]; omega⟩
          · obtain rfl : k = 64 := by omega
            have hm : l.any (meets x y) = false := by
              rw [Bool.eq_false_iff]
              intro hm
              obtain ⟨t, t1, t2⟩ := (meets_iff hb (rightB_blk hr)).1 hm
              obtain ⟨b0, b6, bx0, bx, -⟩ := isBlk_iff.1 hb
              have h1 := t2.1
              have h2 := t2.2
              simp only at h1 h2
              obtain ⟨u, rfl⟩ : ∃ u : Nat, t = u := ⟨t.toNat, by omega⟩
              exact hcf u (by omega) ⟨(HM.out u (by omega)).2 t2, (HF.out u (by omega)).2 t1⟩
            have HE : Hid (giveE l x y = 0) := by show _ = _; simp [giveE, hr, hb, hm]
            obtain ⟨G1, G2⟩ := give_good hr hb hm
            have HRF : Hid _ := hrF
            clear hcf hrM hrF
            go_wp2_with fail
            refine (bblocks_any g2 _ wr HRF.out).mono ?_
            rintro e w9 ⟨v9, L, rfl, ho9, hG, hL, hb9⟩
            have HEQ : Hid (L = giveL l x y) := good_bits hG G1 (fun t ht => by
              rw [← hL t ht, G2]
              unfold orTo
              rw [Bool.or_eq_true, Bool.and_eq_true, decide_eq_true_eq, HF.out t ht, HM.out t ht]
              exact ⟨fun h => h.imp id And.right, fun h => h.imp id (fun h => ⟨ht, h⟩)⟩)
            go_wp2
            go_ret2
            exact ⟨_, by rw [HE.out]; rfl, by rw [← HEQ.out]; exact ho9.mono hbel.size, hbel.trans (hb9.mono hbel.size)⟩
      · exact (hno (okB_of_good (good_of_right hr))).elim
    · have hb' : isBlk x y = false := by
        rw [Bool.eq_false_iff]
        exact fun h => hno (okB_one.2 h)
      have HE : Hid (giveE l x y = 2) := by show _ = _; simp [giveE, hr, hb']
      have HL : Hid (giveL l x y = []) := giveL_bad (by rw [HE.out]; decide)
      clear hb'
      go_wp2
      go_ret2
      exact ⟨_, by rw [HE.out]; rfl, by rw [HL.out]; exact hnil _, hbA2.trans (hb2.mono hbA2.size)⟩
  · have hr' : rightB l = false := by simpa using hr
    have HE : Hid (giveE l x y = 1) := by show _ = _; simp [giveE, hr']
    have HL : Hid (giveL l x y = []) := giveL_bad (by rw [HE.out]; decide)
    go_enter Try.func19, Try.ntmps19
    go_wp2_with fail
    rw [← hw0] at hro hbA ⊢
    clear hw0
    refine (bright_is _ l _ (HI.out.below hbA) hr').mono ?_
    rintro e w1 ⟨rfl, hb1⟩
    go_wp2
    go_ret2
    exact ⟨_, by rw [HE.out]; rfl, by rw [HL.out]; exact hnil _, hbA.trans (hb1.mono hbA.size)⟩

end Go.Proofs.Ytflhcphdggabeaa
