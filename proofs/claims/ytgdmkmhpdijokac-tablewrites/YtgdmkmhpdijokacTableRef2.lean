/- The contracts of the document's own answers, framewardenref.EPut and ELink. -/
import Derived.Test.YtgdmkmhpdijokacTableRef1
import Derived.Test.YtgdmkmhpdijokacTable4
namespace Go.Proofs.Ytgdmkmhpdijokac
open Go.RowKit
set_option linter.unusedSimpArgs false

theorem en_err {zs : List Int} {f k : Int} : errV zs (enV zs f k) 4 = numE zs f k := by
  unfold enV
  by_cases hn : numE zs f k = 0
  · rw [if_pos hn]; rfl
  · rw [if_neg hn]
    have h2 : numE zs f k = 2 := by
      rcases numE_cases zs f k with h | h
      · exact absurd h hn
      · exact h
    rw [h2]
    have hb : hasB zs.length (-1) 4 = false := by unfold hasB; simp
    unfold errV; rw [hb]; rfl

theorem en_put {zs : List Int} {f k x : Int} (hk : 0 ≤ k) : putV zs (enV zs f k) 4 x = if numE zs f k = 0 then putK zs (64 * f + 4 * k).toNat x 4 else [] := by
  unfold enV
  by_cases hn : numE zs f k = 0
  · rw [if_pos hn, if_pos hn, spot_of hk hn]
    have hb := num_has.1 hn
    rw [spot_of hk hn] at hb
    unfold putV; rw [if_pos hb]; rfl
  · rw [if_neg hn, if_neg hn]
    have hb : hasB zs.length (-1) 4 = false := by unfold hasB; simp
    unfold putV; rw [hb]; rfl

theorem en_ge {zs : List Int} {f k : Int} (hk : 0 ≤ k) : -1 ≤ enV zs f k := by
  unfold enV
  by_cases hn : numE zs f k = 0
  · rw [if_pos hn, spot_of hk hn]
    have := (numE_iff hk).1 hn
    omega
  · rw [if_neg hn]; omega

theorem en_no {zs : List Int} {f k : Int} (hn : numE zs f k ≠ 0) : enV zs f k = -1 := by unfold enV; rw [if_neg hn]
theorem en_ok {zs : List Int} {f k : Int} (hk : 0 ≤ k) (hn : numE zs f k = 0) : enV zs f k = 64 * f + 4 * k := by unfold enV; rw [if_pos hn, spot_of hk hn]

set_option maxHeartbeats 1600000 in
theorem eput_any (v : Value) (zs : List Int) (f p x y : Int) (w : World) (h : IsBytes w v zs) :
    Calls Try.prog 12 #[v, .int .i64 f, .int .i64 p, .agg #[.int .i64 x, .int .i64 y]] w fun e w' => ∃ v', e = .returned (.tuple #[v', .int .i64 (ptE zs f p x y)]) ∧ IsBytes w' v' (ptL zs f p x y) ∧ Below w.heap.size w w' := by
  have Hleaf : Hid (∀ w1, IsBytes w1 v zs → Calls Try.prog 8 #[v, .int .i64 f, .int .i64 p] w1 fun e w' => e = .returned (.tuple #[.int .i64 (lfN zs f p), .int .i64 (lfE zs f p)]) ∧ Below w1.heap.size w1 w') := fun w1 h1 => eleaf_any v zs f p w1 h1
  by_cases h0 : lfE zs f p = 0
  · have hp := lfE_page h0
    have hm : p.tmod 8 = p % 8 := Int.tmod_eq_emod_of_nonneg hp.1
    have hq : 0 ≤ p % 8 ∧ p % 8 < 8 := by omega
    have e1 : ptE zs f p x y = wrE zs (lfN zs f p) (p % 8) x y := by unfold ptE; rw [if_pos h0]
    have e2 : ptL zs f p x y = wrL zs (lfN zs f p) (p % 8) x y := by unfold ptL; rw [if_pos h0]
    have Hpk : Hid (∀ w1, Calls Try.prog 22 #[.agg #[.int .i64 x, .int .i64 y]] w1 fun e w' => e = .returned (.tuple #[.int .i64 (pkV x y), .int .i64 (pkE x y)]) ∧ Below w1.heap.size w1 w') := fun w1 => dpack_any x y w1
    rw [h0] at Hleaf
    rw [e1, e2]
    clear e1 e2 h0
    generalize lfN zs f p = L at *
    by_cases hpk : pkE x y = 0
    · have e1 : wrE zs L (p % 8) x y = numE zs L (p % 8) := by unfold wrE; rw [if_pos hpk]
      have e2 : wrL zs L (p % 8) x y = putV zs (enV zs L (p % 8)) 4 (pkV x y) := by
        rw [en_put hq.1, pkV_ok (pkE_iff.1 hpk)]
        unfold wrL; rw [e1]
      have Hnum : Hid (∀ w1, IsBytes w1 v zs → Calls Try.prog 18 #[v, .int .i64 L, .int .i64 (p % 8)] w1 fun e w' => e = .returned (.int .i64 (enV zs L (p % 8))) ∧ w1 = w') := fun w1 h1 => enumber_any v zs L (p % 8) w1 h1 hq.1 hq.2
      have hge : -1 ≤ enV zs L (p % 8) := en_ge hq.1
      have Hput : Hid (∀ w1, IsBytes w1 v zs → Calls Try.prog 23 #[v, .int .i64 (enV zs L (p % 8)), .int .i64 4, .int .i64 (pkV x y)] w1 fun e w' => ∃ v', e = .returned (.tuple #[v', .int .i64 (wrE zs L (p % 8) x y)]) ∧ IsBytes w' v' (wrL zs L (p % 8) x y) ∧ Below w1.heap.size w1 w') := by
        intro w1 h1
        rw [e2, e1, ← en_err]
        exact aput_any v zs _ 4 _ w1 h1
      rw [hpk] at Hpk
      clear e1 e2 hpk
      generalize wrE zs L (p % 8) x y = E at *
      generalize wrL zs L (p % 8) x y = R at *
      generalize enV zs L (p % 8) = S at *
      generalize pkV x y = X at *
      generalize p % 8 = q at *
      go_enter Try.func12, Try.ntmps12
      go_wp2_with fail
      refine (Hleaf.out _ (h.below ((Below.refl _ _).alloc (Nat.le_refl _) _))).mono ?_
      rintro e w1 ⟨rfl, hb1⟩
      have ho := own_one (xs := [_, _]) hb1
      have hbw : Below w.heap.size w w1 := ((Below.refl _ _).alloc (Nat.le_refl _) _).trans (hb1.mono (by simp))
      clear hb1 Hleaf
      obtain ⟨⟨c0, c1⟩, f0, f1⟩ := ho.pair
      have hlt := ho.lt
      clear ho
      go_wp2_with fail
      refine (Hpk.out _).mono ?_
      rintro e w2 ⟨rfl, hb2⟩
      have hbw2 := hbw.trans (hb2.mono hbw.size)
      have h2 := h.below hbw2
      clear c0 c1 f0 f1 hlt hb2 hbw Hpk
      go_wp2_with fail
      refine (Hnum.out _ h2).mono ?_
      rintro e w' ⟨rfl, rfl⟩
      go_wp2_with fail
      refine (Hput.out _ h2).mono ?_
      rintro e w3 ⟨v', rfl, hi3, hb3⟩
      clear Hnum Hput
      go_wp2
      go_ret2
      exact ⟨_, rfl, hi3, hbw2.trans (hb3.mono hbw2.size)⟩
    · have e1 : wrE zs L (p % 8) x y = pkE x y := by unfold wrE; rw [if_neg hpk]
      have e2 : wrL zs L (p % 8) x y = [] := by unfold wrL; rw [e1, if_neg hpk]
      rw [e1, e2]
      have hpk' : (pkE x y != 0) = true := by rw [bne_iff_ne]; exact hpk
      clear e1 e2 hpk
      generalize pkE x y = E at *
      generalize pkV x y = X at *
      generalize p % 8 = q at *
      go_enter Try.func12, Try.ntmps12
      go_wp2_with fail
      refine (Hleaf.out _ (h.below ((Below.refl _ _).alloc (Nat.le_refl _) _))).mono ?_
      rintro e w1 ⟨rfl, hb1⟩
      have ho := own_one (xs := [_, _]) hb1
      have hbw : Below w.heap.size w w1 := ((Below.refl _ _).alloc (Nat.le_refl _) _).trans (hb1.mono (by simp))
      clear hb1 Hleaf
      obtain ⟨⟨c0, c1⟩, f0, f1⟩ := ho.pair
      have hlt := ho.lt
      clear ho
      go_wp2_with fail
      refine (Hpk.out _).mono ?_
      rintro e w2 ⟨rfl, hb2⟩
      have hbw2 := hbw.trans (hb2.mono hbw.size)
      clear c0 c1 f0 f1 hlt hb2 hbw Hpk
      go_wp2
      go_ret2
      exact ⟨_, rfl, isBytes_nil _, hbw2⟩
  · have e1 : ptE zs f p x y = lfE zs f p := by unfold ptE; rw [if_neg h0]
    have e2 : ptL zs f p x y = [] := by unfold ptL; rw [if_neg h0]
    rw [e1, e2]
    have h0' : (lfE zs f p != 0) = true := by rw [bne_iff_ne]; exact h0
    clear e1 e2 h0
    generalize lfN zs f p = L at *
    generalize lfE zs f p = E at *
    go_enter Try.func12, Try.ntmps12
    go_wp2_with fail
    refine (Hleaf.out _ (h.below ((Below.refl _ _).alloc (Nat.le_refl _) _))).mono ?_
    rintro e w1 ⟨rfl, hb1⟩
    have hbw : Below w.heap.size w w1 := ((Below.refl _ _).alloc (Nat.le_refl _) _).trans (hb1.mono (by simp))
    clear hb1 Hleaf
    go_wp2
    go_ret2
    exact ⟨_, rfl, isBytes_nil _, hbw⟩

/-- What ELink makes 0: the whole frame, or nothing. -/
def elM (zs : List Int) (l : Int) : Nat := if 64 * l.toNat + 64 ≤ zs.length then 64 else 0
def elL (zs : List Int) (f p l : Int) : List Int := if lkE zs f p l = 0 then zeroK (putK zs (64 * f + 4 * (p / 8)).toNat (256 * l + 1) 4) (64 * l.toNat) (elM zs l) else []

theorem zeroK_step {zs : List Int} {o k : Nat} (h : o + 4 * (k + 1) ≤ zs.length) : putK (zeroK zs o (4 * k)) (o + 4 * k) 0 4 = zeroK zs o (4 * (k + 1)) := by
  have hl : (zeroK zs o (4 * k)).length = zs.length := length_zeroK (by omega)
  refine ext_getD _ _ (by rw [length_putK, hl, length_zeroK (by omega)]) fun i => ?_
  rw [putK_getD, hl, zeroK_getD (by omega), zeroK_getD (by omega)]
  by_cases h1 : o + 4 * k ≤ i ∧ i < o + 4 * k + 4 ∧ i < zs.length
  · rw [if_pos h1, if_pos (by omega)]; simp [byteK]
  · rw [if_neg h1]
    by_cases h2 : o ≤ i ∧ i < o + 4 * k
    · rw [if_pos h2, if_pos (by omega)]
    · rw [if_neg h2, if_neg (by omega)]

theorem lkE_no {zs : List Int} {f p l : Int} (h1 : l ≠ f) (h : ¬ (0 ≤ p ∧ p < 64 ∧ numE zs f (p / 8) = 0 ∧ numE zs l 7 = 0)) : lkE zs f p l = 2 := by
  unfold lkE
  rw [if_neg h1]
  by_cases hc : 0 ≤ p ∧ p < 64 ∧ 0 ≤ l ∧ l < 64 ∧ 64 * l + 32 ≤ zs.length
  · rw [if_pos hc]
    rcases numE_cases zs f (p / 8) with hn | hn
    · exact absurd ⟨hc.1, hc.2.1, hn, (numE_iff (by omega)).2 ⟨hc.2.2.1, hc.2.2.2.1, by omega⟩⟩ h
    · exact hn
  · rw [if_neg hc]

set_option maxHeartbeats 1600000 in
theorem elink_no (v : Value) (zs : List Int) (f p l : Int) (w : World) (h : IsBytes w v zs) (he : lkE zs f p l ≠ 0) :
    Calls Try.prog 14 #[v, .int .i64 f, .int .i64 p, .int .i64 l] w fun e w' => e = .returned (.tuple #[.slice none 0 0, .int .i64 (lkE zs f p l)]) ∧ Below w.heap.size w w' := by
  by_cases h1 : l = f
  · have e1 : lkE zs f p l = 7 := by unfold lkE; rw [if_pos h1]
    rw [e1]
    subst h1
    clear he e1
    go_enter Try.func14, Try.ntmps14
    go_wp2
    go_ret2
    exact ⟨rfl, Below.refl _ _⟩
  · have hne : (f == l) = false := by rw [beq_eq_false_iff_ne]; exact Ne.symm h1
    have hno : ¬ (0 ≤ p ∧ p < 64 ∧ numE zs f (p / 8) = 0 ∧ numE zs l 7 = 0) := by
      rintro ⟨a, b, c, d⟩
      refine he ?_
      have := (numE_iff (by omega)).1 d
      unfold lkE
      rw [if_neg h1, if_pos (by omega), c]
    rw [lkE_no h1 hno]
    by_cases hp : 0 ≤ p ∧ p < 64
    · obtain ⟨hp0, hp1⟩ := hp
      have hq : p.tdiv 8 = p / 8 := Int.tdiv_eq_ediv_of_nonneg hp0
      have hq0 : 0 ≤ p / 8 ∧ p / 8 < 8 := by omega
      have Hnum : Hid (∀ w1, IsBytes w1 v zs → Calls Try.prog 18 #[v, .int .i64 f, .int .i64 (p / 8)] w1 fun e w' => e = .returned (.int .i64 (enV zs f (p / 8))) ∧ w1 = w') := fun w1 h1 => enumber_any v zs f (p / 8) w1 h1 hq0.1 hq0.2
      have Hnum7 : Hid (∀ w1, IsBytes w1 v zs → Calls Try.prog 18 #[v, .int .i64 l, .int .i64 7] w1 fun e w' => e = .returned (.int .i64 (enV zs l 7)) ∧ w1 = w') := fun w1 h1 => enumber_any v zs l 7 w1 h1 (by omega) (by omega)
      by_cases hn : numE zs f (p / 8) = 0
      · have hn7 : enV zs l 7 = -1 := en_no (fun h7 => hno ⟨hp0, hp1, hn, h7⟩)
        have hnn : 0 ≤ enV zs f (p / 8) := by
          rw [en_ok hq0.1 hn]
          have := (numE_iff hq0.1).1 hn
          omega
        rw [hn7] at Hnum7
        clear hno hn he h1 hn7
        generalize enV zs f (p / 8) = S at *
        generalize p / 8 = q at *
        go_enter Try.func14, Try.ntmps14
        go_wp2_with fail
        refine (Hnum.out _ h).mono ?_
        rintro e w' ⟨rfl, rfl⟩
        go_wp2_with fail
        refine (Hnum7.out _ h).mono ?_
        rintro e w' ⟨rfl, rfl⟩
        go_wp2
        go_ret2
        exact ⟨rfl, Below.refl _ _⟩
      · have hn1 : enV zs f (p / 8) = -1 := en_no hn
        rw [hn1] at Hnum
        clear hno hn he h1 hn1 Hnum7
        generalize p / 8 = q at *
        go_enter Try.func14, Try.ntmps14
        go_wp2_with fail
        refine (Hnum.out _ h).mono ?_
        rintro e w' ⟨rfl, rfl⟩
        go_wp2
        go_ret2
        exact ⟨rfl, Below.refl _ _⟩
    · have hp' : p < 0 ∨ (0 ≤ p ∧ 63 < p) := by omega
      clear hp hno he h1
      rcases hp' with hp | ⟨hp0, hp⟩
      all_goals
        go_enter Try.func14, Try.ntmps14
        go_wp2
        go_ret2
        exact ⟨rfl, Below.refl _ _⟩

set_option maxHeartbeats 1600000 in
theorem elink_ok (v : Value) (zs : List Int) (f p : Int) (L : Nat) (w : World) (h : IsBytes w v zs) (he : lkE zs f p L = 0) :
    Calls Try.prog 14 #[v, .int .i64 f, .int .i64 p, .int .i64 L] w fun e w' => ∃ v', e = .returned (.tuple #[v', .int .i64 0]) ∧ IsBytes w' v' (elL zs f p L) ∧ Below w.heap.size w w' := by
  obtain ⟨h1, h2, h3, h4, h5, h6, h7⟩ := lk_ok he
  have hq : p.tdiv 8 = p / 8 := Int.tdiv_eq_ediv_of_nonneg h2
  have hq0 : 0 ≤ p / 8 ∧ p / 8 < 8 := by omega
  have hne : (f == (L : Int)) = false := by rw [beq_eq_false_iff_ne]; exact Ne.symm h1
  have h77 : numE zs L 7 = 0 := (numE_iff (by omega)).2 (by omega)
  have Hnum : Hid (∀ w1, IsBytes w1 v zs → Calls Try.prog 18 #[v, .int .i64 f, .int .i64 (p / 8)] w1 fun e w' => e = .returned (.int .i64 (enV zs f (p / 8))) ∧ w1 = w') := fun w1 h1 => enumber_any v zs f (p / 8) w1 h1 hq0.1 hq0.2
  have Hnum7 : Hid (∀ w1, IsBytes w1 v zs → Calls Try.prog 18 #[v, .int .i64 L, .int .i64 7] w1 fun e w' => e = .returned (.int .i64 (enV zs L 7)) ∧ w1 = w') := fun w1 h1 => enumber_any v zs L 7 w1 h1 (by omega) (by omega)
  have hnn : 0 ≤ enV zs f (p / 8) := by
    rw [en_ok hq0.1 h7]
    have := (numE_iff hq0.1).1 h7
    omega
  have hn7 : 0 ≤ enV zs L 7 := by rw [en_ok (by omega) h77]; omega
  have Hput : Hid (∀ w1, IsBytes w1 v zs → Calls Try.prog 23 #[v, .int .i64 (enV zs f (p / 8)), .int .i64 4, .int .i64 (256 * (L : Int) + 1)] w1 fun e w' => ∃ v', e = .returned (.tuple #[v', .int .i64 0]) ∧ IsBytes w' v' (putK zs (64 * f + 4 * (p / 8)).toNat (256 * L + 1) 4) ∧ Below w1.heap.size w1 w') := by
    intro w1 hi
    have := aput_any v zs (enV zs f (p / 8)) 4 (256 * (L : Int) + 1) w1 hi
    rw [en_err, h7, en_put hq0.1, if_pos h7] at this
    exact this
  have Hel : Hid (elL zs f p L = zeroK (putK zs (64 * f + 4 * (p / 8)).toNat (256 * L + 1) 4) (64 * L) (if 64 * L + 64 ≤ zs.length then 64 else 0)) := by
    show _ = _
    unfold elL elM; rw [if_pos he]; rfl
  have Hlp : Hid ((putK zs (64 * f + 4 * (p / 8)).toNat (256 * L + 1) 4).length = zs.length) := length_putK _ _ _ _
  generalize putK zs (64 * f + 4 * (p / 8)).toNat (256 * L + 1) 4 = R at *
  generalize enV zs f (p / 8) = S at *
  generalize enV zs L 7 = S7 at *
  generalize p / 8 = q at *
  have hL : L < 64 := by omega
  have hp63 : p ≤ 63 := by omega
  have d1 : decide (p < 0) = false := by simp; omega
  have d2 : decide (63 < p) = false := by simp; omega
  have d3 : decide (S < 0) = false := by simp; omega
  have d4 : decide (S7 < 0) = false := by simp; omega
  clear he h77 h7 h6 h5 h4 h1
  obtain ⟨a, cap, rfl, hlen⟩ := h.form
  go_enter Try.func14, Try.ntmps14
  go_wp2_with fail
  refine (Hnum.out _ h).mono ?_
  rintro e w' ⟨rfl, rfl⟩
  go_wp2_with fail
  refine (Hnum7.out _ h).mono ?_
  rintro e w' ⟨rfl, rfl⟩
  go_wp2_with fail
  refine (Hnum.out _ h).mono ?_
  rintro e w' ⟨rfl, rfl⟩
  go_wp2_with fail
  refine (Hput.out _ h).mono ?_
  rintro e w1 ⟨v1, rfl, hi1, hb1⟩
  clear Hnum Hnum7 Hput
  by_cases hwh : 64 * L + 64 ≤ zs.length
  · have hwi : 64 * (L : Int) + 64 ≤ (zs.length : Int) := by omega
    have d5 : decide (64 * (L : Int) + 64 ≤ (zs.length : Int)) = true := by simpa using hwi
    have HR := Hel.out
    rw [if_pos hwh] at HR
    have HE : Hid (elL zs f p L = zeroK R (64 * L) 64) := HR
    clear HR Hel
    go_wp2
    go_loopw [10, 55] (fun vo i wr => ∃ k : Nat, k ≤ 16 ∧ i = .int .i64 k ∧ IsBytes wr vo (zeroK R (64 * L) (4 * k)) ∧ Below w.heap.size w wr) (fun _ i _ => 16 - (intOf i).toNat)
    case atStart => exact ⟨0, by omega, rfl, by rw [Nat.mul_zero, zeroK_nil]; exact hi1, hb1⟩
    case round =>
      obtain ⟨k, hk, rfl, hik, hbk⟩ := hrel
      by_cases hlt : k < 16
      · have hroom : 64 * L + 4 * (k + 1) ≤ R.length := by rw [Hlp.out]; omega
        have HP : Hid (∀ vo, IsBytes wr vo (zeroK R (64 * L) (4 * k)) → Calls Try.prog 23 #[vo, .int .i64 (64 * (L : Int) + 4 * (k : Int)), .int .i64 4, .int .i64 0] wr fun e w' => ∃ v', e = .returned (.tuple #[v', .int .i64 0]) ∧ IsBytes w' v' (zeroK R (64 * L) (4 * (k + 1))) ∧ Below wr.heap.size wr w') := by
          intro vo hvo
          have hl : (zeroK R (64 * L) (4 * k)).length = R.length := length_zeroK (by omega)
          have hb : hasB (zeroK R (64 * L) (4 * k)).length (64 * (L : Int) + 4 * (k : Int)) 4 = true := hasB_iff.2 (by rw [hl]; omega)
          have := aput_any vo _ (64 * (L : Int) + 4 * (k : Int)) 4 0 wr hvo
          have e1 : errV (zeroK R (64 * L) (4 * k)) (64 * (L : Int) + 4 * (k : Int)) 4 = 0 := by unfold errV; rw [if_pos hb]
          have e2 : putV (zeroK R (64 * L) (4 * k)) (64 * (L : Int) + 4 * (k : Int)) 4 0 = zeroK R (64 * L) (4 * (k + 1)) := by
            unfold putV; rw [if_pos hb, ← zeroK_step hroom]
            congr 1
          rw [e1, e2] at this
          exact this
        clear hroom
        go_wp2_with fail
        refine (HP.out _ hik).mono ?_
        rintro e w2 ⟨v2, rfl, hi2, hb2⟩
        go_wp2
        go_roundw
        case rel => exact ⟨k + 1, by omega, by go_num, hi2, hbk.trans (hb2.mono hbk.size)⟩
        case measure => simp [intOf]; omega
      · obtain rfl : k = 16 := by omega
        go_wp2
        go_ret2
        exact ⟨_, rfl, by rw [HE.out]; exact hik, hbk⟩
  · have HR := Hel.out
    rw [if_neg hwh, zeroK_nil] at HR
    have HE : Hid (elL zs f p L = R) := HR
    clear HR Hel
    go_wp2
    go_ret2
    exact ⟨_, rfl, by rw [HE.out]; exact hi1, hb1⟩

theorem elink_any (v : Value) (zs : List Int) (f p l : Int) (w : World) (h : IsBytes w v zs) :
    Calls Try.prog 14 #[v, .int .i64 f, .int .i64 p, .int .i64 l] w fun e w' => ∃ v', e = .returned (.tuple #[v', .int .i64 (lkE zs f p l)]) ∧ IsBytes w' v' (elL zs f p l) ∧ Below w.heap.size w w' := by
  by_cases he : lkE zs f p l = 0
  · have hok := lk_ok he
    obtain ⟨L, rfl⟩ := Int.eq_ofNat_of_zero_le hok.2.2.2.1
    rw [he]
    exact elink_ok v zs f p L w h he
  · refine (elink_no v zs f p l w h he).mono ?_
    rintro e w' ⟨rfl, hb⟩
    have hl : elL zs f p l = [] := by unfold elL; rw [if_neg he]
    rw [hl]
    exact ⟨_, rfl, isBytes_nil _, hb⟩

end Go.Proofs.Ytgdmkmhpdijokac
