/- The contracts of pool.New, pool.Right, pool.wrong and pool.copied: what each call returns, and that nothing that was there is written. -/
import Derived.Test.YticmloddkngfnahPool1
namespace Go.Proofs.Yticmloddkngfnah
open Go.RowKit
set_option linter.unusedSimpArgs false
set_option linter.unusedVariables false

theorem index_nums (X : Array Value) (p : Nat) (v : Value) (hp : p < 64) (hx : X[p]? = some v) (w : World) : (Instr.index 23 (.agg X) (.int .i64 (p : Int))).run Try.prog w = .ok v w := by
  have a3 := Try.isAgg3
  have z3 := Try.sizeOf3
  have hp' : (0 : Int) ≤ (p : Int) ∧ (p : Int) < 64 := ⟨by omega, by omega⟩
  simp [Instr.index, run_underlying Try.underlying23, asIntOf, hp', z3, a3, part, hx, go_sem]
  omega

theorem IsBlocks.form {w : World} {v : Value} {l : List (Int × Int)} (h : IsBlocks w v l) : ∃ a n c, v = .slice a n c := by
  obtain ⟨a, cap, rfl, -⟩ := h
  exact ⟨_, _, _, rfl⟩

theorem IsBlocks.len {w : World} {v : Value} {l : List (Int × Int)} (h : IsBlocks w v l) : l.length ≤ 8796093021952 := by
  obtain ⟨a, cap, -, -, hl, -⟩ := h
  exact hl

set_option maxRecDepth 100000 in
set_option maxHeartbeats 1600000 in
theorem right13_any (v : Value) (l : List (Int × Int)) (R : Nat → Int) (w : World) (h : IsBlocks w v l) :
    Calls Try.prog 14 #[.agg (poolC v R).toArray] w fun e w' => e = .returned (.bool (poolB l R)) ∧ Below w.heap.size w w' := by
  have HI : Hid (∀ w1, Below w.heap.size w w1 → IsBlocks w1 v l) := fun w1 hb => h.below hb
  have hbA : Below w.heap.size w (w.alloc (.cells (poolC v R).toArray 25)) := (Below.refl _ _).alloc (Nat.le_refl _) _
  have hro : OwnRow (w.alloc (.cells (poolC v R).toArray 25)) w.heap.size 25 (poolC v R) := heap_alloc_new w _
  obtain ⟨va, vn, vc, rfl⟩ := h.form
  have hc0 : (w.alloc (.cells (poolC (.slice va vn vc) R).toArray 25)).cell? ⟨w.heap.size, 0, none⟩ = some (.slice va vn vc) := by rw [hro.cell]; rfl
  obtain ⟨X, hX⟩ : ∃ X, Hid (X = (poolC (.slice va vn vc) R).toArray) := ⟨_, rfl⟩
  rw [← hX.out] at hbA hro hc0 ⊢
  obtain ⟨w0, hw0⟩ : ∃ w0, w0 = w.alloc (.cells X 25) := ⟨_, rfl⟩
  cases hr : rightB l with
  | false =>
    have HR : Hid (rightB l = false) := hr
    have hpf : poolB l R = false := by unfold poolB; rw [hr]; rfl
    rw [hpf]
    clear hpf hr
    go_enter Try.func14, Try.ntmps14
    go_wp2_with fail
    rw [← hw0] at hro hbA ⊢
    clear hw0 hc0
    refine (right_is _ l _ (HI.out _ hbA) HR.out).mono ?_
    rintro e w1 ⟨rfl, hb1⟩
    go_wp2
    go_ret
    exact ⟨rfl, hbA.trans (hb1.mono hbA.size)⟩
  | true =>
    have HR : Hid (rightB l = true) := hr
    have HG : Hid (Good l) := good_of_right hr
    clear hr
    go_enter Try.func14, Try.ntmps14
    go_wp2_with fail
    rw [← hw0] at hro hbA ⊢
    clear hw0 hc0
    have hlt0 := hro.lt
    refine (right_is _ l _ (HI.out _ hbA) HR.out).mono ?_
    rintro e w1 ⟨rfl, hb1⟩
    have hro1 := hro.below hb1 hlt0
    have hbb1 := hbA.trans (hb1.mono hbA.size)
    have hc1 : w1.cell? ⟨w.heap.size, 0, none⟩ = some (.slice va vn vc) := by rw [hro1.cell]; rfl
    clear hro hbA
    go_wp2_with fail
    refine (spread_any _ l _ (HI.out _ hbb1) HG.out).mono ?_
    rintro e w2 ⟨B, rfl, hB, hb2⟩
    have hro2 := hro1.below hb2 hro1.lt
    have hbb2 := hbb1.trans (hb2.mono hbb1.size)
    clear hro1 hbb1 hc1 hb1 hb2 hlt0
    obtain ⟨Y, hY⟩ : ∃ Y, Hid (Y = (bitsL B).toArray) := ⟨_, rfl⟩
    have HY : Hid (Y.size = 64 ∧ Y.all (·.oneCell') = true) := ⟨by rw [hY.out]; simp [bitsL_len], by rw [hY.out]; exact bitsL_one B⟩
    have HSZ : Hid ((Try.prog.info? 51).map (·.size) = some Y.size) := by show _ = _; rw [info_bits, HY.out.1]
    obtain ⟨L, hL⟩ : ∃ L, Hid (L = numsL R) := ⟨_, rfl⟩
    have HLG : Hid (∀ i, i < 64 → L.toArray[i]? = some (.int .i64 (R i))) := fun i hi => by rw [hL.out]; simpa using numsL_get R i hi
    have HSN : Hid ((Try.prog.info? 23).map (·.size) = some L.length) := by show _ = _; rw [info_nums, hL.out, numsL_len]
    have hb3 : Below w2.heap.size w2 (w2.alloc (.cells Y 51)) := (Below.refl _ _).alloc (Nat.le_refl _) _
    have hro3 := hro2.below hb3 hro2.lt
    have HRG : Hid ((w2.alloc (.cells Y 51)).rangeAt w.heap.size 1 L) := by rw [hL.out]; exact hro3.nums
    have HRB : Hid (OwnRow (w2.alloc (.cells Y 51)) w2.heap.size 51 (bitsL B)) := by rw [hY.out]; exact heap_alloc_new w2 _
    have HBB : Hid (Below w.heap.size w (w2.alloc (.cells Y 51))) := hbb2.trans (hb3.mono hbb2.size)
    rw [← hY.out]
    clear hro2 hbb2 hb3 hro3 hY hL
    go_wp2_with (first
      | (refine wpList_store_row rfl 51 (.tmp 3) _ rfl w2.heap.size Y rfl rfl 51 _ (heap_alloc_new w2 _) HSZ.out (by rw [HY.out.1]; rfl) HY.out.2 ?_; rw [World.setRow_alloc_new])
      | (refine wpList_load_mid rfl 23 (.tmp 13) rfl w.heap.size 1 rfl L _ HRG.out Try.underlying23 rfl HSN.out ?_))
    go_loopw [15] (fun i wr => ∃ k : Nat, k ≤ 64 ∧ i = .int .i64 k ∧ Hid (∀ i, i < k → fitB l R i = true) ∧ Hid (OwnRow wr w2.heap.size 51 (bitsL B)) ∧ Below w.heap.size w wr) (fun i _ => 64 - (intOf i).toNat)
    case atStart => exact ⟨0, Nat.zero_le _, rfl, (fun i hi => by omega), HRB.out, HBB.out⟩
    case round =>
      obtain ⟨k, hk, rfl, hfit, hrow, hbel⟩ := hrel
      by_cases hlt : k < 64
      · have hidx := index_nums L.toArray k _ hlt (HLG.out k hlt)
        have e0 : wr.cell? ⟨w2.heap.size, k, none⟩ = some (.bool (covB l k)) := by rw [hrow.out.cell, bitsL_get _ _ hlt, hB k hlt]
        have HF : Hid (fitB l R k = (decide (0 ≤ R k) && (covB l k == decide (R k = 0)))) := rfl
        have HN : Hid (fitB l R k = false → poolB l R = false) := fun hf => poolB_no hlt hf
        have HY' : Hid (fitB l R k = true → ∀ i, i < k + 1 → fitB l R i = true) := fun hf i hi => by
          by_cases he : i = k
          · rw [he]; exact hf
          · exact hfit.out i (by omega)
        generalize covB l k = c at *
        generalize R k = r at *
        generalize fitB l R k = f at *
        clear hfit
        by_cases h1 : r < 0
        · have HP : Hid (poolB l R = false) := HN.out (by rw [HF.out]; simp; omega)
          clear HF HN HY'
          go_wp2
          go_ret
          exact ⟨ret_bool HP.out.symm, hbel⟩
        · by_cases h2 : r = 0
          · subst h2
            cases c with
            | true =>
              have HT : Hid _ := HY'.out (by rw [HF.out]; rfl)
              clear HF HN HY'
              go_wp2
              exact ⟨⟨k + 1, by omega, by go_num, HT.out, hrow, hbel⟩, by simp [intOf]; omega⟩
            | false =>
              have HP : Hid (poolB l R = false) := HN.out (by rw [HF.out]; rfl)
              clear HF HN HY'
              go_wp2
              go_ret
              exact ⟨ret_bool HP.out.symm, hbel⟩
          · have hd : (r == 0) = false := by simpa using h2
            have hd1 : decide (r < 0) = false := by simp; omega
            cases c with
            | true =>
              have HP : Hid (poolB l R = false) := HN.out (by rw [HF.out]; simp [h2])
              clear HF HN HY'
              go_wp2
              go_ret
              exact ⟨ret_bool HP.out.symm, hbel⟩
            | false =>
              have HT : Hid _ := HY'.out (by rw [HF.out]; simp [h2]; omega)
              clear HF HN HY'
              go_wp2
              exact ⟨⟨k + 1, by omega, by go_num, HT.out, hrow, hbel⟩, by simp [intOf]; omega⟩
      · obtain rfl : k = 64 := by omega
        have HP : Hid (poolB l R = true) := poolB_yes HR.out hfit.out
        go_wp2
        go_ret
        exact ⟨ret_bool HP.out.symm, hbel⟩

end Go.Proofs.Yticmloddkngfnah
