/- The contract of pool.Share: what each call returns, and that nothing that was there is written. -/
import Derived.Test.YticmloddkngfnahPool5
namespace Go.Proofs.Yticmloddkngfnah
open Go.RowKit
set_option linter.unusedSimpArgs false
set_option linter.unusedVariables false

theorem psE_bad {l : List (Int × Int)} {R : Nat → Int} {n : Int} (h : psE l R n ≠ 0) : psL l R n = [] ∧ psR l R n = fun _ => 0 := ⟨by simp [psL, h], by simp [psR, h]⟩

set_option maxRecDepth 100000 in
set_option maxHeartbeats 3200000 in
theorem share13_any (v : Value) (l : List (Int × Int)) (R : Nat → Int) (n : Int) (w : World) (h : IsBlocks w v l) :
    Calls Try.prog 8 #[.agg (poolC v R).toArray, .int .i64 n] w fun e w' => ∃ v', e = .returned (.tuple #[.agg (poolC v' (psR l R n)).toArray, .int .i64 (psE l R n)]) ∧ OwnB w.heap.size w' v' (psL l R n) ∧ Below w.heap.size w w' := by
  have HI : Hid (∀ w1, Below w.heap.size w w1 → IsBlocks w1 v l) := fun w1 hb => h.below hb
  obtain ⟨hr1, hr2, hbA, hsz⟩ := pool_two w (poolC v R) 25
  obtain ⟨va, vn, vc, rfl⟩ := h.form
  have HNW : Hid (((w.alloc (.cells (poolC (.slice va vn vc) R).toArray 25)).alloc (.cells zCells 25)).heap[w.heap.size]? = some (.cells (poolC (.slice va vn vc) R).toArray 25 (0, 0))) := hr1
  have HR : Hid (∀ w1, Below w.heap.size w w1 → Calls Try.prog 19 #[.agg (poolC (.slice va vn vc) R).toArray, .int .i64 n] w1 fun e w' => e = .returned (.int .i64 (pwE l R n)) ∧ Below w1.heap.size w1 w') := fun w1 hb => wrong13_any _ l R n w1 (h.below hb)
  have HX : Hid _ := pool_facts (v := .slice va vn vc) rfl R
  obtain ⟨X, hX⟩ : ∃ X, Hid (X = (poolC (.slice va vn vc) R).toArray) := ⟨_, rfl⟩
  rw [← hX.out] at hr1 hr2 hbA hsz HX HNW HR ⊢
  clear h hX
  obtain ⟨w0, hw0⟩ : ∃ w0, w0 = (w.alloc (.cells X 25)).alloc (.cells zCells 25) := ⟨_, rfl⟩
  have HZF : Hid _ := zero_facts
  have HZ : Hid (zeroC.toArray.size = 65) := rfl
  by_cases hE : pwE l R n = 0
  · obtain ⟨hp, n0, n6, -⟩ := pwE_zero.1 hE
    have hpos := pwE_pos hE
    obtain ⟨m, rfl⟩ : ∃ m : Nat, n = m := ⟨n.toNat, by omega⟩
    have hm : m < 64 := by omega
    rw [Int.toNat_natCast] at hpos
    rw [hE] at HR
    clear hp n0 n6
    by_cases h4 : 4 ≤ R m
    · have h1 : psE l R m = 4 := by unfold psE; rw [if_pos hE, Int.toNat_natCast, if_pos h4]
      obtain ⟨h2, h3⟩ := psE_bad (l := l) (R := R) (n := m) (by rw [h1]; decide)
      rw [h1, h2, h3]
      have HCX : Hid (∀ w1, OwnRow w1 w.heap.size 25 (poolC (.slice va vn vc) R) → w1.cell? ⟨w.heap.size, 1 + m, none⟩ = some (.int .i64 (R m))) := fun w1 h => h.refs m hm
      clear h1 h2 h3 hE
      have hzv := zero_value
      have hzs := zero_size
      have hzn := zero_ne
      go_enter Try.func8, Try.ntmps8
      go_wp2_with (refine wpList_load_row rfl 25 (.tmp 2) rfl w.heap.size rfl 25 X (0, 0) _ HNW.out Try.underlying25 rfl HX.out.1 ?_)
      clear HNW
      rw [← hw0] at hr1 hr2 hbA hsz ⊢
      clear hw0
      refine (HR.out _ hbA).mono ?_
      rintro e w1 ⟨rfl, hb1⟩
      have hcx := HCX.out _ (hr1.below hb1 hr1.lt)
      obtain ⟨n1, n2, n3⟩ := pool_nil (hbA.trans (hb1.mono hbA.size)) (hr2.below hb1 hr2.lt)
      have HN : Hid (_ ∧ _ ∧ _) := ⟨n1, n2, n3⟩
      clear n1 n2 n3 hr1 hr2 hbA hsz hb1
      generalize R m = r at *
      go_wp2_with (refine wpList_store_row rfl 25 (.tmp 4) _ rfl (w.heap.size + 1) zCells rfl rfl 25 _ HN.out.1 HZF.out.1 (by rw [HZF.out.2.1]; exact HZ.out) HZF.out.2.2 ?_)
      exact bodyPost_ret (v := .tuple #[.agg zCells, .int .i64 4]) (results_row_tmp Try.results8 _ _ (w.heap.size + 1) 25 zCells _ _ rfl rfl HN.out.2.1 Try.underlying25 rfl HZF.out.1) rfl ⟨_, by rw [zero_cells], ownB_nil _ _, HN.out.2.2⟩
    · have h1 : psE l R m = 0 := by unfold psE; rw [if_pos hE, Int.toNat_natCast, if_neg h4]
      have h2 : psL l R m = l ∧ psR l R m = updR R m (R m + 1) := ⟨by simp [psL, h1], by simp [psR, h1]⟩
      rw [h1, h2.1, h2.2]
      clear h1 h2 hE
      obtain ⟨r, hrm⟩ : ∃ r, R m = r := ⟨_, rfl⟩
      have HRM : Hid (R m = r) := hrm
      rw [hrm] at hpos h4 ⊢
      clear hrm
      have hzv := zero_value
      have hzs := zero_size
      have hzn := zero_ne
      go_enter Try.func8, Try.ntmps8
      go_wp2_with (refine wpList_load_row rfl 25 (.tmp 2) rfl w.heap.size rfl 25 X (0, 0) _ HNW.out Try.underlying25 rfl HX.out.1 ?_)
      clear HNW
      rw [← hw0] at hr1 hr2 hbA hsz ⊢
      clear hw0
      refine (HR.out _ hbA).mono ?_
      rintro e w1 ⟨rfl, hb1⟩
      have hr11 := hr1.below hb1 hr1.lt
      have hr21 := hr2.below hb1 hr2.lt
      have hbb1 := hbA.trans (hb1.mono hbA.size)
      have hs1 := hb1.size
      have hcx := hr11.refs m hm
      rw [HRM.out] at hcx
      have hfx := hr11.free (1 + m)
      have hrs : OwnRow (w1.setCell ⟨w.heap.size, 1 + m, none⟩ (.int .i64 (r + 1))) w.heap.size 25 (poolC (.slice va vn vc) (updR R m (r + 1))) := by
        have := hr11.set (1 + m) (.int .i64 (r + 1))
        rwa [poolC_set] at this
      have hrs2 := hr21.beside (b := w.heap.size) (i := 1 + m) (by omega) (.int .i64 (r + 1))
      have hbs : Below w.heap.size w (w1.setCell ⟨w.heap.size, 1 + m, none⟩ (.int .i64 (r + 1))) := hbb1.setCell (Nat.le_refl _) _
      obtain ⟨w3, hw3⟩ : ∃ w3, w3 = w1.setCell ⟨w.heap.size, 1 + m, none⟩ (.int .i64 (r + 1)) := ⟨_, rfl⟩
      have hs3 : w3.heap.size = w1.heap.size := by rw [hw3]; simp
      have HF : Hid _ := pool_facts (v := .slice va vn vc) rfl (updR R m (r + 1))
      have HC : Hid (Calls Try.prog 20 #[.agg (poolC (.slice va vn vc) (updR R m (r + 1))).toArray] w3 fun e w' => ∃ v', e = .returned (.agg (poolC v' (updR R m (r + 1))).toArray) ∧ OwnB w3.heap.size w' v' l ∧ Below w3.heap.size w3 w') := copied13_any _ l _ w3 (HI.out _ (by rw [hw3]; exact hbs))
      obtain ⟨Y, hY⟩ : ∃ Y, Hid (Y = (poolC (.slice va vn vc) (updR R m (r + 1))).toArray) := ⟨_, rfl⟩
      have HW : Hid (w3.heap[w.heap.size]? = some (.cells Y 25 (0, 0))) := by rw [hw3, hY.out]; exact hrs
      have HW2 : Hid (OwnRow w3 (w.heap.size + 1) 25 zeroC ∧ Below w.heap.size w w3) := by rw [hw3]; exact ⟨hrs2, hbs⟩
      rw [← hY.out] at HF HC
      clear hrs hrs2 hr11 hr21 hbs hbb1 hr1 hr2 hbA hb1 HR HI hY
      have HW' : Hid ((w1.setCell ⟨w.heap.size, 1 + m, none⟩ (.int .i64 (r + 1))).heap[w.heap.size]? = some (.cells Y 25 (0, 0))) := by rw [hw3] at HW; exact HW
      go_wp2_with (refine wpList_load_row rfl 25 (.tmp 2) rfl w.heap.size rfl 25 Y (0, 0) _ HW'.out Try.underlying25 rfl HF.out.1 ?_)
      rw [← hw3]
      clear hw3 HW' hcx hfx
      refine HC.out.mono ?_
      rintro e w4 ⟨v4, rfl, ho4, hb4⟩
      have hr24 := HW2.out.1.below hb4 HW2.out.1.lt
      have hbb4 := HW2.out.2.trans (hb4.mono HW2.out.2.size)
      obtain ⟨a4, n4, c4, rfl⟩ := ho4.form
      have HG : Hid _ := pool_facts (v := .slice a4 n4 c4) rfl (updR R m (r + 1))
      obtain ⟨V, hV⟩ : ∃ V, Hid (V = (poolC (.slice a4 n4 c4) (updR R m (r + 1))).toArray) := ⟨_, rfl⟩
      rw [← hV.out] at HG ⊢
      have HR4 : Hid (w4.heap[w.heap.size + 1]? = some (.cells zeroC.toArray 25 (0, 0))) := hr24
      have HB : Hid (Below w.heap.size w (w4.setRow (w.heap.size + 1) V) ∧ OwnB w.heap.size (w4.setRow (w.heap.size + 1) V) (.slice a4 n4 c4) l) :=
        ⟨below_setRow hbb4 (by omega) _, ((ho4.mono (show w.heap.size + 2 ≤ w3.heap.size by omega)).kept (fun k hk _ => setRow_other _ _ _ _ (by omega))).mono (by omega)⟩
      clear hr24 hbb4 ho4 hb4
      go_wp2_with (refine wpList_store_row rfl 25 (.tmp 4) _ rfl (w.heap.size + 1) V rfl rfl 25 _ HR4.out HG.out.1 (by rw [HG.out.2.1]; exact HZ.out) HG.out.2.2 ?_)
      exact bodyPost_ret (v := .tuple #[.agg V, .int .i64 0]) (results_row_tmp Try.results8 _ _ (w.heap.size + 1) 25 V _ _ rfl rfl (setRow_heap _ _ _ _ _ _ HR4.out) Try.underlying25 rfl HG.out.1) rfl ⟨_, by rw [hV.out], HB.out.2, HB.out.1⟩
  · have h1 : psE l R n = pwE l R n := by unfold psE; rw [if_neg hE]
    obtain ⟨h2, h3⟩ := psE_bad (l := l) (R := R) (n := n) (by rw [h1]; exact hE)
    rw [h1, h2, h3]
    have hd : (pwE l R n != 0) = true := by simpa using hE
    generalize pwE l R n = E at *
    clear h1 h2 h3 hE
    have hzv := zero_value
    have hzs := zero_size
    have hzn := zero_ne
    go_enter Try.func8, Try.ntmps8
    go_wp2_with (refine wpList_load_row rfl 25 (.tmp 2) rfl w.heap.size rfl 25 X (0, 0) _ HNW.out Try.underlying25 rfl HX.out.1 ?_)
    clear HNW
    rw [← hw0] at hr1 hr2 hbA hsz ⊢
    clear hw0
    refine (HR.out _ hbA).mono ?_
    rintro e w1 ⟨rfl, hb1⟩
    obtain ⟨n1, n2, n3⟩ := pool_nil (hbA.trans (hb1.mono hbA.size)) (hr2.below hb1 hr2.lt)
    have HN : Hid (_ ∧ _ ∧ _) := ⟨n1, n2, n3⟩
    clear n1 n2 n3 hr1 hr2 hbA hsz hb1
    go_wp2_with (refine wpList_store_row rfl 25 (.tmp 4) _ rfl (w.heap.size + 1) zCells rfl rfl 25 _ HN.out.1 HZF.out.1 (by rw [HZF.out.2.1]; exact HZ.out) HZF.out.2.2 ?_)
    exact bodyPost_ret (v := .tuple #[.agg zCells, .int .i64 E]) (results_row_tmp Try.results8 _ _ (w.heap.size + 1) 25 zCells _ _ rfl rfl HN.out.2.1 Try.underlying25 rfl HZF.out.1) rfl ⟨_, by rw [zero_cells], ownB_nil _ _, HN.out.2.2⟩

end Go.Proofs.Yticmloddkngfnah
