/- The contract of pool.Drop: what each call returns, and that nothing that was there is written. -/
import Derived.Test.YticmloddkngfnahPool6
namespace Go.Proofs.Yticmloddkngfnah
open Go.RowKit
set_option linter.unusedSimpArgs false
set_option linter.unusedVariables false

theorem pd_bad {l : List (Int × Int)} {R : Nat → Int} {n : Int} (h : pwE l R n ≠ 0) : pdL l R n = [] ∧ pdR l R n = fun _ => 0 := ⟨by simp [pdL, h], by simp [pdR, h]⟩

set_option maxRecDepth 100000 in
set_option maxHeartbeats 3200000 in
theorem drop13_any (v : Value) (l : List (Int × Int)) (R : Nat → Int) (n : Int) (w : World) (h : IsBlocks w v l) (hR : ∀ i : Nat, i < 64 → R i ≤ 9223372036854775807) :
    Calls Try.prog 10 #[.agg (poolC v R).toArray, .int .i64 n] w fun e w' => ∃ v', e = .returned (.tuple #[.agg (poolC v' (pdR l R n)).toArray, .int .i64 (pwE l R n)]) ∧ OwnB w.heap.size w' v' (pdL l R n) ∧ Below w.heap.size w w' := by
  have HI : Hid (∀ w1, Below w.heap.size w w1 → IsBlocks w1 v l) := fun w1 hb => h.below hb
  obtain ⟨hr1, hr2, hbA, hsz⟩ := pool_two w (poolC v R) 25
  obtain ⟨va, vn, vc, rfl⟩ := h.form
  have HNW : Hid (((w.alloc (.cells (poolC (.slice va vn vc) R).toArray 25)).alloc (.cells zCells 25)).heap[w.heap.size]? = some (.cells (poolC (.slice va vn vc) R).toArray 25 (0, 0))) := hr1
  have HR : Hid (∀ w1, Below w.heap.size w w1 → Calls Try.prog 19 #[.agg (poolC (.slice va vn vc) R).toArray, .int .i64 n] w1 fun e w' => e = .returned (.int .i64 (pwE l R n)) ∧ Below w1.heap.size w1 w') := fun w1 hb => wrong13_any _ l R n w1 (h.below hb)
  have HX : Hid _ := pool_facts (v := .slice va vn vc) rfl R
  obtain ⟨X, hX⟩ : ∃ X, Hid (X = (poolC (.slice va vn vc) R).toArray) := ⟨_, rfl⟩
  rw [← hX.out] at hr1 hr2 hbA hsz HX HNW HR ⊢
  clear h hX
  obtain ⟨w0, hw0⟩ : ∃ w0, w0 = (w.alloc (.cells X 25)).alloc (.cells zCells 25) := ⟨_, rfl⟩
  have HZF : Hid _ := zero_facts
  have HZ : Hid (zeroC.toArray.size = 65) := rfl
  by_cases hE : pwE l R n = 0
  · obtain ⟨hp, n0, n6, -⟩ := pwE_zero.1 hE
    have hpos := pwE_pos hE
    have hg := gone_pool hE
    obtain ⟨m, rfl⟩ : ∃ m : Nat, n = m := ⟨n.toNat, by omega⟩
    have hm : m < 64 := by omega
    have hmax := hR m hm
    rw [Int.toNat_natCast] at hpos
    have h2 : pdL l R m = (if R m = 1 then giveL l m 0 else l) ∧ pdR l R m = updR R m (R m - 1) := ⟨by simp [pdL, hE], by simp [pdR, hE]⟩
    have HGV : Hid (∀ w1, Below w.heap.size w w1 → Calls Try.prog 21 #[.slice va vn vc, .agg #[.int .i64 (m : Int), .int .i64 0]] w1 fun e w' => ∃ v', e = .returned (.tuple #[v', .int .i64 0]) ∧ OwnB w1.heap.size w' v' (giveL l m 0) ∧ Below w1.heap.size w1 w') := fun w1 hb => by
      have := give_any (.slice va vn vc) l m 0 w1 (HI.out w1 hb)
      rw [hg.1] at this
      exact this
    rw [h2.1, h2.2, hE]
    rw [hE] at HR
    clear hp n0 n6 hg h2 hE hR
    obtain ⟨r, hrm⟩ : ∃ r, R m = r := ⟨_, rfl⟩
    have HRM : Hid (R m = r) := hrm
    rw [hrm] at hpos hmax ⊢
    clear hrm
    by_cases h1 : r = 1
    · subst h1
      rw [if_pos rfl]
      have hzv := zero_value
      have hzs := zero_size
      have hzn := zero_ne
      go_enter Try.func10, Try.ntmps10
      go_wp2_with (refine wpList_load_row rfl 25 (.tmp 2) rfl w.heap.size rfl 25 X (0, 0) _ HNW.out Try.underlying25 rfl HX.out.1 ?_)
      clear HNW
      rw [← hw0] at hr1 hr2 hbA hsz ⊢
      clear hw0
      refine (HR.out _ hbA).mono ?_
      rintro e w1 ⟨rfl, hb1⟩
      have hr11 := hr1.below hb1 hr1.lt
      have hr21 := hr2.below hb1 hr2.lt
      have hbb1 := hbA.trans (hb1.mono hbA.size)
      have hs1 := hb1.size
      have hcx := hr11.refs m hm
      rw [HRM.out] at hcx
      have hfx := hr11.free (1 + m)
      have hcf : w1.cell? ⟨w.heap.size, 0, none⟩ = some (.slice va vn vc) := by rw [hr11.cell]; rfl
      have hrs : OwnRow (w1.setCell ⟨w.heap.size, 1 + m, none⟩ (.int .i64 0)) w.heap.size 25 (poolC (.slice va vn vc) (updR R m 0)) := by
        have := hr11.set (1 + m) (.int .i64 0)
        rwa [poolC_set] at this
      have hrs2 := hr21.beside (b := w.heap.size) (i := 1 + m) (by omega) (.int .i64 0)
      have hbs : Below w.heap.size w (w1.setCell ⟨w.heap.size, 1 + m, none⟩ (.int .i64 0)) := hbb1.setCell (Nat.le_refl _) _
      obtain ⟨w3, hw3⟩ : ∃ w3, w3 = w1.setCell ⟨w.heap.size, 1 + m, none⟩ (.int .i64 0) := ⟨_, rfl⟩
      have hs3 : w3.heap.size = w1.heap.size := by rw [hw3]; simp
      rw [← hw3] at hrs hrs2 hbs
      clear hr11 hr21 hbb1 hr1 hr2 hbA hb1 HR HI
      go_wp2_with fail
      rw [← hw3]
      clear hw3 hcx hfx hcf
      refine (HGV.out _ hbs).mono ?_
      rintro e w4 ⟨v4, rfl, ho4, hb4⟩
      have hr14 := hrs.below hb4 hrs.lt
      have hr24 := hrs2.below hb4 hrs2.lt
      have hbb4 := hbs.trans (hb4.mono hbs.size)
      obtain ⟨a4, n4, c4, rfl⟩ := ho4.form
      have hcg : w4.cell? ⟨w.heap.size, 0, none⟩ = some (.slice va vn vc) := by rw [hr14.cell]; rfl
      have hf0 := hr14.free 0
      have hrt : OwnRow (w4.setCell ⟨w.heap.size, 0, none⟩ (.slice a4 n4 c4)) w.heap.size 25 (poolC (.slice a4 n4 c4) (updR R m 0)) := hr14.set 0 _
      have hrt2 := hr24.beside (b := w.heap.size) (i := 0) (by omega) (.slice a4 n4 c4)
      have hbt : Below w.heap.size w (w4.setCell ⟨w.heap.size, 0, none⟩ (.slice a4 n4 c4)) := hbb4.setCell (Nat.le_refl _) _
      have hot : OwnB (w.heap.size + 2) (w4.setCell ⟨w.heap.size, 0, none⟩ (.slice a4 n4 c4)) (.slice a4 n4 c4) (giveL l m 0) :=
        (ho4.mono (show w.heap.size + 2 ≤ w3.heap.size by omega)).kept (fun k hk _ => Below.heap_setCell _ _ _ _ (by simp only; omega))
      obtain ⟨w5, hw5⟩ : ∃ w5, w5 = w4.setCell ⟨w.heap.size, 0, none⟩ (.slice a4 n4 c4) := ⟨_, rfl⟩
      have HG : Hid _ := pool_facts (v := .slice a4 n4 c4) rfl (updR R m 0)
      obtain ⟨V, hV⟩ : ∃ V, Hid (V = (poolC (.slice a4 n4 c4) (updR R m 0)).toArray) := ⟨_, rfl⟩
      have HW : Hid (w5.heap[w.heap.size]? = some (.cells V 25 (0, 0)) ∧ w5.heap[w.heap.size + 1]? = some (.cells zeroC.toArray 25 (0, 0))) := by rw [hw5, hV.out]; exact ⟨hrt, hrt2⟩
      rw [← hV.out] at HG
      rw [← hw5] at hbt hot
      have HB : Hid (Below w.heap.size w (w5.setRow (w.heap.size + 1) V) ∧ OwnB w.heap.size (w5.setRow (w.heap.size + 1) V) (.slice a4 n4 c4) (giveL l m 0)) :=
        ⟨below_setRow hbt (by omega) _, (hot.kept (fun k hk _ => setRow_other _ _ _ _ (by omega))).mono (by omega)⟩
      clear hrs hrs2 hrt hrt2 hr14 hr24 hbs hbt hbb4 ho4 hot hb4 HGV
      rw [hw5] at HW HB
      clear hw5
      go_wp2_with (first
        | (refine wpList_load_row rfl 25 (.tmp 2) rfl w.heap.size rfl 25 V (0, 0) _ HW.out.1 Try.underlying25 rfl HG.out.1 ?_)
        | (refine wpList_store_row rfl 25 (.tmp 4) _ rfl (w.heap.size + 1) V rfl rfl 25 _ HW.out.2 HG.out.1 (by rw [HG.out.2.1]; exact HZ.out) HG.out.2.2 ?_))
      exact bodyPost_ret (v := .tuple #[.agg V, .int .i64 0]) (results_row_tmp Try.results10 _ _ (w.heap.size + 1) 25 V _ _ rfl rfl (setRow_heap _ _ _ _ _ _ HW.out.2) Try.underlying25 rfl HG.out.1) rfl ⟨_, by rw [hV.out]; rfl, HB.out.2, HB.out.1⟩
    · rw [if_neg h1]
      have hzv := zero_value
      have hzs := zero_size
      have hzn := zero_ne
      go_enter Try.func10, Try.ntmps10
      go_wp2_with (refine wpList_load_row rfl 25 (.tmp 2) rfl w.heap.size rfl 25 X (0, 0) _ HNW.out Try.underlying25 rfl HX.out.1 ?_)
      clear HNW
      rw [← hw0] at hr1 hr2 hbA hsz ⊢
      clear hw0
      refine (HR.out _ hbA).mono ?_
      rintro e w1 ⟨rfl, hb1⟩
      have hr11 := hr1.below hb1 hr1.lt
      have hr21 := hr2.below hb1 hr2.lt
      have hbb1 := hbA.trans (hb1.mono hbA.size)
      have hs1 := hb1.size
      have hcx := hr11.refs m hm
      rw [HRM.out] at hcx
      have hfx := hr11.free (1 + m)
      have hrs : OwnRow (w1.setCell ⟨w.heap.size, 1 + m, none⟩ (.int .i64 (r - 1))) w.heap.size 25 (poolC (.slice va vn vc) (updR R m (r - 1))) := by
        have := hr11.set (1 + m) (.int .i64 (r - 1))
        rwa [poolC_set] at this
      have hrs2 := hr21.beside (b := w.heap.size) (i := 1 + m) (by omega) (.int .i64 (r - 1))
      have hbs : Below w.heap.size w (w1.setCell ⟨w.heap.size, 1 + m, none⟩ (.int .i64 (r - 1))) := hbb1.setCell (Nat.le_refl _) _
      obtain ⟨w3, hw3⟩ : ∃ w3, w3 = w1.setCell ⟨w.heap.size, 1 + m, none⟩ (.int .i64 (r - 1)) := ⟨_, rfl⟩
      have hs3 : w3.heap.size = w1.heap.size := by rw [hw3]; simp
      have HF : Hid _ := pool_facts (v := .slice va vn vc) rfl (updR R m (r - 1))
      have HC : Hid (Calls Try.prog 20 #[.agg (poolC (.slice va vn vc) (updR R m (r - 1))).toArray] w3 fun e w' => ∃ v', e = .returned (.agg (poolC v' (updR R m (r - 1))).toArray) ∧ OwnB w3.heap.size w' v' l ∧ Below w3.heap.size w3 w') := copied13_any _ l _ w3 (HI.out _ (by rw [hw3]; exact hbs))
      obtain ⟨Y, hY⟩ : ∃ Y, Hid (Y = (poolC (.slice va vn vc) (updR R m (r - 1))).toArray) := ⟨_, rfl⟩
      have HW : Hid (w3.heap[w.heap.size]? = some (.cells Y 25 (0, 0))) := by rw [hw3, hY.out]; exact hrs
      have HW2 : Hid (OwnRow w3 (w.heap.size + 1) 25 zeroC ∧ Below w.heap.size w w3) := by rw [hw3]; exact ⟨hrs2, hbs⟩
      rw [← hY.out] at HF HC
      clear hrs hrs2 hr11 hr21 hbs hbb1 hr1 hr2 hbA hb1 HR HI hY HGV
      have HW' : Hid ((w1.setCell ⟨w.heap.size, 1 + m, none⟩ (.int .i64 (r - 1))).heap[w.heap.size]? = some (.cells Y 25 (0, 0))) := by rw [hw3] at HW; exact HW
      go_wp2_with (refine wpList_load_row rfl 25 (.tmp 2) rfl w.heap.size rfl 25 Y (0, 0) _ HW'.out Try.underlying25 rfl HF.out.1 ?_)
      rw [← hw3]
      clear hw3 HW' hcx hfx
      refine HC.out.mono ?_
      rintro e w4 ⟨v4, rfl, ho4, hb4⟩
      have hr24 := HW2.out.1.below hb4 HW2.out.1.lt
      have hbb4 := HW2.out.2.trans (hb4.mono HW2.out.2.size)
      obtain ⟨a4, n4, c4, rfl⟩ := ho4.form
      have HG : Hid _ := pool_facts (v := .slice a4 n4 c4) rfl (updR R m (r - 1))
      obtain ⟨V, hV⟩ : ∃ V, Hid (V = (poolC (.slice a4 n4 c4) (updR R m (r - 1))).toArray) := ⟨_, rfl⟩
      rw [← hV.out] at HG ⊢
      have HR4 : Hid (w4.heap[w.heap.size + 1]? = some (.cells zeroC.toArray 25 (0, 0))) := hr24
      have HB : Hid (Below w.heap.size w (w4.setRow (w.heap.size + 1) V) ∧ OwnB w.heap.size (w4.setRow (w.heap.size + 1) V) (.slice a4 n4 c4) l) :=
        ⟨below_setRow hbb4 (by omega) _, ((ho4.mono (show w.heap.size + 2 ≤ w3.heap.size by omega)).kept (fun k hk _ => setRow_other _ _ _ _ (by omega))).mono (by omega)⟩
      clear hr24 hbb4 ho4 hb4
      go_wp2_with (refine wpList_store_row rfl 25 (.tmp 4) _ rfl (w.heap.size + 1) V rfl rfl 25 _ HR4.out HG.out.1 (by rw [HG.out.2.1]; exact HZ.out) HG.out.2.2 ?_)
      exact bodyPost_ret (v := .tuple #[.agg V, .int .i64 0]) (results_row_tmp Try.results10 _ _ (w.heap.size + 1) 25 V _ _ rfl rfl (setRow_heap _ _ _ _ _ _ HR4.out) Try.underlying25 rfl HG.out.1) rfl ⟨_, by rw [hV.out], HB.out.2, HB.out.1⟩
  · obtain ⟨h2, h3⟩ := pd_bad hE
    rw [h2, h3]
    have hd : (pwE l R n != 0) = true := by simpa using hE
    generalize pwE l R n = E at *
    clear h2 h3 hE
    have hzv := zero_value
    have hzs := zero_size
    have hzn := zero_ne
    go_enter Try.func10, Try.ntmps10
    go_wp2_with (refine wpList_load_row rfl 25 (.tmp 2) rfl w.heap.size rfl 25 X (0, 0) _ HNW.out Try.underlying25 rfl HX.out.1 ?_)
    clear HNW
    rw [← hw0] at hr1 hr2 hbA hsz ⊢
    clear hw0
    refine (HR.out _ hbA).mono ?_
    rintro e w1 ⟨rfl, hb1⟩
    obtain ⟨n1, n2, n3⟩ := pool_nil (hbA.trans (hb1.mono hbA.size)) (hr2.below hb1 hr2.lt)
    have HN : Hid (_ ∧ _ ∧ _) := ⟨n1, n2, n3⟩
    clear n1 n2 n3 hr1 hr2 hbA hsz hb1
    go_wp2_with (refine wpList_store_row rfl 25 (.tmp 4) _ rfl (w.heap.size + 1) zCells rfl rfl 25 _ HN.out.1 HZF.out.1 (by rw [HZF.out.2.1]; exact HZ.out) HZF.out.2.2 ?_)
    exact bodyPost_ret (v := .tuple #[.agg zCells, .int .i64 E]) (results_row_tmp Try.results10 _ _ (w.heap.size + 1) 25 zCells _ _ rfl rfl HN.out.2.1 Try.underlying25 rfl HZF.out.1) rfl ⟨_, by rw [zero_cells], ownB_nil _ _, HN.out.2.2⟩

end Go.Proofs.Yticmloddkngfnah
