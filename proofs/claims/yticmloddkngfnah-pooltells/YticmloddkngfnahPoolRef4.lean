/- The contract of the document's own answer framewardenref.MChange: once more, or once less. -/
import Derived.Test.YticmloddkngfnahPoolRef3
namespace Go.Proofs.Yticmloddkngfnah
open Go.RowKit
set_option linter.unusedSimpArgs false
set_option linter.unusedVariables false

/-- What MChange answers besides. -/
def mcE (l : List (Int × Int)) (R : Nat → Int) (n c : Int) : Int := if pwE l R n = 0 then if 0 < c ∧ 4 ≤ R n.toNat then 4 else 0 else pwE l R n
def mcR (l : List (Int × Int)) (R : Nat → Int) (n c : Int) : Nat → Int := if mcE l R n c = 0 then updR R n.toNat (R n.toNat + c) else fun _ => 0

theorem mcR_bad {l : List (Int × Int)} {R : Nat → Int} {n c : Int} (h : mcE l R n c ≠ 0) : mcR l R n c = fun _ => 0 := by simp [mcR, h]

set_option maxRecDepth 100000 in
set_option maxHeartbeats 6400000 in
theorem mchange_any (v : Value) (l : List (Int × Int)) (R : Nat → Int) (n c : Int) (M : List (Int × Int)) (w : World) (h : IsBlocks w v l) (hR : ∀ i : Nat, i < 64 → R i ≤ 9223372036854775807) (hcc : c = 1 ∨ c = -1)
    (hM : mcE l R n c = 0 → poolB M (mcR l R n c) = true) (hM0 : mcE l R n c ≠ 0 → M = []) :
    Calls Try.prog 9 #[.agg (poolC v R).toArray, .int .i64 n, .int .i64 c] w fun e w' => ∃ v', e = .returned (.tuple #[.agg (poolC v' (mcR l R n c)).toArray, .int .i64 (mcE l R n c)]) ∧ OwnB w.heap.size w' v' M ∧ Below w.heap.size w w' := by
  have HI : Hid (∀ w1, Below w.heap.size w w1 → IsBlocks w1 v l) := fun w1 hb => h.below hb
  obtain ⟨hr1, hr2, hbA, hsz⟩ := pool_two w (poolC v R) 25
  obtain ⟨va, vn, vc, rfl⟩ := h.form
  have HNW : Hid (((w.alloc (.cells (poolC (.slice va vn vc) R).toArray 25)).alloc (.cells zCells 25)).heap[w.heap.size]? = some (.cells (poolC (.slice va vn vc) R).toArray 25 (0, 0))) := hr1
  have HR : Hid (∀ w1, Below w.heap.size w w1 → Calls Try.prog 15 #[.agg (poolC (.slice va vn vc) R).toArray] w1 fun e w' => e = .returned (.bool (poolB l R)) ∧ Below w1.heap.size w1 w') := fun w1 hb => mright_any _ l R w1 (h.below hb)
  have HX : Hid _ := pool_facts (v := .slice va vn vc) rfl R
  obtain ⟨X, hX⟩ : ∃ X, Hid (X = (poolC (.slice va vn vc) R).toArray) := ⟨_, rfl⟩
  rw [← hX.out] at hr1 hr2 hbA hsz HX HNW HR ⊢
  clear h hX
  obtain ⟨w0, hw0⟩ : ∃ w0, w0 = (w.alloc (.cells X 25)).alloc (.cells zCells 25) := ⟨_, rfl⟩
  have HZF : Hid _ := zero_facts
  have HZ : Hid (zeroC.toArray.size = 65) := rfl
  have hzv := zero_value
  have hzs := zero_size
  have hzn := zero_ne
  cases hp : poolB l R with
  | false =>
    have hE : mcE l R n c = 1 := by simp [mcE, pwE, hp]
    rw [hp] at HR
    obtain rfl : M = [] := hM0 (by rw [hE]; decide)
    rw [mcR_bad (by rw [hE]; decide), hE]
    clear hM hM0 hE
    go_enter Try.func9, Try.ntmps9
    go_wp2_with (refine wpList_load_row rfl 25 (.tmp 3) rfl w.heap.size rfl 25 X (0, 0) _ HNW.out Try.underlying25 rfl HX.out.1 ?_)
    clear HNW
    rw [← hw0] at hr1 hr2 hbA hsz ⊢
    clear hw0
    refine (HR.out _ hbA).mono ?_
    rintro e w1 ⟨rfl, hb1⟩
    obtain ⟨n1, n2, n3⟩ := pool_nil (hbA.trans (hb1.mono hbA.size)) (hr2.below hb1 hr2.lt)
    have HN : Hid (_ ∧ _ ∧ _) := ⟨n1, n2, n3⟩
    clear n1 n2 n3 hr1 hr2 hbA hsz hb1
    go_wp2_with (refine wpList_store_row rfl 25 (.tmp 6) _ rfl (w.heap.size + 1) zCells rfl rfl 25 _ HN.out.1 HZF.out.1 (by rw [HZF.out.2.1]; exact HZ.out) HZF.out.2.2 ?_)
    exact bodyPost_ret (v := .tuple #[.agg zCells, .int .i64 1]) (results_row_tmp Try.results9 _ _ (w.heap.size + 1) 25 zCells _ _ rfl rfl HN.out.2.1 Try.underlying25 rfl HZF.out.1) rfl ⟨_, by rw [zero_cells], ownB_nil _ _, HN.out.2.2⟩
  | true =>
    rw [hp] at HR
    by_cases h0 : n < 0
    · have hE : mcE l R n c = 3 := by simp [mcE, pwE, hp, h0]
      obtain rfl : M = [] := hM0 (by rw [hE]; decide)
      rw [mcR_bad (by rw [hE]; decide), hE]
      clear hM hM0 hE
      go_enter Try.func9, Try.ntmps9
      go_wp2_with (refine wpList_load_row rfl 25 (.tmp 3) rfl w.heap.size rfl 25 X (0, 0) _ HNW.out Try.underlying25 rfl HX.out.1 ?_)
      clear HNW
      rw [← hw0] at hr1 hr2 hbA hsz ⊢
      clear hw0
      refine (HR.out _ hbA).mono ?_
      rintro e w1 ⟨rfl, hb1⟩
      obtain ⟨n1, n2, n3⟩ := pool_nil (hbA.trans (hb1.mono hbA.size)) (hr2.below hb1 hr2.lt)
      have HN : Hid (_ ∧ _ ∧ _) := ⟨n1, n2, n3⟩
      clear n1 n2 n3 hr1 hr2 hbA hsz hb1
      go_wp2_with (refine wpList_store_row rfl 25 (.tmp 6) _ rfl (w.heap.size + 1) zCells rfl rfl 25 _ HN.out.1 HZF.out.1 (by rw [HZF.out.2.1]; exact HZ.out) HZF.out.2.2 ?_)
      exact bodyPost_ret (v := .tuple #[.agg zCells, .int .i64 3]) (results_row_tmp Try.results9 _ _ (w.heap.size + 1) 25 zCells _ _ rfl rfl HN.out.2.1 Try.underlying25 rfl HZF.out.1) rfl ⟨_, by rw [zero_cells], ownB_nil _ _, HN.out.2.2⟩
    by_cases h6 : 63 < n
    · have hE : mcE l R n c = 3 := by simp [mcE, pwE, hp, h6]
      obtain rfl : M = [] := hM0 (by rw [hE]; decide)
      rw [mcR_bad (by rw [hE]; decide), hE]
      clear hM hM0 hE
      go_enter Try.func9, Try.ntmps9
      go_wp2_with (refine wpList_load_row rfl 25 (.tmp 3) rfl w.heap.size rfl 25 X (0, 0) _ HNW.out Try.underlying25 rfl HX.out.1 ?_)
      clear HNW
      rw [← hw0] at hr1 hr2 hbA hsz ⊢
      clear hw0
      refine (HR.out _ hbA).mono ?_
      rintro e w1 ⟨rfl, hb1⟩
      obtain ⟨n1, n2, n3⟩ := pool_nil (hbA.trans (hb1.mono hbA.size)) (hr2.below hb1 hr2.lt)
      have HN : Hid (_ ∧ _ ∧ _) := ⟨n1, n2, n3⟩
      clear n1 n2 n3 hr1 hr2 hbA hsz hb1
      go_wp2_with (refine wpList_store_row rfl 25 (.tmp 6) _ rfl (w.heap.size + 1) zCells rfl rfl 25 _ HN.out.1 HZF.out.1 (by rw [HZF.out.2.1]; exact HZ.out) HZF.out.2.2 ?_)
      exact bodyPost_ret (v := .tuple #[.agg zCells, .int .i64 3]) (results_row_tmp Try.results9 _ _ (w.heap.size + 1) 25 zCells _ _ rfl rfl HN.out.2.1 Try.underlying25 rfl HZF.out.1) rfl ⟨_, by rw [zero_cells], ownB_nil _ _, HN.out.2.2⟩
    obtain ⟨m, rfl⟩ : ∃ m : Nat, n = m := ⟨n.toNat, by omega⟩
    have hm : m < 64 := by omega
    have hmax := hR m hm
    have hmin := ((poolB_iff.1 hp).2 m hm).1
    have HCX : Hid (∀ w1, OwnRow w1 w.heap.size 25 (poolC (.slice va vn vc) R) → w1.cell? ⟨w.heap.size, 1 + m, none⟩ = some (.int .i64 (R m))) := fun w1 h => h.refs m hm
    obtain ⟨r, hrm⟩ : ∃ r, R m = r := ⟨_, rfl⟩
    have HRM : Hid (R m = r) := hrm
    rw [hrm] at hmax hmin HCX
    clear hR
    by_cases hr0 : r = 0
    · have hE : mcE l R m c = 3 := by simp [mcE, pwE, hp, hrm, hr0]
      obtain rfl : M = [] := hM0 (by rw [hE]; decide)
      rw [mcR_bad (by rw [hE]; decide), hE]
      subst hr0
      clear hrm
      clear hM hM0 hE
      go_enter Try.func9, Try.ntmps9
      go_wp2_with (refine wpList_load_row rfl 25 (.tmp 3) rfl w.heap.size rfl 25 X (0, 0) _ HNW.out Try.underlying25 rfl HX.out.1 ?_)
      clear HNW
      rw [← hw0] at hr1 hr2 hbA hsz ⊢
      clear hw0
      refine (HR.out _ hbA).mono ?_
      rintro e w1 ⟨rfl, hb1⟩
      have hcx := HCX.out _ (hr1.below hb1 hr1.lt)
      obtain ⟨n1, n2, n3⟩ := pool_nil (hbA.trans (hb1.mono hbA.size)) (hr2.below hb1 hr2.lt)
      have HN : Hid (_ ∧ _ ∧ _) := ⟨n1, n2, n3⟩
      clear n1 n2 n3 hr1 hr2 hbA hsz hb1
      go_wp2_with (refine wpList_store_row rfl 25 (.tmp 6) _ rfl (w.heap.size + 1) zCells rfl rfl 25 _ HN.out.1 HZF.out.1 (by rw [HZF.out.2.1]; exact HZ.out) HZF.out.2.2 ?_)
      exact bodyPost_ret (v := .tuple #[.agg zCells, .int .i64 3]) (results_row_tmp Try.results9 _ _ (w.heap.size + 1) 25 zCells _ _ rfl rfl HN.out.2.1 Try.underlying25 rfl HZF.out.1) rfl ⟨_, by rw [zero_cells], ownB_nil _ _, HN.out.2.2⟩
    have hd0 : (r == 0) = false := by simpa using hr0
    have hw0' : pwE l R m = 0 := pwE_zero.2 ⟨hp, by omega, by omega, by rw [Int.toNat_natCast, hrm]; exact hr0⟩
    rcases hcc with rfl | rfl
    · by_cases h4 : 4 ≤ r
      · have hE : mcE l R m 1 = 4 := by simp [mcE, hw0', hrm, h4]
        clear hw0' hrm hp
        obtain rfl : M = [] := hM0 (by rw [hE]; decide)
        rw [mcR_bad (by rw [hE]; decide), hE]
        clear hM hM0 hE
        go_enter Try.func9, Try.ntmps9
        go_wp2_with (refine wpList_load_row rfl 25 (.tmp 3) rfl w.heap.size rfl 25 X (0, 0) _ HNW.out Try.underlying25 rfl HX.out.1 ?_)
        clear HNW
        rw [← hw0] at hr1 hr2 hbA hsz ⊢
        clear hw0
        refine (HR.out _ hbA).mono ?_
        rintro e w1 ⟨rfl, hb1⟩
        have hcx := HCX.out _ (hr1.below hb1 hr1.lt)
        obtain ⟨n1, n2, n3⟩ := pool_nil (hbA.trans (hb1.mono hbA.size)) (hr2.below hb1 hr2.lt)
        have HN : Hid (_ ∧ _ ∧ _) := ⟨n1, n2, n3⟩
        clear n1 n2 n3 hr1 hr2 hbA hsz hb1
        go_wp2_with (refine wpList_store_row rfl 25 (.tmp 6) _ rfl (w.heap.size + 1) zCells rfl rfl 25 _ HN.out.1 HZF.out.1 (by rw [HZF.out.2.1]; exact HZ.out) HZF.out.2.2 ?_)
        exact bodyPost_ret (v := .tuple #[.agg zCells, .int .i64 4]) (results_row_tmp Try.results9 _ _ (w.heap.size + 1) 25 zCells _ _ rfl rfl HN.out.2.1 Try.underlying25 rfl HZF.out.1) rfl ⟨_, by rw [zero_cells], ownB_nil _ _, HN.out.2.2⟩
      · have hE : mcE l R m 1 = 0 := by simp [mcE, hw0', hrm, h4]
        clear hw0' hrm hp HCX
        have HPT : Hid (poolB M (updR R m (r + 1)) = true) := by
          have := hM hE
          rw [mcR, if_pos hE, Int.toNat_natCast, HRM.out] at this
          exact this
        have hmc : mcR l R m 1 = updR R m (r + 1) := by rw [mcR, if_pos hE, Int.toNat_natCast, HRM.out]
        rw [hmc, hE]
        clear hM hM0 hE hmc
        go_enter Try.func9, Try.ntmps9
        go_wp2_with (refine wpList_load_row rfl 25 (.tmp 3) rfl w.heap.size rfl 25 X (0, 0) _ HNW.out Try.underlying25 rfl HX.out.1 ?_)
        clear HNW
        rw [← hw0] at hr1 hr2 hbA hsz ⊢
        clear hw0
        refine (HR.out _ hbA).mono ?_
        rintro e w2 ⟨rfl, hb1⟩
        have hr12 := hr1.below hb1 hr1.lt
        have hr22 := hr2.below hb1 hr2.lt
        have hbb2 := hbA.trans (hb1.mono hbA.size)
        have hs1 := hb1.size
        have hcq := hr12.refs m hm
        rw [HRM.out] at hcq
        clear hr1 hr2 hbA hb1
        have HSZ2 : Hid (w.heap.size + 2 ≤ w2.heap.size) := by show _ ≤ _; omega
        have HRG : Hid (w2.rangeAt w.heap.size 1 (numsL R)) := hr12.nums
        have HSN : Hid ((Try.prog.info? 23).map (·.size) = some (numsL R).length) := by show _ = _; rw [info_nums, numsL_len]
        have HSA : Hid ((Try.prog.info? 23).map (·.size) = some (numsL R).toArray.size ∧ (numsL R).toArray.size = 64 ∧ (numsL R).toArray.all (·.oneCell') = true) := ⟨by rw [info_nums]; simp [numsL_len], by simp [numsL_len], all_oneCell_toArray (numsL_one R)⟩
        have hbB : Below w2.heap.size w2 (w2.alloc (.cells (numsL R).toArray 23)) := (Below.refl _ _).alloc (Nat.le_refl _) _
        have hro : OwnRow (w2.alloc (.cells (numsL R).toArray 23)) w2.heap.size 23 (numsL R) := heap_alloc_new w2 _
        have hcx : (w2.alloc (.cells (numsL R).toArray 23)).cell? ⟨w2.heap.size, m, none⟩ = some (.int .i64 r) := by rw [hro.cell, numsL_get R m hm, HRM.out]
        have hfx := hro.free m
        obtain ⟨N3, hN3⟩ : ∃ N3, Hid (N3 = numsL (updR R m (r + 1))) := ⟨_, rfl⟩
        have hbD : Below w2.heap.size w2 (w2.alloc (.cells N3.toArray 23)) := (Below.refl _ _).alloc (Nat.le_refl _) _
        have hset : (numsL R).set m (.int .i64 (r + 1)) = N3 := by rw [numsL_set, hN3.out]
        have HW : Hid ((w2.alloc (.cells N3.toArray 23)).heap[w2.heap.size]? = some (.cells N3.toArray 23 (0, 0)) ∧ OwnRow (w2.alloc (.cells N3.toArray 23)) (w.heap.size + 1) 25 zeroC ∧ Below w.heap.size w (w2.alloc (.cells N3.toArray 23))) := ⟨heap_alloc_new w2 _, hr22.below hbD hr22.lt, hbb2.trans (hbD.mono hbb2.size)⟩
        have HN2 : Hid ((Try.prog.info? 23).map (·.size) = some N3.toArray.size) := by show _ = _; rw [info_nums, hN3.out]; simp [numsL_len]
        have HMO : Hid (∀ w1, Calls Try.prog 13 #[.agg N3.toArray] w1 fun e w' => ∃ v' L, e = .returned (.agg (poolC v' (updR R m (r + 1))).toArray) ∧ OwnB w1.heap.size w' v' L ∧ Good L ∧ (∀ t : Nat, t < 64 → (covL L t ↔ updR R m (r + 1) t = 0)) ∧ Below w1.heap.size w1 w') := fun w1 => by rw [hN3.out]; exact mof_any _ w1
        have HSZ3 : Hid (w2.heap.size + 1 ≤ (w2.alloc (.cells N3.toArray 23)).heap.size) := by show _ ≤ _; simp
        obtain ⟨N, hN⟩ : ∃ N, Hid (N = numsL R) := ⟨_, rfl⟩
        rw [← hN.out] at HRG HSN HSA hcx hfx hset hbB hro
        clear hr12 hr22 hbb2 HR HI hbB hro hN hN3 hbD
        go_wp2_with (first
          | (refine wpList_load_mid rfl 23 (.tmp 37) rfl w.heap.size 1 rfl N _ HRG.out Try.underlying23 rfl HSN.out ?_)
          | (refine wpList_store_row rfl 23 (.tmp 8) _ rfl w2.heap.size N.toArray rfl rfl 23 _ (heap_alloc_new w2 _) HSA.out.1 (by rw [HSA.out.2.1]; rfl) HSA.out.2.2 ?_; rw [World.setRow_alloc_new])
          | (refine wpList_load_row rfl 23 (.tmp 8) rfl w2.heap.size rfl 23 N3.toArray (0, 0) _ HW.out.1 Try.underlying23 rfl HN2.out ?_))
        refine (HMO.out _).mono ?_
        rintro e w4 ⟨v4, L4, rfl, ho4, hg4, hc4, hb4⟩
        obtain rfl : L4 = M := pool_unique HPT.out hg4 hc4
        have hr4 := HW.out.2.1.below hb4 HW.out.2.1.lt
        have hbb4 := bel_next hb4 HW.out.2.2
        obtain ⟨a4, n4, c4, rfl⟩ := ho4.form
        have HG : Hid _ := pool_facts (v := .slice a4 n4 c4) rfl (updR R m (r + 1))
        obtain ⟨V, hV⟩ : ∃ V, Hid (V = (poolC (.slice a4 n4 c4) (updR R m (r + 1))).toArray) := ⟨_, rfl⟩
        rw [← hV.out] at HG ⊢
        have HR4 : Hid (w4.heap[w.heap.size + 1]? = some (.cells zeroC.toArray 25 (0, 0))) := hr4
        have HB : Hid (Below w.heap.size w (w4.setRow (w.heap.size + 1) V) ∧ OwnB w.heap.size (w4.setRow (w.heap.size + 1) V) (.slice a4 n4 c4) L4) :=
          ⟨below_setRow hbb4 (by omega) _, ((ho4.mono (show w.heap.size + 2 ≤ _ by have := HSZ2.out; have := HSZ3.out; omega)).kept (fun k hk _ => setRow_other _ _ _ _ (by omega))).mono (by omega)⟩
        clear hr4 hbb4 ho4 hb4 hg4 hc4
        go_wp2_with (refine wpList_store_row rfl 25 (.tmp 6) _ rfl (w.heap.size + 1) V rfl rfl 25 _ HR4.out HG.out.1 (by rw [HG.out.2.1]; exact HZ.out) HG.out.2.2 ?_)
        exact bodyPost_ret (v := .tuple #[.agg V, .int .i64 0]) (results_row_tmp Try.results9 _ _ (w.heap.size + 1) 25 V _ _ rfl rfl (setRow_heap _ _ _ _ _ _ HR4.out) Try.underlying25 rfl HG.out.1) rfl ⟨_, by rw [hV.out], HB.out.2, HB.out.1⟩
    · have hE : mcE l R m (-1) = 0 := by simp [mcE, hw0']
      clear hw0' hrm hp HCX
      have HPT : Hid (poolB M (updR R m (r + -1)) = true) := by
        have := hM hE
        rw [mcR, if_pos hE, Int.toNat_natCast, HRM.out] at this
        exact this
      have hmc : mcR l R m (-1) = updR R m (r + -1) := by rw [mcR, if_pos hE, Int.toNat_natCast, HRM.out]
      rw [hmc, hE]
      clear hM hM0 hE hmc
      go_enter Try.func9, Try.ntmps9
      go_wp2_with (refine wpList_load_row rfl 25 (.tmp 3) rfl w.heap.size rfl 25 X (0, 0) _ HNW.out Try.underlying25 rfl HX.out.1 ?_)
      clear HNW
      rw [← hw0] at hr1 hr2 hbA hsz ⊢
      clear hw0
      refine (HR.out _ hbA).mono ?_
      rintro e w2 ⟨rfl, hb1⟩
      have hr12 := hr1.below hb1 hr1.lt
      have hr22 := hr2.below hb1 hr2.lt
      have hbb2 := hbA.trans (hb1.mono hbA.size)
      have hs1 := hb1.size
      have hcq := hr12.refs m hm
      rw [HRM.out] at hcq
      clear hr1 hr2 hbA hb1
      have HSZ2 : Hid (w.heap.size + 2 ≤ w2.heap.size) := by show _ ≤ _; omega
      have HRG : Hid (w2.rangeAt w.heap.size 1 (numsL R)) := hr12.nums
      have HSN : Hid ((Try.prog.info? 23).map (·.size) = some (numsL R).length) := by show _ = _; rw [info_nums, numsL_len]
      have HSA : Hid ((Try.prog.info? 23).map (·.size) = some (numsL R).toArray.size ∧ (numsL R).toArray.size = 64 ∧ (numsL R).toArray.all (·.oneCell') = true) := ⟨by rw [info_nums]; simp [numsL_len], by simp [numsL_len], all_oneCell_toArray (numsL_one R)⟩
      have hbB : Below w2.heap.size w2 (w2.alloc (.cells (numsL R).toArray 23)) := (Below.refl _ _).alloc (Nat.le_refl _) _
      have hro : OwnRow (w2.alloc (.cells (numsL R).toArray 23)) w2.heap.size 23 (numsL R) := heap_alloc_new w2 _
      have hcx : (w2.alloc (.cells (numsL R).toArray 23)).cell? ⟨w2.heap.size, m, none⟩ = some (.int .i64 r) := by rw [hro.cell, numsL_get R m hm, HRM.out]
      have hfx := hro.free m
      obtain ⟨N3, hN3⟩ : ∃ N3, Hid (N3 = numsL (updR R m (r + -1))) := ⟨_, rfl⟩
      have hbD : Below w2.heap.size w2 (w2.alloc (.cells N3.toArray 23)) := (Below.refl _ _).alloc (Nat.le_refl _) _
      have hset : (numsL R).set m (.int .i64 (r + -1)) = N3 := by rw [numsL_set, hN3.out]
      have HW : Hid ((w2.alloc (.cells N3.toArray 23)).heap[w2.heap.size]? = some (.cells N3.toArray 23 (0, 0)) ∧ OwnRow (w2.alloc (.cells N3.toArray 23)) (w.heap.size + 1) 25 zeroC ∧ Below w.heap.size w (w2.alloc (.cells N3.toArray 23))) := ⟨heap_alloc_new w2 _, hr22.below hbD hr22.lt, hbb2.trans (hbD.mono hbb2.size)⟩
      have HN2 : Hid ((Try.prog.info? 23).map (·.size) = some N3.toArray.size) := by show _ = _; rw [info_nums, hN3.out]; simp [numsL_len]
      have HMO : Hid (∀ w1, Calls Try.prog 13 #[.agg N3.toArray] w1 fun e w' => ∃ v' L, e = .returned (.agg (poolC v' (updR R m (r + -1))).toArray) ∧ OwnB w1.heap.size w' v' L ∧ Good L ∧ (∀ t : Nat, t < 64 → (covL L t ↔ updR R m (r + -1) t = 0)) ∧ Below w1.heap.size w1 w') := fun w1 => by rw [hN3.out]; exact mof_any _ w1
      have HSZ3 : Hid (w2.heap.size + 1 ≤ (w2.alloc (.cells N3.toArray 23)).heap.size) := by show _ ≤ _; simp
      obtain ⟨N, hN⟩ : ∃ N, Hid (N = numsL R) := ⟨_, rfl⟩
      rw [← hN.out] at HRG HSN HSA hcx hfx hset hbB hro
      clear hr12 hr22 hbb2 HR HI hbB hro hN hN3 hbD
      go_wp2_with (first
        | (refine wpList_load_mid rfl 23 (.tmp 37) rfl w.heap.size 1 rfl N _ HRG.out Try.underlying23 rfl HSN.out ?_)
        | (refine wpList_store_row rfl 23 (.tmp 8) _ rfl w2.heap.size N.toArray rfl rfl 23 _ (heap_alloc_new w2 _) HSA.out.1 (by rw [HSA.out.2.1]; rfl) HSA.out.2.2 ?_; rw [World.setRow_alloc_new])
        | (refine wpList_load_row rfl 23 (.tmp 8) rfl w2.heap.size rfl 23 N3.toArray (0, 0) _ HW.out.1 Try.underlying23 rfl HN2.out ?_))
      refine (HMO.out _).mono ?_
      rintro e w4 ⟨v4, L4, rfl, ho4, hg4, hc4, hb4⟩
      obtain rfl : L4 = M := pool_unique HPT.out hg4 hc4
      have hr4 := HW.out.2.1.below hb4 HW.out.2.1.lt
      have hbb4 := bel_next hb4 HW.out.2.2
      obtain ⟨a4, n4, c4, rfl⟩ := ho4.form
      have HG : Hid _ := pool_facts (v := .slice a4 n4 c4) rfl (updR R m (r + -1))
      obtain ⟨V, hV⟩ : ∃ V, Hid (V = (poolC (.slice a4 n4 c4) (updR R m (r + -1))).toArray) := ⟨_, rfl⟩
      rw [← hV.out] at HG ⊢
      have HR4 : Hid (w4.heap[w.heap.size + 1]? = some (.cells zeroC.toArray 25 (0, 0))) := hr4
      have HB : Hid (Below w.heap.size w (w4.setRow (w.heap.size + 1) V) ∧ OwnB w.heap.size (w4.setRow (w.heap.size + 1) V) (.slice a4 n4 c4) L4) :=
        ⟨below_setRow hbb4 (by omega) _, ((ho4.mono (show w.heap.size + 2 ≤ _ by have := HSZ2.out; have := HSZ3.out; omega)).kept (fun k hk _ => setRow_other _ _ _ _ (by omega))).mono (by omega)⟩
      clear hr4 hbb4 ho4 hb4 hg4 hc4
      go_wp2_with (refine wpList_store_row rfl 25 (.tmp 6) _ rfl (w.heap.size + 1) V rfl rfl 25 _ HR4.out HG.out.1 (by rw [HG.out.2.1]; exact HZ.out) HG.out.2.2 ?_)
      exact bodyPost_ret (v := .tuple #[.agg V, .int .i64 0]) (results_row_tmp Try.results9 _ _ (w.heap.size + 1) 25 V _ _ rfl rfl (setRow_heap _ _ _ _ _ _ HR4.out) Try.underlying25 rfl HG.out.1) rfl ⟨_, by rw [hV.out], HB.out.2, HB.out.1⟩

end Go.Proofs.Yticmloddkngfnah
