/- The contract of the document's own answer framewardenref.MTake: it answers what pool.Take answers. -/
import Derived.Test.YticmloddkngfnahPoolRef2
namespace Go.Proofs.Yticmloddkngfnah
open Go.RowKit
set_option linter.unusedSimpArgs false
set_option linter.unusedVariables false

set_option maxRecDepth 100000 in
set_option maxHeartbeats 3200000 in
theorem mtake_any (v : Value) (l : List (Int × Int)) (R : Nat → Int) (w : World) (h : IsBlocks w v l) :
    Calls Try.prog 7 #[.agg (poolC v R).toArray] w fun e w' => ∃ v', e = .returned (.tuple #[.agg (poolC v' (ptR l R)).toArray, .int .i64 (ptN l R), .int .i64 (ptE l R)]) ∧ OwnB w.heap.size w' v' (ptL l R) ∧ Below w.heap.size w w' := by
  have HI : Hid (∀ w1, Below w.heap.size w w1 → IsBlocks w1 v l) := fun w1 hb => h.below hb
  obtain ⟨hr1, hr2, hbA, hsz⟩ := pool_two w (poolC v R) 25
  obtain ⟨va, vn, vc, rfl⟩ := h.form
  have HNW : Hid (((w.alloc (.cells (poolC (.slice va vn vc) R).toArray 25)).alloc (.cells zCells 25)).heap[w.heap.size]? = some (.cells (poolC (.slice va vn vc) R).toArray 25 (0, 0))) := hr1
  have HR : Hid (∀ w1, Below w.heap.size w w1 → Calls Try.prog 15 #[.agg (poolC (.slice va vn vc) R).toArray] w1 fun e w' => e = .returned (.bool (poolB l R)) ∧ Below w1.heap.size w1 w') := fun w1 hb => mright_any _ l R w1 (h.below hb)
  have HT : Hid (∀ w1, Below w.heap.size w w1 → Calls Try.prog 18 #[.slice va vn vc, .int .i64 0] w1 fun e w' => ∃ v', e = .returned (.tuple #[v', .int .i64 (takeAt l 0), .int .i64 (takeE l 0)]) ∧ OwnB w1.heap.size w' v' (takeL l 0) ∧ Below w1.heap.size w1 w') := fun w1 hb => bref_take _ l 0 w1 (h.below hb)
  have HX : Hid _ := pool_facts (v := .slice va vn vc) rfl R
  obtain ⟨X, hX⟩ : ∃ X, Hid (X = (poolC (.slice va vn vc) R).toArray) := ⟨_, rfl⟩
  rw [← hX.out] at hr1 hr2 hbA hsz HX HNW HR ⊢
  clear h hX
  obtain ⟨w0, hw0⟩ : ∃ w0, w0 = (w.alloc (.cells X 25)).alloc (.cells zCells 25) := ⟨_, rfl⟩
  have HZF : Hid _ := zero_facts
  have HZ : Hid (zeroC.toArray.size = 65) := rfl
  cases hp : poolB l R with
  | false =>
    have HE : Hid (ptE l R = 1 ∧ ptN l R = 0 ∧ ptL l R = [] ∧ ptR l R = fun _ => 0) := by
      have h1 : ptE l R = 1 := by simp [ptE, hp]
      exact ⟨h1, by simp [ptN, h1], by simp [ptL, h1], by simp [ptR, h1]⟩
    rw [HE.out.1, HE.out.2.1, HE.out.2.2.1, HE.out.2.2.2]
    rw [hp] at HR
    clear HE hp
    have hzv := zero_value
    have hzs := zero_size
    have hzn := zero_ne
    go_enter Try.func7, Try.ntmps7
    go_wp2_with (refine wpList_load_row rfl 25 (.tmp 1) rfl w.heap.size rfl 25 X (0, 0) _ HNW.out Try.underlying25 rfl HX.out.1 ?_)
    clear HNW
    rw [← hw0] at hr1 hr2 hbA hsz ⊢
    clear hw0
    refine (HR.out _ hbA).mono ?_
    rintro e w1 ⟨rfl, hb1⟩
    obtain ⟨n1, n2, n3⟩ := pool_nil (hbA.trans (hb1.mono hbA.size)) (hr2.below hb1 hr2.lt)
    have HN : Hid (_ ∧ _ ∧ _) := ⟨n1, n2, n3⟩
    clear n1 n2 n3 hr1 hr2 hbA hsz hb1
    go_wp2_with (refine wpList_store_row rfl 25 (.tmp 2) _ rfl (w.heap.size + 1) zCells rfl rfl 25 _ HN.out.1 HZF.out.1 (by rw [HZF.out.2.1]; exact HZ.out) HZF.out.2.2 ?_)
    exact bodyPost_ret (v := .tuple #[.agg zCells, .int .i64 0, .int .i64 1]) (results_row_tmps Try.results7 _ _ (w.heap.size + 1) 25 zCells _ _ _ rfl rfl rfl HN.out.2.1 Try.underlying25 rfl HZF.out.1) rfl ⟨_, by rw [zero_cells], ownB_nil _ _, HN.out.2.2⟩
  | true =>
    have hr := poolB_right hp
    rw [hp] at HR
    by_cases hE : takeE l 0 = 0
    · have hx := take_at hE
      obtain ⟨x, hxe⟩ : ∃ x : Nat, takeAt l 0 = x := ⟨(takeAt l 0).toNat, by omega⟩
      have HE : Hid (ptE l R = 0 ∧ ptN l R = (x : Int) ∧ ptL l R = takeL l 0 ∧ ptR l R = updR R x 1) := by
        have h1 : ptE l R = 0 := by simp [ptE, hp, hE]
        exact ⟨h1, by simp [ptN, h1, hxe], by simp [ptL, h1], by simp [ptR, h1, hxe]⟩
      rw [HE.out.1, HE.out.2.1, HE.out.2.2.1, HE.out.2.2.2]
      rw [hE, hxe] at HT
      rw [hxe] at hx
      have hx64 : x < 64 := by omega
      have HPT : Hid (poolB (takeL l 0) (updR R x 1) = true) := by
        have := (take_pool hp hE).2
        rwa [hxe, Int.toNat_natCast] at this
      clear HE hp hE hxe hr hx
      have hzv := zero_value
      have hzs := zero_size
      have hzn := zero_ne
      go_enter Try.func7, Try.ntmps7
      go_wp2_with (refine wpList_load_row rfl 25 (.tmp 1) rfl w.heap.size rfl 25 X (0, 0) _ HNW.out Try.underlying25 rfl HX.out.1 ?_)
      clear HNW
      rw [← hw0] at hr1 hr2 hbA hsz ⊢
      clear hw0
      refine (HR.out _ hbA).mono ?_
      rintro e w1 ⟨rfl, hb1⟩
      have hr11 := hr1.below hb1 hr1.lt
      have hr21 := hr2.below hb1 hr2.lt
      have hbb1 := hbA.trans (hb1.mono hbA.size)
      have hs1 := hb1.size
      have hc0 : w1.cell? ⟨w.heap.size, 0, none⟩ = some (.slice va vn vc) := by rw [hr11.cell]; rfl
      clear hr1 hr2 hbA hb1
      go_wp2_with fail
      refine (HT.out _ hbb1).mono ?_
      rintro e w2 ⟨v2, rfl, ho2, hb2⟩
      have hr12 := hr11.below hb2 hr11.lt
      have hr22 := hr21.below hb2 hr21.lt
      have hbb2 := hbb1.trans (hb2.mono hbb1.size)
      have hs2 := hb2.size
      obtain ⟨a2, n2, c2, rfl⟩ := ho2.form
      clear hr11 hr21 hbb1 hb2 hc0
      have HSZ2 : Hid (w.heap.size + 2 ≤ w2.heap.size) := by show _ ≤ _; omega
      have hL := numsL_len R
      have HRG : Hid (w2.rangeAt w.heap.size 1 (numsL R)) := hr12.nums
      have HSN : Hid ((Try.prog.info? 23).map (·.size) = some (numsL R).length) := by show _ = _; rw [info_nums, numsL_len]
      have HSA : Hid ((Try.prog.info? 23).map (·.size) = some (numsL R).toArray.size ∧ (numsL R).toArray.size = 64 ∧ (numsL R).toArray.all (·.oneCell') = true) := ⟨by rw [info_nums]; simp [numsL_len], by simp [numsL_len], all_oneCell_toArray (numsL_one R)⟩
      have hbB : Below w2.heap.size w2 (w2.alloc (.cells (numsL R).toArray 23)) := (Below.refl _ _).alloc (Nat.le_refl _) _
      have hro : OwnRow (w2.alloc (.cells (numsL R).toArray 23)) w2.heap.size 23 (numsL R) := heap_alloc_new w2 _
      have hrz : OwnRow (w2.alloc (.cells (numsL R).toArray 23)) (w.heap.size + 1) 25 zeroC := hr22.below hbB hr22.lt
      have hbc : Below w.heap.size w (w2.alloc (.cells (numsL R).toArray 23)) := hbb2.trans (hbB.mono hbb2.size)
      have hcx : (w2.alloc (.cells (numsL R).toArray 23)).cell? ⟨w2.heap.size, x, none⟩ = some (.int .i64 (R x)) := by rw [hro.cell, numsL_get R x hx64]
      have hfx := hro.free x
      obtain ⟨N3, hN3⟩ : ∃ N3, Hid (N3 = numsL (updR R x 1)) := ⟨_, rfl⟩
      have hbD : Below w2.heap.size w2 (w2.alloc (.cells N3.toArray 23)) := (Below.refl _ _).alloc (Nat.le_refl _) _
      have hset : (numsL R).set x (.int .i64 1) = N3 := by rw [numsL_set, hN3.out]
      have HW : Hid ((w2.alloc (.cells N3.toArray 23)).heap[w2.heap.size]? = some (.cells N3.toArray 23 (0, 0)) ∧ OwnRow (w2.alloc (.cells N3.toArray 23)) (w.heap.size + 1) 25 zeroC ∧ Below w.heap.size w (w2.alloc (.cells N3.toArray 23))) := ⟨heap_alloc_new w2 _, hr22.below hbD hr22.lt, hbb2.trans (hbD.mono hbb2.size)⟩
      have HN2 : Hid ((Try.prog.info? 23).map (·.size) = some N3.toArray.size) := by show _ = _; rw [info_nums, hN3.out]; simp [numsL_len]
      have HMO : Hid (∀ w1, Calls Try.prog 13 #[.agg N3.toArray] w1 fun e w' => ∃ v' L, e = .returned (.agg (poolC v' (updR R x 1)).toArray) ∧ OwnB w1.heap.size w' v' L ∧ Good L ∧ (∀ t : Nat, t < 64 → (covL L t ↔ updR R x 1 t = 0)) ∧ Below w1.heap.size w1 w') := fun w1 => by rw [hN3.out]; exact mof_any _ w1
      have HSZ3 : Hid (w2.heap.size + 1 ≤ (w2.alloc (.cells N3.toArray 23)).heap.size) := by show _ ≤ _; simp
      obtain ⟨N, hN⟩ : ∃ N, Hid (N = numsL R) := ⟨_, rfl⟩
      rw [← hN.out] at HRG HSN HSA hcx hfx hset hbB hro hrz hbc
      clear hr12 hr22 hbb2 ho2 HR HT HI hL hbB hro hrz hbc hN hN3 hbD
      generalize R x = rx at *
      go_wp2_with (first
        | (refine wpList_load_mid rfl 23 (.tmp 24) rfl w.heap.size 1 rfl N _ HRG.out Try.underlying23 rfl HSN.out ?_)
        | (refine wpList_store_row rfl 23 (.tmp 8) _ rfl w2.heap.size N.toArray rfl rfl 23 _ (heap_alloc_new w2 _) HSA.out.1 (by rw [HSA.out.2.1]; rfl) HSA.out.2.2 ?_; rw [World.setRow_alloc_new])
        | (refine wpList_load_row rfl 23 (.tmp 8) rfl w2.heap.size rfl 23 N3.toArray (0, 0) _ HW.out.1 Try.underlying23 rfl HN2.out ?_))
      refine (HMO.out _).mono ?_
      rintro e w4 ⟨v4, L4, rfl, ho4, hg4, hc4, hb4⟩
      obtain rfl : L4 = takeL l 0 := pool_unique HPT.out hg4 hc4
      have hr4 := HW.out.2.1.below hb4 HW.out.2.1.lt
      have hbb4 := bel_next hb4 HW.out.2.2
      obtain ⟨a4, n4, c4, rfl⟩ := ho4.form
      have HG : Hid _ := pool_facts (v := .slice a4 n4 c4) rfl (updR R x 1)
      obtain ⟨V, hV⟩ : ∃ V, Hid (V = (poolC (.slice a4 n4 c4) (updR R x 1)).toArray) := ⟨_, rfl⟩
      rw [← hV.out] at HG ⊢
      have HR4 : Hid (w4.heap[w.heap.size + 1]? = some (.cells zeroC.toArray 25 (0, 0))) := hr4
      have HB : Hid (Below w.heap.size w (w4.setRow (w.heap.size + 1) V) ∧ OwnB w.heap.size (w4.setRow (w.heap.size + 1) V) (.slice a4 n4 c4) (takeL l 0)) :=
        ⟨below_setRow hbb4 (by omega) _, ((ho4.mono (show w.heap.size + 2 ≤ _ by have := HSZ2.out; have := HSZ3.out; omega)).kept (fun k hk _ => setRow_other _ _ _ _ (by omega))).mono (by omega)⟩
      clear hr4 hbb4 ho4 hb4 hg4 hc4
      go_wp2_with (refine wpList_store_row rfl 25 (.tmp 2) _ rfl (w.heap.size + 1) V rfl rfl 25 _ HR4.out HG.out.1 (by rw [HG.out.2.1]; exact HZ.out) HG.out.2.2 ?_)
      exact bodyPost_ret (v := .tuple #[.agg V, .int .i64 (x : Int), .int .i64 0]) (results_row_tmps Try.results7 _ _ (w.heap.size + 1) 25 V _ _ _ rfl rfl rfl (setRow_heap _ _ _ _ _ _ HR4.out) Try.underlying25 rfl HG.out.1) rfl ⟨_, by rw [hV.out], HB.out.2, HB.out.1⟩
    · have hE4 := (take_none hr hE).1
      have HE : Hid (ptE l R = 4 ∧ ptN l R = 0 ∧ ptL l R = [] ∧ ptR l R = fun _ => 0) := by
        have h1 : ptE l R = 4 := by simp [ptE, hp, hE4]
        exact ⟨h1, by simp [ptN, h1], by simp [ptL, h1], by simp [ptR, h1]⟩
      rw [HE.out.1, HE.out.2.1, HE.out.2.2.1, HE.out.2.2.2]
      rw [hE4] at HT
      clear HE hp hE hE4 hr
      generalize takeAt l 0 = x at *
      have hzv := zero_value
      have hzs := zero_size
      have hzn := zero_ne
      go_enter Try.func7, Try.ntmps7
      go_wp2_with (refine wpList_load_row rfl 25 (.tmp 1) rfl w.heap.size rfl 25 X (0, 0) _ HNW.out Try.underlying25 rfl HX.out.1 ?_)
      clear HNW
      rw [← hw0] at hr1 hr2 hbA hsz ⊢
      clear hw0
      refine (HR.out _ hbA).mono ?_
      rintro e w1 ⟨rfl, hb1⟩
      have hr11 := hr1.below hb1 hr1.lt
      have hr21 := hr2.below hb1 hr2.lt
      have hbb1 := hbA.trans (hb1.mono hbA.size)
      have hc0 : w1.cell? ⟨w.heap.size, 0, none⟩ = some (.slice va vn vc) := by rw [hr11.cell]; rfl
      clear hr1 hr2 hbA hb1
      go_wp2_with fail
      refine (HT.out _ hbb1).mono ?_
      rintro e w2 ⟨v2, rfl, -, hb2⟩
      obtain ⟨n1, n2, n3⟩ := pool_nil (hbb1.trans (hb2.mono hbb1.size)) (hr21.below hb2 hr21.lt)
      have HN : Hid (_ ∧ _ ∧ _) := ⟨n1, n2, n3⟩
      clear n1 n2 n3 hr11 hr21 hbb1 hsz hb2 hc0
      go_wp2_with (refine wpList_store_row rfl 25 (.tmp 2) _ rfl (w.heap.size + 1) zCells rfl rfl 25 _ HN.out.1 HZF.out.1 (by rw [HZF.out.2.1]; exact HZ.out) HZF.out.2.2 ?_)
      exact bodyPost_ret (v := .tuple #[.agg zCells, .int .i64 0, .int .i64 4]) (results_row_tmps Try.results7 _ _ (w.heap.size + 1) 25 zCells _ _ _ rfl rfl rfl HN.out.2.1 Try.underlying25 rfl HZF.out.1) rfl ⟨_, by rw [zero_cells], ownB_nil _ _, HN.out.2.2⟩

end Go.Proofs.Yticmloddkngfnah
