/- The contract of pool.Take: what the call returns, and that nothing that was there is written. -/
import Derived.Test.YticmloddkngfnahPool4
namespace Go.Proofs.Yticmloddkngfnah
open Go.RowKit
set_option linter.unusedSimpArgs false
set_option linter.unusedVariables false

theorem zero_facts : (Try.prog.info? 25).map (·.size) = some zCells.size ∧ zCells.size = 65 ∧ zCells.all (·.oneCell') = true := by
  rw [zero_cells]
  exact pool_facts (v := .slice none 0 0) rfl _

theorem ownB_nil (base : Nat) (w : World) : OwnB base w (.slice none 0 0) [] := ⟨rfl, Or.inl ⟨rfl, rfl⟩⟩

/-- What a call that fails leaves: the second row stays of nothing. -/
theorem pool_nil {w w1 : World} (hb : Below w.heap.size w w1) (hr : OwnRow w1 (w.heap.size + 1) 25 zeroC) :
    (w1.heap[w.heap.size + 1]? = some (.cells zeroC.toArray 25 (0, 0))) ∧ ((w1.setRow (w.heap.size + 1) zCells).heap[w.heap.size + 1]? = some (.cells zCells 25 (0, 0))) ∧ Below w.heap.size w (w1.setRow (w.heap.size + 1) zCells) :=
  ⟨hr, setRow_heap _ _ _ _ _ _ hr, below_setRow hb (by omega) _⟩

set_option maxRecDepth 100000 in
set_option maxHeartbeats 3200000 in
theorem take13_any (v : Value) (l : List (Int × Int)) (R : Nat → Int) (w : World) (h : IsBlocks w v l) :
    Calls Try.prog 6 #[.agg (poolC v R).toArray] w fun e w' => ∃ v', e = .returned (.tuple #[.agg (poolC v' (ptR l R)).toArray, .int .i64 (ptN l R), .int .i64 (ptE l R)]) ∧ OwnB w.heap.size w' v' (ptL l R) ∧ Below w.heap.size w w' := by
  have HI : Hid (∀ w1, Below w.heap.size w w1 → IsBlocks w1 v l) := fun w1 hb => h.below hb
  obtain ⟨hr1, hr2, hbA, hsz⟩ := pool_two w (poolC v R) 25
  obtain ⟨va, vn, vc, rfl⟩ := h.form
  have HNW : Hid (((w.alloc (.cells (poolC (.slice va vn vc) R).toArray 25)).alloc (.cells zCells 25)).heap[w.heap.size]? = some (.cells (poolC (.slice va vn vc) R).toArray 25 (0, 0))) := hr1
  have HR : Hid (∀ w1, Below w.heap.size w w1 → Calls Try.prog 14 #[.agg (poolC (.slice va vn vc) R).toArray] w1 fun e w' => e = .returned (.bool (poolB l R)) ∧ Below w1.heap.size w1 w') := fun w1 hb => right13_any _ l R w1 (h.below hb)
  have HT : Hid (∀ w1, Below w.heap.size w w1 → Calls Try.prog 17 #[.slice va vn vc, .int .i64 0] w1 fun e w' => ∃ v', e = .returned (.tuple #[v', .int .i64 (takeAt l 0), .int .i64 (takeE l 0)]) ∧ OwnB w1.heap.size w' v' (takeL l 0) ∧ Below w1.heap.size w1 w') := fun w1 hb => btake_any _ l 0 w1 (h.below hb)
  have HX : Hid _ := pool_facts (v := .slice va vn vc) rfl R
  obtain ⟨X, hX⟩ : ∃ X, Hid (X = (poolC (.slice va vn vc) R).toArray) := ⟨_, rfl⟩
  rw [← hX.out] at hr1 hr2 hbA hsz HX HNW HR ⊢
  clear h hX
  obtain ⟨w0, hw0⟩ : ∃ w0, w0 = (w.alloc (.cells X 25)).alloc (.cells zCells 25) := ⟨_, rfl⟩
  have HZF : Hid _ := zero_facts
  have HZ : Hid (zeroC.toArray.size = 65) := rfl
  cases hp : poolB l R with
  | false =>
    have HE : Hid (ptE l R = 1 ∧ ptN l R = 0 ∧ ptL l R = [] ∧ ptR l R = fun _ => 0) := by
      have h1 : ptE l R = 1 := by simp [ptE, hp]
      exact ⟨h1, by simp [ptN, h1], by simp [ptL, h1], by simp [ptR, h1]⟩
    rw [HE.out.1, HE.out.2.1, HE.out.2.2.1, HE.out.2.2.2]
    rw [hp] at HR
    clear HE hp
    have hzv := zero_value
    have hzs := zero_size
    have hzn := zero_ne
    go_enter Try.func6, Try.ntmps6
    go_wp2_with (refine wpList_load_row rfl 25 (.tmp 1) rfl w.heap.size rfl 25 X (0, 0) _ HNW.out Try.underlying25 rfl HX.out.1 ?_)
    clear HNW
    rw [← hw0] at hr1 hr2 hbA hsz ⊢
    clear hw0
    refine (HR.out _ hbA).mono ?_
    rintro e w1 ⟨rfl, hb1⟩
    obtain ⟨n1, n2, n3⟩ := pool_nil (hbA.trans (hb1.mono hbA.size)) (hr2.below hb1 hr2.lt)
    have HN : Hid (_ ∧ _ ∧ _) := ⟨n1, n2, n3⟩
    clear n1 n2 n3 hr1 hr2 hbA hsz hb1
    go_wp2_with (refine wpList_store_row rfl 25 (.tmp 2) _ rfl (w.heap.size + 1) zCells rfl rfl 25 _ HN.out.1 HZF.out.1 (by rw [HZF.out.2.1]; exact HZ.out) HZF.out.2.2 ?_)
    exact bodyPost_ret (v := .tuple #[.agg zCells, .int .i64 0, .int .i64 1]) (results_row_tmps Try.results6 _ _ (w.heap.size + 1) 25 zCells _ _ _ rfl rfl rfl HN.out.2.1 Try.underlying25 rfl HZF.out.1) rfl ⟨_, by rw [zero_cells], ownB_nil _ _, HN.out.2.2⟩
  | true =>
    have hr := poolB_right hp
    rw [hp] at HR
    by_cases hE : takeE l 0 = 0
    · have hx := take_at hE
      obtain ⟨x, hxe⟩ : ∃ x : Nat, takeAt l 0 = x := ⟨(takeAt l 0).toNat, by omega⟩
      have HE : Hid (ptE l R = 0 ∧ ptN l R = (x : Int) ∧ ptL l R = takeL l 0 ∧ ptR l R = updR R x 1) := by
        have h1 : ptE l R = 0 := by simp [ptE, hp, hE]
        exact ⟨h1, by simp [ptN, h1, hxe], by simp [ptL, h1], by simp [ptR, h1, hxe]⟩
      rw [HE.out.1, HE.out.2.1, HE.out.2.2.1, HE.out.2.2.2]
      rw [hE, hxe] at HT
      rw [hxe] at hx
      have hx64 : x < 64 := by omega
      clear HE hp hE hxe hr hx
      have hzv := zero_value
      have hzs := zero_size
      have hzn := zero_ne
      go_enter Try.func6, Try.ntmps6
      go_wp2_with (refine wpList_load_row rfl 25 (.tmp 1) rfl w.heap.size rfl 25 X (0, 0) _ HNW.out Try.underlying25 rfl HX.out.1 ?_)
      clear HNW
      rw [← hw0] at hr1 hr2 hbA hsz ⊢
      clear hw0
      refine (HR.out _ hbA).mono ?_
      rintro e w1 ⟨rfl, hb1⟩
      have hr11 := hr1.below hb1 hr1.lt
      have hr21 := hr2.below hb1 hr2.lt
      have hbb1 := hbA.trans (hb1.mono hbA.size)
      have hs1 := hb1.size
      have hc0 : w1.cell? ⟨w.heap.size, 0, none⟩ = some (.slice va vn vc) := by rw [hr11.cell]; rfl
      clear hr1 hr2 hbA hb1
      go_wp2_with fail
      refine (HT.out _ hbb1).mono ?_
      rintro e w2 ⟨v2, rfl, ho2, hb2⟩
      have hr12 := hr11.below hb2 hr11.lt
      have hr22 := hr21.below hb2 hr21.lt
      have hbb2 := hbb1.trans (hb2.mono hbb1.size)
      have hs2 := hb2.size
      obtain ⟨a2, n2, c2, rfl⟩ := ho2.form
      clear hr11 hr21 hbb1 hb2 hc0
      have hcell : w2.cell? ⟨w.heap.size, 0, none⟩ = some (.slice va vn vc) := by rw [hr12.cell]; rfl
      have hcx := hr12.refs x hx64
      have hf0 := hr12.free 0
      have hfx := hr12.free (1 + x)
      have hrs : OwnRow ((w2.setCell ⟨w.heap.size, 0, none⟩ (.slice a2 n2 c2)).setCell ⟨w.heap.size, 1 + x, none⟩ (.int .i64 1)) w.heap.size 25 (poolC (.slice a2 n2 c2) (updR R x 1)) := by
        have := (hr12.set 0 (.slice a2 n2 c2)).set (1 + x) (.int .i64 1)
        rwa [poolC_free, poolC_set] at this
      have hrs2 := (hr22.beside (b := w.heap.size) (i := 0) (by omega) (.slice a2 n2 c2)).beside (b := w.heap.size) (i := 1 + x) (by omega) (.int .i64 1)
      have hbs : Below w.heap.size w ((w2.setCell ⟨w.heap.size, 0, none⟩ (.slice a2 n2 c2)).setCell ⟨w.heap.size, 1 + x, none⟩ (.int .i64 1)) := (hbb2.setCell (Nat.le_refl _) _).setCell (Nat.le_refl _) _
      have hos : OwnB (w.heap.size + 2) ((w2.setCell ⟨w.heap.size, 0, none⟩ (.slice a2 n2 c2)).setCell ⟨w.heap.size, 1 + x, none⟩ (.int .i64 1)) (.slice a2 n2 c2) (takeL l 0) :=
        (ho2.mono (show w.heap.size + 2 ≤ w1.heap.size by omega)).kept (fun k hk _ => by rw [Below.heap_setCell _ _ _ _ (by simp only; omega), Below.heap_setCell _ _ _ _ (by simp only; omega)])
      obtain ⟨w3, hw3⟩ : ∃ w3, w3 = (w2.setCell ⟨w.heap.size, 0, none⟩ (.slice a2 n2 c2)).setCell ⟨w.heap.size, 1 + x, none⟩ (.int .i64 1) := ⟨_, rfl⟩
      have HF : Hid _ := pool_facts (v := .slice a2 n2 c2) rfl (updR R x 1)
      obtain ⟨Y, hY⟩ : ∃ Y, Hid (Y = (poolC (.slice a2 n2 c2) (updR R x 1)).toArray) := ⟨_, rfl⟩
      have HW : Hid (w3.heap[w.heap.size]? = some (.cells Y 25 (0, 0)) ∧ w3.heap[w.heap.size + 1]? = some (.cells zeroC.toArray 25 (0, 0))) := by rw [hw3, hY.out]; exact ⟨hrs, hrs2⟩
      rw [← hY.out] at HF
      rw [← hw3] at hbs hos
      have HB : Hid (Below w.heap.size w (w3.setRow (w.heap.size + 1) Y) ∧ OwnB w.heap.size (w3.setRow (w.heap.size + 1) Y) (.slice a2 n2 c2) (takeL l 0)) :=
        ⟨below_setRow hbs (by omega) _, (hos.kept (fun k hk _ => setRow_other _ _ _ _ (by omega))).mono (by omega)⟩
      clear hrs hrs2 hr12 hr22 hbs hos hbb2 ho2 HR HT HI
      rw [hw3] at HW HB
      clear hw3
      go_wp2_with (first
        | (refine wpList_load_row rfl 25 (.tmp 1) rfl w.heap.size rfl 25 Y (0, 0) _ HW.out.1 Try.underlying25 rfl HF.out.1 ?_)
        | (refine wpList_store_row rfl 25 (.tmp 2) _ rfl (w.heap.size + 1) Y rfl rfl 25 _ HW.out.2 HF.out.1 (by rw [HF.out.2.1]; exact HZ.out) HF.out.2.2 ?_))
      exact bodyPost_ret (v := .tuple #[.agg Y, .int .i64 (x : Int), .int .i64 0]) (results_row_tmps Try.results6 _ _ (w.heap.size + 1) 25 Y _ _ _ rfl rfl rfl (setRow_heap _ _ _ _ _ _ HW.out.2) Try.underlying25 rfl HF.out.1) rfl ⟨_, by rw [hY.out], HB.out.2, HB.out.1⟩
    · have hE4 := (take_none hr hE).1
      have HE : Hid (ptE l R = 4 ∧ ptN l R = 0 ∧ ptL l R = [] ∧ ptR l R = fun _ => 0) := by
        have h1 : ptE l R = 4 := by simp [ptE, hp, hE4]
        exact ⟨h1, by simp [ptN, h1], by simp [ptL, h1], by simp [ptR, h1]⟩
      rw [HE.out.1, HE.out.2.1, HE.out.2.2.1, HE.out.2.2.2]
      rw [hE4] at HT
      clear HE hp hE hE4 hr
      generalize takeAt l 0 = x at *
      have hzv := zero_value
      have hzs := zero_size
      have hzn := zero_ne
      go_enter Try.func6, Try.ntmps6
      go_wp2_with (refine wpList_load_row rfl 25 (.tmp 1) rfl w.heap.size rfl 25 X (0, 0) _ HNW.out Try.underlying25 rfl HX.out.1 ?_)
      clear HNW
      rw [← hw0] at hr1 hr2 hbA hsz ⊢
      clear hw0
      refine (HR.out _ hbA).mono ?_
      rintro e w1 ⟨rfl, hb1⟩
      have hr11 := hr1.below hb1 hr1.lt
      have hr21 := hr2.below hb1 hr2.lt
      have hbb1 := hbA.trans (hb1.mono hbA.size)
      have hc0 : w1.cell? ⟨w.heap.size, 0, none⟩ = some (.slice va vn vc) := by rw [hr11.cell]; rfl
      clear hr1 hr2 hbA hb1
      go_wp2_with fail
      refine (HT.out _ hbb1).mono ?_
      rintro e w2 ⟨v2, rfl, -, hb2⟩
      obtain ⟨n1, n2, n3⟩ := pool_nil (hbb1.trans (hb2.mono hbb1.size)) (hr21.below hb2 hr21.lt)
      have HN : Hid (_ ∧ _ ∧ _) := ⟨n1, n2, n3⟩
      clear n1 n2 n3 hr11 hr21 hbb1 hsz hb2 hc0
      go_wp2_with (refine wpList_store_row rfl 25 (.tmp 2) _ rfl (w.heap.size + 1) zCells rfl rfl 25 _ HN.out.1 HZF.out.1 (by rw [HZF.out.2.1]; exact HZ.out) HZF.out.2.2 ?_)
      exact bodyPost_ret (v := .tuple #[.agg zCells, .int .i64 0, .int .i64 4]) (results_row_tmps Try.results6 _ _ (w.heap.size + 1) 25 zCells _ _ _ rfl rfl rfl HN.out.2.1 Try.underlying25 rfl HZF.out.1) rfl ⟨_, by rw [zero_cells], ownB_nil _ _, HN.out.2.2⟩

end Go.Proofs.Yticmloddkngfnah
