/- The contracts of pool.New and pool.copied: what each call returns, and that nothing that was there is written. -/
import Derived.Test.YticmloddkngfnahPool3
namespace Go.Proofs.Yticmloddkngfnah
open Go.RowKit
set_option linter.unusedSimpArgs false
set_option linter.unusedVariables false

theorem OwnRow.setRow {w : World} {g : Nat} {e : TypeId} {xs : List Value} (h : OwnRow w g e xs) (ys : List Value) : OwnRow (w.setRow g ys.toArray) g e ys := setRow_heap w g _ _ _ _ h
theorem OwnRow.setRow_ne {w : World} {g b : Nat} {e : TypeId} {xs : List Value} (h : OwnRow w g e xs) (hne : g ≠ b) (cs : Array Value) : OwnRow (w.setRow b cs) g e xs := by
  unfold OwnRow at *
  rw [setRow_other w b g cs hne, h]

/-- A pool of nothing: its cells, a name of their own. -/
def zCells : Array Value := zeroC.toArray

theorem zero_cells : zCells = zeroC.toArray := rfl
theorem zero_value : ∀ w : World, (zeroValue 25).run Try.prog w = .ok (.agg zCells) w := fun w => by kernel_rfl
theorem zero_size : zCells.size = 65 := by kernel_rfl
theorem zero_ne : ¬ zCells = #[] := by
  intro h
  have := zero_size
  rw [h] at this
  cases this

/-- Two rows laid one behind the other, the second of nothing. -/
theorem pool_two (w : World) (xs : List Value) (e : TypeId) :
    OwnRow ((w.alloc (.cells xs.toArray e)).alloc (.cells zCells e)) w.heap.size e xs ∧ OwnRow ((w.alloc (.cells xs.toArray e)).alloc (.cells zCells e)) (w.heap.size + 1) e zeroC ∧ Below w.heap.size w ((w.alloc (.cells xs.toArray e)).alloc (.cells zCells e)) ∧ ((w.alloc (.cells xs.toArray e)).alloc (.cells zCells e)).heap.size = w.heap.size + 2 := by
  rw [zero_cells]
  have h2 := own_two (w := w) (xs := xs) (ys := zeroC) (e := e) (e' := e) (Below.refl _ _)
  exact ⟨h2.1, h2.2, ((Below.refl _ _).alloc (Nat.le_refl _) _).alloc (by simp) _, by simp⟩

/-- 'T{..}': what is laid together, given ahead. -/
theorem wpList_build_is {P : Program} {ops : Array Oper} {rest : List Oper} {o : Oper} {a : Act} {w : World} {Q : Exit → Act → World → Prop} (hg : o.guard = none) (t : TypeId) (parts : Array (Nat × Operand)) (ho : o.op = .build t parts)
    (vs : List (Nat × Value)) (hvs : (parts.map fun (i, x) => (i, a.eval x)).toList = vs) (cells : Array Value) (hc : P.built t vs = some cells)
    (h : wpList P ops Q rest (a.put o.dst (.agg cells)) w) : wpList P ops Q (o :: rest) a w := by
  refine wpList_build hg t parts ho (by rw [hvs, hc]; rfl) ?_
  rw [hvs, hc]
  exact h

/-- A variable's value and another one, or two, as they are returned. -/
theorem results_row_tmp {P : Program} {fn : Func} {p q : Tmp} {ty : TypeId} (h : fn.results = #[.cell p ty, .tmp q]) (tmps : Array Value) (w : World) (g : Nat) (t : TypeId) (cs : Array Value) (d : TypeDesc) (Y : Value)
    (hp : tmps.getD p undef = .pointer (some ⟨g, 0, none⟩)) (hq : tmps.getD q undef = Y) (hg : w.heap[g]? = some (.cells cs t (0, 0)))
    (hu : P.underlying ty = some d) (hd : (match d with | .struct _ | .array _ _ => true | _ => false) = true) (hi : (P.info? ty).map (·.size) = some cs.size) : (results fn tmps).run P w = .ok (.tuple #[.agg cs, Y]) w := by
  have hp' : tmps[p]?.getD undef = .pointer (some ⟨g, 0, none⟩) := by simpa using hp
  have hq' : tmps[q]?.getD undef = Y := by simpa using hq
  simp [results, h, hp', hq', asAddr, run_loadVar_row w g t ty cs (0, 0) d hg hu hd hi]

theorem results_row_tmps {P : Program} {fn : Func} {p q r : Tmp} {ty : TypeId} (h : fn.results = #[.cell p ty, .tmp q, .tmp r]) (tmps : Array Value) (w : World) (g : Nat) (t : TypeId) (cs : Array Value) (d : TypeDesc) (Y Z : Value)
    (hp : tmps.getD p undef = .pointer (some ⟨g, 0, none⟩)) (hq : tmps.getD q undef = Y) (hr : tmps.getD r undef = Z) (hg : w.heap[g]? = some (.cells cs t (0, 0)))
    (hu : P.underlying ty = some d) (hd : (match d with | .struct _ | .array _ _ => true | _ => false) = true) (hi : (P.info? ty).map (·.size) = some cs.size) : (results fn tmps).run P w = .ok (.tuple #[.agg cs, Y, Z]) w := by
  have hp' : tmps[p]?.getD undef = .pointer (some ⟨g, 0, none⟩) := by simpa using hp
  have hq' : tmps[q]?.getD undef = Y := by simpa using hq
  have hr' : tmps[r]?.getD undef = Z := by simpa using hr
  simp [results, h, hp', hq', hr', asAddr, run_loadVar_row w g t ty cs (0, 0) d hg hu hd hi]

set_option maxRecDepth 100000 in
set_option maxHeartbeats 1600000 in
theorem copied13_any (v : Value) (l : List (Int × Int)) (R : Nat → Int) (w : World) (h : IsBlocks w v l) :
    Calls Try.prog 20 #[.agg (poolC v R).toArray] w fun e w' => ∃ v', e = .returned (.agg (poolC v' R).toArray) ∧ OwnB w.heap.size w' v' l ∧ Below w.heap.size w w' := by
  have HI : Hid (∀ w1, Below w.heap.size w w1 → IsBlocks w1 v l) := fun w1 hb => h.below hb
  obtain ⟨hr1, hr2, hbA, hsz⟩ := pool_two w (poolC v R) 25
  obtain ⟨va, vn, vc, rfl⟩ := h.form
  have hx0 : (poolC (.slice va vn vc) R).toArray[0]? = some (.slice va vn vc) := rfl
  obtain ⟨X, hX⟩ : ∃ X, Hid (X = (poolC (.slice va vn vc) R).toArray) := ⟨_, rfl⟩
  rw [← hX.out] at hr1 hr2 hbA hsz hx0 ⊢
  clear h hX
  obtain ⟨w0, hw0⟩ : ∃ w0, w0 = (w.alloc (.cells X 25)).alloc (.cells zCells 25) := ⟨_, rfl⟩
  have hzv := zero_value
  have hzs := zero_size
  have hzn := zero_ne
  go_enter Try.func20, Try.ntmps20
  go_wp2_with fail
  rw [← hw0] at hr1 hr2 hbA hsz ⊢
  clear hw0 hx0
  refine (clone_any _ l _ (HI.out _ hbA)).mono ?_
  rintro e w1 ⟨v1, rfl, ho1, hb1⟩
  have hr11 := hr1.below hb1 hr1.lt
  have hr21 := hr2.below hb1 hr2.lt
  have hbb1 := hbA.trans (hb1.mono hbA.size)
  have hlt1 := hr21.lt
  obtain ⟨a1, n1, c1, rfl⟩ := ho1.form
  have hcell : w1.cell? ⟨w.heap.size, 0, none⟩ = some (.slice va vn vc) := by rw [hr11.cell]; rfl
  have hfz := hr11.free 0
  have hrs : OwnRow (w1.setCell ⟨w.heap.size, 0, none⟩ (.slice a1 n1 c1)) w.heap.size 25 (poolC (.slice a1 n1 c1) R) := hr11.set 0 _
  have hrs2 := hr21.beside (b := w.heap.size) (i := 0) (by omega) (.slice a1 n1 c1)
  have hbs : Below w.heap.size w (w1.setCell ⟨w.heap.size, 0, none⟩ (.slice a1 n1 c1)) := hbb1.setCell (Nat.le_refl _) _
  have hos : OwnB (w.heap.size + 2) (w1.setCell ⟨w.heap.size, 0, none⟩ (.slice a1 n1 c1)) (.slice a1 n1 c1) l :=
    (ho1.mono (show w.heap.size + 2 ≤ w0.heap.size by omega)).kept (fun k hk _ => Below.heap_setCell _ _ _ _ (by simp only; omega))
  obtain ⟨w2, hw2⟩ : ∃ w2, w2 = w1.setCell ⟨w.heap.size, 0, none⟩ (.slice a1 n1 c1) := ⟨_, rfl⟩
  have HF : Hid _ := pool_facts (v := .slice a1 n1 c1) rfl R
  have HZ : Hid (zeroC.toArray.size = 65) := rfl
  obtain ⟨Y, hY⟩ : ∃ Y, Hid (Y = (poolC (.slice a1 n1 c1) R).toArray) := ⟨_, rfl⟩
  have HW : Hid (w2.heap[w.heap.size]? = some (.cells Y 25 (0, 0)) ∧ w2.heap[w.heap.size + 1]? = some (.cells zeroC.toArray 25 (0, 0))) := by rw [hw2, hY.out]; exact ⟨hrs, hrs2⟩
  rw [← hY.out] at HF
  rw [← hw2] at hbs hos
  have HB : Hid (Below w.heap.size w (w2.setRow (w.heap.size + 1) Y) ∧ OwnB w.heap.size (w2.setRow (w.heap.size + 1) Y) (.slice a1 n1 c1) l) :=
    ⟨below_setRow hbs (by omega) _, (hos.kept (fun k hk _ => setRow_other _ _ _ _ (by omega))).mono (by omega)⟩
  clear hrs hrs2 hr11 hr21 hbs hos
  rw [hw2] at HW HB
  clear hw2
  go_wp2_with (first
    | (refine wpList_load_row rfl 25 (.tmp 1) rfl w.heap.size rfl 25 Y (0, 0) _ HW.out.1 Try.underlying25 rfl HF.out.1 ?_)
    | (refine wpList_store_row rfl 25 (.tmp 2) _ rfl (w.heap.size + 1) Y rfl rfl 25 _ HW.out.2 HF.out.1 (by rw [HF.out.2.1]; exact HZ.out) HF.out.2.2 ?_))
  exact bodyPost_ret (v := .agg Y) (results_cell_row Try.results20 _ _ (w.heap.size + 1) 25 Y (0, 0) _ rfl (setRow_heap _ _ _ _ _ _ HW.out.2) Try.underlying25 rfl HF.out.1) rfl ⟨_, by rw [hY.out], HB.out.2, HB.out.1⟩

set_option maxRecDepth 100000 in
set_option maxHeartbeats 1600000 in
theorem new13_any (w : World) :
    Calls Try.prog 12 #[] w fun e w' => ∃ v', e = .returned (.agg (poolC v' fun _ => 0).toArray) ∧ OwnB w.heap.size w' v' [(0, 6)] ∧ Below w.heap.size w w' := by
  have hr0 : OwnRow (w.alloc (.cells zCells 25)) w.heap.size 25 zeroC := by rw [zero_cells]; exact heap_alloc_new w _
  have hbA : Below w.heap.size w (w.alloc (.cells zCells 25)) := (Below.refl _ _).alloc (Nat.le_refl _) _
  have hsz : (w.alloc (.cells zCells 25)).heap.size = w.heap.size + 1 := by simp
  obtain ⟨w0, hw0⟩ : ∃ w0, w0 = w.alloc (.cells zCells 25) := ⟨_, rfl⟩
  have hzv := zero_value
  have hzs := zero_size
  have hzn := zero_ne
  go_enter Try.func12, Try.ntmps12
  go_wp2_with fail
  rw [← hw0] at hr0 hbA hsz ⊢
  clear hw0
  refine (new_any w0).mono ?_
  rintro e w1 ⟨v1, rfl, ho1, hb1⟩
  have hr1 := hr0.below hb1 hr0.lt
  have hbb1 := hbA.trans (hb1.mono hbA.size)
  obtain ⟨a1, n1, c1, rfl⟩ := ho1.form
  have HF : Hid _ := pool_facts (v := .slice a1 n1 c1) rfl (fun _ => 0)
  have HZ : Hid (zeroC.toArray.size = 65) := rfl
  have hu : zCells.setIfInBounds 0 (.slice a1 n1 c1) = (poolC (.slice a1 n1 c1) fun _ => 0).toArray := by rw [zero_cells]; rfl
  obtain ⟨Y, hY⟩ : ∃ Y, Hid (Y = (poolC (.slice a1 n1 c1) fun _ => 0).toArray) := ⟨_, rfl⟩
  rw [← hY.out] at HF hu
  have HW : Hid (w1.heap[w.heap.size]? = some (.cells zeroC.toArray 25 (0, 0))) := hr1
  have HB : Hid (Below w.heap.size w (w1.setRow w.heap.size Y) ∧ OwnB w.heap.size (w1.setRow w.heap.size Y) (.slice a1 n1 c1) [(0, 6)]) :=
    ⟨below_setRow hbb1 (Nat.le_refl _) _, ((ho1.mono (show w.heap.size + 1 ≤ w0.heap.size by omega)).kept (fun k hk _ => setRow_other _ _ _ _ (by omega))).mono (by omega)⟩
  clear hr1 hbb1 ho1 hr0 hbA
  go_wp2_with (first
    | (refine wpList_store_row rfl 25 (.tmp 0) _ rfl w.heap.size Y rfl rfl 25 _ HW.out HF.out.1 (by rw [HF.out.2.1]; exact HZ.out) HF.out.2.2 ?_))
  exact bodyPost_ret (v := .agg Y) (results_cell_row Try.results12 _ _ w.heap.size 25 Y (0, 0) _ rfl (setRow_heap _ _ _ _ _ _ HW.out) Try.underlying25 rfl HF.out.1) rfl ⟨_, by rw [hY.out], HB.out.2, HB.out.1⟩

end Go.Proofs.Yticmloddkngfnah
