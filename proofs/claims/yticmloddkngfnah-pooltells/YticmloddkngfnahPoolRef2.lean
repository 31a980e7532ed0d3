/- The contract of framewardenref.MOf: a pool by how often each frame is meant. -/
import Derived.Test.YticmloddkngfnahPoolRef1
import Derived.Deep.RegionHeld3
namespace Go.Proofs.Yticmloddkngfnah
open Go.RowKit
set_option linter.unusedSimpArgs false
set_option linter.unusedVariables false

/-- Which of the first k frames nobody means. -/
def freeB (R : Nat → Int) (k : Nat) : Nat → Bool := fun t => decide (t < k) && decide (R t = 0)

theorem freeB_zero (R : Nat → Int) : freeB R 0 = fun _ => false := by funext t; simp [freeB]

theorem freeB_succ (R : Nat → Int) (k : Nat) : upd (freeB R k) k (R k == 0) = freeB R (k + 1) := by
  funext t
  unfold upd freeB
  by_cases h : t = k
  · subst h
    rw [if_pos rfl]
    have : decide (t < t + 1) = true := by simp
    rw [this, Bool.true_and]
    rfl
  · rw [if_neg h]
    congr 1
    rw [Bool.eq_iff_iff]
    simp only [decide_eq_true_eq]
    omega

/-- 'T{..}' yields in whatever world. -/
theorem yields_build {P : Program} {ops : Array Oper} {S : World → Prop} {o : Oper} {a : Act} (hw : Region.wanted o (yielded ops a.tmps) = true) (t : TypeId) (parts : Array (Nat × Operand)) (ho : o.op = .build t parts)
    (vs : List (Nat × Value)) (hvs : (parts.toList.map fun (i, x) => (i, a.eval x)) = vs) (cells : Array Value) (hc : P.built t vs = some cells) : YieldsIf P ops S o (.agg cells) a :=
  .inl ⟨hw, fun w _ => by
    have hl := run_build (P := P) w t (parts.map fun (i, x) => (i, a.eval x)) cells (by rw [Array.toList_map, hvs]; exact hc)
    unfold execOp
    simp only [ho, Sem.run_bind, hl, Result.andThen_ok]
    rfl⟩

/-- A whole array is loaded, at a step of a region that draws. -/
theorem yields_row {P : Program} {ops : Array Oper} {S : World → Prop} {o : Oper} {a : Act} (hw : Region.wanted o (yielded ops a.tmps) = true) (ty : TypeId) (x : Operand) (ho : o.op = .load ty x)
    (g : Nat) (hx : a.eval x = .pointer (some ⟨g, 0, none⟩)) (t : TypeId) (X : Array Value) (d : TypeDesc) (hS : ∀ w, S w → w.heap[g]? = some (.cells X t (0, 0))) (hu : P.underlying ty = some d) (hd : (match d with | .struct _ | .array _ _ => true | _ => false) = true) (hi : (P.info? ty).map (·.size) = some X.size) : YieldsIf P ops S o (.agg X) a :=
  .inl ⟨hw, fun w hw' => by
    have hl := run_loadVar_row w g t ty X (0, 0) d (hS w hw') hu hd hi
    unfold execOp
    simp only [ho, hx, Instr.loadAt, Instr.sureAddr, Sem.run_bind, Sem.run_pure, Result.andThen_ok, hl]⟩

/-- An operation of a region that draws is taken first; the slot that it writes is told. -/
theorem take_to {P : Program} {md : Region.Mode} {ops : Array Oper} {Q : Exit → Act → World → Prop} {S : World → Prop} (i : Nat) (dst : Option Tmp) {oi : Oper} {v : Value} {fuel : Nat} {listed : Array Bool} {a : Act} {w : World} (hi : ops[i]? = some oi) (hd : oi.dst = dst)
    (hs : Region.noSelect ops = true) (hf : Region.free md ops listed i = true) (hr : (Region.ready md ops listed).contains i = true)
    (hQ : ∀ c a w, Q (.panic c) (a.put dst v) w → Q (.panic c) a w) (hy : YieldsIf P ops S oi v a) (hS : S w)
    (h : wpAnyH P md ops Q S fuel (listed.setIfInBounds i true) (a.put dst v) w) : wpAnyH P md ops Q S (fuel + 1) listed a w := by
  subst hd
  exact wpAnyH_take hi hs hf hr hQ hy hS h

theorem bel_next {w w1 w2 : World} (hc : Below w1.heap.size w1 w2) (hS : Below w.heap.size w w1) : Below w.heap.size w w2 := hS.trans (hc.mono hS.size)

set_option maxRecDepth 100000 in
set_option maxHeartbeats 3200000 in
theorem mof_any (R : Nat → Int) (w : World) :
    Calls Try.prog 13 #[.agg (numsL R).toArray] w fun e w' => ∃ v' L, e = .returned (.agg (poolC v' R).toArray) ∧ OwnB w.heap.size w' v' L ∧ Good L ∧ (∀ t : Nat, t < 64 → (covL L t ↔ R t = 0)) ∧ Below w.heap.size w w' := by
  obtain ⟨i0, hi, hz0, hz1, hz2⟩ := info_parts info_bool
  have hro1 : OwnRow ((w.alloc (.cells (numsL R).toArray 23)).alloc (.cells zCells 25)) w.heap.size 23 (numsL R) := by
    have h1 : OwnRow (w.alloc (.cells (numsL R).toArray 23)) w.heap.size 23 (numsL R) := heap_alloc_new w _
    exact h1.below ((Below.refl _ _).alloc (Nat.le_refl _) _) h1.lt
  have hro2 : OwnRow ((w.alloc (.cells (numsL R).toArray 23)).alloc (.cells zCells 25)) (w.heap.size + 1) 25 zeroC := by
    have := heap_alloc_new (w.alloc (.cells (numsL R).toArray 23)) (.cells zCells 25)
    simpa [OwnRow, zero_cells] using this
  have hbA : Below w.heap.size w ((w.alloc (.cells (numsL R).toArray 23)).alloc (.cells zCells 25)) := ((Below.refl _ _).alloc (Nat.le_refl _) _).alloc (by simp) _
  have hsz : ((w.alloc (.cells (numsL R).toArray 23)).alloc (.cells zCells 25)).heap.size = w.heap.size + 2 := by simp
  obtain ⟨N, hN⟩ : ∃ N, Hid (N = (numsL R).toArray) := ⟨_, rfl⟩
  have HNG : Hid (∀ i, i < 64 → N[i]? = some (.int .i64 (R i))) := fun i hi => by rw [hN.out]; simpa using numsL_get R i hi
  have HNS : Hid ((Try.prog.info? 23).map (·.size) = some N.size) := by show _ = _; rw [info_nums, hN.out]; simp [numsL_len]
  rw [← hN.out] at hro1 hro2 hbA hsz ⊢
  have hzv := zero_value
  have hzs := zero_size
  have hzn := zero_ne
  obtain ⟨w0, hw0⟩ : ∃ w0, w0 = (w.alloc (.cells N 23)).alloc (.cells zCells 25) := ⟨_, rfl⟩
  go_enter Try.func13, Try.ntmps13
  go_upto_region 1 with (fail)
  rw [← hw0] at hro1 hro2 hbA hsz ⊢
  clear hw0
  obtain ⟨G, hG⟩ : ∃ G, Hid (G = w0.heap.size) := ⟨_, rfl⟩
  have HR1 : Hid (∀ w1, Below w0.heap.size w0 w1 → w1.heap[w.heap.size]? = some (.cells N 23 (0, 0))) := fun w1 hb => by
    have := hro1.below hb hro1.lt
    rw [hN.out]
    exact this
  go_wp2_with (first
    | (at_make; refine wpList_make_row _ rfl _ _ 48 rfl 4 i0 (.bool false) Try.underlying48 hi hz0 hz1 rfl .i64 .i64 64 64 64 rfl rfl rfl rfl (by rw [hz2]; decide) (by decide) ?_; intro w1 hrow hb1 hsz1)
    | (refine wpList_load_row rfl 23 (.tmp 1) rfl w.heap.size rfl 23 N (0, 0) _ (HR1.out _ hb1) Try.underlying23 rfl HNS.out ?_))
  have hr1 := hro1.below hb1 hro1.lt
  have hr2 := hro2.below hb1 hro2.lt
  have hbb1 := hbA.trans (hb1.mono hbA.size)
  have hG2 : w.heap.size + 2 = G := by rw [hG.out, hsz]
  rw [← hG.out] at hrow
  rw [hG2]
  rw [← bitsL_none] at hrow
  clear hro1 hro2 hbA hsz hb1 hsz1 HR1
  go_loopw [8] (fun i wr => ∃ k : Nat, k ≤ 64 ∧ i = .int .i64 k ∧ Hid (OwnRow wr G 4 (bitsL (freeB R k)) ∧ OwnRow wr w.heap.size 23 (numsL R) ∧ OwnRow wr (w.heap.size + 1) 25 zeroC ∧ Below w.heap.size w wr)) (fun i _ => 64 - (intOf i).toNat)
  case atStart => exact ⟨0, Nat.zero_le _, rfl, by rw [freeB_zero]; exact hrow, hr1, hr2, hbb1⟩
  clear hrow hr1 hr2 hbb1
  case round =>
    obtain ⟨k, hk, rfl, hF⟩ := hrel
    by_cases hlt : k < 64
    · have hidx := index_nums N k _ hlt (HNG.out k hlt)
      have e0 : wr.cell? ⟨G, k, none⟩ = some (.bool (freeB R k k)) := by rw [hF.out.1.cell, bitsL_get _ _ hlt]
      have ef := hF.out.1.free k
      have HS : Hid (OwnRow (wr.setCell ⟨G, k, none⟩ (.bool (R k == 0))) G 4 (bitsL (freeB R (k + 1))) ∧ OwnRow (wr.setCell ⟨G, k, none⟩ (.bool (R k == 0))) w.heap.size 23 (numsL R) ∧ OwnRow (wr.setCell ⟨G, k, none⟩ (.bool (R k == 0))) (w.heap.size + 1) 25 zeroC ∧ Below w.heap.size w (wr.setCell ⟨G, k, none⟩ (.bool (R k == 0)))) := by
        have h1 := hF.out.1.set k (.bool (R k == 0))
        rw [bitsL_set, freeB_succ] at h1
        exact ⟨h1, hF.out.2.1.beside (by omega) _, hF.out.2.2.1.beside (by omega) _, hF.out.2.2.2.setCell (by simp only; omega) _⟩
      generalize R k = r at *
      clear hF
      go_wp2
      exact ⟨⟨k + 1, by omega, by go_num, HS.out⟩, by simp [intOf]; omega⟩
    · obtain rfl : k = 64 := by omega
      have HB : Hid (∀ t : Nat, t < 64 → (freeB R 64 t = true ↔ R t = 0)) := fun t ht => by unfold freeB; simp [ht]
      have hN0 : wr.drew.heap[w.heap.size]? = some (.cells N 23 (0, 0)) := by rw [hN.out]; exact hF.out.2.1
      have HRB : Hid (OwnRow wr.drew G 4 (bitsL (freeB R 64))) := hF.out.1
      have hbd : Below wr.heap.size wr wr.drew := (Below.refl _ _).drew
      have HR2 : Hid (OwnRow wr.drew (w.heap.size + 1) 25 zeroC ∧ Below w.heap.size w wr.drew) := ⟨hF.out.2.2.1, bel_next hbd hF.out.2.2.2⟩
      have HZ : Hid (zeroC.toArray.size = 65) := rfl
      have hlt2 : w.heap.size + 2 ≤ wr.drew.heap.size := by
        have h1 : G < wr.heap.size := hF.out.1.lt
        have h2 : wr.drew.heap.size = wr.heap.size := rfl
        omega
      have HLT : Hid (w.heap.size + 2 ≤ wr.drew.heap.size) := hlt2
      clear hF hbd hG hG2 hlt2
      go_wp2_with fail
      refine wp_region_held_drew (S := fun a => a.heap[w.heap.size]? = some (.cells N 23 (0, 0))) (by kernel_rfl) hN0 (fun hHeld => ?_)
      refine take_to 0 (some 18) (v := ?_) rfl rfl (by kernel_rfl) (by kernel_rfl) (by kernel_rfl) (fun _ _ _ h => h) (Or.inl ⟨by rfl, ?_⟩) (by assumption) ?_
      rotate_left
      · intro w hSw
        go_simp
        with_reducible rfl
      simp only [Act.put, List.setIfInBounds_toArray, List.set_cons_zero, List.set_cons_succ]
      refine take_to 2 (some 20) (v := .agg N) rfl rfl (by kernel_rfl) (by kernel_rfl) (by kernel_rfl) (fun _ _ _ h => h) (yields_row (by rfl) 23 _ (by rfl) w.heap.size (by rfl) 23 N _ (fun a h => h) Try.underlying23 rfl HNS.out) (by assumption) ?_
      simp only [Act.put, List.setIfInBounds_toArray, List.set_cons_zero, List.set_cons_succ]
      refine wpAnyH_ready (rs := [1]) (by kernel_rfl) (by simp) ?_
      refine AllReadyH.cons rfl (fun K hK => ?_) AllReadyH.nil
      go_simp
      refine (bblocks_any G _ wr.drew HRB.out).mono ?_
      rintro e w2 ⟨v2, L, rfl, ho, hgd, hcv, hb2⟩
      obtain ⟨a2, n2, c2, rfl⟩ := ho.form
      have hr2 := HR2.out.1.below hb2 HR2.out.1.lt
      have hbb2 := bel_next hb2 HR2.out.2
      have hNb := heap_below hN0 hb2
      have HF : Hid _ := pool_facts (v := .slice a2 n2 c2) rfl R
      have HU : Hid (Try.prog.built 25 [(0, .slice a2 n2 c2), (1, .agg N)] = some (poolC (.slice a2 n2 c2) R).toArray) := by rw [hN.out]; exact built_both a2 n2 c2 R
      obtain ⟨Y, hY⟩ : ∃ Y, Hid (Y = (poolC (.slice a2 n2 c2) R).toArray) := ⟨_, rfl⟩
      rw [← hY.out] at HF HU
      have HR : Hid (w2.heap[w.heap.size + 1]? = some (.cells zeroC.toArray 25 (0, 0))) := hr2
      have HEND : Hid (OwnB w.heap.size (w2.setRow (w.heap.size + 1) Y) (.slice a2 n2 c2) L ∧ Good L ∧ (∀ t : Nat, t < 64 → (covL L t ↔ R t = 0)) ∧ Below w.heap.size w (w2.setRow (w.heap.size + 1) Y)) :=
        ⟨((ho.mono HLT.out).kept (fun k hk _ => setRow_other _ _ _ _ (by omega))).mono (by omega), hgd, fun t ht => (hcv t ht).symm.trans (HB.out t ht), below_setRow hbb2 (by omega) _⟩
      clear ho hgd hcv hr2 hbb2 HB HR2 HRB HLT hzv hzs hzn
      go_wp2_with fail
      refine hK.out _ _ hNb (fun hHeld2 => ?_)
      clear hK K hHeld hN0
      try simp only [Act.put, List.setIfInBounds_toArray, List.set_cons_zero, List.set_cons_succ]
      refine take_to 3 (some 21) (v := .agg Y) rfl rfl (by kernel_rfl) (by kernel_rfl) (by kernel_rfl) (fun _ _ _ h => h) (yields_build (by rfl) 25 _ (by rfl) _ (by rfl) Y HU.out) (by assumption) ?_
      simp only [Act.put, List.setIfInBounds_toArray, List.set_cons_zero, List.set_cons_succ]
      refine wpAnyH_ready (rs := [4]) (by kernel_rfl) (by simp) ?_
      refine AllReadyH.cons rfl (fun K hK => ?_) AllReadyH.nil
      rw [if_pos (by rfl)]
      refine wp_store_row 25 (.tmp 2) _ rfl (w.heap.size + 1) Y rfl rfl 25 _ HR.out HF.out.1 (by rw [HF.out.2.1]; exact HZ.out) HF.out.2.2 ?_
      refine hK.out _ _ (by show (w2.setRow (w.heap.size + 1) Y).heap[w.heap.size]? = _; rw [setRow_other _ _ _ _ (by omega)]; exact hNb) (fun hHeld3 => ?_)
      clear hK K
      refine wpAnyH_done (by kernel_rfl) ?_ _
      go_wp2_with fail
      exact bodyPost_ret (v := .agg Y) (results_cell_row Try.results13 _ _ (w.heap.size + 1) 25 Y (0, 0) _ rfl (setRow_heap _ _ _ _ _ _ HR.out) Try.underlying25 rfl HF.out.1) rfl ⟨_, L, by rw [hY.out], HEND.out⟩

end Go.Proofs.Yticmloddkngfnah
