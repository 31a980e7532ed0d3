/- The contracts of pool.wrong and pool.copied: what each call returns, and that nothing that was there is written. -/
import Derived.Test.YticmloddkngfnahPool2
namespace Go.Proofs.Yticmloddkngfnah
open Go.RowKit
set_option linter.unusedSimpArgs false
set_option linter.unusedVariables false

/-- A pool's row of nothing. -/
abbrev zeroC : List Value := poolC (.slice none 0 0) fun _ => 0

theorem OwnRow.refs {w : World} {g : Nat} {e : TypeId} {v : Value} {R : Nat → Int} (h : OwnRow w g e (poolC v R)) (i : Nat) (hi : i < 64) : w.cell? ⟨g, 1 + i, none⟩ = some (.int .i64 (R i)) := by
  rw [h.cell, poolC_get v R i hi]

set_option maxRecDepth 100000 in
set_option maxHeartbeats 1600000 in
theorem wrong13_any (v : Value) (l : List (Int × Int)) (R : Nat → Int) (n : Int) (w : World) (h : IsBlocks w v l) :
    Calls Try.prog 19 #[.agg (poolC v R).toArray, .int .i64 n] w fun e w' => e = .returned (.int .i64 (pwE l R n)) ∧ Below w.heap.size w w' := by
  have HI : Hid (∀ w1, Below w.heap.size w w1 → Calls Try.prog 14 #[.agg (poolC v R).toArray] w1 fun e w' => e = .returned (.bool (poolB l R)) ∧ Below w1.heap.size w1 w') := fun w1 hb => right13_any v l R w1 (h.below hb)
  have hbA : Below w.heap.size w (w.alloc (.cells (poolC v R).toArray 25)) := (Below.refl _ _).alloc (Nat.le_refl _) _
  have hro : OwnRow (w.alloc (.cells (poolC v R).toArray 25)) w.heap.size 25 (poolC v R) := heap_alloc_new w _
  obtain ⟨va, vn, vc, rfl⟩ := h.form
  have HF : Hid _ := pool_facts (v := .slice va vn vc) rfl R
  have HNW : Hid ((w.alloc (.cells (poolC (.slice va vn vc) R).toArray 25)).heap[w.heap.size]? = some (.cells (poolC (.slice va vn vc) R).toArray 25 (0, 0))) := hro
  obtain ⟨X, hX⟩ : ∃ X, Hid (X = (poolC (.slice va vn vc) R).toArray) := ⟨_, rfl⟩
  rw [← hX.out] at hbA hro HF HNW HI ⊢
  have HRO : Hid (OwnRow (w.alloc (.cells X 25)) w.heap.size 25 (poolC (.slice va vn vc) R)) := hro
  have HBA : Hid (Below w.heap.size w (w.alloc (.cells X 25))) := hbA
  clear hro hbA h hX
  have HE : Hid (pwE l R n = if poolB l R then if n < 0 ∨ 63 < n ∨ R n.toNat = 0 then 3 else 0 else 1) := rfl
  generalize pwE l R n = E at *
  cases hp : poolB l R with
  | false =>
    rw [hp] at HI HE
    have HEE : Hid (E = 1) := by show _ = _; rw [HE.out]; rfl
    clear hp HE
    go_enter Try.func19, Try.ntmps19
    go_wp2_with (refine wpList_load_row rfl 25 (.tmp 2) rfl w.heap.size rfl 25 X (0, 0) _ HNW.out Try.underlying25 rfl HF.out.1 ?_)
    refine (HI.out _ HBA.out).mono ?_
    rintro e w1 ⟨rfl, hb1⟩
    go_wp2
    go_ret
    exact ⟨ret_int HEE.out.symm, HBA.out.trans (hb1.mono HBA.out.size)⟩
  | true =>
    rw [hp] at HI HE
    have HE2 : Hid (E = if n < 0 ∨ 63 < n ∨ R n.toNat = 0 then 3 else 0) := by show _ = _; rw [HE.out]; rfl
    clear hp HE
    by_cases h0 : n < 0
    · have HEE : Hid (E = 3) := by show _ = _; rw [HE2.out, if_pos (Or.inl h0)]
      clear HE2
      go_enter Try.func19, Try.ntmps19
      go_wp2_with (refine wpList_load_row rfl 25 (.tmp 2) rfl w.heap.size rfl 25 X (0, 0) _ HNW.out Try.underlying25 rfl HF.out.1 ?_)
      refine (HI.out _ HBA.out).mono ?_
      rintro e w1 ⟨rfl, hb1⟩
      go_wp2
      go_ret
      exact ⟨ret_int HEE.out.symm, HBA.out.trans (hb1.mono HBA.out.size)⟩
    · by_cases h6 : 63 < n
      · have HEE : Hid (E = 3) := by show _ = _; rw [HE2.out, if_pos (Or.inr (Or.inl h6))]
        clear HE2
        go_enter Try.func19, Try.ntmps19
        go_wp2_with (refine wpList_load_row rfl 25 (.tmp 2) rfl w.heap.size rfl 25 X (0, 0) _ HNW.out Try.underlying25 rfl HF.out.1 ?_)
        refine (HI.out _ HBA.out).mono ?_
        rintro e w1 ⟨rfl, hb1⟩
        go_wp2
        go_ret
        exact ⟨ret_int HEE.out.symm, HBA.out.trans (hb1.mono HBA.out.size)⟩
      · obtain ⟨m, rfl⟩ : ∃ m : Nat, n = m := ⟨n.toNat, by omega⟩
        have hm : m < 64 := by omega
        rw [Int.toNat_natCast] at HE2
        have HC : Hid (∀ w1, Below (w.alloc (.cells X 25)).heap.size (w.alloc (.cells X 25)) w1 → w1.cell? ⟨w.heap.size, 1 + m, none⟩ = some (.int .i64 (R m))) := fun w1 hb => (HRO.out.below hb HRO.out.lt).refs m hm
        generalize R m = r at *
        by_cases hr : r = 0
        · have HEE : Hid (E = 3) := by show _ = _; rw [HE2.out, if_pos (Or.inr (Or.inr hr))]
          subst hr
          clear HE2
          go_enter Try.func19, Try.ntmps19
          go_wp2_with (refine wpList_load_row rfl 25 (.tmp 2) rfl w.heap.size rfl 25 X (0, 0) _ HNW.out Try.underlying25 rfl HF.out.1 ?_)
          refine (HI.out _ HBA.out).mono ?_
          rintro e w1 ⟨rfl, hb1⟩
          have hc := HC.out _ hb1
          go_wp2
          go_ret
          exact ⟨ret_int HEE.out.symm, HBA.out.trans (hb1.mono HBA.out.size)⟩
        · have HEE : Hid (E = 0) := by show _ = _; rw [HE2.out, if_neg (by omega)]
          have hd : (r == 0) = false := by simpa using hr
          clear HE2
          go_enter Try.func19, Try.ntmps19
          go_wp2_with (refine wpList_load_row rfl 25 (.tmp 2) rfl w.heap.size rfl 25 X (0, 0) _ HNW.out Try.underlying25 rfl HF.out.1 ?_)
          refine (HI.out _ HBA.out).mono ?_
          rintro e w1 ⟨rfl, hb1⟩
          have hc := HC.out _ hb1
          go_wp2
          go_ret
          exact ⟨ret_int HEE.out.symm, HBA.out.trans (hb1.mono HBA.out.size)⟩

end Go.Proofs.Yticmloddkngfnah
