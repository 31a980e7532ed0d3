/- Two pools compared (framewardenref.SamePool) where they are alike: it answers true, and nothing that was there is written. -/
import Derived.Test.YticmloddkngfnahPool4
import Derived.Laws.StructEq
import Derived.ChangeKeysEq
namespace Go.Proofs.Yticmloddkngfnah
open Go.RowKit
set_option linter.unusedSimpArgs false
set_option linter.unusedVariables false

theorem wpList_load_mid_g {P : Program} {ops : Array Oper} {rest : List Oper} {o : Oper} {a : Act} {w : World} {Q : Exit → Act → World → Prop} (ty : TypeId) (x : Operand) (ho : o.op = .load ty x) (hw : Region.wanted o (yielded ops a.tmps) = true)
    (b k : Nat) (hx : a.eval x = .pointer (some ⟨b, k, none⟩)) (cs : List Value) (d : TypeDesc) (hc : w.rangeAt b k cs)
    (hu : P.underlying ty = some d) (hd : d.isRow = true) (hi : (P.info? ty).map (·.size) = some cs.length)
    (h : wpList P ops Q rest (a.put o.dst (.agg cs.toArray)) w) : wpList P ops Q (o :: rest) a w :=
  wpList_step fun K hK => by
    rw [if_pos hw]
    exact wp_load_mid ty x ho b k hx cs d hc hu hd hi (hK _ _ h)

theorem eqGuard_nums (op : BinOp) (a b : Operand) (xs ys : Array Value) (w : World) : (eqGuard op 23 a b (.agg xs) (.agg ys)).run Try.prog w = .ok () w := by
  exact run_eqGuard_agg w op 23 a b xs ys (by kernel_rfl)

theorem eqItems_nums (R : Nat → Int) (D : Nat) (w : World) : ∀ is : List Nat, (∀ i ∈ is, i < 64) → (Op.eqItems (D + 1) 3 (Try.prog.cellsOf 3) (numsL R).toArray (numsL R).toArray is).run Try.prog w = .ok true w
  | [], _ => by simp [Op.eqItems]
  | i :: is, h => by
    have hi : i < 64 := h i (by simp)
    have hc : Try.prog.cellsOf 3 = 1 := by kernel_rfl
    have hk : Try.prog.plainKey 3 = true := by kernel_rfl
    have hp := run_part_plain (P := Try.prog) w hk (xs := (numsL R).toArray) (off := i * Try.prog.cellsOf 3) (v := .int .i64 (R i)) (by rw [hc, Nat.mul_one]; simpa using numsL_get R i hi)
    have he := run_equalIn_int (P := Try.prog) w D 3 .i64 .i64 (R i) (R i) Try.underlying3
    have ih := eqItems_nums R D w is (fun j hj => h j (by simp [hj]))
    simp only [Op.eqItems, Sem.run_bind, hp, he, Result.andThen_ok, beq_self_eq_true, Bool.not_true, Bool.false_eq_true, if_false, ih]

/-- Sixty-four numbers are what they are. -/
theorem eql_nums (R : Nat → Int) (w : World) : (binOp .eql 23 (.agg (numsL R).toArray) (.agg (numsL R).toArray)).run Try.prog w = .ok (.bool true) w := by
  obtain ⟨i, hi⟩ : ∃ i, Try.prog.info? 3 = some i := ⟨_, rfl⟩
  rw [run_eql_struct, show (10000 : Nat) = 9998 + 1 + 1 from rfl, run_equalIn_array w (9998 + 1) _ _ Try.underlying23 hi, eqItems_nums R 9998 w _ (fun i hi => List.mem_range.1 hi)]
  rfl

set_option maxRecDepth 100000 in
set_option maxHeartbeats 1600000 in
theorem samePool_any (v u : Value) (l : List (Int × Int)) (R : Nat → Int) (w : World) (h : IsBlocks w v l) (hu : IsBlocks w u l) :
    Calls Try.prog 11 #[.agg (poolC v R).toArray, .agg (poolC u R).toArray] w fun e w' => e = .returned (.bool true) ∧ Below w.heap.size w w' := by
  have HI : Hid (∀ w1, Below w.heap.size w w1 → Calls Try.prog 22 #[v, u] w1 fun e w' => e = .returned (.bool true) ∧ Below w1.heap.size w1 w') := fun w1 hb => equal_is _ _ l l w1 (h.below hb) (hu.below hb) (by simp)
  obtain ⟨hr1, hr2⟩ := own_two (w := w) (xs := poolC v R) (ys := poolC u R) (e := 25) (e' := 25) (Below.refl _ _)
  have hbA : Below w.heap.size w ((w.alloc (.cells (poolC v R).toArray 25)).alloc (.cells (poolC u R).toArray 25)) := ((Below.refl _ _).alloc (Nat.le_refl _) _).alloc (by simp) _
  have hsz : ((w.alloc (.cells (poolC v R).toArray 25)).alloc (.cells (poolC u R).toArray 25)).heap.size = w.heap.size + 2 := by simp
  obtain ⟨va, vn, vc, rfl⟩ := h.form
  obtain ⟨ua, un, uc, rfl⟩ := hu.form
  have hx0 : (poolC (.slice va vn vc) R).toArray[0]? = some (.slice va vn vc) := rfl
  have hy0 : (poolC (.slice ua un uc) R).toArray[0]? = some (.slice ua un uc) := rfl
  obtain ⟨X, hX⟩ : ∃ X, Hid (X = (poolC (.slice va vn vc) R).toArray) := ⟨_, rfl⟩
  obtain ⟨Y, hY⟩ : ∃ Y, Hid (Y = (poolC (.slice ua un uc) R).toArray) := ⟨_, rfl⟩
  rw [← hX.out] at hr1 hr2 hbA hsz hx0 ⊢
  rw [← hY.out] at hr1 hr2 hbA hsz hy0 ⊢
  clear h hu hX hY
  have HQ : Hid _ := eql_nums R
  obtain ⟨L, hL⟩ : ∃ L, Hid (L = numsL R) := ⟨_, rfl⟩
  have HSN : Hid ((Try.prog.info? 23).map (·.size) = some L.length) := by show _ = _; rw [info_nums, hL.out, numsL_len]
  rw [← hL.out] at HQ
  obtain ⟨w0, hw0⟩ : ∃ w0, w0 = (w.alloc (.cells X 25)).alloc (.cells Y 25) := ⟨_, rfl⟩
  go_enter Try.func11, Try.ntmps11
  go_wp2_with fail
  rw [← hw0] at hr1 hr2 hbA hsz ⊢
  clear hw0 hx0 hy0
  refine (HI.out _ hbA).mono ?_
  rintro e w1 ⟨rfl, hb1⟩
  have HR1 : Hid (w1.rangeAt w.heap.size 1 L) := by rw [hL.out]; exact (hr1.below hb1 hr1.lt).nums
  have HR2 : Hid (w1.rangeAt (w.heap.size + 1) 1 L) := by rw [hL.out]; exact (hr2.below hb1 hr2.lt).nums
  have HB : Hid (Below w.heap.size w w1) := hbA.trans (hb1.mono hbA.size)
  clear hr1 hr2 hbA hb1 hsz hL
  have hq := HQ.out
  have hg := eqGuard_nums
  go_wp2_with (first
    | (refine wpList_load_mid_g 23 (.tmp 11) rfl (by simp [Region.wanted, yielded]) w.heap.size 1 rfl L _ HR1.out Try.underlying23 rfl HSN.out ?_)
    | (refine wpList_load_mid_g 23 (.tmp 13) rfl (by simp [Region.wanted, yielded]) (w.heap.size + 1) 1 rfl L _ HR2.out Try.underlying23 rfl HSN.out ?_))
  go_ret
  exact ⟨rfl, HB.out⟩

end Go.Proofs.Yticmloddkngfnah
