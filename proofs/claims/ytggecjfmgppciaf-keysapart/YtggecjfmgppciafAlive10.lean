/- The contract of framewardenkeep.alive10: it returns true, and nothing that was there is written. -/
import Derived.Test.YtggecjfmgppciafKeys3
namespace Go.Proofs.Ytggecjfmgppciaf
open Go.RowKit
set_option linter.unusedSimpArgs false
set_option linter.unusedVariables false

theorem alive10_facts : (nwL (true, 0, false, 0, false, 0, false, 0) = (true, 0, true, 0, false, 0, false, 0) ∧ nwN (true, 0, false, 0, false, 0, false, 0) = 1 ∧ nwE (true, 0, false, 0, false, 0, false, 0) = 0) ∧
    (stL (true, 0, true, 0, false, 0, false, 0) 1 2 = (true, 0, true, 2, false, 0, false, 0) ∧ stE (true, 0, true, 0, false, 0, false, 0) 1 2 = 0) ∧
    (frL (true, 0, true, 2, false, 0, false, 0) 1 = (true, 0, false, 0, false, 0, false, 0) ∧ frE (true, 0, true, 2, false, 0, false, 0) 1 = 0) := by
  refine ⟨⟨?_, ?_, ?_⟩, ⟨?_, ?_⟩, ?_, ?_⟩ <;> rfl

set_option maxHeartbeats 1600000 in
theorem alive10_any (w : World) :
    Calls Try.prog 25 #[] w fun e w' => e = .returned (.bool true) ∧ Below w.heap.size w w' := by
  obtain ⟨⟨f1, f2, f3⟩, ⟨f4, f5⟩, f6, f7⟩ := alive10_facts
  have HF : Hid (∀ w1, Calls Try.prog 24 #[] w1 fun e w' => e = .returned (.agg #[.bool true, .int .i64 0, .bool false, .int .i64 0, .bool false, .int .i64 0, .bool false, .int .i64 0]) ∧ Below w1.heap.size w1 w') := fun w1 => first_any w1
  have H1 : Hid (∀ w1, Calls Try.prog 19 #[.agg #[.bool true, .int .i64 0, .bool false, .int .i64 0, .bool false, .int .i64 0, .bool false, .int .i64 0]] w1 fun e w' => e = .returned (.tuple #[.agg #[.bool true, .int .i64 0, .bool true, .int .i64 0, .bool false, .int .i64 0, .bool false, .int .i64 0], .int .i64 1, .int .i64 0]) ∧ Below w1.heap.size w1 w') := fun w1 => by
    have := new_any (true, 0, false, 0, false, 0, false, 0) w1
    rw [f1, f2, f3] at this
    exact this
  have H2 : Hid (∀ w1, Calls Try.prog 23 #[.agg #[.bool true, .int .i64 0, .bool true, .int .i64 0, .bool false, .int .i64 0, .bool false, .int .i64 0], .int .i64 1, .int .i64 2] w1 fun e w' => e = .returned (.tuple #[.agg #[.bool true, .int .i64 0, .bool true, .int .i64 2, .bool false, .int .i64 0, .bool false, .int .i64 0], .int .i64 0]) ∧ Below w1.heap.size w1 w') := fun w1 => by
    have := set_any (true, 0, true, 0, false, 0, false, 0) 1 2 w1
    rw [f4, f5] at this
    exact this
  have H3 : Hid (∀ w1, Calls Try.prog 21 #[.agg #[.bool true, .int .i64 0, .bool true, .int .i64 2, .bool false, .int .i64 0, .bool false, .int .i64 0], .int .i64 1] w1 fun e w' => e = .returned (.tuple #[.agg #[.bool true, .int .i64 0, .bool false, .int .i64 0, .bool false, .int .i64 0, .bool false, .int .i64 0], .int .i64 0]) ∧ Below w1.heap.size w1 w') := fun w1 => by
    have := free_any (true, 0, true, 2, false, 0, false, 0) 1 w1
    rw [f6, f7] at this
    exact this
  clear f1 f2 f3 f4 f5 f6 f7
  go_enter Try.func25, Try.ntmps25
  go_wp2_with fail
  refine (HF.out _).mono ?_
  rintro e w0 ⟨rfl, hb0⟩
  go_wp2_with fail
  refine (H1.out _).mono ?_
  rintro e w1 ⟨rfl, hb1⟩
  have hw1 := hb0.trans (hb1.mono hb0.size)
  clear hb0 hb1
  go_wp2_with fail
  refine (H2.out _).mono ?_
  rintro e w2 ⟨rfl, hb2⟩
  have hw2 : Below w.heap.size w w2 := (below_al hw1 _).trans (hb2.mono (below_al hw1 _).size)
  clear hb2 hw1
  go_wp2_with fail
  refine (H3.out _).mono ?_
  rintro e w3 ⟨rfl, hb3⟩
  have hw3 : Below w.heap.size w w3 := (below_al hw2 _).trans (hb3.mono (below_al hw2 _).size)
  have hA := own_one (xs := [_, _, _, _, _, _, _, _]) hb3
  obtain ⟨⟨a0, a1, a2, a3⟩, ⟨a4, a5, a6, a7⟩⟩ := hA.eight
  have hzA : w2.heap.size < w3.heap.size := hA.lt
  clear hb3 hw2 hA
  go_wp2_with fail
  have hbx := below_al hw3 (.cells #[.bool true, .int .i64 0, .bool false, .int .i64 0, .bool false, .int .i64 0, .bool false, .int .i64 0] 45)
  refine wp_region_calm (by kernel_rfl) (by kernel_rfl) (fun W hW _ => ?_)
  have hq := eql_keys true 0 false 0 false 0 false 0
  have hg := eqGuard_keys
  have hc0 : ∀ u : Wd W, u.w.cell? ⟨w2.heap.size, 3, none⟩ = some (.int .i64 2) := fun u => u.cell (by rw [hW]; exact (((Below.refl _ _).alloc (Nat.le_refl _) _).cell hzA).trans a3)
  have hd0 : ∀ u : Wd W, u.w.cell? ⟨w3.heap.size, 0, none⟩ = some (.bool true) := fun u => u.cell (by rw [hW]; simp)
  have hd1 : ∀ u : Wd W, u.w.cell? ⟨w3.heap.size, 1, none⟩ = some (.int .i64 0) := fun u => u.cell (by rw [hW]; simp)
  have hd2 : ∀ u : Wd W, u.w.cell? ⟨w3.heap.size, 2, none⟩ = some (.bool false) := fun u => u.cell (by rw [hW]; simp)
  have hd3 : ∀ u : Wd W, u.w.cell? ⟨w3.heap.size, 3, none⟩ = some (.int .i64 0) := fun u => u.cell (by rw [hW]; simp)
  have hd4 : ∀ u : Wd W, u.w.cell? ⟨w3.heap.size, 4, none⟩ = some (.bool false) := fun u => u.cell (by rw [hW]; simp)
  have hd5 : ∀ u : Wd W, u.w.cell? ⟨w3.heap.size, 5, none⟩ = some (.int .i64 0) := fun u => u.cell (by rw [hW]; simp)
  have hd6 : ∀ u : Wd W, u.w.cell? ⟨w3.heap.size, 6, none⟩ = some (.bool false) := fun u => u.cell (by rw [hW]; simp)
  have hd7 : ∀ u : Wd W, u.w.cell? ⟨w3.heap.size, 7, none⟩ = some (.int .i64 0) := fun u => u.cell (by rw [hW]; simp)
  have hbW : Below w.heap.size w W := by rw [hW]; exact hbx
  clear hW a0 a1 a2 a3 a4 a5 a6 a7 hbx hw3
  repeat (go_big_quiet_step (first | (go_at_call 24; exact calm_of (HF.out _))))
  refine wpQuiet_nil ?_
  rintro w5 ⟨⟨_, hw5⟩, rfl⟩
  go_wp2
  go_ret
  exact ⟨rfl, hbW.trans (hw5.mono hbW.size)⟩

end Go.Proofs.Ytggecjfmgppciaf
