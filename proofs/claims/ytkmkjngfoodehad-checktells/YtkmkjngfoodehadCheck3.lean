/- The contracts of the document's own answers: framewardenref.GWrong, gbit, GPage and GTags. -/
import Derived.Test.YtkmkjngfoodehadCheck2
namespace Go.Proofs.Ytkmkjngfoodehad
open Go.RowKit
set_option linter.unusedSimpArgs false
set_option linter.unusedVariables false

theorem wrg_six {r : Int} (h0 : 0 ≤ r) (h7 : r ≤ 7) : (hs r 2 = true ∧ hs r 4 = true) ↔ 6 ≤ r := by
  rw [hs_2, hs_4, decide_eq_true_eq, decide_eq_true_eq]
  omega

set_option maxHeartbeats 400000 in
theorem gwrong_any (r : Int) (w : World) :
    Calls Try.prog 20 #[.int .i64 r] w fun e w' => e = .returned (.int .i64 (wrg r)) ∧ w = w' := by
  have hw : Hid (wrg r = if r < 0 ∨ 7 < r then 2 else if 6 ≤ r then 6 else 0) := by
    show _ = _
    unfold wrg
    split
    · rfl
    · rename_i h
      have := wrg_six (r := r) (by omega) (by omega)
      by_cases h6 : 6 ≤ r
      · rw [if_pos (this.2 h6), if_pos h6]
      · rw [if_neg (fun h => h6 (this.1 h)), if_neg h6]
  generalize wrg r = W at *
  have hc : r < 0 ∨ 7 < r ∨ (0 ≤ r ∧ r ≤ 7 ∧ 6 ≤ r) ∨ (0 ≤ r ∧ r < 6) := by omega
  rcases hc with h | h | ⟨h1, h2, h3⟩ | ⟨h1, h2⟩
  · obtain rfl : W = 2 := by rw [hw.out, if_pos (by omega)]
    clear hw
    go_enter Try.func20, Try.ntmps20
    go_wp2
    go_ret
    exact ⟨rfl, rfl⟩
  · obtain rfl : W = 2 := by rw [hw.out, if_pos (by omega)]
    clear hw
    go_enter Try.func20, Try.ntmps20
    go_wp2
    go_ret
    exact ⟨rfl, rfl⟩
  · obtain rfl : W = 6 := by rw [hw.out, if_neg (by omega), if_pos h3]
    clear hw
    go_enter Try.func20, Try.ntmps20
    go_wp2
    go_ret
    exact ⟨rfl, rfl⟩
  · obtain rfl : W = 0 := by rw [hw.out, if_neg (by omega), if_neg (by omega)]
    clear hw
    go_enter Try.func20, Try.ntmps20
    go_wp2
    go_ret
    exact ⟨rfl, rfl⟩

set_option maxHeartbeats 400000 in
theorem gbit_any (n y : Int) (w : World) (hy : way3 y) :
    Calls Try.prog 29 #[.int .i64 n, .int .i64 y] w fun e w' => e = .returned (.bool (hs n y)) ∧ w = w' := by
  rcases hy with rfl | rfl | rfl
  · rw [hs_1]
    go_enter Try.func29, Try.ntmps29
    go_wp2
    go_ret
    refine ⟨ret_bool ?_, rfl⟩
    rw [IntKind.wrap_u64, IntKind.wrap_u64, Int.tmod_eq_emod_of_nonneg (by omega), Bool.eq_iff_iff, beq_iff_eq, decide_eq_true_eq]
    omega
  · rw [hs_2]
    go_enter Try.func29, Try.ntmps29
    go_wp2
    go_ret
    refine ⟨ret_bool ?_, rfl⟩
    rw [IntKind.wrap_u64, IntKind.wrap_u64, Int.tdiv_eq_ediv_of_nonneg (by omega), Int.tmod_eq_emod_of_nonneg (by omega), Bool.eq_iff_iff, beq_iff_eq, decide_eq_true_eq]
    omega
  · rw [hs_4]
    go_enter Try.func29, Try.ntmps29
    go_wp2
    go_ret
    refine ⟨ret_bool ?_, rfl⟩
    rw [IntKind.wrap_u64, IntKind.wrap_u64, Int.tdiv_eq_ediv_of_nonneg (by omega), Int.tmod_eq_emod_of_nonneg (by omega), Bool.eq_iff_iff, beq_iff_eq, decide_eq_true_eq]
    omega

end Go.Proofs.Ytkmkjngfoodehad
