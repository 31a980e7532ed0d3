/- The walk of framewardenlaw.TlbPlays: it returns true, and nothing that was there is written. -/
import Derived.Test.YtgkdbcafijhdiacTlbRef
namespace Go.Proofs.Ytgkdbcafijhdiac
open Go.RowKit
set_option linter.unusedSimpArgs false
set_option linter.unusedVariables false

set_option maxHeartbeats 800000 in
theorem tlbPlays_walk (v : Value) (l : List C4) (w : World) (h : IsRecs encC 4398046510976 w v l) :
    Calls Try.prog 7 #[v] w fun e w' => e = .returned (.bool true) ∧ Below w.heap.size w w' := by
  have h' : IsRecs encC 4398046511000 w v l := by
    obtain ⟨a, cap, rfl, h1, h2, h3⟩ := h
    exact ⟨a, cap, rfl, h1, by omega, h3⟩
  have h8 := play_le l
  have HP : Hid (Calls Try.prog 19 #[v] w fun e w' => ∃ v', e = .returned v' ∧ IsRecs encC 9 w' v' (play l) ∧ Below w.heap.size w w') :=
    (play_any v l w h').mono fun e w' ⟨he, hr, hb⟩ => ⟨_, he, hr.recs (by omega), hb⟩
  have HF : Hid (∀ w1, Below w.heap.size w w1 → Calls Try.prog 20 #[v] w1 fun e w' => ∃ v', e = .returned v' ∧ IsRecs encC 9 w' v' (play l) ∧ Below w1.heap.size w1 w') := fun w1 hb => fplay_any v l w1 (h'.below hb)
  have HE : Hid (∀ v1 v2 w1, IsRecs encC 9 w1 v1 (play l) → IsRecs encC 9 w1 v2 (play l) → Calls Try.prog 18 #[v1, v2] w1 fun e w' => e = .returned (.bool true) ∧ Below w1.heap.size w1 w') :=
    fun v1 v2 w1 h1 h2 => cequal_is v1 v2 _ _ 9 w1 h1 h2 (by decide) (by simp)
  obtain ⟨a, cap, rfl⟩ := h.form
  generalize play l = M at HP HF HE
  clear h h' h8
  go_enter Try.func7, Try.ntmps7
  go_wp2_with (first
    | (go_at_call 19; refine (HP.out).mono ?_; rintro e w1 ⟨v1, rfl, hr1, hw1⟩)
    | (go_at_call 20; refine (HF.out _ hw1).mono ?_; rintro e w2 ⟨v2, rfl, hr2, hw2⟩)
    | (go_at_call 18; refine (HE.out _ _ _ (hr1.below hw2) hr2).mono ?_; rintro e w3 ⟨rfl, hw3⟩))
  go_ret
  have hb2 := hw1.trans (hw2.mono hw1.size)
  exact ⟨rfl, hb2.trans (hw3.mono hb2.size)⟩

end Go.Proofs.Ytgkdbcafijhdiac
