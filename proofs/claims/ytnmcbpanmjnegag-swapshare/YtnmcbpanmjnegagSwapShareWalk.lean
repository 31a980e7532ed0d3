/- The walk of framewardenkeep.SwapShare: shared, and dropped again, it is as it was. -/
import Derived.Test.YtnmcbpanmjnegagAlive12
import Derived.Test.YtnmcbpanmjnegagSlotsOpen
namespace Go.Proofs.Ytnmcbpanmjnegag
open Go.RowKit
set_option linter.unusedSimpArgs false
set_option linter.unusedVariables false

theorem share_few {l : List Sl} {n : Int} (h : shE l n = 0) : ((shL l n).getD n.toNat z0).1 ≤ 9223372036854775807 := by
  cases hm : mt l n with
  | false => rw [(shE_none hm).1] at h; cases h
  | true =>
    by_cases h4 : 4 ≤ (l.getD n.toNat z0).1
    · rw [(shE_full hm h4).1] at h; cases h
    · have := mt_len hm
      rw [(shE_ok hm h4).2, getD_set_self (by omega)]
      simp only
      omega

set_option maxHeartbeats 1600000 in
theorem swapShare_walk (v : Value) (l : List Sl) (n : Int) (w : World) (h : IsSlots w v l) (hf : FewRefs l) (hn : (Lit.int .i64 n).wf = true) :
    Calls Try.prog 8 #[v, .int .i64 n] w fun e w' => e = .returned (.bool true) ∧ Below w.heap.size w w' := by
  have HA : Hid (Calls Try.prog 22 #[] w fun e w' => e = .returned (.bool true) ∧ Below w.heap.size w w') := alive12_any w
  have HSH : Hid (∀ w1, Below w.heap.size w w1 → Calls Try.prog 15 #[v, .int .i64 n] w1 fun e w' => ∃ a N c, e = .returned (.tuple #[.slice a N c, .int .i64 (shE l n)]) ∧ IsSlots w' (.slice a N c) (shL l n) ∧ Below w.heap.size w w') :=
    fun w1 hb1 => (share_any v l n w1 (h.below hb1)).mono fun e w' ⟨a, N, c, he, hs, hb⟩ => ⟨a, N, c, he, hs, bel_next hb hb1⟩
  have HIN : Hid (∀ w1, Below w.heap.size w w1 → IsSlots w1 v l) := fun w1 hb1 => h.below hb1
  by_cases h0 : shE l n = 0
  · have HD : Hid (∀ u w1, IsSlots w1 u (shL l n) → Calls Try.prog 17 #[u, .int .i64 n] w1 fun e w' => ∃ a N c, e = .returned (.tuple #[.slice a N c, .int .i64 0]) ∧ IsSlots w' (.slice a N c) l ∧ Below w1.heap.size w1 w') := by
      intro u w1 h1
      have := drop_any u _ n w1 h1 (share_few h0)
      rw [(share_drop h0).1, (share_drop h0).2] at this
      exact this
    rw [h0] at HSH
    obtain ⟨M, HM⟩ : ∃ M, Hid (M = shL l n) := ⟨_, rfl⟩
    rw [← HM.out] at HSH HD
    obtain ⟨a, cap, rfl⟩ := h.form
    clear h h0 hf
    go_enter Try.func8, Try.ntmps8
    go_wp2_with fail
    refine HA.out.mono ?_
    rintro e w1 ⟨rfl, hb1⟩
    go_wp2_with fail
    refine (HSH.out _ hb1).mono ?_
    rintro e w2 ⟨a2, N2, c2, rfl, hs2, hb2⟩
    have HS2 : Hid (IsSlots w2 (.slice a2 N2 c2) M) := hs2
    clear hs2
    go_wp2_with fail
    refine (HD.out _ _ HS2.out).mono ?_
    rintro e w3 ⟨a3, N3, c3, rfl, hs3, hb3⟩
    have HS3 : Hid (IsSlots w3 (.slice a3 N3 c3) l) := hs3
    clear hs3
    have hb03 := bel_next hb3 hb2
    go_wp2_with fail
    refine (same_any _ _ l w3 HS3.out (HIN.out _ hb03)).mono ?_
    rintro e w4 ⟨rfl, hb4⟩
    go_wp2
    go_ret
    exact ⟨rfl, bel_next hb4 hb03⟩
  · have e1 := shL_bad h0
    rw [e1] at HSH
    have hne : ¬ shE l n = 0 := h0
    obtain ⟨E, HE⟩ : ∃ E, Hid (E = shE l n) := ⟨_, rfl⟩
    rw [← HE.out] at HSH hne
    have HSH2 : Hid (∀ w1, Below w.heap.size w w1 → Calls Try.prog 15 #[v, .int .i64 n] w1 fun e w' => ∃ a c, e = .returned (.tuple #[.slice a 0 c, .int .i64 E]) ∧ Below w.heap.size w w') := by
      intro w1 hb1
      refine (HSH.out w1 hb1).mono ?_
      rintro e w' ⟨a, N, c, he, hs, hb⟩
      obtain ⟨a', c', hv⟩ := hs.form
      injection hv with _ e2 _
      subst e2
      exact ⟨a, c, he, hb⟩
    obtain ⟨a, cap, rfl⟩ := h.form
    clear h h0 hf e1 HSH
    go_enter Try.func8, Try.ntmps8
    go_wp2_with fail
    refine HA.out.mono ?_
    rintro e w1 ⟨rfl, hb1⟩
    go_wp2_with fail
    refine (HSH2.out _ hb1).mono ?_
    rintro e w2 ⟨a2, c2, rfl, hb2⟩
    go_wp2
    go_ret
    exact ⟨rfl, hb2⟩

end Go.Proofs.Ytnmcbpanmjnegag
