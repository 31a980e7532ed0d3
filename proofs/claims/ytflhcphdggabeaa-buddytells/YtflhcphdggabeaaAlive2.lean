/- The contract of framewardenkeep.alive2: it returns true, and nothing that was there is written. -/
import Derived.Test.YtflhcphdggabeaaBuddy8
namespace Go.Proofs.Ytflhcphdggabeaa
open Go.RowKit
set_option linter.unusedSimpArgs false
set_option linter.unusedVariables false

theorem alive_take : takeL [(0, 6)] 4 = [(16, 4), (32, 5)] ∧ takeAt [(0, 6)] 4 = 0 ∧ takeE [(0, 6)] 4 = 0 := by decide +kernel
theorem alive_give : giveL [(16, 4), (32, 5)] 0 4 = [(0, 6)] ∧ giveE [(16, 4), (32, 5)] 0 4 = 0 ∧ rightB [(16, 4), (32, 5)] = true := by decide +kernel

theorem equal_is {f : Bool} (v u : Value) (l m : List (Int × Int)) (w : World) (h : IsBlocks w v l) (hu : IsBlocks w u m) (hf : decide (l = m) = f) :
    Calls Try.prog 20 #[v, u] w fun e w' => e = .returned (.bool f) ∧ Below w.heap.size w w' := hf ▸ equal_any v u l m w h hu

set_option maxHeartbeats 1600000 in
theorem alive2_any (w : World) :
    Calls Try.prog 24 #[] w fun e w' => e = .returned (.bool true) ∧ Below w.heap.size w w' := by
  have hT := alive_take
  have hG := alive_give
  have Ht : Hid (∀ (v : Value) (w : World), IsBlocks w v [(0, 6)] → Calls Try.prog 16 #[v, .int .i64 4] w fun e w' => ∃ v', e = .returned (.tuple #[v', .int .i64 0, .int .i64 0]) ∧ OwnB w.heap.size w' v' [(16, 4), (32, 5)] ∧ Below w.heap.size w w') := by
    intro v w h
    have := btake_any v [(0, 6)] 4 w h
    rw [hT.1, hT.2.1, hT.2.2] at this
    exact this
  have Hg : Hid (∀ (v : Value) (w : World), IsBlocks w v [(16, 4), (32, 5)] → Calls Try.prog 18 #[v, .agg #[.int .i64 0, .int .i64 4]] w fun e w' => ∃ v', e = .returned (.tuple #[v', .int .i64 0]) ∧ OwnB w.heap.size w' v' [(0, 6)] ∧ Below w.heap.size w w') := by
    intro v w h
    have := give_any v [(16, 4), (32, 5)] 0 4 w h
    rw [hG.1, hG.2.1] at this
    exact this
  have hR := hG.2.2
  clear hT hG
  go_enter Try.func24, Try.ntmps24
  go_wp2_with fail
  refine (new_any w).mono ?_
  rintro e w1 ⟨v1, rfl, ho1, hb1⟩
  go_wp2_with fail
  refine (Ht.out v1 w1 (ho1.blocks (by simp))).mono ?_
  rintro e w2 ⟨v2, rfl, ho2, hb2⟩
  have hbb2 := hb1.trans (hb2.mono hb1.size)
  have hi2 := ho2.blocks (by simp)
  go_wp2_with fail
  refine (Hg.out v2 w2 hi2).mono ?_
  rintro e w3 ⟨v3, rfl, ho3, hb3⟩
  have hbb3 := hbb2.trans (hb3.mono hbb2.size)
  have hi3 := ho3.blocks (by simp)
  have hi23 := hi2.below hb3
  have hbA : Below w3.heap.size w3 (w3.alloc (.cells #[.int .i64 16, .int .i64 4, .int .i64 32, .int .i64 5] 37)) := (Below.refl _ _).alloc (Nat.le_refl _) _
  have hiL : IsBlocks (w3.alloc (.cells #[.int .i64 16, .int .i64 4, .int .i64 32, .int .i64 5] 37)) (.slice (some ⟨w3.heap.size, 0, none⟩) 2 2) [(16, 4), (32, 5)] := by
    refine ⟨_, _, rfl, by simp, by simp, fun _ => ⟨w3.heap.size, 0, rfl, fun i hi => ?_⟩⟩
    match i with
    | 0 => exact ⟨by simp, by simp⟩
    | 1 => exact ⟨by simp, by simp⟩
    | i + 2 => simp at hi; omega
  have HL : Hid _ := hiL
  have H2 : Hid (IsBlocks w3 v2 [(16, 4), (32, 5)]) := hi23
  have H3 : Hid (IsBlocks w3 v3 [(0, 6)]) := hi3
  obtain ⟨a2, n2, c2, rfl⟩ := ho2.form
  obtain ⟨a3, n3, c3, rfl⟩ := ho3.form
  clear hiL hi2 hi3 hi23 ho1 ho2 ho3
  go_wp2_with fail
  refine (equal_is (f := true) _ _ _ _ _ (H2.out.below hbA) HL.out (by decide)).mono ?_
  rintro e w4 ⟨rfl, hb4⟩
  have hbb4 := hbA.trans (hb4.mono hbA.size)
  go_wp2_with fail
  refine (new_any w4).mono ?_
  rintro e w5 ⟨v5, rfl, ho5, hb5⟩
  have hbb5 := hbb4.trans (hb5.mono hbb4.size)
  go_wp2_with fail
  refine (equal_is (f := true) _ _ _ _ _ (H3.out.below hbb5) (ho5.blocks (by simp)) (by decide)).mono ?_
  rintro e w6 ⟨rfl, hb6⟩
  have hbb6 := hbb5.trans (hb6.mono hbb5.size)
  go_wp2_with fail
  refine (right_is _ _ _ (H2.out.below hbb6) hR).mono ?_
  rintro e w7 ⟨rfl, hb7⟩
  go_wp2
  go_ret
  have hbb7 := hbb6.trans (hb7.mono hbb6.size)
  exact ⟨rfl, hbb3.trans (hbb7.mono hbb3.size)⟩

end Go.Proofs.Ytflhcphdggabeaa
