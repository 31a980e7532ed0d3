/- An entry is read as it was written, and no two have one number: framewardenkeep.EntryBack returns true at every entry and every number. -/
import Derived.Test.YtledlipcoebdpabEntry3
namespace Go.Proofs.Ytledlipcoebdpab
open Go.RowKit
set_option linter.unusedSimpArgs false

theorem pkV_wf (x y : Int) : (Lit.int .i64 (pkV x y)).wf = true := by
  by_cases ho : okE x y
  · rw [pkV_ok ho]
    unfold okE at ho
    simp [Lit.wf, IntKind.min, IntKind.max, IntKind.signed, IntKind.bits]
    omega
  · rw [pkV_no ho]; decide

set_option maxHeartbeats 800000 in
theorem entryBack_walk (x y v : Int) (w : World) (hv : (Lit.int .i64 v).wf = true) :
    Calls Try.prog 8 #[.agg #[.int .i64 x, .int .i64 y], .int .i64 v] w fun e w' => e = .returned (.bool true) ∧ Below w.heap.size w w' := by
  obtain ⟨W, hW⟩ : ∃ W, W = w.alloc (.cells #[.int .i64 x, .int .i64 y] 39) := ⟨_, rfl⟩
  have hbW : Below w.heap.size w W := by rw [hW]; exact (Below.refl _ _).alloc (Nat.le_refl _) _
  have hA : OwnRow W w.heap.size 39 [.int .i64 x, .int .i64 y] := by rw [hW]; exact heap_alloc_new w _
  go_enter Try.func8, Try.ntmps8
  go_wp2_with fail
  rw [← hW]
  clear hW
  refine (alive4_any _).mono ?_
  rintro e w1 ⟨rfl, hb1⟩
  have hA1 := hA.below hb1 hA.lt
  have hbel1 := hbW.trans (hb1.mono hbW.size)
  clear hA hb1 hbW
  obtain ⟨⟨c0, c1⟩, -, -⟩ := hA1.pair
  go_wp2_with fail
  refine (pack_any _ _ _).mono ?_
  rintro e w2 ⟨rfl, hb2⟩
  have hA2 := hA1.below hb2 hA1.lt
  have hbel2 := hbel1.trans (hb2.mono hbel1.size)
  clear hA1 hb2 hbel1
  go_wp2_with fail
  refine (unpack_any _ _ (pkV_wf x y)).mono ?_
  rintro e w3 ⟨rfl, hb3⟩
  have hA3 := hA2.below hb3 hA2.lt
  have hbel3 := hbel2.trans (hb3.mono hbel2.size)
  clear hA2 hb3 hbel2
  obtain ⟨⟨c0, c1⟩, -, -⟩ := hA3.pair
  have hlt := hA3.lt
  have hp : (pkE x y ≠ 0 ∨ (pkE x y = 0 ∧ upE (pkV x y) = 0 ∧ upK (pkV x y) = x ∧ upN (pkV x y) = y ∧ 0 ≤ pkV x y ∧ pkV x y < 65536)) := by
    by_cases ho : okE x y
    · right
      obtain ⟨h1, h2, h3⟩ := up_of ho
      rw [pkE_ok ho, pkV_ok ho, upE_ok h1, upK_ok h1, upN_ok h1, h2, h3]
      refine ⟨rfl, rfl, rfl, rfl, ?_⟩
      unfold okE at ho
      omega
    · left; exact fun h => ho (pkE_iff.1 h)
  generalize upK (pkV x y) = C at *
  generalize upN (pkV x y) = D at *
  generalize upE (pkV x y) = E at *
  generalize pkV x y = A at *
  generalize pkE x y = B at *
  rcases hp with hB | ⟨rfl, rfl, rfl, rfl, h0, h1⟩
  · have hB' : (B == 0) = false := by rw [beq_eq_false_iff_ne]; exact hB
    clear hB
    go_wp2_with fail
    refine (unpack_any v _ hv).mono ?_
    rintro e w4 ⟨rfl, hb4⟩
    have hbel4 : Below w.heap.size w w4 := hbel3.trans (((Below.refl _ _).alloc (Nat.le_refl _) _).trans (hb4.mono (by simp)) |>.mono hbel3.size)
    clear hb4 c0 c1 hA3 hbel3
    go_wp2_with fail
    refine (pack_any _ _ _).mono ?_
    rintro e w5 ⟨rfl, hb5⟩
    have hown := own_one (xs := [_, _]) hb5
    have hbel5 : Below w.heap.size w w5 := hbel4.trans (((Below.refl _ _).alloc (Nat.le_refl _) _).trans (hb5.mono (by simp)) |>.mono hbel4.size)
    clear hb5 hbel4
    obtain ⟨⟨d0, d1⟩, -, -⟩ := hown.pair
    clear hown
    by_cases hu : upOk v
    · rw [upK_ok hu, upN_ok hu, upE_ok hu, pkE_ok hu, pkV_ok hu, of_up]
      clear d0 d1 hu
      go_wp2
      go_ret
      exact ⟨rfl, hbel5⟩
    · rw [upK_no hu, upN_no hu] at *
      rw [upE_no hu]
      clear hu
      go_wp2
      go_ret
      exact ⟨rfl, hbel5⟩
  · go_wp2_with fail
    refine (unpack_any v _ hv).mono ?_
    rintro e w4 ⟨rfl, hb4⟩
    have hbel4 : Below w.heap.size w w4 := hbel3.trans (((Below.refl _ _).alloc (Nat.le_refl _) _).trans (hb4.mono (by simp)) |>.mono hbel3.size)
    clear hb4 c0 c1 hA3 hbel3
    go_wp2_with fail
    refine (pack_any _ _ _).mono ?_
    rintro e w5 ⟨rfl, hb5⟩
    have hown := own_one (xs := [_, _]) hb5
    have hbel5 : Below w.heap.size w w5 := hbel4.trans (((Below.refl _ _).alloc (Nat.le_refl _) _).trans (hb5.mono (by simp)) |>.mono hbel4.size)
    clear hb5 hbel4
    obtain ⟨⟨d0, d1⟩, -, -⟩ := hown.pair
    clear hown
    by_cases hu : upOk v
    · rw [upK_ok hu, upN_ok hu, upE_ok hu, pkE_ok hu, pkV_ok hu, of_up]
      clear d0 d1 hu
      go_wp2
      go_ret
      exact ⟨rfl, hbel5⟩
    · rw [upK_no hu, upN_no hu] at *
      rw [upE_no hu]
      clear hu
      go_wp2
      go_ret
      exact ⟨rfl, hbel5⟩
end Go.Proofs.Ytledlipcoebdpab
