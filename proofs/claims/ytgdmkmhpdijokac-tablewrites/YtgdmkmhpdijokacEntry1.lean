/- The contracts of entry.choices, Pack and Unpack over the loaded program: what each call returns, and that nothing that was there is written. -/
import Derived.Test.YtgdmkmhpdijokacRows
import Derived.Test.YtgdmkmhpdijokacKit
import Derived.WalkKit
import Derived.WalkLawsBesides
import Derived.WalkSpells
import Derived.Below
import Derived.OpenShut
import Derived.Test.YtgdmkmhpdijokacCalm
import Derived.Test.YtgdmkmhpdijokacEntryMath
namespace Go.Proofs.Ytgdmkmhpdijokac
open Go.RowKit
set_option linter.unusedSimpArgs false

set_option maxHeartbeats 400000 in
theorem choices_any (k : Int) (w : World) :
    Calls Try.prog 34 #[.int .i64 k] w fun e w' => e = .returned (.int .i64 (chs k)) ∧ w = w' := by
  go_enter Try.func34, Try.ntmps34
  go_wp2
  all_goals
    go_ret
    refine ⟨ret_int ?_, rfl⟩
    simp_all [chs]

set_option maxHeartbeats 400000 in
theorem pack_any (k n : Int) (w : World) :
    Calls Try.prog 30 #[.agg #[.int .i64 k, .int .i64 n]] w fun e w' => e = .returned (.tuple #[.int .i64 (pkV k n), .int .i64 (pkE k n)]) ∧ Below w.heap.size w w' := by
  by_cases hk : k = 0 ∨ k = 1 ∨ k = 2
  · by_cases ho : okE k n
    · rw [pkE_ok ho, pkV_ok ho]
      obtain ⟨h0, h1, h2⟩ := chs_ok ho
      have hor := or_low n k h0 (by omega) (by omega) (by omega)
      clear ho hk
      go_enter Try.func30, Try.ntmps30
      go_wp2_with (go_at_call 34; refine (choices_any _ _).mono ?_; rintro e w' ⟨rfl, rfl⟩)
      all_goals
        go_ret2
        exact ⟨rfl, (Below.refl _ _).alloc (Nat.le_refl _) _⟩
    · rw [pkE_range ho hk, pkV_no ho]
      obtain ⟨h0, h1, h2⟩ := chs_range ho hk
      clear ho hk
      go_enter Try.func30, Try.ntmps30
      go_wp2_with (go_at_call 34; refine (choices_any _ _).mono ?_; rintro e w' ⟨rfl, rfl⟩)
      all_goals
        go_ret2
        exact ⟨rfl, (Below.refl _ _).alloc (Nat.le_refl _) _⟩
  · rw [pkE_kind hk, pkV_no (by unfold okE; omega)]
    have h0 := chs_kind hk
    clear hk
    go_enter Try.func30, Try.ntmps30
    go_wp2_with (go_at_call 34; refine (choices_any _ _).mono ?_; rintro e w' ⟨rfl, rfl⟩)
    go_ret2
    exact ⟨rfl, (Below.refl _ _).alloc (Nat.le_refl _) _⟩

/-- A pair of an entry and an error, as it is returned. -/
abbrev entV (k n e : Int) : Value := .tuple #[.agg #[.int .i64 k, .int .i64 n], .int .i64 e]

set_option maxHeartbeats 400000 in
theorem unpack_any (v : Int) (w : World) (hv : (Lit.int .i64 v).wf = true) :
    Calls Try.prog 29 #[.int .i64 v] w fun e w' => e = .returned (entV (upK v) (upN v) (upE v)) ∧ Below w.heap.size w w' := by
  have ha := and255 v
  have hb := bounds_i64 hv
  by_cases hu : upOk v
  · rw [upK_ok hu, upN_ok hu, upE_ok hu]
    go_enter Try.func29, Try.ntmps29
    go_wp2_with fail
    refine (pack_any _ _ _).mono ?_
    rintro e w1 ⟨rfl, hb1⟩
    obtain ⟨ho1, ho2⟩ := own_two (xs := [_, _]) (ys := [_, _]) hb1
    have hbw : Below w.heap.size w w1 := (((Below.refl _ _).alloc (Nat.le_refl _) _).alloc (by simp) _).trans (hb1.mono (by simp; omega))
    have hz : w.heap.size + 1 < w1.heap.size := ho2.lt
    clear hb1
    obtain ⟨⟨c0, c1⟩, f0, f1⟩ := ho1.pair
    obtain ⟨⟨c2, c3⟩, f2, f3⟩ := ho2.pair
    clear ho1 ho2
    rw [pkE_ok hu]
    clear hu
    go_wp2
    exact bodyPost_ret (v := entV (v % 256) (v / 256) 0) (by simp [results, Try.results29, go_sem, c0, c1, c2, c3, hz, Nat.lt_of_succ_lt hz]) rfl ⟨rfl, (hbw.setCell (by simp) _).setCell (by simp) _⟩
  · rw [upK_no hu, upN_no hu, upE_no hu]
    go_enter Try.func29, Try.ntmps29
    go_wp2_with fail
    refine (pack_any _ _ _).mono ?_
    rintro e w1 ⟨rfl, hb1⟩
    obtain ⟨ho1, ho2⟩ := own_two (xs := [_, _]) (ys := [_, _]) hb1
    have hbw : Below w.heap.size w w1 := (((Below.refl _ _).alloc (Nat.le_refl _) _).alloc (by simp) _).trans (hb1.mono (by simp; omega))
    have hz : w.heap.size + 1 < w1.heap.size := ho2.lt
    clear hb1
    obtain ⟨⟨c0, c1⟩, f0, f1⟩ := ho1.pair
    obtain ⟨⟨c2, c3⟩, f2, f3⟩ := ho2.pair
    clear ho1 ho2
    have hne : (pkE (v % 256) (v / 256) != 0) = true := by rw [bne_iff_ne]; exact fun h => hu (pkE_iff.1 h)
    clear hu
    go_wp2
    exact bodyPost_ret (v := entV 0 0 1) (by simp [results, Try.results29, go_sem, c0, c1, c2, c3, hz, Nat.lt_of_succ_lt hz]) rfl ⟨rfl, (hbw.setCell (by simp) _).setCell (by simp) _⟩

end Go.Proofs.Ytgdmkmhpdijokac
