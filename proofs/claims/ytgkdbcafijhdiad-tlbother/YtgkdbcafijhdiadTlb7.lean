/- The contract of slices.Clone at api.Cached; what was told last. -/
import Derived.Test.YtgkdbcafijhdiadTlb6
namespace Go.Proofs.Ytgkdbcafijhdiad
open Go.RowKit
set_option linter.unusedSimpArgs false
set_option linter.unusedVariables false

set_option maxHeartbeats 400000 in
theorem cclone_any (v : Value) (l : List C4) (w : World) (h : IsRecs encC 4398046511000 w v l) :
    Calls Try.prog 7 #[v] w fun e w' => ∃ v', e = .returned v' ∧ OwnR 26 4 encC w.heap.size w' v' l ∧ Below w.heap.size w w' := by
  obtain ⟨a, cap, rfl, h1, hl, hc'⟩ := h
  obtain ⟨i0, hi, hz0, hz1, hz2⟩ := info_parts info_cached
  have q35 : ∀ (w : World) (a : Option Addr) (n c n' c' : Nat), (binOp .eql 22 (.slice a n c) (.slice none n' c')).run Try.prog w = .ok (.bool a.isNone) w := fun w a n c n' c' => Lib.run_eql_slice_nil w _ _ a n c n' c' Try.underlying22
  cases a with
  | none =>
    by_cases hp : 0 < l.length
    · obtain ⟨b, off, hn, -⟩ := hc' hp
      cases hn
    · obtain rfl : l = [] := List.eq_nil_of_length_eq_zero (by omega)
      go_enter Try.func7, Try.ntmps7
      go_wp2
      go_ret
      exact ⟨_, rfl, ownR_nil _ _ _, Below.refl _ _⟩
  | some ad =>
    have hnews : Hid (∀ (w' : World), Below w.heap.size w w' → ∀ j u, (flatL encC l)[j]? = some u → w'.cell? (ad.add j) = some u) := by
      intro w' hb j u hj
      have hlt : j < (flatL encC l).length := (List.getElem?_eq_some_iff.1 hj).1
      rw [flatL_len shC] at hlt
      obtain ⟨b, off, hn, hc⟩ := hc' (by omega)
      cases hn
      rw [add_none]
      have := hc j u hj
      rw [← this]
      exact hb.cell (cell_lt this)
    clear hc'
    go_enter Try.func7, Try.ntmps7
    go_wp2_with (at_builtin; refine wpList_append_own _ rfl _ _ 22 rfl w.heap.size 26 i0 _ 4 32 Try.underlying22 hi hz0 hz1 hz2 rfl (by decide) _ _ _ rfl (World.ownsRow_made w #[] 0 (Nat.le_refl _) (Nat.zero_le _) (by simp)) ad l.length cap (flatL encC l) rfl (flatL_len shC l) (hnews.out _ ((Below.refl _ _).alloc (Nat.le_refl _) _)) (flatL_ones shC l) (by unfold maxLen; omega) (by omega) (by simp) ?_; intro v' w1 hown hgrow hnil)
    go_ret
    refine ⟨v', rfl, by simpa [OwnR] using hown, ?_⟩
    exact ((Below.refl _ w).alloc (Nat.le_refl _) _).grown hgrow (by simp) (by intro k hk; cases hk; exact Nat.le_refl _)

theorem hr_last (l : List C4) (c : C4) (h : ¬ (c.2.1 < 0 ∨ c.2.2.1 = 0)) : ∃ q, hr l c = q ++ [c] := by
  unfold hr
  rw [if_neg h]
  split
  · rename_i h8
    refine ⟨(fgt l c).drop 1, ?_⟩
    rw [List.drop_append_of_le_length (by omega)]
  · exact ⟨_, rfl⟩

theorem hr_gone (l : List C4) (c : C4) (h : c.2.1 < 0 ∨ c.2.2.1 = 0) : hr l c = fgt l c := by
  unfold hr
  rw [if_pos h]

theorem fgt_none (l : List C4) (c : C4) : (fgt l c).any (fun x => tou c x) = false := by
  rw [List.any_eq_false]
  intro x hx
  unfold fgt at hx
  have := (List.mem_filter.1 hx).2
  simpa using this

end Go.Proofs.Ytgkdbcafijhdiad
