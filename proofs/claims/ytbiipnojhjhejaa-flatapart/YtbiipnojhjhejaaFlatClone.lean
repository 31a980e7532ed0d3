/- The contract of slices.Clone at api.Op. -/
import Derived.Test.YtbiipnojhjhejaaFlatShow
namespace Go.Proofs.Ytbiipnojhjhejaa
set_option maxRecDepth 100000
open Go.RowKit
set_option linter.unusedSimpArgs false
set_option linter.unusedVariables false

theorem info_opz : (Try.prog.info? 24).map (fun i => (i.zero, i.size, i.bytes)) = some (some (.agg #[.int .i64 0, .int .i64 0, .int .i64 0, .int .i64 0, .int .i64 0, .int .i64 0, .bool false, .int .i64 0, .int .i64 0, .int .i64 0, .int .i64 0, .int .i64 0]), 12, 96) := by kernel_rfl

set_option maxHeartbeats 400000 in
theorem oclone_any (v : Value) (l : List O12) (w : World) (h : IsRecs encO 1466015503658 w v l) :
    Calls Try.prog 10 #[v] w fun e w' => ∃ v', e = .returned v' ∧ OwnR 24 12 encO w.heap.size w' v' l ∧ Below w.heap.size w w' := by
  obtain ⟨a, cap, rfl, h1, hl, hc'⟩ := h
  obtain ⟨i0, hi, hz0, hz1, hz2⟩ := info_parts info_opz
  have q35 : ∀ (w : World) (a : Option Addr) (n c n' c' : Nat), (binOp .eql 22 (.slice a n c) (.slice none n' c')).run Try.prog w = .ok (.bool a.isNone) w := fun w a n c n' c' => Lib.run_eql_slice_nil w _ _ a n c n' c' Try.underlying22
  cases a with
  | none =>
    by_cases hp : 0 < l.length
    · obtain ⟨b, off, hn, -⟩ := hc' hp
      cases hn
    · obtain rfl : l = [] := List.eq_nil_of_length_eq_zero (by omega)
      go_enter Try.func10, Try.ntmps10
      go_wp2
      go_ret
      exact ⟨_, rfl, ownR_nil _ _ _, Below.refl _ _⟩
  | some ad =>
    have hnews : Hid (∀ (w' : World), Below w.heap.size w w' → ∀ j u, (flatL encO l)[j]? = some u → w'.cell? (ad.add j) = some u) := by
      intro w' hb j u hj
      have hlt : j < (flatL encO l).length := (List.getElem?_eq_some_iff.1 hj).1
      rw [flatL_len shO] at hlt
      obtain ⟨b, off, hn, hc⟩ := hc' (by omega)
      cases hn
      rw [add_none]
      have := hc j u hj
      rw [← this]
      exact hb.cell (cell_lt this)
    clear hc'
    go_enter Try.func10, Try.ntmps10
    go_wp2_with (at_builtin; refine wpList_append_own _ rfl _ _ 22 rfl w.heap.size 24 i0 _ 12 96 Try.underlying22 hi hz0 hz1 hz2 rfl (by decide) _ _ _ rfl (World.ownsRow_made w #[] 0 (Nat.le_refl _) (Nat.zero_le _) (by simp)) ad l.length cap (flatL encO l) rfl (flatL_len shO l) (hnews.out _ ((Below.refl _ _).alloc (Nat.le_refl _) _)) (flatL_ones shO l) (by unfold maxLen; omega) (by omega) (by simp) ?_; intro v' w1 hown hgrow hnil)
    go_ret
    refine ⟨v', rfl, by simpa [OwnR] using hown, ?_⟩
    exact ((Below.refl _ w).alloc (Nat.le_refl _) _).grown hgrow (by simp) (by intro k hk; cases hk; exact Nat.le_refl _)

end Go.Proofs.Ytbiipnojhjhejaa
