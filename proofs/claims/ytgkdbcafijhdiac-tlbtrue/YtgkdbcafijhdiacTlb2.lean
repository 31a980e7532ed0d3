/- The contract of slices.Delete at a row of api.Cached that the call itself has made; what tlb.hear answers. -/
import Derived.Test.YtgkdbcafijhdiacTlb1
namespace Go.Proofs.Ytgkdbcafijhdiac
open Go.RowKit
set_option linter.unusedSimpArgs false
set_option linter.unusedVariables false

set_option maxHeartbeats 800000 in
theorem cdelete_any (base g cap : Nat) (l : List C4) (i : Nat) (w : World) (hb : base ≤ g) (h : RowC w g cap l) (hi : i < l.length) (hcap : cap ≤ 1000000) :
    Calls Try.prog 44 #[.slice (some ⟨g, 0, none⟩) l.length cap, .int .i64 i, .int .i64 ((i : Int) + 1)] w fun e w' => e = .returned (.slice (some ⟨g, 0, none⟩) (l.eraseIdx i).length cap) ∧ RowC w' g cap (l.eraseIdx i) ∧ Below base w w' ∧ Spare g w w' := by
  obtain ⟨i0, hi0, hz0, hz1, hz2⟩ := info_parts info_cached
  obtain ⟨xs, hrow, h3, h1, h4⟩ := h
  obtain ⟨n, hn⟩ : ∃ n, Hid (n = l.length) := ⟨_, rfl⟩
  obtain ⟨news, hnews⟩ : ∃ news, news = flatL encC (l.drop (i + 1)) := ⟨_, rfl⟩
  have hnl : news.length = (n - (i + 1)) * 4 := by rw [hnews, flatL_len shC, List.length_drop, hn.out]
  obtain ⟨A, hA, hAd⟩ : ∃ A : Addr, (if cap = i + 1 then some (⟨g, 0, none⟩ : Addr) else some ⟨g, (i + 1) * 4, none⟩) = some A ∧ Hid (A = if cap = i + 1 then ⟨g, 0, none⟩ else ⟨g, (i + 1) * 4, none⟩) := by
    by_cases hcap : cap = i + 1
    · exact ⟨_, by rw [if_pos hcap], by rw [if_pos hcap]; rfl⟩
    · exact ⟨_, by rw [if_neg hcap], by rw [if_neg hcap]; rfl⟩
  rw [← hn.out] at h1 h4 hi ⊢
  obtain ⟨m, hm⟩ : ∃ m, Hid (i + (n - (i + 1)) = m) := ⟨_, rfl⟩
  have hm1 : m < n := by have := hm.out; omega
  have hm2 : n ≤ m + 1 := by have := hm.out; omega
  have hsrc : Hid (∀ t u, news[t]? = some u → w.drew.cell? (A.add t) = some u) := by
    intro t u hu
    have ht : t < news.length := (List.getElem?_eq_some_iff.1 hu).1
    rw [hnl] at ht
    rw [hAd.out, if_neg (by omega), add_none]
    show w.cell? _ = _
    rw [hrow.cell]
    rw [hnews, ← flatL_drop shC, ← h4, List.getElem?_drop, List.getElem?_take_of_lt (by omega)] at hu
    exact hu
  have s3 : Hid (∀ t, t < news.length → (w.drew.cell? ⟨g, 0 + i * 4 + t, none⟩).isSome = true ∧ w.drew.frozen? ⟨g, 0 + i * 4 + t, none⟩ = false) := by
    intro t ht
    rw [hnl] at ht
    exact ⟨xs_cell' hrow (by omega), hrow.free _⟩
  have hrow' : OwnRow w.drew g 40 xs := hrow
  have hR1 := OwnRow.setCells news (0 + i * 4) w.drew xs hrow' (by rw [hnl, h3]; omega)
  obtain ⟨W1, hW1⟩ : ∃ W1, W1 = w.drew.setCells g (0 + i * 4) news := ⟨_, rfl⟩
  rw [← hW1] at hR1
  have hB1 : Below base w W1 := by rw [hW1]; exact below_setCells hb news _ w _ (Below.refl _ _).drew
  have hS1 : Spare g w W1 := by rw [hW1]; exact (Spare.of_below (Below.refl _ _).drew).setCells _ _
  have hR2 := OwnRow.setCells [.int .i64 0, .int .i64 0, .int .i64 0, .int .i64 0] (m * 4) W1 _ hR1 (by rw [spl_len (by rw [hnl, h3]; omega), h3]; simp; omega)
  have hcl : ∀ ty c, (Builtin.clear_ #[37] ty #[.slice (some ⟨g, m * 4, none⟩) 1 c]).run Try.prog W1 = .ok (.tuple #[]) (W1.setCells g (m * 4) [.int .i64 0, .int .i64 0, .int .i64 0, .int .i64 0]) := fun ty c =>
    run_clear_recs W1 37 40 ty (.agg #[.int .i64 0, .int .i64 0, .int .i64 0, .int .i64 0]) _ g _ 1 c (by decide) Try.underlying37 (by simp [Try.zeroValue40]) (by kernel_rfl) (by simp [Value.oneCell'])
      (fun j hj => xs_cell' hR1 (by rw [spl_len (by rw [hnl, h3]; omega), h3]; simp at hj; omega)) (fun j hj => hR1.free _)
  have HW : Hid (W1 = w.drew.setCells g (0 + i * 4) news) := hW1
  clear hW1 hrow hrow'
  have hone : Hid (∀ u ∈ news, u.oneCell' = true) := by rw [hnews]; exact flatL_ones shC _
  have hroom : i + (n - (i + 1)) ≤ cap := by omega
  have hic : i ≤ cap := by omega
  have hin : (i : Int) ≤ (n : Int) := by omega
  have hle : (i : Int) + 1 ≤ (n : Int) := by omega
  have hp1 : (0 : Int) ≤ (i : Int) + 1 := by omega
  have htn : ((i : Int) + 1).toNat = i + 1 := by omega
  have hne : ¬ ((i : Int) = (i : Int) + 1) := by omega
  go_enter Try.func44, Try.ntmps44
  go_wp2_with fail
  go_region_held3 (fun _ => True) (trivial)
    ((refine step_append_room (by rfl) _ _ 37 (by rfl) 40 i0 4 Try.underlying37 hi0 hz1 g 0 i cap (by rfl) A (n - (i + 1)) (cap - (i + 1)) news (by rfl) hnl hsrc.out hone.out hroom s3.out ?_))
  rw [hm.out, ← HW.out]
  have hmc : ¬ (cap = m) := by omega
  have hnm : n - m = 1 := by omega
  go_wp2
  go_ret
  have hel : (l.eraseIdx i).length = m := by rw [List.length_eraseIdx_of_lt (by rw [← hn.out]; exact hi), ← hn.out]; omega
  refine ⟨by rw [hel]; rfl, ?_, below_setCells hb _ _ w _ hB1, hS1.setCells _ _⟩
  have hxl : (spl xs (0 + i * 4) news).length = xs.length := spl_len (by rw [hnl, h3]; omega)
  refine ⟨_, hR2, by rw [spl_len (by rw [hxl, h3]; simp; omega), hxl, h3], by omega, ?_⟩
  rw [hel, spl_take_lo (by rw [hxl, h3]; omega), show m * 4 = 0 + i * 4 + news.length by rw [hnl, ← hm.out]; omega, spl_take_hi (by rw [h3]; omega), List.eraseIdx_eq_take_drop_succ, flatL_append, ← hnews]
  congr 1
  rw [← flatL_take shC, ← h4, List.take_take, Nat.zero_add, Nat.min_eq_left (by omega)]

/-- What is remembered once c has been told. -/
def hr (l : List C4) (c : C4) : List C4 :=
  if c.2.1 < 0 ∨ c.2.2.1 = 0 then fgt l c else if 8 < (fgt l c).length + 1 then (fgt l c ++ [c]).drop 1 else fgt l c ++ [c]

theorem fgt_le (l : List C4) (c : C4) : (fgt l c).length ≤ l.length := List.length_filter_le _ _

theorem hr_le {l : List C4} (h : l.length ≤ 8) (c : C4) : (hr l c).length ≤ 8 := by
  have := fgt_le l c
  unfold hr
  split
  · omega
  · split <;> simp <;> omega

theorem RowC.push {w : World} {g cap : Nat} {l : List C4} {p : C4} (h : RowC w g cap l) (hl : l.length < cap) : RowC (w.setCells g (l.length * 4) (encC p)) g cap (l ++ [p]) := by
  obtain ⟨xs, hrow, h3, h1, h4⟩ := h
  have hl4 : (encC p).length = 4 := rfl
  refine ⟨_, OwnRow.setCells (encC p) (l.length * 4) w xs hrow (by rw [hl4]; omega), by rw [spl_len (by rw [hl4]; omega), h3], by simp; omega, ?_⟩
  rw [List.length_append, List.length_singleton, show (l.length + 1) * 4 = l.length * 4 + (encC p).length by rw [hl4]; omega, spl_take_hi (by omega), h4, flatL_append, flatL_one]

theorem RowC.room {w : World} {g cap : Nat} {l : List C4} (h : RowC w g cap l) (hl : l.length < cap) (p : C4) : ∀ j, j < (encC p).length → (w.cell? ⟨g, 0 + l.length * 4 + j, none⟩).isSome = true ∧ w.frozen? ⟨g, 0 + l.length * 4 + j, none⟩ = false := by
  obtain ⟨xs, hrow, h3, h1, h4⟩ := h
  intro j hj
  have hj' : j < 4 := hj
  exact ⟨xs_cell' hrow (by omega), hrow.free _⟩

theorem box_add (w : World) (x y z u : Int) (t : TypeId) : ∀ j v, (encC (x, y, z, u))[j]? = some v → (w.alloc (.cells #[.int .i64 x, .int .i64 y, .int .i64 z, .int .i64 u] t)).cell? (Addr.add ⟨w.heap.size, 0, none⟩ j) = some v := by
  intro j v hj
  rw [add_none, Nat.zero_add]
  have : OwnRow (w.alloc (.cells #[.int .i64 x, .int .i64 y, .int .i64 z, .int .i64 u] t)) w.heap.size t (encC (x, y, z, u)) := heap_alloc_new w _
  rw [this.cell, hj]

end Go.Proofs.Ytgkdbcafijhdiac
