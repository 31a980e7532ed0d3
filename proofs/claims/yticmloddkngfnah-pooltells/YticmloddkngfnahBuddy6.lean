/- The contracts of slices.Delete and slices.Insert on a row of blocks that the call itself has made. -/
import Derived.Test.YticmloddkngfnahBuddy5
import Derived.Deep.RegionLaw
namespace Go.Proofs.Yticmloddkngfnah
open Go.RowKit
set_option linter.unusedSimpArgs false
set_option linter.unusedVariables false

theorem ownB_of_row {base g cap : Nat} {w : World} {l : List (Int × Int)} {xs : List Value} (hb : base ≤ g) (hr : OwnRow w g 45 xs) (h1 : l.length ≤ cap) (h2 : cap ≤ maxLen) (h3 : xs.length = cap * 2) (h4 : xs.take (l.length * 2) = flat l) :
    OwnB base w (.slice (some ⟨g, 0, none⟩) l.length cap) l :=
  ⟨flat_len l, Or.inr ⟨g, cap, xs.toArray, rfl, hb, hr, h1, h2, by simpa using h3, by simpa using h4⟩⟩

theorem OwnB.row {base : Nat} {w : World} {v : Value} {l : List (Int × Int)} (h : OwnB base w v l) (hl : 0 < l.length) :
    ∃ g cap xs, v = .slice (some ⟨g, 0, none⟩) l.length cap ∧ base ≤ g ∧ OwnRow w g 45 xs ∧ l.length ≤ cap ∧ cap ≤ maxLen ∧ xs.length = cap * 2 ∧ xs.take (l.length * 2) = flat l := by
  rcases h.2 with ⟨-, h0⟩ | ⟨g, cap, cur, hv, hb, hg, h1, h2, h3, h4⟩
  · omega
  · exact ⟨g, cap, cur.toList, hv, hb, by simpa [OwnRow] using hg, h1, h2, by simpa using h3, h4⟩

theorem run_clear_one (w : World) (ty : TypeId) (b o c : Nat) (hc : ∀ j, j < 2 → (w.cell? ⟨b, o + j, none⟩).isSome = true) (hf : ∀ j, j < 2 → w.frozen? ⟨b, o + j, none⟩ = false) :
    (Builtin.clear_ #[22] ty #[.slice (some ⟨b, o, none⟩) 1 c]).run Try.prog w = .ok (.tuple #[]) (w.setCells b o [.int .i64 0, .int .i64 0]) := by
  have hst := run_storeCells_cells (P := Try.prog) b o [.int .i64 0, .int .i64 0] 0 w (by simpa using hc) (by simpa using hf) (by simp [Value.oneCell'])
  simp only [Nat.add_zero] at hst
  have hz := Try.zeroValue45
  have hzc : (Builtin.zeroCells (Value.agg #[.int .i64 0, .int .i64 0]).cells 1).toList = [.int .i64 0, .int .i64 0] := by kernel_rfl
  simp [Builtin.clear_, run_underlying Try.underlying22, hz, hzc, hst]

theorem xs_cell {w : World} {g : Nat} {e : TypeId} {xs : List Value} (h : OwnRow w g e xs) {j : Nat} (hj : j < xs.length) : (w.cell? ⟨g, j, none⟩).isSome = true := by
  rw [h.cell, List.getElem?_eq_getElem hj]; rfl

set_option maxHeartbeats 800000 in
theorem delete_any (base : Nat) (v : Value) (l : List (Int × Int)) (i : Nat) (w : World) (h : OwnB base w v l) (hi : i < l.length) (hl : l.length ≤ 1000000) :
    Calls Try.prog 38 #[v, .int .i64 i, .int .i64 ((i : Int) + 1)] w fun e w' => ∃ v', e = .returned v' ∧ OwnB base w' v' (l.eraseIdx i) ∧ Below base w w' := by
  obtain ⟨i0, hi0, hz0, hz1, hz2⟩ := info_parts info_block
  obtain ⟨g, cap, xs, rfl, hb, hrow, h1, h2, h3, h4⟩ := h.row (by omega)
  obtain ⟨n, hn⟩ : ∃ n, Hid (n = l.length) := ⟨_, rfl⟩
  obtain ⟨news, hnews⟩ : ∃ news, news = flat (l.drop (i + 1)) := ⟨_, rfl⟩
  have hnl : news.length = (n - (i + 1)) * 2 := by rw [hnews, flat_len, List.length_drop, hn.out]
  obtain ⟨A, hA, hAd⟩ : ∃ A : Addr, (if cap = i + 1 then some (⟨g, 0, none⟩ : Addr) else some ⟨g, (i + 1) * 2, none⟩) = some A ∧ Hid (A = if cap = i + 1 then ⟨g, 0, none⟩ else ⟨g, (i + 1) * 2, none⟩) := by
    by_cases hcap : cap = i + 1
    · exact ⟨_, by rw [if_pos hcap], by rw [if_pos hcap]; rfl⟩
    · exact ⟨_, by rw [if_neg hcap], by rw [if_neg hcap]; rfl⟩
  rw [← hn.out] at h1 h4 hi hl ⊢
  obtain ⟨m, hm⟩ : ∃ m, Hid (i + (n - (i + 1)) = m) := ⟨_, rfl⟩
  have hm1 : m < n := by have := hm.out; omega
  have hm2 : n ≤ m + 1 := by have := hm.out; omega
  have hsrc : Hid (∀ t u, news[t]? = some u → w.drew.cell? (A.add t) = some u) := by
    intro t u hu
    have ht : t < news.length := (List.getElem?_eq_some_iff.1 hu).1
    rw [hnl] at ht
    rw [hAd.out, if_neg (by omega), add_none]
    show w.cell? _ = _
    rw [hrow.cell]
    rw [hnews, ← flat_drop, ← h4, List.getElem?_drop, List.getElem?_take_of_lt (by omega)] at hu
    exact hu
  have s3 : Hid (∀ t, t < news.length → (w.drew.cell? ⟨g, 0 + i * 2 + t, none⟩).isSome = true ∧ w.drew.frozen? ⟨g, 0 + i * 2 + t, none⟩ = false) := by
    intro t ht
    rw [hnl] at ht
    exact ⟨xs_cell hrow (by omega), hrow.free _⟩
  have hrow' : OwnRow w.drew g 45 xs := hrow
  have hR1 := OwnRow.setCells news (0 + i * 2) w.drew xs hrow' (by rw [hnl, h3]; omega)
  obtain ⟨W1, hW1⟩ : ∃ W1, W1 = w.drew.setCells g (0 + i * 2) news := ⟨_, rfl⟩
  rw [← hW1] at hR1
  have hB1 : Below base w W1 := by rw [hW1]; exact below_setCells hb news _ w _ (Below.refl _ _).drew
  have hR2 := OwnRow.setCells [.int .i64 0, .int .i64 0] (m * 2) W1 _ hR1 (by rw [spl_len (by rw [hnl, h3]; omega), h3]; simp; omega)
  have hcl : ∀ ty c, (Builtin.clear_ #[22] ty #[.slice (some ⟨g, m * 2, none⟩) 1 c]).run Try.prog W1 = .ok (.tuple #[]) (W1.setCells g (m * 2) [.int .i64 0, .int .i64 0]) := fun ty c =>
    run_clear_one W1 ty g _ c (fun j hj => xs_cell hR1 (by rw [spl_len (by rw [hnl, h3]; omega), h3]; omega)) (fun j hj => hR1.free _)
  have HW : Hid (W1 = w.drew.setCells g (0 + i * 2) news) := hW1
  clear hW1 hrow hrow'
  have hone : Hid (∀ u ∈ news, u.oneCell' = true) := by rw [hnews]; exact flat_one _
  have hroom : i + (n - (i + 1)) ≤ cap := by omega
  have hic : i ≤ cap := by omega
  have hin : (i : Int) ≤ (n : Int) := by omega
  have hle : (i : Int) + 1 ≤ (n : Int) := by omega
  have hp1 : (0 : Int) ≤ (i : Int) + 1 := by omega
  have htn : ((i : Int) + 1).toNat = i + 1 := by omega
  have hne : ¬ ((i : Int) = (i : Int) + 1) := by omega
  go_enter Try.func38, Try.ntmps38
  go_wp2_with fail
  go_region_held3 (fun _ => True) (trivial)
    ((refine step_append_room (by rfl) _ _ 22 (by rfl) 45 i0 2 Try.underlying22 hi0 hz1 g 0 i cap (by rfl) A (n - (i + 1)) (cap - (i + 1)) news (by rfl) hnl hsrc.out hone.out hroom s3.out ?_))
  rw [hm.out, ← HW.out]
  have hmc : ¬ (cap = m) := by omega
  have hnm : n - m = 1 := by omega
  go_wp2
  go_ret
  have hel : (l.eraseIdx i).length = m := by rw [List.length_eraseIdx_of_lt (by rw [← hn.out]; exact hi), ← hn.out]; omega
  refine ⟨_, rfl, ?_, below_setCells hb _ _ w _ hB1⟩
  have hxl : (spl xs (0 + i * 2) news).length = xs.length := spl_len (by rw [hnl, h3]; omega)
  have key := ownB_of_row (base := base) (cap := cap) (l := l.eraseIdx i) hb hR2 (by omega) h2 (by rw [spl_len (by rw [hxl, h3]; simp; omega), hxl, h3]) (by
    rw [hel, spl_take_lo (by rw [hxl, h3]; omega), show m * 2 = 0 + i * 2 + news.length by rw [hnl, ← hm.out]; omega, spl_take_hi (by rw [h3]; omega), List.eraseIdx_eq_take_drop_succ, flat_append, ← hnews]
    congr 1
    rw [← flat_take, ← h4, List.take_take, Nat.zero_add, Nat.min_eq_left (by omega)])
  rw [hel] at key
  exact key

end Go.Proofs.Yticmloddkngfnah
