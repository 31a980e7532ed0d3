/- The contract of tlb.Play: what is remembered in the end, in a row that the call itself has made. -/
import Derived.Test.YtgkdbcafijhdiacTlb3
namespace Go.Proofs.Ytgkdbcafijhdiac
open Go.RowKit
set_option linter.unusedSimpArgs false
set_option linter.unusedVariables false

/-- What is remembered in the end. -/
def play (l : List C4) : List C4 := l.foldl hr []

theorem play_nil : play [] = [] := rfl
theorem play_snoc (l : List C4) (c : C4) : play (l ++ [c]) = hr (play l) c := by simp [play]

theorem play_succ (l : List C4) (k : Nat) (hk : k < l.length) : play (l.take (k + 1)) = hr (play (l.take k)) (l.getD k (0, 0, 0, 0)) := by
  rw [List.take_add_one, List.getElem?_eq_getElem hk, List.getD_eq_getElem?_getD, List.getElem?_eq_getElem hk]
  exact play_snoc _ _

theorem play_le_rev : ∀ l : List C4, (play l.reverse).length ≤ 8
  | [] => by simp [play]
  | c :: r => by rw [List.reverse_cons, play_snoc]; exact hr_le (play_le_rev r) c

theorem play_le (l : List C4) : (play l).length ≤ 8 := by
  have := play_le_rev l.reverse
  rwa [List.reverse_reverse] at this

theorem hr_last (l : List C4) (c : C4) (h : ¬ (c.2.1 < 0 ∨ c.2.2.1 = 0)) : ∃ q, hr l c = q ++ [c] := by
  unfold hr
  rw [if_neg h]
  split
  · rename_i h8
    refine ⟨(fgt l c).drop 1, ?_⟩
    rw [List.drop_append_of_le_length (by omega)]
  · exact ⟨_, rfl⟩

theorem hr_gone (l : List C4) (c : C4) (h : c.2.1 < 0 ∨ c.2.2.1 = 0) : hr l c = fgt l c := by
  unfold hr
  rw [if_pos h]

theorem fgt_none (l : List C4) (c : C4) : (fgt l c).any (fun x => tou c x) = false := by
  rw [List.any_eq_false]
  intro x hx
  unfold fgt at hx
  have := (List.mem_filter.1 hx).2
  simpa using this

set_option maxHeartbeats 1600000 in
theorem play_any (v : Value) (l : List C4) (w : World) (h : IsRecs encC 4398046511000 w v l) :
    Calls Try.prog 19 #[v] w fun e w' => e = .returned (.slice (some ⟨w.heap.size, 0, none⟩) (play l).length 9) ∧ RowC w' w.heap.size 9 (play l) ∧ Below w.heap.size w w' := by
  obtain ⟨i0, hi0, hz0, hz1, hz2⟩ := info_parts info_cached
  obtain ⟨a, cap, rfl, h1, hl, hc'⟩ := h
  obtain ⟨n, hn⟩ : ∃ n, Hid (n = l.length) := ⟨_, rfl⟩
  rw [← hn.out] at hl hc' ⊢
  go_enter Try.func19, Try.ntmps19
  go_wp2_with (refine wpList_make_room w rfl (.const (.int .i64 0)) (.const (.int .i64 9)) 37 rfl 40 i0 _ Try.underlying37 hi0 hz0 hz1 .i64 .i64 0 9 rfl rfl (by decide) (by rw [hz2]; decide) (by decide) ?_; intro w1 xs hrow1 hx1 hb1 hs1)
  go_loopw [3, 9] (fun v i wr => ∃ k : Nat, k ≤ n ∧ v = .slice (some ⟨w.heap.size, 0, none⟩) (play (l.take k)).length 9 ∧ i = .int .i64 k ∧ Hid (RowC wr w.heap.size 9 (play (l.take k))) ∧ w.heap.size < wr.heap.size ∧ Below w.heap.size w wr) (fun _ i _ => n - (intOf i).toNat)
  case atStart => exact ⟨0, Nat.zero_le _, rfl, rfl, ⟨xs, hrow1, hx1, by simp [play], by simp [play, flatL]⟩, by omega, hb1⟩
  case round =>
    obtain ⟨k, hk, rfl, rfl, hrow, hsz, hbel⟩ := hrel
    by_cases hlt : k < n
    · obtain ⟨b, off, rfl, hc⟩ := hc' (by omega)
      have HP : Hid _ := play_succ l k (by rw [← hn.out]; exact hlt)
      have hcell := fun t u ht hu => recs_cell shC hc (0, 0, 0, 0) k t (by rw [← hn.out]; exact hlt) ht (u := u) hu
      obtain ⟨⟨x, y, z, u⟩, hp⟩ : ∃ p, p = l.getD k (0, 0, 0, 0) := ⟨_, rfl⟩
      rw [← hp] at hcell HP
      clear hp
      have hk0 : wr.cell? ⟨b, off + k * 4, none⟩ = some (.int .i64 x) := (hbel.cell (cell_lt (hcell 0 _ (by decide) rfl))).trans (hcell 0 _ (by decide) rfl)
      have hk1 : wr.cell? ⟨b, off + k * 4 + 1, none⟩ = some (.int .i64 y) := (hbel.cell (cell_lt (hcell 1 _ (by decide) rfl))).trans (hcell 1 _ (by decide) rfl)
      have hk2 : wr.cell? ⟨b, off + k * 4 + 2, none⟩ = some (.int .i64 z) := (hbel.cell (cell_lt (hcell 2 _ (by decide) rfl))).trans (hcell 2 _ (by decide) rfl)
      have hk3 : wr.cell? ⟨b, off + k * 4 + 3, none⟩ = some (.int .i64 u) := (hbel.cell (cell_lt (hcell 3 _ (by decide) rfl))).trans (hcell 3 _ (by decide) rfl)
      clear hcell
      have HC : Hid (∀ w1, Below wr.heap.size wr w1 → Calls Try.prog 35 #[.slice (some ⟨w.heap.size, 0, none⟩) (play (l.take k)).length 9, .agg #[.int .i64 x, .int .i64 y, .int .i64 z, .int .i64 u]] w1 fun e w' => e = .returned (.slice (some ⟨w.heap.size, 0, none⟩) (play (l.take (k + 1))).length 9) ∧ RowC w' w.heap.size 9 (play (l.take (k + 1))) ∧ Below w.heap.size w1 w' ∧ Spare w.heap.size w1 w') := by
        intro w1 hw1
        rw [HP.out]
        exact hear_any w.heap.size w.heap.size _ x y z u w1 (Nat.le_refl _) (Nat.lt_of_lt_of_le hsz hw1.size) (hrow.out.below hw1) (play_le _)
      obtain ⟨p1, hp1⟩ : ∃ p1, p1 = (play (l.take (k + 1))).length := ⟨_, rfl⟩
      obtain ⟨p0, hp0⟩ : ∃ p0, p0 = (play (l.take k)).length := ⟨_, rfl⟩
      rw [← hp1, ← hp0] at HC
      rw [← hp0]
      have HP1 : Hid (p1 = (play (l.take (k + 1))).length) := hp1
      clear hp1 hp0 HP
      go_wp2_with (go_at_call 35; refine (HC.out _ ((Below.refl _ _).alloc (Nat.le_refl _) _)).mono ?_; rintro e w2 ⟨rfl, hr2, hw2, hs2⟩)
      have hs := hw2.size
      simp at hs
      go_roundw
      case rel => exact ⟨k + 1, by omega, by rw [HP1.out], by go_num, hr2, by omega, (hbel.alloc (by omega) _).trans hw2⟩
      case measure => simp [intOf]; omega
    · go_wp2
      go_ret
      obtain rfl : k = n := by omega
      have hr' := hrow.out
      rw [hn.out, List.take_length] at hr'
      exact ⟨by rw [hn.out, List.take_length]; rfl, hr', hbel⟩

end Go.Proofs.Ytgkdbcafijhdiac
