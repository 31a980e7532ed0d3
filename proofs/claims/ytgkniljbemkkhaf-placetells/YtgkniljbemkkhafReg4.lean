/- The contracts of slices.Grow at nil and slices.Concat over slices of api.Region. -/
import Derived.Test.YtgkniljbemkkhafReg3
namespace Go.Proofs.Ytgkniljbemkkhaf
open Go.RowKit
set_option linter.unusedSimpArgs false
set_option linter.unusedVariables false

set_option maxHeartbeats 400000 in
theorem grow_nil (n : Nat) (w : World) (hn : n ≤ 1000000) :
    Calls Try.prog 36 #[.slice none 0 0, .int .i64 n] w fun e w' => ∃ v', e = .returned v' ∧ OwnR 36 6 encR w.heap.size w' v' [] ∧ Below w.heap.size w w' := by
  obtain ⟨i0, hi, hz0, hz1, hz2⟩ := info_parts info_region
  by_cases h0 : 0 < n
  · have hrun : ∀ ty, (Builtin.append_ #[22, 3] ty #[.slice none 0 0, .int .i64 n]).run Try.prog w = _ := fun ty =>
      Lib.run_append_nil_zeros w 22 3 ty 36 i0 _ .i64 .i64 Try.underlying22 Try.underlying3 hi hz0 n h0 (by omega) (by omega) (by rw [hz2]; omega)
    have hge := grownCap_ge w n 0 36
    have hle := grownCap_le_maxLen w n 0 36 (by unfold maxLen; omega)
    obtain ⟨c, hc⟩ : ∃ c, c = grownCap w n 0 36 := ⟨_, rfl⟩
    rw [← hc] at hrun hge hle
    clear hc
    go_enter Try.func36, Try.ntmps36
    go_wp2_with (at_builtin; refine Lib.wpList_append_run _ rfl _ _ _ _ rfl _ _ rfl rfl _ _ (hrun _) ?_)
    go_ret
    refine ⟨_, rfl, ?_, ((Below.refl _ _).drew).alloc (Nat.le_refl _) _⟩
    refine ⟨rfl, Or.inr ⟨w.heap.size, c, _, rfl, Nat.le_refl _, heap_alloc_new w.drew _, Nat.zero_le _, hle, ?_, rfl⟩⟩
    rw [Array.size_append, size_zeroCells, size_zeroCells]
    simp [Value.cells]
    omega
  · obtain rfl : n = 0 := by omega
    go_enter Try.func36, Try.ntmps36
    go_wp2
    go_ret
    exact ⟨_, rfl, ⟨rfl, Or.inl ⟨rfl, rfl⟩⟩, Below.refl _ _⟩

/-- How many there are in the first k lists. -/
def sumLen (ls : List (List R6)) : Nat → Nat
  | 0 => 0
  | k + 1 => sumLen ls k + (ls.getD k []).length

theorem sumLen_flat (ls : List (List R6)) : ∀ k, k ≤ ls.length → sumLen ls k = (ls.take k).flatten.length
  | 0, _ => by simp [sumLen]
  | k + 1, h => by
    rw [sumLen, sumLen_flat ls k (by omega), List.take_add_one, List.getElem?_eq_getElem (by omega), List.getD_eq_getElem?_getD, List.getElem?_eq_getElem (by omega)]
    rw [List.flatten_append, List.length_append]
    simp

theorem sumLen_mono (ls : List (List R6)) (k : Nat) : ∀ j, sumLen ls k ≤ sumLen ls (k + j)
  | 0 => Nat.le_refl _
  | j + 1 => by
    have := sumLen_mono ls k j
    rw [← Nat.add_assoc, sumLen]
    omega

set_option maxHeartbeats 800000 in
theorem concat_any (g off cap : Nat) (vs : List Value) (ls : List (List R6)) (w : World) (hn : ls.length ≤ 1000) (hsum : sumLen ls ls.length ≤ 1000000)
    (hc : ∀ i, i < ls.length → w.cell? ⟨g, off + i, none⟩ = some (vs.getD i undef) ∧ IsRecs encR 1000000 w (vs.getD i undef) (ls.getD i [])) :
    Calls Try.prog 33 #[.slice (some ⟨g, off, none⟩) ls.length cap] w fun e w' => ∃ v', e = .returned v' ∧ OwnR 36 6 encR w.heap.size w' v' ls.flatten ∧ Below w.heap.size w w' := by
  obtain ⟨i0, hi, hz0, hz1, hz2⟩ := info_parts info_region
  obtain ⟨n, hnn⟩ : ∃ n, Hid (n = ls.length) := ⟨_, rfl⟩
  rw [← hnn.out] at hn hc hsum ⊢
  go_enter Try.func33, Try.ntmps33
  go_wp2_with fail
  go_loopw [3, 11] (fun s i wr => ∃ k : Nat, k ≤ n ∧ s = .int .i64 (sumLen ls k : Nat) ∧ i = .int .i64 k ∧ Below w.heap.size w wr) (fun _ i _ => n - (intOf i).toNat)
  case atStart => exact ⟨0, Nat.zero_le _, rfl, rfl, Below.refl _ _⟩
  case round =>
    obtain ⟨k, hk, rfl, rfl, hbel⟩ := hrel
    by_cases hlt : k < n
    · obtain ⟨hck, a, c, hv, h1, h2, -⟩ := hc k hlt
      have hm := sumLen_mono ls (k + 1) (n - (k + 1))
      rw [show k + 1 + (n - (k + 1)) = n by omega] at hm
      have hsk : sumLen ls (k + 1) = sumLen ls k + (ls.getD k []).length := rfl
      rw [hsk] at hm
      have HSK : Hid (sumLen ls (k + 1) = sumLen ls k + (ls.getD k []).length) := hsk
      clear hsk
      rw [hv] at hck
      have hk0 : wr.cell? ⟨g, off + k, none⟩ = some (.slice a (ls.getD k []).length c) := (hbel.cell (cell_lt hck)).trans hck
      obtain ⟨m, hme⟩ : ∃ m, m = (ls.getD k []).length := ⟨_, rfl⟩
      rw [← hme] at hm h1 h2 hk0 HSK
      clear hck hme hv
      go_wp2
      go_roundw
      case rel => exact ⟨k + 1, by omega, by rw [HSK.out]; go_num, by go_num, hbel⟩
      case measure => simp [intOf]; omega
    · obtain rfl : k = n := by omega
      go_wp2_with (go_at_call 36; refine (grow_nil _ _ hsum).mono ?_; rintro e w1 ⟨v1, rfl, hown1, hbel1⟩)
      go_loopw [6, 27] (fun v i wr => ∃ j : Nat, j ≤ k ∧ OwnR 36 6 encR w.heap.size wr v (ls.take j).flatten ∧ i = .int .i64 j ∧ Below w.heap.size w wr) (fun _ i _ => k - (intOf i).toNat)
      case atStart => exact ⟨0, Nat.zero_le _, (hown1.mono hbel.size), rfl, hbel.trans (hbel1.mono hbel.size)⟩
      case round =>
        obtain ⟨j, hj, hown, rfl, hbel2⟩ := hrel
        by_cases hlt2 : j < k
        · obtain ⟨hck, hbs⟩ := hc j hlt2
          have hbs2 := hbs.below hbel2
          have hm := sumLen_mono ls (j + 1) (k - (j + 1))
          rw [show j + 1 + (k - (j + 1)) = k by omega] at hm
          have hsf := sumLen_flat ls j (by rw [← hnn.out]; omega)
          have hsk : sumLen ls (j + 1) = sumLen ls j + (ls.getD j []).length := rfl
          have HF : Hid ((ls.take (j + 1)).flatten = (ls.take j).flatten ++ ls.getD j []) := by
            show _ = _
            rw [List.take_add_one, List.getElem?_eq_getElem (by rw [← hnn.out]; omega), List.getD_eq_getElem?_getD, List.getElem?_eq_getElem (by rw [← hnn.out]; omega), List.flatten_append]
            simp
          have hlen : (ls.take j).flatten.length + (ls.getD j []).length ≤ 1000000 := by omega
          have hk0 : wr.cell? ⟨g, off + j, none⟩ = some (vs.getD j undef) := (hbel2.cell (cell_lt hck)).trans hck
          have hbase := hbel2.size
          obtain ⟨u, hu⟩ : ∃ u, u = vs.getD j undef := ⟨_, rfl⟩
          rw [← hu] at hk0 hbs2
          have HB : Hid (IsRecs encR 1000000 wr u (ls.getD j [])) := hbs2
          obtain ⟨ua, uc, rfl, -⟩ := hbs2
          clear hck hbs hu hm hsf hsk
          go_wp2_with (at_builtin; go_must (refine wpList_append_recs shR rfl _ _ 22 36 i0 _ 40 rfl Try.underlying22 hi hz0 hz1 hz2 rfl w.heap.size _ _ rfl hown _ _ _ rfl HB.out (by omega) (by unfold maxLen; omega) hbase ?_); intro v' w' hown' hbw')
          go_roundw
          case rel => exact ⟨j + 1, by omega, by rw [HF.out]; exact hown', by go_num, hbel2.trans hbw'⟩
          case measure => simp [intOf]; omega
        · obtain rfl : j = k := by omega
          go_wp2
          go_ret
          refine ⟨_, rfl, ?_, hbel2⟩
          rw [List.take_of_length_le (by rw [← hnn.out]; omega)] at hown
          exact hown

theorem concat3 (g cap : Nat) (s0 s1 s2 : Value) (l0 l1 l2 : List R6) (W : World) (hs0 : W.cell? ⟨g, 0, none⟩ = some s0) (hs1 : W.cell? ⟨g, 1, none⟩ = some s1) (hs2 : W.cell? ⟨g, 2, none⟩ = some s2)
    (h0 : IsRecs encR 1000000 W s0 l0) (h1 : IsRecs encR 1000000 W s1 l1) (h2 : IsRecs encR 1000000 W s2 l2) (hsum : l0.length + l1.length + l2.length ≤ 1000000) :
    Calls Try.prog 33 #[.slice (some ⟨g, 0, none⟩) 3 cap] W fun e w' => ∃ v', e = .returned v' ∧ OwnR 36 6 encR W.heap.size w' v' (l0 ++ l1 ++ l2) ∧ Below W.heap.size W w' := by
  have h := concat_any g 0 cap [s0, s1, s2] [l0, l1, l2] W (by simp) (by simpa [sumLen] using hsum) (fun i hi => by
    match i with
    | 0 => exact ⟨by simpa using hs0, by simpa using h0⟩
    | 1 => exact ⟨by simpa using hs1, by simpa using h1⟩
    | 2 => exact ⟨by simpa using hs2, by simpa using h2⟩
    | i + 3 => simp at hi; omega)
  simpa using h

end Go.Proofs.Ytgkniljbemkkhaf
