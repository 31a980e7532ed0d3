/- The contracts of slices.Grow at nil and slices.Concat of two lists of api.Op, however long. -/
import Derived.Test.YtbiipnojhjhejaaFlatBl
import Derived.Lib.AppendZeros
import Derived.Lib.AppendZerosOnto
namespace Go.Proofs.Ytbiipnojhjhejaa
set_option maxRecDepth 100000
open Go.RowKit
set_option linter.unusedSimpArgs false
set_option linter.unusedVariables false

theorem row_of {w : World} {g : Nat} {e : TypeId} {A : Array Value} (h : w.heap[g]? = some (.cells A e (0, 0))) : OwnRow w g e A.toList := by
  unfold OwnRow
  rw [Array.toArray_toList]
  exact h

set_option maxHeartbeats 400000 in
theorem ogrow_nil (n : Nat) (w : World) (hn : n ≤ 2932031007317) (h0 : 0 < n) :
    Calls Try.prog 27 #[.slice none 0 0, .int .i64 n] w fun e w' => ∃ g c xs, e = .returned (.slice (some ⟨g, 0, none⟩) 0 c) ∧ w.heap.size ≤ g ∧ OwnRow w' g 24 xs ∧ n ≤ c ∧ c ≤ maxLen ∧ xs.length = c * 12 ∧ Below w.heap.size w w' := by
  obtain ⟨i0, hi, hz0, hz1, hz2⟩ := info_parts info_opz
  have hrun : ∀ ty, (Builtin.append_ #[22, 3] ty #[.slice none 0 0, .int .i64 n]).run Try.prog w = _ := fun ty =>
    Lib.run_append_nil_zeros w 22 3 ty 24 i0 _ .i64 .i64 Try.underlying22 Try.underlying3 hi hz0 n h0 (by omega) (by omega) (by rw [hz2]; omega)
  have hge := grownCap_ge w n 0 24
  have hle := grownCap_le_maxLen w n 0 24 (by unfold maxLen; omega)
  obtain ⟨c, hc⟩ : ∃ c, c = grownCap w n 0 24 := ⟨_, rfl⟩
  rw [← hc] at hrun hge hle
  clear hc
  go_enter Try.func27, Try.ntmps27
  go_wp2_with (at_builtin; refine Lib.wpList_append_run _ rfl _ _ _ _ rfl _ _ rfl rfl _ _ (hrun _) ?_)
  go_ret
  refine ⟨w.heap.size, c, _, rfl, Nat.le_refl _, row_of (heap_alloc_new w.drew _), hge, hle, ?_, ((Below.refl _ _).drew).alloc (Nat.le_refl _) _⟩
  rw [Array.length_toList, Array.size_append, size_zeroCells, size_zeroCells]
  simp [Value.cells]
  omega

set_option maxHeartbeats 400000 in
theorem ogrow_zero (w : World) :
    Calls Try.prog 27 #[.slice none 0 0, .int .i64 0] w fun e w' => e = .returned (.slice none 0 0) ∧ Below w.heap.size w w' := by
  go_enter Try.func27, Try.ntmps27
  go_wp2
  go_ret
  exact ⟨rfl, Below.refl _ _⟩

theorem ogrow_own (n : Nat) (w : World) (hn : n ≤ 2932031007317) :
    Calls Try.prog 27 #[.slice none 0 0, .int .i64 n] w fun e w' => ∃ v', e = .returned v' ∧ OwnR 24 12 encO w.heap.size w' v' ([] : List O12) ∧ Below w.heap.size w w' := by
  by_cases h0 : 0 < n
  · refine (ogrow_nil n w hn h0).mono ?_
    rintro e w' ⟨g, c, xs, rfl, hg, hr, h1, h2, h3, hb⟩
    exact ⟨_, rfl, ownR_of_row shO hg hr (Nat.zero_le _) h2 h3 (by simp [flatL]), hb⟩
  · obtain rfl : n = 0 := by omega
    refine (ogrow_zero w).mono ?_
    rintro e w' ⟨rfl, hb⟩
    exact ⟨_, rfl, ownR_nil _ _ _, hb⟩

set_option maxHeartbeats 1600000 in
theorem oconcat_few (g cap : Nat) (a0 a1 : Option Addr) (c0 c1 n0 n1 : Nat) (l0 l1 : List O12) (hn0 : n0 = l0.length) (hn1 : n1 = l1.length) (w : World) (hg0 : w.cell? ⟨g, 0, none⟩ = some (.slice a0 n0 c0)) (hg1 : w.cell? ⟨g, 1, none⟩ = some (.slice a1 n1 c1))
    (h0 : IsRecs encO 1466015503658 w (.slice a0 n0 c0) l0) (h1 : IsRecs encO 1466015503658 w (.slice a1 n1 c1) l1) (hs : n0 + n1 ≤ 1466015503701) :
    Calls Try.prog 17 #[.slice (some ⟨g, 0, none⟩) 2 cap] w fun e w' => ∃ v', e = .returned v' ∧ OwnR 24 12 encO w.heap.size w' v' (l0 ++ l1) ∧ Below w.heap.size w w' := by
  obtain ⟨i0, hi, hz0, hz1, hz2⟩ := info_parts info_opz
  have H0 : Hid (∀ w1, Below w.heap.size w w1 → IsRecs encO 1466015503658 w1 (.slice a0 n0 c0) l0) := fun w1 hb => h0.below hb
  have H1 : Hid (∀ w1, Below w.heap.size w w1 → IsRecs encO 1466015503658 w1 (.slice a1 n1 c1) l1) := fun w1 hb => h1.below hb
  have HN : Hid (n0 = l0.length ∧ n1 = l1.length) := ⟨hn0, hn1⟩
  clear h0 h1 hn0 hn1
  go_enter Try.func17, Try.ntmps17
  go_wp2_with fail
  go_loopw [3, 11] (fun s i wr => ∃ k S : Nat, ((k = 0 ∧ S = 0) ∨ (k = 1 ∧ S = n0) ∨ (k = 2 ∧ S = n0 + n1)) ∧ s = .int .i64 (S : Nat) ∧ i = .int .i64 k ∧ Below w.heap.size w wr) (fun _ i _ => 2 - (intOf i).toNat)
  case atStart => exact ⟨0, 0, Or.inl ⟨rfl, rfl⟩, rfl, rfl, Below.refl _ _⟩
  case round =>
    obtain ⟨k, S, hk, rfl, rfl, hbel⟩ := hrel
    have k0 : wr.cell? ⟨g, 0, none⟩ = some (.slice a0 n0 c0) := (hbel.cell (cell_lt hg0)).trans hg0
    have k1 : wr.cell? ⟨g, 1, none⟩ = some (.slice a1 n1 c1) := (hbel.cell (cell_lt hg1)).trans hg1
    rcases hk with ⟨rfl, rfl⟩ | ⟨rfl, rfl⟩ | ⟨rfl, rfl⟩
    · go_wp2
      go_roundw
      case rel => exact ⟨1, n0, Or.inr (Or.inl ⟨rfl, rfl⟩), by go_num, rfl, hbel⟩
      case measure => simp [intOf]
    · go_wp2
      go_roundw
      case rel => exact ⟨2, S + n1, Or.inr (Or.inr ⟨rfl, rfl⟩), by go_num, rfl, hbel⟩
      case measure => simp [intOf]
    · have HG : Hid (∀ w1 m, m = ((n0 + n1 : Nat) : Int) → Calls Try.prog 27 #[.slice none 0 0, .int .i64 m] w1 fun e w' => ∃ v', e = .returned v' ∧ OwnR 24 12 encO w1.heap.size w' v' ([] : List O12) ∧ Below w1.heap.size w1 w') := fun w1 m hm => hm ▸ ogrow_own (n0 + n1) w1 (by omega)
      go_wp2_with (go_at_call 27; refine (HG.out _ _ (by simp)).mono ?_; rintro e w1 ⟨v1, rfl, hown1, hbel1⟩)
      go_loopw [6, 27] (fun v i wr => ∃ j : Nat, (j = 0 ∧ OwnR 24 12 encO w.heap.size wr v ([] : List O12) ∨ j = 1 ∧ OwnR 24 12 encO w.heap.size wr v l0 ∨ j = 2 ∧ OwnR 24 12 encO w.heap.size wr v (l0 ++ l1)) ∧ i = .int .i64 j ∧ Below w.heap.size w wr) (fun _ i _ => 2 - (intOf i).toNat)
      case atStart => exact ⟨0, Or.inl ⟨rfl, hown1.mono hbel.size⟩, rfl, hbel.trans (hbel1.mono hbel.size)⟩
      case round =>
        obtain ⟨j, hj, rfl, hbel2⟩ := hrel
        have m0 : wr.cell? ⟨g, 0, none⟩ = some (.slice a0 n0 c0) := (hbel2.cell (cell_lt hg0)).trans hg0
        have m1 : wr.cell? ⟨g, 1, none⟩ = some (.slice a1 n1 c1) := (hbel2.cell (cell_lt hg1)).trans hg1
        have hbase := hbel2.size
        have HA : Hid (IsRecs encO 1466015503658 wr (.slice a0 n0 c0) l0) := H0.out _ hbel2
        have HB : Hid (IsRecs encO 1466015503658 wr (.slice a1 n1 c1) l1) := H1.out _ hbel2
        have HL : Hid (([] : List O12).length + l0.length ≤ 1466015503701 ∧ l0.length + l1.length ≤ 1466015503701) := by
          have := HN.out
          exact ⟨by show 0 + l0.length ≤ _; omega, by omega⟩
        rcases hj with ⟨rfl, hown⟩ | ⟨rfl, hown⟩ | ⟨rfl, hown⟩
        · go_wp2_with (at_builtin; go_must (refine wpList_append_recs shO rfl _ _ 22 24 i0 _ 96 rfl Try.underlying22 hi hz0 hz1 hz2 rfl w.heap.size _ [] rfl hown 1466015503658 _ l0 rfl HA.out (by have := HL.out.1; omega) (by have := HL.out.1; unfold maxLen; omega) hbase ?_); intro v' w' hown' hbw')
          go_roundw
          case rel => exact ⟨1, Or.inr (Or.inl ⟨rfl, hown'⟩), rfl, hbel2.trans hbw'⟩
          case measure => simp [intOf]
        · go_wp2_with (at_builtin; go_must (refine wpList_append_recs shO rfl _ _ 22 24 i0 _ 96 rfl Try.underlying22 hi hz0 hz1 hz2 rfl w.heap.size _ l0 rfl hown 1466015503658 _ l1 rfl HB.out (by have := HL.out.2; omega) (by have := HL.out.2; unfold maxLen; omega) hbase ?_); intro v' w' hown' hbw')
          go_roundw
          case rel => exact ⟨2, Or.inr (Or.inr ⟨rfl, hown'⟩), rfl, hbel2.trans hbw'⟩
          case measure => simp [intOf]
        · go_wp2
          go_ret
          exact ⟨_, rfl, hown, hbel2⟩

/-- How many there are in the first k of two lists. -/
def sN (n0 n1 : Nat) (k : Nat) : Nat := if k = 0 then 0 else if k = 1 then n0 else n0 + n1

/-- The row that is filled: so many of the list stand in it. -/
def FillN (G cap : Nat) (l : List O12) (w w' : World) (n : Nat) : Prop := ∃ xs, OwnRow w' G 24 xs ∧ xs.length = cap * 12 ∧ xs.take (n * 12) = flatL encO (l.take n) ∧ Below w.heap.size w w'

/-- A list more. -/
theorem FillN.more {G cap : Nat} {l0 l1 : List O12} {w w' : World} {n : Nat} (h : FillN G cap (l0 ++ l1) w w' n) (hn : n = l0.length) (hc : n + l1.length ≤ cap) (hG : w.heap.size ≤ G) :
    FillN G cap (l0 ++ l1) w (w'.setCells G (n * 12) (flatL encO l1)) (n + l1.length) := by
  obtain ⟨xs, h1, h2, h3, h4⟩ := h
  have hl : n * 12 + (flatL encO l1).length ≤ xs.length := by rw [flatL_len shO, h2]; omega
  refine ⟨_, h1.setCells _ _ _ _ hl, by rw [spl_len hl]; exact h2, ?_, below_setCells hG _ _ _ _ h4⟩
  have e : (n + l1.length) * 12 = n * 12 + (flatL encO l1).length := by rw [flatL_len shO]; omega
  rw [e, spl_take_hi (by omega), h3, hn, List.take_left' rfl, List.take_of_length_le (by simp)]
  simp only [flatL, List.flatMap_append]

theorem FillN.first {G cap : Nat} {l0 l1 : List O12} {w w' : World} (h : FillN G cap (l0 ++ l1) w w' 0) (hc : l0.length ≤ cap) (hG : w.heap.size ≤ G) :
    FillN G cap (l0 ++ l1) w (w'.setCells G 0 (flatL encO l0)) l0.length := by
  obtain ⟨xs, h1, h2, h3, h4⟩ := h
  have hl : 0 + (flatL encO l0).length ≤ xs.length := by rw [flatL_len shO, h2]; omega
  refine ⟨_, h1.setCells _ _ _ _ hl, by rw [spl_len hl]; exact h2, ?_, below_setCells hG _ _ _ _ h4⟩
  have e : l0.length * 12 = 0 + (flatL encO l0).length := by rw [flatL_len shO]; omega
  rw [e, spl_take_hi (by omega), List.take_left' rfl]
  simp

theorem FillN.spare {G cap : Nat} {l : List O12} {w w' : World} {n : Nat} (h : FillN G cap l w w' n) {m : Nat} (hm : n + m ≤ cap) : ∀ j, j < m * 12 → (w'.cell? ⟨G, 0 + n * 12 + j, none⟩).isSome = true ∧ w'.frozen? ⟨G, 0 + n * 12 + j, none⟩ = false := by
  obtain ⟨xs, h1, h2, -, -⟩ := h
  intro j hj
  refine ⟨?_, h1.free _⟩
  rw [h1.cell, List.getElem?_eq_getElem (by rw [h2]; omega)]
  rfl

set_option maxHeartbeats 1600000 in
theorem oconcat_room (g cap : Nat) (a0 a1 : Addr) (c0 c1 n0 n1 : Nat) (l0 l1 : List O12) (hn0 : n0 = l0.length) (hn1 : n1 = l1.length) (w : World) (hg0 : w.cell? ⟨g, 0, none⟩ = some (.slice (some a0) n0 c0)) (hg1 : w.cell? ⟨g, 1, none⟩ = some (.slice (some a1) n1 c1))
    (h0 : ∀ j u, (flatL encO l0)[j]? = some u → w.cell? (a0.add j) = some u) (h1 : ∀ j u, (flatL encO l1)[j]? = some u → w.cell? (a1.add j) = some u) (hs : n0 + n1 ≤ 2932031007317) (hp : 0 < n0 + n1) :
    Calls Try.prog 17 #[.slice (some ⟨g, 0, none⟩) 2 cap] w fun e w' => ∃ v', e = .returned v' ∧ OwnR 24 12 encO w.heap.size w' v' (l0 ++ l1) ∧ Below w.heap.size w w' := by
  obtain ⟨i0, hi, hz0, hz1, hz2⟩ := info_parts info_opz
  have H0 : Hid (∀ w1, Below w.heap.size w w1 → ∀ j u, (flatL encO l0)[j]? = some u → w1.cell? (a0.add j) = some u) := fun w1 hb j u hj => (hb.cell (cell_lt (h0 j u hj))).trans (h0 j u hj)
  have H1 : Hid (∀ w1, Below w.heap.size w w1 → ∀ j u, (flatL encO l1)[j]? = some u → w1.cell? (a1.add j) = some u) := fun w1 hb j u hj => (hb.cell (cell_lt (h1 j u hj))).trans (h1 j u hj)
  have HN : Hid (n0 = l0.length ∧ n1 = l1.length) := ⟨hn0, hn1⟩
  clear h0 h1 hn0 hn1
  go_enter Try.func17, Try.ntmps17
  go_wp2_with fail
  go_loopw [3, 11] (fun s i wr => ∃ k S : Nat, ((k = 0 ∧ S = 0) ∨ (k = 1 ∧ S = n0) ∨ (k = 2 ∧ S = n0 + n1)) ∧ s = .int .i64 (S : Nat) ∧ i = .int .i64 k ∧ Below w.heap.size w wr) (fun _ i _ => 2 - (intOf i).toNat)
  case atStart => exact ⟨0, 0, Or.inl ⟨rfl, rfl⟩, rfl, rfl, Below.refl _ _⟩
  case round =>
    obtain ⟨k, S, hk, rfl, rfl, hbel⟩ := hrel
    have k0 : wr.cell? ⟨g, 0, none⟩ = some (.slice (some a0) n0 c0) := (hbel.cell (cell_lt hg0)).trans hg0
    have k1 : wr.cell? ⟨g, 1, none⟩ = some (.slice (some a1) n1 c1) := (hbel.cell (cell_lt hg1)).trans hg1
    rcases hk with ⟨rfl, rfl⟩ | ⟨rfl, rfl⟩ | ⟨rfl, rfl⟩
    · go_wp2
      go_roundw
      case rel => exact ⟨1, n0, Or.inr (Or.inl ⟨rfl, rfl⟩), by go_num, rfl, hbel⟩
      case measure => simp [intOf]
    · go_wp2
      go_roundw
      case rel => exact ⟨2, S + n1, Or.inr (Or.inr ⟨rfl, rfl⟩), by go_num, rfl, hbel⟩
      case measure => simp [intOf]
    · have HG : Hid (∀ w1 m, Below w.heap.size w w1 → m = ((n0 + n1 : Nat) : Int) → Calls Try.prog 27 #[.slice none 0 0, .int .i64 m] w1 fun e w' => ∃ G cp, e = .returned (.slice (some ⟨G, 0, none⟩) 0 cp) ∧ w.heap.size ≤ G ∧ n0 + n1 ≤ cp ∧ cp ≤ maxLen ∧ Hid (FillN G cp (l0 ++ l1) w w' 0)) := fun w1 m hb hm => by
        rw [hm]
        refine (ogrow_nil (n0 + n1) w1 hs hp).mono ?_
        rintro e w' ⟨G, cp, xs, he, hG, hr, h1, h2, h3, hb2⟩
        exact ⟨G, cp, he, Nat.le_trans hb.size hG, h1, h2, xs, hr, h3, by simp [flatL], hb.trans (hb2.mono hb.size)⟩
      go_wp2_with (go_at_call 27; refine (HG.out _ _ hbel (by simp)).mono ?_; rintro e w1 ⟨G, cp, rfl, hG, hcp, hcm, hf0⟩)
      go_loopw [6, 27] (fun v i wr => ∃ j m : Nat, (j = 0 ∧ m = 0 ∨ j = 1 ∧ m = n0 ∨ j = 2 ∧ m = n0 + n1) ∧ v = .slice (some ⟨G, 0, none⟩) m cp ∧ Hid (FillN G cp (l0 ++ l1) w wr m) ∧ i = .int .i64 j) (fun _ i _ => 2 - (intOf i).toNat)
      case atStart => exact ⟨0, 0, Or.inl ⟨rfl, rfl⟩, rfl, hf0, rfl⟩
      case round =>
        obtain ⟨j, m, hj, rfl, hf, rfl⟩ := hrel
        have hbel2 : Below w.heap.size w wr := by obtain ⟨xs, -, -, -, hb⟩ := hf.out; exact hb
        have m0 : wr.cell? ⟨g, 0, none⟩ = some (.slice (some a0) n0 c0) := (hbel2.cell (cell_lt hg0)).trans hg0
        have m1 : wr.cell? ⟨g, 1, none⟩ = some (.slice (some a1) n1 c1) := (hbel2.cell (cell_lt hg1)).trans hg1
        have HA : Hid _ := H0.out _ hbel2
        have HB : Hid _ := H1.out _ hbel2
        rcases hj with ⟨rfl, rfl⟩ | ⟨rfl, rfl⟩ | ⟨rfl, rfl⟩
        · have HS : Hid (∀ j, j < (flatL encO l0).length → (wr.cell? ⟨G, 0 + 0 * 12 + j, none⟩).isSome = true ∧ wr.frozen? ⟨G, 0 + 0 * 12 + j, none⟩ = false) := fun j hj => hf.out.spare (m := n0) (by omega) j (by rw [flatL_len shO] at hj; rw [HN.out.1]; exact hj)
          have HF : Hid (FillN G cp (l0 ++ l1) w (wr.setCells G (0 + 0 * 12) (flatL encO l0)) n0) := by
            have := hf.out.first (by rw [← HN.out.1]; omega) hG
            rw [← HN.out.1] at this
            exact this
          have hlen0 : Hid ((flatL encO l0).length = n0 * 12) := by show _ = _; rw [flatL_len shO, HN.out.1]
          go_wp2_with (at_builtin; go_must (refine wpList_append_fits rfl _ _ 22 rfl 24 i0 12 Try.underlying22 hi hz1 G 0 0 cp rfl a0 n0 c0 (flatL encO l0) rfl hlen0.out HA.out (flatL_ones shO l0) (by omega) HS.out ?_))
          go_roundw
          case rel => exact ⟨1, n0, Or.inr (Or.inl ⟨rfl, rfl⟩), by simp, HF.out, rfl⟩
          case measure => simp [intOf]
        · have HS : Hid (∀ j, j < (flatL encO l1).length → (wr.cell? ⟨G, 0 + m * 12 + j, none⟩).isSome = true ∧ wr.frozen? ⟨G, 0 + m * 12 + j, none⟩ = false) := fun j hj => hf.out.spare (m := n1) (by omega) j (by rw [flatL_len shO] at hj; rw [HN.out.2]; exact hj)
          have HF : Hid (FillN G cp (l0 ++ l1) w (wr.setCells G (0 + m * 12) (flatL encO l1)) (m + n1)) := by
            have := hf.out.more HN.out.1 (by rw [← HN.out.2]; omega) hG
            rw [← HN.out.2] at this
            rw [Nat.zero_add]
            exact this
          have hlen1 : Hid ((flatL encO l1).length = n1 * 12) := by show _ = _; rw [flatL_len shO, HN.out.2]
          go_wp2_with (at_builtin; go_must (refine wpList_append_fits rfl _ _ 22 rfl 24 i0 12 Try.underlying22 hi hz1 G 0 m cp rfl a1 n1 c1 (flatL encO l1) rfl hlen1.out HB.out (flatL_ones shO l1) (by omega) HS.out ?_))
          go_roundw
          case rel => exact ⟨2, m + n1, Or.inr (Or.inr ⟨rfl, rfl⟩), rfl, by have := HF.out; rw [Nat.zero_add] at this; exact this, rfl⟩
          case measure => simp [intOf]
        · go_wp2
          go_ret
          obtain ⟨xs, hr, hx, ht, hb⟩ := hf.out
          refine ⟨_, rfl, ?_, hb⟩
          have hl : n0 + n1 = (l0 ++ l1).length := by rw [List.length_append, HN.out.1, HN.out.2]
          have := ownR_of_row (base := w.heap.size) (cap := cp) (l := l0 ++ l1) shO hG hr (by omega) hcm hx (by rw [← hl, ht, hl, List.take_length])
          rw [← hl] at this
          exact this

theorem oconcat_any (g cap : Nat) (a0 a1 : Option Addr) (c0 c1 n0 n1 : Nat) (l0 l1 : List O12) (hn0 : n0 = l0.length) (hn1 : n1 = l1.length) (w : World) (hg0 : w.cell? ⟨g, 0, none⟩ = some (.slice a0 n0 c0)) (hg1 : w.cell? ⟨g, 1, none⟩ = some (.slice a1 n1 c1))
    (h0 : IsRecs encO 1466015503658 w (.slice a0 n0 c0) l0) (h1 : IsRecs encO 1466015503658 w (.slice a1 n1 c1) l1) :
    Calls Try.prog 17 #[.slice (some ⟨g, 0, none⟩) 2 cap] w fun e w' => ∃ v', e = .returned v' ∧ OwnR 24 12 encO w.heap.size w' v' (l0 ++ l1) ∧ Below w.heap.size w w' := by
  have b0 := h0.len
  have b1 := h1.len
  by_cases hs : n0 + n1 ≤ 1466015503701
  · exact oconcat_few g cap a0 a1 c0 c1 n0 n1 l0 l1 hn0 hn1 w hg0 hg1 h0 h1 hs
  · have h0' := h0
    have h1' := h1
    obtain ⟨a, c, e, -, -, hc⟩ := h0
    injection e with e1 e2 e3
    subst e1
    obtain ⟨b, off, rfl, hcc⟩ := hc (by omega)
    obtain ⟨a', c', e', -, -, hc'⟩ := h1
    injection e' with e1' e2' e3'
    subst e1'
    obtain ⟨b', off', rfl, hcc'⟩ := hc' (by omega)
    exact oconcat_room g cap ⟨b, off, none⟩ ⟨b', off', none⟩ c0 c1 n0 n1 l0 l1 hn0 hn1 w hg0 hg1 (fun j u hj => by rw [add_none]; exact hcc j u hj) (fun j u hj => by rw [add_none]; exact hcc' j u hj) (by omega) (by omega)

end Go.Proofs.Ytbiipnojhjhejaa
