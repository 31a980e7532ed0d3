/- The walk of framewardenkeep.TlbOther: it returns true, and nothing that was there is written. -/
import Derived.Test.YtgkdbcafijhdiadTlbOtherMath
import Derived.Test.YtgkdbcafijhdiadAlive6
namespace Go.Proofs.Ytgkdbcafijhdiad
open Go.RowKit
set_option linter.unusedSimpArgs false
set_option linter.unusedVariables false

theorem box_add' (w : World) (s : Nat) (hs : s = w.heap.size) (x y z u : Int) (t : TypeId) : ∀ j v, (encC (x, y, z, u))[j]? = some v → (w.alloc (.cells #[.int .i64 x, .int .i64 y, .int .i64 z, .int .i64 u] t)).cell? (Addr.add ⟨s, 0, none⟩ j) = some v :=
  hs ▸ box_add w x y z u t

set_option maxHeartbeats 3200000 in
theorem tlbOther_walk (v : Value) (l : List C4) (pr : Int) (w : World) (h : IsRecs encC 4398046510976 w v l) (_hp : (Lit.int .i64 pr).wf = true) :
    Calls Try.prog 4 #[v, .int .i64 pr] w fun e w' => e = .returned (.bool true) ∧ Below w.heap.size w w' := by
  obtain ⟨i0, hi0, hz0, hz1, hz2⟩ := info_parts info_cached
  have hlen := h.len
  have h' : IsRecs encC 4398046511000 w v l := by
    obtain ⟨a, cap, rfl, h1, h2, h3⟩ := h
    exact ⟨a, cap, rfl, h1, by omega, h3⟩
  have HI : Hid (∀ w1, Below w.heap.size w w1 → IsRecs encC 4398046511000 w1 v l) := fun w1 hb => h'.below hb
  clear h'
  have HPl : Hid (∀ w1, Below w.heap.size w w1 → Calls Try.prog 6 #[v] w1 fun e w' => e = .returned (.slice (some ⟨w1.heap.size, 0, none⟩) (play l).length 9) ∧ RowC w' w1.heap.size 9 (play l) ∧ Below w1.heap.size w1 w') := fun w1 hb => play_any _ _ w1 (HI.out w1 hb)
  have Hal : Hid (∀ w1, Calls Try.prog 5 #[] w1 fun e w' => e = .returned (.bool true) ∧ Below w1.heap.size w1 w') := alive6_any
  obtain ⟨a, cap, rfl, h1, hl, hc'⟩ := h
  obtain ⟨n, hn⟩ : ∃ n, Hid (n = l.length) := ⟨_, rfl⟩
  rw [← hn.out] at HI HPl hlen hl hc' ⊢
  clear h1 hl
  go_enter Try.func4, Try.ntmps4
  go_wp2_with (go_at_call 5; refine (Hal.out _).mono ?_; rintro e W0 ⟨rfl, hW0⟩)
  have hA := own_one (xs := [.int .i64 pr]) hW0
  have hb0 := below_one hW0
  clear hW0
  have hpc : W0.cell? ⟨w.heap.size, 0, none⟩ = some (.int .i64 pr) := by rw [hA.cell]; rfl
  have hAlt := hA.lt
  clear hA
  go_loopw [5, 6, 14] (fun vc vo vi wr => ∃ k : Nat, k ≤ n ∧ vc = .int .i64 (cnt (l.take k) : Nat) ∧ vi = .int .i64 k ∧ Hid (OwnR 26 4 encC W0.heap.size wr vo ((l.take k).filter (mne pr))) ∧ Below W0.heap.size W0 wr) (fun _ _ i _ => n - (intOf i).toNat)
  case atStart => exact ⟨0, Nat.zero_le _, by simp [cnt], rfl, by simp only [List.take_zero, List.filter_nil]; exact ownR_nil _ _ _, Below.refl _ _⟩
  case round =>
    obtain ⟨k, hk, rfl, rfl, hown, hbel⟩ := hrel
    have hbw := hb0.trans (hbel.mono hb0.size)
    by_cases hlt : k < n
    · obtain ⟨b, off, rfl, hc⟩ := hc' (by omega)
      have HT : Hid _ := cnt_succ l k (by rw [← hn.out]; exact hlt)
      have HM : Hid _ := mne_succ pr l k (by rw [← hn.out]; exact hlt)
      obtain ⟨⟨x, y, z, u⟩, hp⟩ : ∃ q, q = l.getD k (0, 0, 0, 0) := ⟨_, rfl⟩
      obtain ⟨hk0, hk1, hk2, hk3⟩ := cell4 hc hbw k (by rw [← hn.out]; exact hlt) hp
      rw [← hp] at HT HM
      clear hp
      have hcl := cnt_le l k
      have hml := mne_le pr l k
      obtain ⟨C, hC⟩ : ∃ C, C = cnt (l.take k) := ⟨_, rfl⟩
      rw [← hC] at HT hcl ⊢
      clear hC
      have hpr : wr.cell? ⟨w.heap.size, 0, none⟩ = some (.int .i64 pr) := (hbel.cell (cell_lt hpc)).trans hpc
      have hsr := hbel.size
      have hws : w.heap.size < wr.heap.size := by omega
      cases hzz : (z == 0) with
      | true =>
        have hzn : (z != 0) = false := by simp [bne, hzz]
        have ht : tel (x, y, z, u) = false := by simp [tel, hzz]
        rw [ht] at HT
        simp only [Bool.false_eq_true, if_false, Nat.add_zero] at HT
        cases hxx : (x == pr) with
        | true =>
          have hm : mne pr (x, y, z, u) = true := hxx
          rw [hm] at HM
          have HL : Hid ((((l.take k).filter (mne pr)).length + 1) * 32 ≤ 140737488355328 ∧ ((l.take k).filter (mne pr)).length + 1 ≤ maxLen) := ⟨by omega, by unfold maxLen; omega⟩
          go_wp2_with (at_builtin; go_must (refine wpList_append_rec shC rfl _ _ 22 26 i0 _ 32 rfl Try.underlying22 hi0 hz0 hz1 hz2 rfl W0.heap.size _ _ rfl wr hown.out (((Below.refl _ _).alloc (Nat.le_refl _) _).alloc (by simp) _) hsr HL.out.1 HL.out.2 (x, y, z, u) _ 1 rfl (box_add' (wr.alloc _) _ (by simp) x y z u _) ?_); intro v3 w3 hown3 hb3)
          have hbn : Below W0.heap.size W0 w3 := ((hbel.alloc hsr _).alloc (by simp; omega) _).trans hb3
          go_roundw
          case rel => exact ⟨k + 1, by omega, by rw [HT.out], by go_num, by show OwnR _ _ _ _ _ _ _; rw [HM.out]; simpa using hown3, hbn⟩
          case measure => simp [intOf]; omega
        | false =>
          have hm : mne pr (x, y, z, u) = false := hxx
          rw [hm] at HM
          go_wp2
          have hbn : Below W0.heap.size W0 (wr.alloc (.cells #[.int .i64 x, .int .i64 y, .int .i64 z, .int .i64 u] 26)) := hbel.alloc hsr _
          go_roundw
          case rel => exact ⟨k + 1, by omega, by rw [HT.out], by go_num, by show OwnR _ _ _ _ _ _ _; rw [HM.out]; simpa using hown.out.below ((Below.refl _ _).alloc (Nat.le_refl _) _), hbn⟩
          case measure => simp [intOf]; omega
      | false =>
        have hzn : (z != 0) = true := by simp [bne, hzz]
        have ht : tel (x, y, z, u) = true := by simp [tel, hzz]
        rw [ht] at HT
        simp only [if_true] at HT
        cases hxx : (x == pr) with
        | true =>
          have hm : mne pr (x, y, z, u) = true := hxx
          rw [hm] at HM
          have HL : Hid ((((l.take k).filter (mne pr)).length + 1) * 32 ≤ 140737488355328 ∧ ((l.take k).filter (mne pr)).length + 1 ≤ maxLen) := ⟨by omega, by unfold maxLen; omega⟩
          go_wp2_with (at_builtin; go_must (refine wpList_append_rec shC rfl _ _ 22 26 i0 _ 32 rfl Try.underlying22 hi0 hz0 hz1 hz2 rfl W0.heap.size _ _ rfl wr hown.out (((Below.refl _ _).alloc (Nat.le_refl _) _).alloc (by simp) _) hsr HL.out.1 HL.out.2 (x, y, z, u) _ 1 rfl (box_add' (wr.alloc _) _ (by simp) x y z u _) ?_); intro v3 w3 hown3 hb3)
          have hbn : Below W0.heap.size W0 w3 := ((hbel.alloc hsr _).alloc (by simp; omega) _).trans hb3
          go_roundw
          case rel => exact ⟨k + 1, by omega, by rw [HT.out]; go_num, by go_num, by show OwnR _ _ _ _ _ _ _; rw [HM.out]; simpa using hown3, hbn⟩
          case measure => simp [intOf]; omega
        | false =>
          have hm : mne pr (x, y, z, u) = false := hxx
          rw [hm] at HM
          go_wp2
          have hbn : Below W0.heap.size W0 (wr.alloc (.cells #[.int .i64 x, .int .i64 y, .int .i64 z, .int .i64 u] 26)) := hbel.alloc hsr _
          go_roundw
          case rel => exact ⟨k + 1, by omega, by rw [HT.out]; go_num, by go_num, by show OwnR _ _ _ _ _ _ _; rw [HM.out]; simpa using hown.out.below ((Below.refl _ _).alloc (Nat.le_refl _) _), hbn⟩
          case measure => simp [intOf]; omega
    · obtain rfl : k = n := by omega
      have htk : l.take k = l := by rw [hn.out, List.take_length]
      rw [htk] at hown ⊢
      have hcl := cnt_le l k
      rw [htk] at hcl
      have hfl := List.length_filter_le (mne pr) l
      have HO : Hid (∀ w3, Below wr.heap.size wr w3 → IsRecs encC 4398046511000 w3 u6 (l.filter (mne pr))) := fun w3 hb3 => (hown.out.recs (by have := hn.out; omega)).below hb3
      have HP2 : Hid (∀ w3, Below wr.heap.size wr w3 → Calls Try.prog 6 #[u6] w3 fun e w' => ∃ g, e = .returned (.slice (some ⟨g, 0, none⟩) (play (l.filter (mne pr))).length 9) ∧ RowC w' g 9 (play (l.filter (mne pr))) ∧ Below w3.heap.size w3 w') :=
        fun w3 hb3 => (play_any _ _ w3 (HO.out w3 hb3)).mono fun e w' ⟨he, hr, hb⟩ => ⟨_, he, hr, hb⟩
      have HPw : Hid (Calls Try.prog 6 #[.slice a k cap] wr fun e w' => e = .returned (.slice (some ⟨wr.heap.size, 0, none⟩) (play l).length 9) ∧ RowC w' wr.heap.size 9 (play l) ∧ Below wr.heap.size wr w') := HPl.out wr hbw
      have hws : w.heap.size < wr.heap.size := by have := hbel.size; omega
      have hpr : wr.cell? ⟨w.heap.size, 0, none⟩ = some (.int .i64 pr) := (hbel.cell (cell_lt hpc)).trans hpc
      have HD : Hid (∀ w2, RowC w2 wr.heap.size 9 (play l) → Below wr.heap.size wr w2 → Calls Try.prog 10 #[.slice (some ⟨wr.heap.size, 0, none⟩) (play l).length 9, .func (.func 11) #[] #[.pointer (some ⟨w.heap.size, 0, none⟩)]] w2 fun e w' => e = .returned (.slice (some ⟨wr.heap.size, 0, none⟩) (keepP (oth pr) (play l)).length 9) ∧ RowC w' wr.heap.size 9 (keepP (oth pr) (play l)) ∧ Below wr.heap.size w2 w') :=
        fun w2 hr2 hb2 => (cdelFunc_any wr.heap.size wr.heap.size 9 w.heap.size pr (play l) w2 (Nat.le_refl _) hr2 (by decide) (by omega) ((hb2.cell (cell_lt hpr)).trans hpr)).mono fun e w' ⟨he, hr, hb, _⟩ => ⟨he, hr, hb⟩
      by_cases h8 : 8 < cnt l
      · have hd8 : decide ((cnt l : Int) > 8) = true := by simp; omega
        obtain ⟨C, hC⟩ : ∃ C, C = cnt l := ⟨_, rfl⟩
        rw [← hC] at h8 hd8 ⊢
        clear hC hcl
        go_wp2
        go_ret
        exact ⟨rfl, hbw⟩
      · have hK := other_keep pr l (by omega)
        rw [hK] at HD
        have hp8 := play_le (l.filter (mne pr))
        have HE : Hid (∀ w4 g, RowC w4 wr.heap.size 9 (play (l.filter (mne pr))) → RowC w4 g 9 (play (l.filter (mne pr))) → Calls Try.prog 12 #[.slice (some ⟨wr.heap.size, 0, none⟩) (play (l.filter (mne pr))).length 9, .slice (some ⟨g, 0, none⟩) (play (l.filter (mne pr))).length 9] w4 fun e w' => e = .returned (.bool true) ∧ Below w4.heap.size w4 w') :=
          fun w4 g h1 h2 => cequal_is _ _ _ _ 8 w4 (h1.recs hp8) (h2.recs hp8) (by decide) (by simp)
        have hd8 : decide ((cnt l : Int) > 8) = false := by simp; omega
        obtain ⟨C, hC⟩ : ∃ C, C = cnt l := ⟨_, rfl⟩
        rw [← hC] at h8 hd8 ⊢
        clear hC hcl hK hp8 hfl
        generalize play (l.filter (mne pr)) = K at HD HE HP2
        generalize play l = M at HD HPw
        go_wp2_with (first
          | (go_at_call 10; refine (HD.out _ hr2 hw2).mono ?_; rintro e w3 ⟨rfl, hr3, hw3⟩)
          | (go_at_call 12; refine (HE.out _ _ (hr3.below hw4) hr4).mono ?_; rintro e w5 ⟨rfl, hw5⟩)
          | (go_at_call 6; first | (refine (HP2.out _ (hw2.trans hw3)).mono ?_; rintro e w4 ⟨g, rfl, hr4, hw4⟩) | (refine (HPw.out).mono ?_; rintro e w2 ⟨rfl, hr2, hw2⟩)))
        go_ret
        have hb3 := hw2.trans hw3
        have hb4 := hb3.trans (hw4.mono hb3.size)
        have hb5 := hb4.trans (hw5.mono hb4.size)
        exact ⟨rfl, hbw.trans (hb5.mono hbw.size)⟩

end Go.Proofs.Ytgkdbcafijhdiad
