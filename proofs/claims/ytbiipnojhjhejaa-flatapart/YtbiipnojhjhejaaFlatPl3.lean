/- The contracts of package flat's plain memory: Fork, Load, Store, Tags, Mark. -/
import Derived.Test.YtbiipnojhjhejaaJFplain
namespace Go.Proofs.Ytbiipnojhjhejaa
set_option maxRecDepth 100000
open Go.RowKit
set_option linter.unusedSimpArgs false
set_option linter.unusedVariables false

set_option maxHeartbeats 1600000 in
theorem plFork_any (gm : Nat) (w : World) (s : MV) (k c : Nat) (hk : k < 4) (hc : c < 4) (h : PlOK gm w s) :
    Calls Try.prog 112 #[.pointer (some ⟨gm, 0, none⟩), .int .i64 k, .int .i64 c] w fun e w' => (∃ v, e = .returned v) ∧ PlOK gm w' (s.fork k c) ∧ Spare gm w w' := by
  have hg := h.lt
  have hki : (k : Int) < 4 := by omega
  have hci : (c : Int) < 4 := by omega
  obtain ⟨X, hX1, hX2, hX3, hX4⟩ := (h.below (Below.refl _ _).drew).whole hk
  have HX : Hid (X.length = 4352 ∧ (∀ v ∈ X, v.oneCell' = true) ∧ w.drew.rangeAt gm (k * 4352) X ∧ PlOK gm (w.drew.setCells gm (c * 4352) X) (s.fork k c) ∧ w.drew.there gm (c * 4352) X.length) := ⟨hX1, hX2, hX3, hX4 c hc, (h.below (Below.refl _ _).drew).there (by omega)⟩
  have HSZ : Hid ((Try.prog.info? 69).map (·.size) = some X.length) := by show _ = _; rw [hX1]; exact info_view
  clear hX1 hX2 hX3 hX4 h
  go_enter Try.func112, Try.ntmps112
  go_wp2_with fail
  refine wp_region_noPanic ?_
  refine wp_region_held_drew (S := (fun w' => True)) (by kernel_rfl) (by exact trivial) (fun hHeld => ?_)
  refine take_to 0 (some 6) (v := ?_) rfl rfl (by kernel_rfl) (by kernel_rfl) (by kernel_rfl) (fun _ _ _ h => h) (Or.inl ⟨by rfl, ?_⟩) (by assumption) ?_
  rotate_left
  · intro w hSw
    (try dsimp only at hSw)
    go_simp
    with_reducible rfl
  simp only [Act.put, List.setIfInBounds_toArray, List.set_cons_zero, List.set_cons_succ]
  refine take_to 1 (some 7) (v := ?_) rfl rfl (by kernel_rfl) (by kernel_rfl) (by kernel_rfl) (fun _ _ _ h => h) (Or.inl ⟨by rfl, ?_⟩) (by assumption) ?_
  rotate_left
  · intro w hSw
    (try dsimp only at hSw)
    go_simp
    with_reducible rfl
  simp only [Act.put, List.setIfInBounds_toArray, List.set_cons_zero, List.set_cons_succ]
  refine take_to 2 (some 8) (v := ?_) rfl rfl (by kernel_rfl) (by kernel_rfl) (by kernel_rfl) (fun _ _ _ h => h) (Or.inl ⟨by rfl, ?_⟩) (by assumption) ?_
  rotate_left
  · intro w hSw
    (try dsimp only at hSw)
    go_simp
    with_reducible rfl
  simp only [Act.put, List.setIfInBounds_toArray, List.set_cons_zero, List.set_cons_succ]
  refine take_to 3 (some 9) (v := ?_) rfl rfl (by kernel_rfl) (by kernel_rfl) (by kernel_rfl) (fun _ _ _ h => h) (Or.inl ⟨by rfl, ?_⟩) (by assumption) ?_
  rotate_left
  · intro w hSw
    (try dsimp only at hSw)
    go_simp
    with_reducible rfl
  simp only [Act.put, List.setIfInBounds_toArray, List.set_cons_zero, List.set_cons_succ]
  refine take_to 4 (some 10) (v := ?_) rfl rfl (by kernel_rfl) (by kernel_rfl) (by kernel_rfl) (fun _ _ _ h => h) (Or.inl ⟨by rfl, ?_⟩) (by assumption) ?_
  rotate_left
  · intro w hSw
    (try dsimp only at hSw)
    go_simp
    with_reducible rfl
  simp only [Act.put, List.setIfInBounds_toArray, List.set_cons_zero, List.set_cons_succ]
  refine take_to 5 (some 11) (v := ?_) rfl rfl (by kernel_rfl) (by kernel_rfl) (by kernel_rfl) (fun _ _ _ h => h) (Or.inl ⟨by rfl, ?_⟩) (by assumption) ?_
  rotate_left
  · intro w hSw
    (try dsimp only at hSw)
    go_simp
    with_reducible rfl
  simp only [Act.put, List.setIfInBounds_toArray, List.set_cons_zero, List.set_cons_succ]
  refine take_to 7 (some 13) (v := ?_) rfl rfl (by kernel_rfl) (by kernel_rfl) (by kernel_rfl) (fun _ _ _ h => h) (Or.inl ⟨by rfl, ?_⟩) (by assumption) ?_
  rotate_left
  · intro w hSw
    (try dsimp only at hSw)
    go_simp
    with_reducible rfl
  simp only [Act.put, List.setIfInBounds_toArray, List.set_cons_zero, List.set_cons_succ]
  refine wpAnyH_ready (rs := [6]) (by kernel_rfl) (by simp) ?_
  refine AllReadyH.cons rfl (fun K hK => ?_) AllReadyH.nil
  rw [if_pos (by rfl)]
  refine wp_load_mid 69 _ rfl gm (k * 4352) rfl X _ HX.out.2.2.1 Try.underlying69 rfl HSZ.out ?_
  refine hK.out _ _ trivial (fun hHeld => ?_)
  clear hK K
  simp only [Act.put, List.getElem_toArray, List.getElem_cons_succ, List.getElem_cons_zero, List.setIfInBounds_toArray, List.set_cons_zero, List.set_cons_succ, List.toList_toArray]
  refine take_to 8 (some 14) (v := ?_) rfl rfl (by kernel_rfl) (by kernel_rfl) (by kernel_rfl) (fun _ _ _ h => h) (Or.inl ⟨by rfl, ?_⟩) (by assumption) ?_
  rotate_left
  · intro w hSw
    (try dsimp only at hSw)
    go_simp
    with_reducible rfl
  simp only [Act.put, List.setIfInBounds_toArray, List.set_cons_zero, List.set_cons_succ]
  refine wpAnyH_ready (rs := [9]) (by kernel_rfl) (by simp) ?_
  refine AllReadyH.cons rfl (fun K hK => ?_) AllReadyH.nil
  rw [if_pos (by rfl)]
  refine wp_store_mid 69 _ _ rfl gm (c * 4352) X.toArray rfl rfl (by rw [List.size_toArray]; exact HX.out.2.2.2.2) (by rw [List.size_toArray]; exact HSZ.out) (all_oneCell_toArray HX.out.2.1) ?_
  refine hK.out _ _ trivial (fun hHeld => ?_)
  clear hK K
  simp only [Act.put, List.getElem_toArray, List.getElem_cons_succ, List.getElem_cons_zero, List.setIfInBounds_toArray, List.set_cons_zero, List.set_cons_succ, List.toList_toArray]
  refine wpAnyH_done (by kernel_rfl) ?_ _
  refine NoPanic.normal ?_
  go_wp2
  go_end0
  exact ⟨⟨_, rfl⟩, HX.out.2.2.2.1, (Spare.of_below (Below.refl _ _).drew).setCells _ _⟩

set_option maxHeartbeats 1600000 in
theorem plMark_any (gm : Nat) (w : World) (s : MV) (k f n : Nat) (y : Int) (hk : k < 4) (hn : f + n ≤ 256) (h : PlOK gm w s) :
    Calls Try.prog 114 #[.pointer (some ⟨gm, 0, none⟩), .int .i64 k, .int .i64 f, .int .i64 n, .int .i64 y] w fun e w' => (∃ v, e = .returned v) ∧ PlOK gm w' (s.mark k f n y) ∧ Spare gm w w' := by
  have hg := h.lt
  have H0 : Hid (PlOK gm w (s.mark k f 0 y)) := by rw [mark_none]; exact h
  clear h
  go_enter Try.func114, Try.ntmps114
  go_wp2_with fail
  go_loopw [12] (fun i wr => ∃ j : Nat, j ≤ n ∧ i = .int .i64 j ∧ Hid (PlOK gm wr (s.mark k f j y)) ∧ Hid (Spare gm w wr)) (fun i _ => n - (intOf i).toNat)
  case atStart => exact ⟨0, Nat.zero_le _, rfl, H0.out, Spare.refl _ _⟩
  case round =>
    obtain ⟨j, hj, rfl, hwk, hsp⟩ := hrel
    have hgr := hwk.out.lt
    by_cases hlt : j < n
    · have hcl := hwk.out.tag hk (t := f + j) (by omega)
      have hfr := hwk.out.free (k * 4352 + 4096 + (f + j))
      have ew : wrap64 ((f : Int) + (j : Int)) = ((f + j : Nat) : Int) := by unfold wrap64; omega
      have HN : Hid (PlOK gm (wr.setCell ⟨gm, k * 4352 + 4096 + (f + j), none⟩ (.int .i64 y)) (s.mark k f (j + 1) y) ∧ Spare gm w (wr.setCell ⟨gm, k * 4352 + 4096 + (f + j), none⟩ (.int .i64 y))) := by
        refine ⟨?_, hsp.out.set _ _⟩
        rw [← mark_next]
        exact hwk.out.setTag hk (by omega) y
      go_wp2
      go_roundw
      case rel => exact ⟨j + 1, by omega, by go_num, HN.out.1, HN.out.2⟩
      case measure => simp [intOf]; omega
    · obtain rfl : j = n := by omega
      go_wp2
      go_end0
      exact ⟨⟨_, rfl⟩, hwk.out, hsp.out⟩

set_option maxHeartbeats 1600000 in
theorem plTags_any (gm : Nat) (w : World) (s : MV) (k f n : Nat) (hk : k < 4) (hn : 0 < n) (hn2 : f + n ≤ 256) (h : PlOK gm w s) :
    Calls Try.prog 117 #[.pointer (some ⟨gm, 0, none⟩), .int .i64 k, .int .i64 f, .int .i64 n] w fun e w' => e = .returned (.slice (some ⟨gm, k * 4352 + 4096 + f, none⟩) n (256 - f)) ∧ w = w' := by
  have hg := h.lt
  have ew : wrap64 ((f : Int) + (n : Int)) = ((f + n : Nat) : Int) := by unfold wrap64; omega
  have s2 := fun w => slice_tags w gm (k * 4352 + 4096) f n hn hn2 (f : Int) ((f : Int) + (n : Int)) rfl (by omega)
  go_enter Try.func117, Try.ntmps117
  go_wp2
  go_ret
  exact ⟨rfl, rfl⟩

set_option maxHeartbeats 1600000 in
theorem plLoad_any (gm : Nat) (w : World) (s : MV) (k f n : Nat) (hk : k < 4) (hn : 0 < n) (hn4 : n ≤ 4) (ht : f + n ≤ 4096) (h : PlOK gm w s) (hB : ∀ a, 0 ≤ s.B k a ∧ s.B k a ≤ 255) :
    Calls Try.prog 113 #[.pointer (some ⟨gm, 0, none⟩), .int .i64 k, .int .i64 f, .int .i64 n] w fun e w' => e = .returned (.int .i64 (numF (s.B k) f n)) ∧ w = w' := by
  have s1 := fun w => slice_bytes w gm (k * 4352) f n hn ht (f : Int) ((f : Int) + (n : Int)) rfl (by omega)
  have hg := h.lt
  have ew0 : wrap64 ((f : Int) + (n : Int)) = (f : Int) + (n : Int) := by unfold wrap64; omega
  go_enter Try.func113, Try.ntmps113
  go_wp2_with fail
  go_loopw [9, 23] (fun v i wr => ∃ j : Nat, j ≤ n ∧ i = .int .i64 j ∧ v = .int .i64 (numF (s.B k) f j) ∧ wr = w) (fun _ i _ => n - (intOf i).toNat)
  case atStart => exact ⟨0, Nat.zero_le _, rfl, rfl, rfl⟩
  case round =>
    obtain ⟨j, hj, rfl, rfl, rfl⟩ := hrel
    by_cases hlt : j < n
    · have hck := h.byte hk (a := f + j) (by omega)
      rw [← Nat.add_assoc] at hck
      have hz := hB (f + j)
      have hb := numF_bd (B := s.B k) f j (fun i _ => hB _)
      have ew : wrap64 (s.B k (f + j)) = s.B k (f + j) := by unfold wrap64; omega
      have HS : Hid (bits .or .i64 (numF (s.B k) f j) (wrap64 (s.B k (f + j) * 2 ^ (8 * j))) = numF (s.B k) f (j + 1)) := by
        have := or_step (numF (s.B k) f j) (s.B k (f + j)) j (by omega) hb.1 hb.2 hz.1 hz.2
        rw [ew] at this
        exact this
      clear hb
      go_wp2
      go_roundw
      case rel =>
        refine ⟨j + 1, by omega, by go_num, ?_, by first | rfl | trivial⟩
        rw [← HS.out]
      case measure => simp [intOf]; omega
    · obtain rfl : j = n := by omega
      go_wp2
      go_ret
      exact ⟨rfl, rfl⟩

set_option maxHeartbeats 1600000 in
theorem plStore_any (gm : Nat) (w : World) (s : MV) (k f n : Nat) (v : Int) (hk : k < 4) (hn4 : n ≤ 4) (ht : f + n ≤ 4096) (h : PlOK gm w s) :
    Calls Try.prog 116 #[.pointer (some ⟨gm, 0, none⟩), .int .i64 k, .int .i64 f, .int .i64 n, .int .i64 v] w fun e w' => (∃ v, e = .returned v) ∧ PlOK gm w' (s.store k f n v) ∧ Spare gm w w' := by
  have hg := h.lt
  have hki : (k : Int) < 4 := by omega
  have H0 : Hid (PlOK gm w (s.store k f 0 v)) := by rw [store_none]; exact h
  clear h
  go_enter Try.func116, Try.ntmps116
  go_wp2_with fail
  go_loopw [12] (fun i wr => ∃ j : Nat, j ≤ n ∧ i = .int .i64 j ∧ Hid (PlOK gm wr (s.store k f j v)) ∧ Hid (Spare gm w wr)) (fun i _ => n - (intOf i).toNat)
  case atStart => exact ⟨0, Nat.zero_le _, rfl, H0.out, Spare.refl _ _⟩
  case round =>
    obtain ⟨j, hj, rfl, hwk, hsp⟩ := hrel
    have hgr := hwk.out.lt
    by_cases hlt : j < n
    · obtain ⟨q, hq⟩ : ∃ q, q = f + j := ⟨_, rfl⟩
      have hcl := hwk.out.byte hk (a := q) (by omega)
      have hfr := hwk.out.free (k * 4352 + q)
      have ew : IntKind.i64.wrap ((f : Int) + (j : Int)) = (q : Int) := by rw [IntKind.wrap_i64]; omega
      have hfj : (q : Int) < 4096 := by omega
      have hsh : ∀ w : World, (Op.shift BinOp.shr IntKind.i64 v IntKind.i64 (IntKind.i64.wrap (8 * (j : Int)))).run Try.prog w = .ok (.int .i64 (v / 256 ^ j)) w := fun w => by
        rw [show IntKind.i64.wrap (8 * (j : Int)) = ((j : Nat) : Int) * 8 by rw [IntKind.wrap_i64]; omega, shift_shr_any _ _ _ _ (by omega), show IntKind.i64.bits = 64 from rfl, pow_8 _ (by omega)]
        rfl
      have HN : Hid (PlOK gm (wr.drew.setCell ⟨gm, k * 4352 + q, none⟩ (.int .u8 (IntKind.u8.wrap (v / 256 ^ j)))) (s.store k f (j + 1) v) ∧ Spare gm w (wr.drew.setCell ⟨gm, k * 4352 + q, none⟩ (.int .u8 (IntKind.u8.wrap (v / 256 ^ j))))) := by
        refine ⟨?_, (hsp.out.below (Below.refl _ _).drew).set _ _⟩
        rw [← store_next s k f j 1 v (v / 256 ^ j) (fun i hi => by rw [byteK_div])]
        have := (hwk.out.below (Below.refl _ _).drew).setByte hk (a := q) (by omega) (v / 256 ^ j)
        rw [show byteK (v / 256 ^ j) 0 = IntKind.u8.wrap (v / 256 ^ j) by unfold byteK; rw [Int.pow_zero, Int.ediv_one]; rfl] at this
        rw [← hq]
        exact this
      clear hq
      go_wp2_with fail
      refine wp_region_noPanic ?_
      refine wp_region_held_drew (S := (fun w' => True)) (by kernel_rfl) (by exact trivial) (fun hHeld => ?_)
      refine take_to 0 (some 15) (v := ?_) rfl rfl (by kernel_rfl) (by kernel_rfl) (by kernel_rfl) (fun _ _ _ h => h) (Or.inl ⟨by rfl, ?_⟩) (by assumption) ?_
      rotate_left
      · intro w hSw
        (try dsimp only at hSw)
        go_simp
        with_reducible rfl
      simp only [Act.put, List.setIfInBounds_toArray, List.set_cons_zero, List.set_cons_succ]
      refine take_to 1 (some 16) (v := ?_) rfl rfl (by kernel_rfl) (by kernel_rfl) (by kernel_rfl) (fun _ _ _ h => h) (Or.inl ⟨by rfl, ?_⟩) (by assumption) ?_
      rotate_left
      · intro w hSw
        (try dsimp only at hSw)
        go_simp
        with_reducible rfl
      simp only [Act.put, List.setIfInBounds_toArray, List.set_cons_zero, List.set_cons_succ]
      refine take_to 2 (some 17) (v := ?_) rfl rfl (by kernel_rfl) (by kernel_rfl) (by kernel_rfl) (fun _ _ _ h => h) (Or.inl ⟨by rfl, ?_⟩) (by assumption) ?_
      rotate_left
      · intro w hSw
        (try dsimp only at hSw)
        go_simp
        with_reducible rfl
      simp only [Act.put, List.setIfInBounds_toArray, List.set_cons_zero, List.set_cons_succ]
      refine take_to 3 (some 18) (v := ?_) rfl rfl (by kernel_rfl) (by kernel_rfl) (by kernel_rfl) (fun _ _ _ h => h) (Or.inl ⟨by rfl, ?_⟩) (by assumption) ?_
      rotate_left
      · intro w hSw
        (try dsimp only at hSw)
        go_simp
        with_reducible rfl
      simp only [Act.put, List.setIfInBounds_toArray, List.set_cons_zero, List.set_cons_succ]
      refine take_to 4 (some 19) (v := ?_) rfl rfl (by kernel_rfl) (by kernel_rfl) (by kernel_rfl) (fun _ _ _ h => h) (Or.inl ⟨by rfl, ?_⟩) (by assumption) ?_
      rotate_left
      · intro w hSw
        (try dsimp only at hSw)
        go_simp
        with_reducible rfl
      simp only [Act.put, List.setIfInBounds_toArray, List.set_cons_zero, List.set_cons_succ]
      refine take_to 5 (some 20) (v := ?_) rfl rfl (by kernel_rfl) (by kernel_rfl) (by kernel_rfl) (fun _ _ _ h => h) (Or.inl ⟨by rfl, ?_⟩) (by assumption) ?_
      rotate_left
      · intro w hSw
        (try dsimp only at hSw)
        go_simp
        with_reducible rfl
      simp only [Act.put, List.setIfInBounds_toArray, List.set_cons_zero, List.set_cons_succ]
      refine take_to 6 (some 21) (v := ?_) rfl rfl (by kernel_rfl) (by kernel_rfl) (by kernel_rfl) (fun _ _ _ h => h) (Or.inl ⟨by rfl, ?_⟩) (by assumption) ?_
      rotate_left
      · intro w hSw
        (try dsimp only at hSw)
        go_simp
        with_reducible rfl
      simp only [Act.put, List.setIfInBounds_toArray, List.set_cons_zero, List.set_cons_succ]
      refine take_to 7 (some 22) (v := ?_) rfl rfl (by kernel_rfl) (by kernel_rfl) (by kernel_rfl) (fun _ _ _ h => h) (Or.inl ⟨by rfl, ?_⟩) (by assumption) ?_
      rotate_left
      · intro w hSw
        (try dsimp only at hSw)
        go_simp
        with_reducible rfl
      simp only [Act.put, List.setIfInBounds_toArray, List.set_cons_zero, List.set_cons_succ]
      refine take_to 8 (some 23) (v := ?_) rfl rfl (by kernel_rfl) (by kernel_rfl) (by kernel_rfl) (fun _ _ _ h => h) (Or.inl ⟨by rfl, ?_⟩) (by assumption) ?_
      rotate_left
      · intro w hSw
        (try dsimp only at hSw)
        go_simp
        with_reducible rfl
      simp only [Act.put, List.setIfInBounds_toArray, List.set_cons_zero, List.set_cons_succ]
      refine take_to 9 (some 24) (v := ?_) rfl rfl (by kernel_rfl) (by kernel_rfl) (by kernel_rfl) (fun _ _ _ h => h) (Or.inl ⟨by rfl, ?_⟩) (by assumption) ?_
      rotate_left
      · intro w hSw
        (try dsimp only at hSw)
        go_simp
        with_reducible rfl
      simp only [Act.put, List.setIfInBounds_toArray, List.set_cons_zero, List.set_cons_succ]
      refine take_to 10 (some 25) (v := ?_) rfl rfl (by kernel_rfl) (by kernel_rfl) (by kernel_rfl) (fun _ _ _ h => h) (Or.inl ⟨by rfl, ?_⟩) (by assumption) ?_
      rotate_left
      · intro w hSw
        (try dsimp only at hSw)
        go_simp
        with_reducible rfl
      simp only [Act.put, List.setIfInBounds_toArray, List.set_cons_zero, List.set_cons_succ]
      refine take_to 11 (some 26) (v := ?_) rfl rfl (by kernel_rfl) (by kernel_rfl) (by kernel_rfl) (fun _ _ _ h => h) (Or.inl ⟨by rfl, ?_⟩) (by assumption) ?_
      rotate_left
      · intro w hSw
        (try dsimp only at hSw)
        go_simp
        with_reducible rfl
      simp only [Act.put, List.setIfInBounds_toArray, List.set_cons_zero, List.set_cons_succ]
      refine take_to 12 (some 27) (v := ?_) rfl rfl (by kernel_rfl) (by kernel_rfl) (by kernel_rfl) (fun _ _ _ h => h) (Or.inl ⟨by rfl, ?_⟩) (by assumption) ?_
      rotate_left
      · intro w hSw
        (try dsimp only at hSw)
        go_simp
        with_reducible rfl
      simp only [Act.put, List.setIfInBounds_toArray, List.set_cons_zero, List.set_cons_succ]
      refine take_to 13 (some 28) (v := ?_) rfl rfl (by kernel_rfl) (by kernel_rfl) (by kernel_rfl) (fun _ _ _ h => h) (Or.inl ⟨by rfl, ?_⟩) (by assumption) ?_
      rotate_left
      · intro w hSw
        (try dsimp only at hSw)
        go_simp
        with_reducible rfl
      simp only [Act.put, List.setIfInBounds_toArray, List.set_cons_zero, List.set_cons_succ]
      refine wpAnyH_ready (rs := [14]) (by kernel_rfl) (by simp) ?_
      refine AllReadyH.cons rfl (fun K hK => ?_) AllReadyH.nil
      go_simp
      refine hK.out _ _ trivial (fun hHeld => ?_)
      clear hK K
      try simp only [Act.put, List.setIfInBounds_toArray, List.set_cons_zero, List.set_cons_succ]
      refine wpAnyH_done (by kernel_rfl) ?_ _
      refine NoPanic.normal ?_
      go_wp2
      go_roundw
      case rel => exact ⟨j + 1, by omega, by go_num, HN.out.1, HN.out.2⟩
      case measure => simp [intOf]; omega
    · obtain rfl : j = n := by omega
      go_wp2
      go_end0
      exact ⟨⟨_, rfl⟩, hwk.out, hsp.out⟩

end Go.Proofs.Ytbiipnojhjhejaa
