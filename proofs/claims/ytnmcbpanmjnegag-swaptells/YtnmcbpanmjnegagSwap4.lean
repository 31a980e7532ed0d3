/- The contracts of swap.Get, swap.Share and swap.Drop. -/
import Derived.Test.YtnmcbpanmjnegagSwap3
import Derived.BigQuiet
namespace Go.Proofs.Ytnmcbpanmjnegag
open Go.RowKit
set_option linter.unusedSimpArgs false
set_option linter.unusedVariables false

theorem below_drawn {B : Nat} {a w : World} (h : Below B a w) (n : Nat) : Below B a (w.drewN n) := ⟨h.os, h.tape, h.output, h.size, h.block⟩

theorem mt_len {l : List Sl} {n : Int} (h : mt l n = true) : 0 ≤ n ∧ n < (l.length : Int) := ⟨(mt_iff.1 h).1, (mt_iff.1 h).2.1⟩

set_option maxHeartbeats 1600000 in
theorem get_any (v : Value) (l : List Sl) (n : Int) (w : World) (h : IsSlots w v l) :
    Calls Try.prog 20 #[v, .int .i64 n] w fun e w' => ∃ ba bn bc ta tn tc, e = .returned (.tuple #[.slice ba bn bc, .slice ta tn tc, .int .i64 (gtE l n)]) ∧ IsBytes w' (.slice ba bn bc) (gtB l n) ∧ IsRecs encI 17592186043904 w' (.slice ta tn tc) (gtT l n) ∧ Below w.heap.size w w' := by
  cases hm : mt l n with
  | false =>
    have HM : Hid (Calls Try.prog 26 #[v, .int .i64 n] w fun e w' => e = .returned (.bool false) ∧ Below w.heap.size w w') := isMeant_is v l n w h hm
    have e1 : gtE l n = 3 := by rw [gtE, hm]; rfl
    have e2 : gtB l n = [] := by rw [gtB, hm]; rfl
    have e3 : gtT l n = [] := by rw [gtT, hm]; rfl
    rw [e1, e2, e3]
    obtain ⟨a, cap, rfl⟩ := h.form
    clear h hm e1 e2 e3
    go_enter Try.func20, Try.ntmps20
    go_wp2_with fail
    refine HM.out.mono ?_
    rintro e w1 ⟨rfl, hb1⟩
    go_wp2
    go_ret3
    exact ⟨_, _, _, _, _, _, rfl, isBytes_nil _, isRecs_nil _ _ _ _, hb1⟩
  | true =>
    have HM : Hid (Calls Try.prog 26 #[v, .int .i64 n] w fun e w' => e = .returned (.bool true) ∧ Below w.heap.size w w') := isMeant_is v l n w h hm
    have e1 : gtE l n = 0 := by rw [gtE, hm]; rfl
    have e2 : gtB l n = (l.getD n.toNat z0).2.1 := by rw [gtB, hm]; rfl
    have e3 : gtT l n = (l.getD n.toNat z0).2.2 := by rw [gtT, hm]; rfl
    obtain ⟨h0, h1⟩ := mt_len hm
    obtain ⟨k, rfl⟩ : ∃ k : Nat, n = (k : Int) := ⟨n.toNat, by omega⟩
    rw [e1, e2, e3, Int.toNat_natCast]
    obtain ⟨L, hL, ⟨a, cap, rfl, h1', hl, hc'⟩, hR⟩ := h
    have hkl : k < l.length := by omega
    obtain ⟨b, off, rfl, hc⟩ := hc' (by omega)
    obtain ⟨⟨r, ⟨ba, bn, bc⟩, ⟨ta, tn, tc⟩⟩, hp⟩ : ∃ q, q = L.getD k v0 := ⟨_, rfl⟩
    have hcell : Hid (∀ w1, Below w.heap.size w w1 → w1.cell? ⟨b, off + k * 3, none⟩ = some (.int .i64 r) ∧ w1.cell? ⟨b, off + k * 3 + 1, none⟩ = some (.slice ba bn bc) ∧ w1.cell? ⟨b, off + k * 3 + 2, none⟩ = some (.slice ta tn tc)) := fun w1 hb1 => cell3 hc hb1 k (by omega) hp
    have hrd := hR k hkl
    rw [← hp] at hrd
    have HC : Hid (∀ w1, Below w.heap.size w w1 → Calls Try.prog 30 #[.agg #[.int .i64 r, .slice ba bn bc, .slice ta tn tc]] w1 fun e w' => ∃ ba' bn' bc' ta' tn' tc', e = .returned (.agg #[.int .i64 r, .slice ba' bn' bc', .slice ta' tn' tc']) ∧ Rd w' (r, (ba', bn', bc'), (ta', tn', tc')) (l.getD k z0) ∧ Below w.heap.size w w') := by
      intro w1 hb1
      refine (copied_any r ba ta bn bc tn tc _ w1 (hrd.below hb1)).mono ?_
      rintro e w' ⟨x1, x2, x3, x4, x5, x6, he, ho, hb2⟩
      exact ⟨x1, x2, x3, x4, x5, x6, he, ho.rd, hb1.trans (hb2.mono hb1.size)⟩
    obtain ⟨N, hN⟩ : ∃ N, Hid (N = L.length) := ⟨_, rfl⟩
    have hkN : k < N := by rw [hN.out]; omega
    rw [← hN.out] at hl h1' HM ⊢
    clear hrd hp hc hc' hR hL hkl h1 hm e1 e2 e3
    go_enter Try.func20, Try.ntmps20
    go_wp2_with fail
    refine HM.out.mono ?_
    rintro e w1 ⟨rfl, hb1⟩
    obtain ⟨hk0, hk1, hk2⟩ := hcell.out _ hb1
    go_wp2_with fail
    refine (HC.out _ hb1).mono ?_
    rintro e w2 ⟨x1, x2, x3, x4, x5, x6, rfl, hrd2, hb2⟩
    have HR2 : Hid (Rd w2 (r, (x1, x2, x3), (x4, x5, x6)) (l.getD k z0)) := hrd2
    clear hrd2
    go_wp2_with fail
    go_quiet (fail)
    go_wp2
    go_ret3
    have hbz : Below w2.heap.size w2 ((w2.alloc (.cells #[.int .i64 r, .slice x1 x2 x3, .slice x4 x5 x6] 42)).drewN nq) := below_drawn ((Below.refl _ _).alloc (Nat.le_refl _) _) nq
    have hz := HR2.out.below hbz
    exact ⟨_, _, _, _, _, _, rfl, hz.2.1, hz.2.2, hb2.trans (hbz.mono hb2.size)⟩

theorem shE_none {l : List Sl} {n : Int} (h : mt l n = false) : shE l n = 3 ∧ shL l n = [] := by rw [shE, shL, h]; exact ⟨rfl, rfl⟩
theorem shE_full {l : List Sl} {n : Int} (h : mt l n = true) (h4 : 4 ≤ (l.getD n.toNat z0).1) : shE l n = 4 ∧ shL l n = [] := by rw [shE, shL, if_pos h, if_pos h, if_pos h4, if_pos h4]; exact ⟨rfl, rfl⟩
theorem shE_ok {l : List Sl} {n : Int} (h : mt l n = true) (h4 : ¬ 4 ≤ (l.getD n.toNat z0).1) : shE l n = 0 ∧ shL l n = l.set n.toNat ((l.getD n.toNat z0).1 + 1, (l.getD n.toNat z0).2) := by rw [shE, shL, if_pos h, if_pos h, if_neg h4, if_neg h4]; exact ⟨rfl, rfl⟩

/-- What is known of a slot that is meant. -/
theorem meant_slot {w : World} {v : Value} {l : List Sl} {k : Nat} (h : IsSlots w v l) (hm : mt l (k : Int) = true) :
    ∃ b off cap r ba bn bc ta tn tc, v = .slice (some ⟨b, off, none⟩) l.length cap ∧ l.length ≤ cap ∧ k < l.length ∧ 1 ≤ r ∧ Rd w (r, (ba, bn, bc), (ta, tn, tc)) (l.getD k z0) ∧
      ∀ w1, Below w.heap.size w w1 → w1.cell? ⟨b, off + k * 3, none⟩ = some (.int .i64 r) ∧ w1.cell? ⟨b, off + k * 3 + 1, none⟩ = some (.slice ba bn bc) ∧ w1.cell? ⟨b, off + k * 3 + 2, none⟩ = some (.slice ta tn tc) := by
  obtain ⟨h0, h1, h2⟩ := mt_iff.1 hm
  rw [Int.toNat_natCast] at h2
  obtain ⟨L, hL, ⟨a, cap, rfl, h1', hl, hc'⟩, hR⟩ := h
  have hkl : k < l.length := by omega
  obtain ⟨b, off, rfl, hc⟩ := hc' (by omega)
  obtain ⟨⟨r, ⟨ba, bn, bc⟩, ⟨ta, tn, tc⟩⟩, hp⟩ : ∃ q, q = L.getD k v0 := ⟨_, rfl⟩
  have hrd := hR k hkl
  rw [← hp] at hrd
  exact ⟨b, off, cap, r, ba, bn, bc, ta, tn, tc, by rw [hL], by omega, hkl, by have := hrd.1; simp only at this; omega, hrd, fun w1 hb1 => cell3 hc hb1 k (by omega) hp⟩

set_option maxHeartbeats 1600000 in
theorem share_any (v : Value) (l : List Sl) (n : Int) (w : World) (h : IsSlots w v l) :
    Calls Try.prog 15 #[v, .int .i64 n] w fun e w' => ∃ a N c, e = .returned (.tuple #[.slice a N c, .int .i64 (shE l n)]) ∧ IsSlots w' (.slice a N c) (shL l n) ∧ Below w.heap.size w w' := by
  cases hm : mt l n with
  | false =>
    have HM : Hid (Calls Try.prog 26 #[v, .int .i64 n] w fun e w' => e = .returned (.bool false) ∧ Below w.heap.size w w') := isMeant_is v l n w h hm
    rw [(shE_none hm).1, (shE_none hm).2]
    obtain ⟨a, cap, rfl⟩ := h.form
    clear h hm
    go_enter Try.func15, Try.ntmps15
    go_wp2_with fail
    refine HM.out.mono ?_
    rintro e w1 ⟨rfl, hb1⟩
    go_wp2
    go_ret2
    exact ⟨_, _, _, rfl, isSlots_nil _ _ _, hb1⟩
  | true =>
    have HM : Hid (Calls Try.prog 26 #[v, .int .i64 n] w fun e w' => e = .returned (.bool true) ∧ Below w.heap.size w w') := isMeant_is v l n w h hm
    obtain ⟨h0, h1⟩ := mt_len hm
    obtain ⟨k, rfl⟩ : ∃ k : Nat, n = (k : Int) := ⟨n.toNat, by omega⟩
    obtain ⟨b, off, cap, r, ba, bn, bc, ta, tn, tc, rfl, h1', hkl, hr1, hrd, hcl⟩ := meant_slot h hm
    have hcell : Hid _ := hcl
    have hl := h.len
    have hr : r = (l.getD k z0).1 := hrd.1
    have hfull := shE_full hm
    have hok := shE_ok hm
    rw [Int.toNat_natCast, ← hr] at hfull hok
    have HW : Hid (∀ w1, Below w.heap.size w w1 → Calls Try.prog 27 #[.slice (some ⟨b, off, none⟩) l.length cap, .int .i64 k, .agg #[.int .i64 (r + 1), .slice ba bn bc, .slice ta tn tc]] w1 fun e w' => ∃ a N c, e = .returned (.slice a N c) ∧ IsSlots w' (.slice a N c) (l.set k (r + 1, (l.getD k z0).2)) ∧ Below w.heap.size w w') := by
      intro w1 hb1
      refine (with_any _ l k (r + 1) ba ta bn bc tn tc (r + 1, (l.getD k z0).2) w1 (h.below hb1) ⟨rfl, hrd.2.1.below hb1, hrd.2.2.below hb1⟩).mono ?_
      rintro e w' ⟨a, c, he, hs, hb2⟩
      exact ⟨a, _, c, he, hs, hb1.trans (hb2.mono hb1.size)⟩
    obtain ⟨N, hN⟩ : ∃ N, Hid (N = l.length) := ⟨_, rfl⟩
    rw [← hN.out] at hl h1' HM HW hkl ⊢
    by_cases h4 : 4 ≤ r
    · rw [(hfull h4).1, (hfull h4).2]
      clear hcl hrd h hm hr hfull hok h1 HW
      go_enter Try.func15, Try.ntmps15
      go_wp2_with fail
      refine HM.out.mono ?_
      rintro e w1 ⟨rfl, hb1⟩
      obtain ⟨hk0, hk1, hk2⟩ := hcell.out _ hb1
      go_wp2
      go_ret2
      exact ⟨_, _, _, rfl, isSlots_nil _ _ _, hb1.alloc hb1.size _⟩
    · rw [(hok h4).1, (hok h4).2]
      clear hcl hrd h hm hr hfull hok h1
      go_enter Try.func15, Try.ntmps15
      go_wp2_with fail
      refine HM.out.mono ?_
      rintro e w1 ⟨rfl, hb1⟩
      obtain ⟨hk0, hk1, hk2⟩ := hcell.out _ hb1
      go_wp2_with fail
      refine (HW.out _ (hb1.alloc hb1.size _)).mono ?_
      rintro e w3 ⟨a', N', c', rfl, hs3, hb3⟩
      have HS : Hid (IsSlots w3 (.slice a' N' c') (l.set k (r + 1, (l.getD k z0).2))) := hs3
      clear hs3
      go_wp2
      go_ret2
      exact ⟨_, _, _, rfl, HS.out, hb3⟩

theorem drE_none {l : List Sl} {n : Int} (h : mt l n = false) : drE l n = 3 ∧ drL l n = [] := by rw [drE, drL, h]; exact ⟨rfl, rfl⟩
theorem drE_ok {l : List Sl} {n : Int} (h : mt l n = true) : drE l n = 0 ∧ drL l n = l.set n.toNat (less (l.getD n.toNat z0)) := by rw [drE, drL, if_pos h, if_pos h]; exact ⟨rfl, rfl⟩

set_option maxHeartbeats 1600000 in
theorem drop_any (v : Value) (l : List Sl) (n : Int) (w : World) (h : IsSlots w v l) (hmx : (l.getD n.toNat z0).1 ≤ 9223372036854775807) :
    Calls Try.prog 17 #[v, .int .i64 n] w fun e w' => ∃ a N c, e = .returned (.tuple #[.slice a N c, .int .i64 (drE l n)]) ∧ IsSlots w' (.slice a N c) (drL l n) ∧ Below w.heap.size w w' := by
  cases hm : mt l n with
  | false =>
    have HM : Hid (Calls Try.prog 26 #[v, .int .i64 n] w fun e w' => e = .returned (.bool false) ∧ Below w.heap.size w w') := isMeant_is v l n w h hm
    rw [(drE_none hm).1, (drE_none hm).2]
    obtain ⟨a, cap, rfl⟩ := h.form
    clear h hm
    go_enter Try.func17, Try.ntmps17
    go_wp2_with fail
    refine HM.out.mono ?_
    rintro e w1 ⟨rfl, hb1⟩
    go_wp2
    go_ret2
    exact ⟨_, _, _, rfl, isSlots_nil _ _ _, hb1⟩
  | true =>
    have HM : Hid (Calls Try.prog 26 #[v, .int .i64 n] w fun e w' => e = .returned (.bool true) ∧ Below w.heap.size w w') := isMeant_is v l n w h hm
    obtain ⟨h0, h1⟩ := mt_len hm
    obtain ⟨k, rfl⟩ : ∃ k : Nat, n = (k : Int) := ⟨n.toNat, by omega⟩
    obtain ⟨b, off, cap, r, ba, bn, bc, ta, tn, tc, rfl, h1', hkl, hr1, hrd, hcl⟩ := meant_slot h hm
    have hcell : Hid _ := hcl
    have hl := h.len
    have hr : r = (l.getD k z0).1 := hrd.1
    have hok := drE_ok hm
    rw [Int.toNat_natCast] at hok hmx
    rw [hok.1, hok.2]
    by_cases h4 : r = 1
    · have he : less (l.getD k z0) = z0 := by unfold less; rw [if_pos (by omega)]
      have HW : Hid (∀ w1, Below w.heap.size w w1 → Calls Try.prog 27 #[.slice (some ⟨b, off, none⟩) l.length cap, .int .i64 k, .agg #[.int .i64 0, .slice none 0 0, .slice none 0 0]] w1 fun e w' => ∃ a N c, e = .returned (.slice a N c) ∧ IsSlots w' (.slice a N c) (l.set k (less (l.getD k z0))) ∧ Below w.heap.size w w') := by
        intro w1 hb1
        refine (with_any _ l k 0 none none 0 0 0 0 z0 w1 (h.below hb1) (rd_zero _)).mono ?_
        rintro e w' ⟨a, c, he', hs, hb2⟩
        exact ⟨a, _, c, he', by rw [he]; exact hs, hb1.trans (hb2.mono hb1.size)⟩
      obtain ⟨N, hN⟩ : ∃ N, Hid (N = l.length) := ⟨_, rfl⟩
      rw [← hN.out] at hl h1' HM HW hkl ⊢
      subst h4
      clear hcl hrd h hm hr hok h1 he
      go_enter Try.func17, Try.ntmps17
      go_wp2_with fail
      refine HM.out.mono ?_
      rintro e w1 ⟨rfl, hb1⟩
      obtain ⟨hk0, hk1, hk2⟩ := hcell.out _ hb1
      go_wp2_with fail
      refine (HW.out _ (hb1.alloc hb1.size _)).mono ?_
      rintro e w3 ⟨a', N', c', rfl, hs3, hb3⟩
      have HS : Hid (IsSlots w3 (.slice a' N' c') (l.set k (less (l.getD k z0)))) := hs3
      clear hs3
      go_wp2
      go_ret2
      exact ⟨_, _, _, rfl, HS.out, hb3⟩
    · have he : less (l.getD k z0) = (r - 1, (l.getD k z0).2) := by unfold less; rw [if_neg (by omega), hr]
      have HW : Hid (∀ w1, Below w.heap.size w w1 → Calls Try.prog 27 #[.slice (some ⟨b, off, none⟩) l.length cap, .int .i64 k, .agg #[.int .i64 (r - 1), .slice ba bn bc, .slice ta tn tc]] w1 fun e w' => ∃ a N c, e = .returned (.slice a N c) ∧ IsSlots w' (.slice a N c) (l.set k (less (l.getD k z0))) ∧ Below w.heap.size w w') := by
        intro w1 hb1
        refine (with_any _ l k (r - 1) ba ta bn bc tn tc (r - 1, (l.getD k z0).2) w1 (h.below hb1) ⟨rfl, hrd.2.1.below hb1, hrd.2.2.below hb1⟩).mono ?_
        rintro e w' ⟨a, c, he', hs, hb2⟩
        exact ⟨a, _, c, he', by rw [he]; exact hs, hb1.trans (hb2.mono hb1.size)⟩
      obtain ⟨N, hN⟩ : ∃ N, Hid (N = l.length) := ⟨_, rfl⟩
      rw [← hN.out] at hl h1' HM HW hkl ⊢
      have hr2 : r ≤ 9223372036854775807 := by rw [hr]; exact hmx
      have h5 : ¬ r - 1 = 0 := by omega
      clear hcl hrd h hm hr hok h1 he
      go_enter Try.func17, Try.ntmps17
      go_wp2_with fail
      refine HM.out.mono ?_
      rintro e w1 ⟨rfl, hb1⟩
      obtain ⟨hk0, hk1, hk2⟩ := hcell.out _ hb1
      go_wp2_with fail
      refine (HW.out _ (hb1.alloc hb1.size _)).mono ?_
      rintro e w3 ⟨a', N', c', rfl, hs3, hb3⟩
      have HS : Hid (IsSlots w3 (.slice a' N' c') (l.set k (less (l.getD k z0)))) := hs3
      clear hs3
      go_wp2
      go_ret2
      exact ⟨_, _, _, rfl, HS.out, hb3⟩

end Go.Proofs.Ytnmcbpanmjnegag
