/- The contract of framewardenref.LRefs, by one more and by one less. -/
import Derived.Test.YtnmcbpanmjnegagSwapRef2
import Derived.Test.YtnmcbpanmjnegagSwap4
namespace Go.Proofs.Ytnmcbpanmjnegag
open Go.RowKit
set_option linter.unusedSimpArgs false
set_option linter.unusedVariables false

theorem set_same {xs : List Value} {i : Nat} {b : Value} (h : xs[i]? = some b) : xs.set i b = xs := by
  apply List.ext_getElem?
  intro j
  by_cases hj : i = j
  · subst hj
    rw [List.getElem?_set_self (List.getElem?_eq_some_iff.1 h).1, h]
  · rw [List.getElem?_set_ne hj]

theorem flat_set {L : List V3} {k : Nat} (hk : k < L.length) (x : V3) : spl (flatL encS L) (k * 3) (encS x) = flatL encS (L.set k x) := by
  unfold spl
  rw [flatL_take shS, show k * 3 + (encS x).length = (k + 1) * 3 by rw [shS.len]; omega, flatL_drop shS, List.set_eq_take_append_cons_drop, if_pos hk, flatL_append, flatL_cons, List.append_assoc]

/-- A row of the call's own that opens with L: one slot of it written, its three cells. -/
theorem row_three {w : World} {g cap base : Nat} {e : TypeId} {xs : List Value} {L : List V3} {k : Nat} (hk : k < L.length) (hb : base ≤ g) (hr : OwnRow w g e xs) (h1 : L.length ≤ cap) (h2 : cap ≤ maxLen) (h3 : xs.length = cap * 3) (h4 : xs.take (L.length * 3) = flatL encS L) (r : Int) (ba ta : Option Addr) (bn bc tn tc : Nat) :
    OwnR e 3 encS base (((w.setCell ⟨g, k * 3, none⟩ (.int .i64 r)).setCell ⟨g, k * 3 + 1, none⟩ (.slice ba bn bc)).setCell ⟨g, k * 3 + 2, none⟩ (.slice ta tn tc)) (.slice (some ⟨g, 0, none⟩) L.length cap) (L.set k (r, (ba, bn, bc), (ta, tn, tc))) := by
  have h5 := ((hr.set (k * 3) (.int .i64 r)).set (k * 3 + 1) (.slice ba bn bc)).set (k * 3 + 2) (.slice ta tn tc)
  have hl : (L.set k (r, (ba, bn, bc), (ta, tn, tc))).length = L.length := by simp
  have := ownR_of_row (cap := cap) (l := L.set k (r, (ba, bn, bc), (ta, tn, tc))) shS hb h5 (by omega) h2 (by simpa using h3) (by
    rw [hl, List.take_set, List.take_set, List.take_set, h4, set3_eq _ _ _ _ _ (by rw [flatL_len shS]; omega)]
    exact flat_set hk (r, (ba, bn, bc), (ta, tn, tc)))
  rw [hl] at this
  exact this

/-- Likewise, its first cell alone. -/
theorem row_one {w : World} {g cap base : Nat} {e : TypeId} {xs : List Value} {L : List V3} {k : Nat} (hk : k < L.length) (hb : base ≤ g) (hr : OwnRow w g e xs) (h1 : L.length ≤ cap) (h2 : cap ≤ maxLen) (h3 : xs.length = cap * 3) (h4 : xs.take (L.length * 3) = flatL encS L) (r : Int) :
    OwnR e 3 encS base (w.setCell ⟨g, k * 3, none⟩ (.int .i64 r)) (.slice (some ⟨g, 0, none⟩) L.length cap) (L.set k (r, (L.getD k v0).2)) := by
  have h5 := hr.set (k * 3) (.int .i64 r)
  have hl : (L.set k (r, (L.getD k v0).2)).length = L.length := by simp
  have e1 : (flatL encS L)[k * 3 + 1]? = some (.slice (L.getD k v0).2.1.1 (L.getD k v0).2.1.2.1 (L.getD k v0).2.1.2.2) := by rw [flatL_get shS L v0 k 1 hk (by decide)]; rfl
  have e2 : (flatL encS L)[k * 3 + 2]? = some (.slice (L.getD k v0).2.2.1 (L.getD k v0).2.2.2.1 (L.getD k v0).2.2.2.2) := by rw [flatL_get shS L v0 k 2 hk (by decide)]; rfl
  have := ownR_of_row (cap := cap) (l := L.set k (r, (L.getD k v0).2)) shS hb h5 (by omega) h2 (by simpa using h3) (by
    rw [hl, List.take_set, h4, ← flat_set hk]
    show _ = spl _ _ [_, _, _]
    rw [← set3_eq _ _ _ _ _ (by rw [flatL_len shS]; omega)]
    rw [set_same (xs := (flatL encS L).set (k * 3) _) (i := k * 3 + 1), set_same (xs := (flatL encS L).set (k * 3) _) (i := k * 3 + 2)]
    · rw [List.getElem?_set_ne (by omega)]; exact e2
    · rw [List.getElem?_set_ne (by omega)]; exact e1)
  rw [hl] at this
  exact this

/-- Likewise, first its first cell, then all three. -/
theorem row_four {w : World} {g cap base : Nat} {e : TypeId} {xs : List Value} {L : List V3} {k : Nat} (hk : k < L.length) (hb : base ≤ g) (hr : OwnRow w g e xs) (h1 : L.length ≤ cap) (h2 : cap ≤ maxLen) (h3 : xs.length = cap * 3) (h4 : xs.take (L.length * 3) = flatL encS L) (r0 r : Int) (ba ta : Option Addr) (bn bc tn tc : Nat) :
    OwnR e 3 encS base ((((w.setCell ⟨g, k * 3, none⟩ (.int .i64 r0)).setCell ⟨g, k * 3, none⟩ (.int .i64 r)).setCell ⟨g, k * 3 + 1, none⟩ (.slice ba bn bc)).setCell ⟨g, k * 3 + 2, none⟩ (.slice ta tn tc)) (.slice (some ⟨g, 0, none⟩) L.length cap) (L.set k (r, (ba, bn, bc), (ta, tn, tc))) := by
  have hl : (L.set k (r0, (L.getD k v0).2)).length = L.length := by simp
  obtain ⟨g', cap', xs', hv, hb', hr', h1', h2', h3', h4'⟩ := (row_one hk hb hr h1 h2 h3 h4 r0).row (by rw [hl]; omega)
  rw [hl] at hv
  injection hv with e1 e2 e3
  injection e1 with e1
  injection e1 with e1
  subst e1
  subst e3
  have := row_three (k := k) (L := L.set k (r0, (L.getD k v0).2)) (by rw [hl]; exact hk) hb' hr' h1' h2' h3' h4' r ba ta bn bc tn tc
  rw [hl, List.set_set] at this
  exact this

set_option maxHeartbeats 1600000 in
theorem lshare_any (v : Value) (l : List Sl) (n : Int) (w : World) (h : IsSlots w v l) :
    Calls Try.prog 16 #[v, .int .i64 n, .int .i64 1] w fun e w' => ∃ a N c, e = .returned (.tuple #[.slice a N c, .int .i64 (shE l n)]) ∧ IsSlots w' (.slice a N c) (shL l n) ∧ Below w.heap.size w w' := by
  obtain ⟨i0, hi, hz0, hz1, hz2⟩ := info_parts info_slot
  cases hm : mt l n with
  | false =>
    rw [(shE_none hm).1, (shE_none hm).2]
    obtain ⟨L, hL, ⟨a, cap, rfl, h1, hl, hc'⟩, hR⟩ := h
    obtain ⟨N, hN⟩ : ∃ N, Hid (N = L.length) := ⟨_, rfl⟩
    have HL : Hid (N = l.length) := hN.out.trans hL
    rw [← hN.out] at hl hc' h1 ⊢
    by_cases h2 : 0 ≤ n
    · by_cases h3 : n < (N : Int)
      · obtain ⟨k, rfl⟩ : ∃ k : Nat, n = (k : Int) := ⟨n.toNat, by omega⟩
        obtain ⟨b, off, rfl, hc⟩ := hc' (by omega)
        have hkl : k < l.length := by rw [← HL.out]; omega
        obtain ⟨⟨r, ⟨ba, bn, bc⟩, ⟨ta, tn, tc⟩⟩, hp⟩ : ∃ q, q = L.getD k v0 := ⟨_, rfl⟩
        obtain ⟨hk0, hk1, hk2⟩ := cell3 hc (Below.refl _ _) k (by rw [← hN.out]; omega) hp
        have hr := (hR k hkl).1
        rw [← hp] at hr
        have h4 : r < 1 := by
          rw [mt_nat hkl, ← hr] at hm
          have := of_decide_eq_false hm
          simp only at this
          omega
        clear hp hr hkl hk1 hk2 hR hL hc hc' hm
        go_enter Try.func16, Try.ntmps16
        go_wp2
        go_ret2
        exact ⟨_, _, _, rfl, isSlots_nil _ _ _, Below.refl _ _⟩
      · clear hR hL hc' hm
        go_enter Try.func16, Try.ntmps16
        go_wp2
        go_ret2
        exact ⟨_, _, _, rfl, isSlots_nil _ _ _, Below.refl _ _⟩
    · clear hR hL hc' hm
      go_enter Try.func16, Try.ntmps16
      go_wp2
      go_ret2
      exact ⟨_, _, _, rfl, isSlots_nil _ _ _, Below.refl _ _⟩
  | true =>
    obtain ⟨h0, h1⟩ := mt_len hm
    obtain ⟨k, rfl⟩ : ∃ k : Nat, n = (k : Int) := ⟨n.toNat, by omega⟩
    obtain ⟨L, hL, ⟨a, cap, rfl, h1', hl, hc'⟩, hR⟩ := h
    have hkl : k < l.length := by omega
    obtain ⟨b, off, rfl, hc⟩ := hc' (by omega)
    have HI : Hid (IsRecs encS 2513169434843 w (.slice (some ⟨b, off, none⟩) L.length cap) L) := ⟨_, _, rfl, h1', hl, fun _ => ⟨b, off, rfl, hc⟩⟩
    obtain ⟨⟨r, ⟨ba, bn, bc⟩, ⟨ta, tn, tc⟩⟩, hp⟩ : ∃ q, q = L.getD k v0 := ⟨_, rfl⟩
    obtain ⟨hk0, hk1, hk2⟩ := cell3 hc (Below.refl _ _) k (by omega) hp
    have hrd := hR k hkl
    rw [← hp] at hrd
    have hr : r = (l.getD k z0).1 := hrd.1
    have hr1 : 1 ≤ r := by
      have := (mt_iff.1 hm).2.2
      rw [Int.toNat_natCast] at this
      omega
    have HP : Hid ((r, (ba, bn, bc), (ta, tn, tc)) = L.getD k v0) := hp
    have HRD : Hid (Rd w (r, (ba, bn, bc), (ta, tn, tc)) (l.getD k z0)) := hrd
    have HR : Hid (∀ i, i < l.length → Rd w (L.getD i v0) (l.getD i z0)) := hR
    have HLL : Hid (L.length = l.length) := hL
    have HKL : Hid (k < l.length) := hkl
    have hfull := shE_full hm
    have hok := shE_ok hm
    rw [Int.toNat_natCast, ← hr] at hfull hok
    obtain ⟨N, hN⟩ : ∃ N, Hid (N = L.length) := ⟨_, rfl⟩
    have hkN : k < N := by rw [hN.out]; omega
    rw [← hN.out] at hl h1' HI ⊢
    by_cases h4 : 4 ≤ r
    · rw [(hfull h4).1, (hfull h4).2]
      clear hc hc' hp hrd hR hL hkl hm hfull hok HI hr
      go_enter Try.func16, Try.ntmps16
      go_wp2
      go_ret2
      exact ⟨_, _, _, rfl, isSlots_nil _ _ _, Below.refl _ _⟩
    · rw [(hok h4).1, (hok h4).2]
      have h5 : ¬ r + 1 = 0 := by omega
      obtain ⟨M, HM⟩ : ∃ M, Hid (M = l.set k (r + 1, (l.getD k z0).2)) := ⟨_, rfl⟩
      rw [← HM.out]
      have HRR : Hid (∀ w', Below w.heap.size w w' → Rd w' (r + 1, (L.getD k v0).2) (r + 1, (l.getD k z0).2)) := fun w' hb => ⟨rfl, by rw [← hp]; exact hrd.2.1.below hb, by rw [← hp]; exact hrd.2.2.below hb⟩
      have HOW : Hid (OwnR 42 3 encS w.heap.size (w.alloc (.cells #[] 42)) (.slice (some ⟨w.heap.size, 0, none⟩) 0 0) ([] : List V3)) := World.ownsRow_made (base := w.heap.size) (e := 42) (size := 3) w #[] 0 (Nat.le_refl _) (Nat.zero_le _) (by simp)
      have HI2 : Hid (IsRecs encS 2513169434843 (w.alloc (.cells #[] 42)) (.slice (some ⟨b, off, none⟩) N cap) L) := HI.out.below ((Below.refl _ _).alloc (Nat.le_refl _) _)
      have HN1 : Hid ((([] : List V3).length + L.length) * 56 ≤ 140737488355328 ∧ ([] : List V3).length + L.length ≤ maxLen) := by
        show _ ∧ _
        rw [← hN.out]; unfold maxLen; simp; omega
      have HZ : Hid (w.heap.size ≤ (w.alloc (.cells #[] 42)).heap.size) := by show _ ≤ _; simp
      have HG : Hid (∀ (w1 : World) g xs, OwnRow w1 g 42 xs → xs.take (L.length * 3) = flatL encS L → (w1.cell? ⟨g, k * 3, none⟩ = some (.int .i64 r) ∧ w1.cell? ⟨g, k * 3 + 1, none⟩ = some (.slice ba bn bc) ∧ w1.cell? ⟨g, k * 3 + 2, none⟩ = some (.slice ta tn tc)) ∧ w1.frozen? ⟨g, k * 3, none⟩ = false ∧ w1.frozen? ⟨g, k * 3 + 1, none⟩ = false ∧ w1.frozen? ⟨g, k * 3 + 2, none⟩ = false) := by
        intro w1 g xs hrow hx
        have hk' : k < L.length := by rw [← hN.out]; exact hkN
        have e0 : ∀ t u, t < 3 → (encS (r, (ba, bn, bc), (ta, tn, tc)))[t]? = some u → xs[k * 3 + t]? = some u := fun t u ht hu => by
          have := flatL_get shS L v0 k t hk' ht
          rw [← HP.out, hu, ← hx, List.getElem?_take_of_lt (by omega)] at this
          exact this
        exact ⟨⟨by rw [hrow.cell]; exact e0 0 _ (by decide) rfl, by rw [hrow.cell]; exact e0 1 _ (by decide) rfl, by rw [hrow.cell]; exact e0 2 _ (by decide) rfl⟩, hrow.free _, hrow.free _, hrow.free _⟩
      clear hfull hok hr hc hc' hp hrd hR hL hkl hm HI
      go_enter Try.func16, Try.ntmps16
      go_wp2_with (at_builtin; refine wpList_append_recs shS rfl _ _ 30 42 i0 _ 56 rfl Try.underlying30 hi hz0 hz1 hz2 rfl w.heap.size _ ([] : List V3) rfl HOW.out 2513169434843 _ L rfl HI2.out HN1.out.1 HN1.out.2 HZ.out ?_; intro v1 w1 hown1 hb1'; have hb1 : Below w.heap.size w w1 := ((Below.refl _ _).alloc (Nat.le_refl _) _).trans hb1'; have HO1 : Hid (OwnR 42 3 encS w.heap.size w1 v1 L) := hown1; clear hown1 hb1'; obtain ⟨g, gc, xs, rfl, hbg, hrow, q1, q2, q3, q4⟩ := HO1.out.row (by rw [← hN.out]; omega); rw [← hN.out] at q1 HO1 ⊢; obtain ⟨⟨g0, g1, g2⟩, f0, f1, f2⟩ := HG.out w1 g xs hrow q4)
      go_ret2
      have hkk : k < L.length := by rw [← hN.out]; exact hkN
      have hs := set_slots (x := (r + 1, (L.getD k v0).2)) (y := (r + 1, (l.getD k z0).2)) HLL.out HKL.out HR.out (hb1.setCell hbg _) (HRR.out _ (hb1.setCell hbg _)) ((row_one hkk hbg hrow (by rw [← hN.out]; exact q1) q2 q3 q4 (r + 1)).recs (by rw [List.length_set, ← hN.out]; exact hl))
      rw [← hN.out, ← HM.out] at hs
      exact ⟨_, _, _, rfl, hs, (hb1.setCell hbg _)⟩

set_option maxHeartbeats 1600000 in
theorem ldrop_any (v : Value) (l : List Sl) (n : Int) (w : World) (h : IsSlots w v l) (hmx : (l.getD n.toNat z0).1 ≤ 9223372036854775807) :
    Calls Try.prog 16 #[v, .int .i64 n, .int .i64 (-1)] w fun e w' => ∃ a N c, e = .returned (.tuple #[.slice a N c, .int .i64 (drE l n)]) ∧ IsSlots w' (.slice a N c) (drL l n) ∧ Below w.heap.size w w' := by
  obtain ⟨i0, hi, hz0, hz1, hz2⟩ := info_parts info_slot
  cases hm : mt l n with
  | false =>
    rw [(drE_none hm).1, (drE_none hm).2]
    obtain ⟨L, hL, ⟨a, cap, rfl, h1, hl, hc'⟩, hR⟩ := h
    obtain ⟨N, hN⟩ : ∃ N, Hid (N = L.length) := ⟨_, rfl⟩
    have HL : Hid (N = l.length) := hN.out.trans hL
    rw [← hN.out] at hl hc' h1 ⊢
    by_cases h2 : 0 ≤ n
    · by_cases h3 : n < (N : Int)
      · obtain ⟨k, rfl⟩ : ∃ k : Nat, n = (k : Int) := ⟨n.toNat, by omega⟩
        obtain ⟨b, off, rfl, hc⟩ := hc' (by omega)
        have hkl : k < l.length := by rw [← HL.out]; omega
        obtain ⟨⟨r, ⟨ba, bn, bc⟩, ⟨ta, tn, tc⟩⟩, hp⟩ : ∃ q, q = L.getD k v0 := ⟨_, rfl⟩
        obtain ⟨hk0, hk1, hk2⟩ := cell3 hc (Below.refl _ _) k (by rw [← hN.out]; omega) hp
        have hr := (hR k hkl).1
        rw [← hp] at hr
        have h4 : r < 1 := by
          rw [mt_nat hkl, ← hr] at hm
          have := of_decide_eq_false hm
          simp only at this
          omega
        clear hp hr hkl hk1 hk2 hR hL hc hc' hm
        go_enter Try.func16, Try.ntmps16
        go_wp2
        go_ret2
        exact ⟨_, _, _, rfl, isSlots_nil _ _ _, Below.refl _ _⟩
      · clear hR hL hc' hm
        go_enter Try.func16, Try.ntmps16
        go_wp2
        go_ret2
        exact ⟨_, _, _, rfl, isSlots_nil _ _ _, Below.refl _ _⟩
    · clear hR hL hc' hm
      go_enter Try.func16, Try.ntmps16
      go_wp2
      go_ret2
      exact ⟨_, _, _, rfl, isSlots_nil _ _ _, Below.refl _ _⟩
  | true =>
    obtain ⟨h0, h1⟩ := mt_len hm
    obtain ⟨k, rfl⟩ : ∃ k : Nat, n = (k : Int) := ⟨n.toNat, by omega⟩
    obtain ⟨L, hL, ⟨a, cap, rfl, h1', hl, hc'⟩, hR⟩ := h
    have hkl : k < l.length := by omega
    obtain ⟨b, off, rfl, hc⟩ := hc' (by omega)
    have HI : Hid (IsRecs encS 2513169434843 w (.slice (some ⟨b, off, none⟩) L.length cap) L) := ⟨_, _, rfl, h1', hl, fun _ => ⟨b, off, rfl, hc⟩⟩
    obtain ⟨⟨r, ⟨ba, bn, bc⟩, ⟨ta, tn, tc⟩⟩, hp⟩ : ∃ q, q = L.getD k v0 := ⟨_, rfl⟩
    obtain ⟨hk0, hk1, hk2⟩ := cell3 hc (Below.refl _ _) k (by omega) hp
    have hrd := hR k hkl
    rw [← hp] at hrd
    have hr : r = (l.getD k z0).1 := hrd.1
    have hr1 : 1 ≤ r := by
      have := (mt_iff.1 hm).2.2
      rw [Int.toNat_natCast] at this
      omega
    have HP : Hid ((r, (ba, bn, bc), (ta, tn, tc)) = L.getD k v0) := hp
    have HRD : Hid (Rd w (r, (ba, bn, bc), (ta, tn, tc)) (l.getD k z0)) := hrd
    have HR : Hid (∀ i, i < l.length → Rd w (L.getD i v0) (l.getD i z0)) := hR
    have HLL : Hid (L.length = l.length) := hL
    have HKL : Hid (k < l.length) := hkl
    have hok := drE_ok hm
    rw [Int.toNat_natCast] at hok hmx
    rw [hok.1, hok.2]
    have hr2 : r ≤ 9223372036854775807 := by rw [hr]; exact hmx
    obtain ⟨N, hN⟩ : ∃ N, Hid (N = L.length) := ⟨_, rfl⟩
    have hkN : k < N := by rw [hN.out]; omega
    rw [← hN.out] at hl h1' HI ⊢
    by_cases h4 : r = 1
    · have he : less (l.getD k z0) = z0 := by unfold less; rw [if_pos (by omega)]
      rw [he]
      subst h4
      obtain ⟨M, HM⟩ : ∃ M, Hid (M = l.set k z0) := ⟨_, rfl⟩
      rw [← HM.out]
      have HOW : Hid (OwnR 42 3 encS w.heap.size (w.alloc (.cells #[] 42)) (.slice (some ⟨w.heap.size, 0, none⟩) 0 0) ([] : List V3)) := World.ownsRow_made (base := w.heap.size) (e := 42) (size := 3) w #[] 0 (Nat.le_refl _) (Nat.zero_le _) (by simp)
      have HI2 : Hid (IsRecs encS 2513169434843 (w.alloc (.cells #[] 42)) (.slice (some ⟨b, off, none⟩) N cap) L) := HI.out.below ((Below.refl _ _).alloc (Nat.le_refl _) _)
      have HN1 : Hid ((([] : List V3).length + L.length) * 56 ≤ 140737488355328 ∧ ([] : List V3).length + L.length ≤ maxLen) := by
        show _ ∧ _
        rw [← hN.out]; unfold maxLen; simp; omega
      have HZ : Hid (w.heap.size ≤ (w.alloc (.cells #[] 42)).heap.size) := by show _ ≤ _; simp
      have HG : Hid (∀ (w1 : World) g xs, OwnRow w1 g 42 xs → xs.take (L.length * 3) = flatL encS L → (w1.cell? ⟨g, k * 3, none⟩ = some (.int .i64 1) ∧ w1.cell? ⟨g, k * 3 + 1, none⟩ = some (.slice ba bn bc) ∧ w1.cell? ⟨g, k * 3 + 2, none⟩ = some (.slice ta tn tc)) ∧ w1.frozen? ⟨g, k * 3, none⟩ = false ∧ w1.frozen? ⟨g, k * 3 + 1, none⟩ = false ∧ w1.frozen? ⟨g, k * 3 + 2, none⟩ = false) := by
        intro w1 g xs hrow hx
        have hk' : k < L.length := by rw [← hN.out]; exact hkN
        have e0 : ∀ t u, t < 3 → (encS (1, (ba, bn, bc), (ta, tn, tc)))[t]? = some u → xs[k * 3 + t]? = some u := fun t u ht hu => by
          have := flatL_get shS L v0 k t hk' ht
          rw [← HP.out, hu, ← hx, List.getElem?_take_of_lt (by omega)] at this
          exact this
        exact ⟨⟨by rw [hrow.cell]; exact e0 0 _ (by decide) rfl, by rw [hrow.cell]; exact e0 1 _ (by decide) rfl, by rw [hrow.cell]; exact e0 2 _ (by decide) rfl⟩, hrow.free _, hrow.free _, hrow.free _⟩
      clear he hok hr hc hc' hp hrd hR hL hkl hm HI
      go_enter Try.func16, Try.ntmps16
      go_wp2_with (at_builtin; refine wpList_append_recs shS rfl _ _ 30 42 i0 _ 56 rfl Try.underlying30 hi hz0 hz1 hz2 rfl w.heap.size _ ([] : List V3) rfl HOW.out 2513169434843 _ L rfl HI2.out HN1.out.1 HN1.out.2 HZ.out ?_; intro v1 w1 hown1 hb1'; have hb1 : Below w.heap.size w w1 := ((Below.refl _ _).alloc (Nat.le_refl _) _).trans hb1'; have HO1 : Hid (OwnR 42 3 encS w.heap.size w1 v1 L) := hown1; clear hown1 hb1'; obtain ⟨g, gc, xs, rfl, hbg, hrow, q1, q2, q3, q4⟩ := HO1.out.row (by rw [← hN.out]; omega); rw [← hN.out] at q1 HO1 ⊢; obtain ⟨⟨g0, g1, g2⟩, f0, f1, f2⟩ := HG.out w1 g xs hrow q4)
      go_ret2
      have hkk : k < L.length := by rw [← hN.out]; exact hkN
      have hs := set_slots (x := v0) (y := z0) HLL.out HKL.out HR.out ((((hb1.setCell hbg _).setCell hbg _).setCell hbg _).setCell hbg _) (rd_zero _) ((row_four hkk hbg hrow (by rw [← hN.out]; exact q1) q2 q3 q4 0 0 none none 0 0 0 0).recs (by rw [List.length_set, ← hN.out]; exact hl))
      rw [← hN.out, ← HM.out] at hs
      exact ⟨_, _, _, rfl, hs, ((((hb1.setCell hbg _).setCell hbg _).setCell hbg _).setCell hbg _)⟩
    · have he : less (l.getD k z0) = (r - 1, (l.getD k z0).2) := by unfold less; rw [if_neg (by omega), hr]
      rw [he]
      have h5 : ¬ r - 1 = 0 := by omega
      have h6 : ¬ r + -1 = 0 := by omega
      obtain ⟨M, HM⟩ : ∃ M, Hid (M = l.set k (r - 1, (l.getD k z0).2)) := ⟨_, rfl⟩
      rw [← HM.out]
      have HRR : Hid (∀ w', Below w.heap.size w w' → Rd w' (r + -1, (L.getD k v0).2) (r - 1, (l.getD k z0).2)) := fun w' hb => ⟨by show r + -1 = r - 1; omega, by rw [← hp]; exact hrd.2.1.below hb, by rw [← hp]; exact hrd.2.2.below hb⟩
      have HOW : Hid (OwnR 42 3 encS w.heap.size (w.alloc (.cells #[] 42)) (.slice (some ⟨w.heap.size, 0, none⟩) 0 0) ([] : List V3)) := World.ownsRow_made (base := w.heap.size) (e := 42) (size := 3) w #[] 0 (Nat.le_refl _) (Nat.zero_le _) (by simp)
      have HI2 : Hid (IsRecs encS 2513169434843 (w.alloc (.cells #[] 42)) (.slice (some ⟨b, off, none⟩) N cap) L) := HI.out.below ((Below.refl _ _).alloc (Nat.le_refl _) _)
      have HN1 : Hid ((([] : List V3).length + L.length) * 56 ≤ 140737488355328 ∧ ([] : List V3).length + L.length ≤ maxLen) := by
        show _ ∧ _
        rw [← hN.out]; unfold maxLen; simp; omega
      have HZ : Hid (w.heap.size ≤ (w.alloc (.cells #[] 42)).heap.size) := by show _ ≤ _; simp
      have HG : Hid (∀ (w1 : World) g xs, OwnRow w1 g 42 xs → xs.take (L.length * 3) = flatL encS L → (w1.cell? ⟨g, k * 3, none⟩ = some (.int .i64 r) ∧ w1.cell? ⟨g, k * 3 + 1, none⟩ = some (.slice ba bn bc) ∧ w1.cell? ⟨g, k * 3 + 2, none⟩ = some (.slice ta tn tc)) ∧ w1.frozen? ⟨g, k * 3, none⟩ = false ∧ w1.frozen? ⟨g, k * 3 + 1, none⟩ = false ∧ w1.frozen? ⟨g, k * 3 + 2, none⟩ = false) := by
        intro w1 g xs hrow hx
        have hk' : k < L.length := by rw [← hN.out]; exact hkN
        have e0 : ∀ t u, t < 3 → (encS (r, (ba, bn, bc), (ta, tn, tc)))[t]? = some u → xs[k * 3 + t]? = some u := fun t u ht hu => by
          have := flatL_get shS L v0 k t hk' ht
          rw [← HP.out, hu, ← hx, List.getElem?_take_of_lt (by omega)] at this
          exact this
        exact ⟨⟨by rw [hrow.cell]; exact e0 0 _ (by decide) rfl, by rw [hrow.cell]; exact e0 1 _ (by decide) rfl, by rw [hrow.cell]; exact e0 2 _ (by decide) rfl⟩, hrow.free _, hrow.free _, hrow.free _⟩
      clear he hok hr hc hc' hp hrd hR hL hkl hm HI
      go_enter Try.func16, Try.ntmps16
      go_wp2_with (at_builtin; refine wpList_append_recs shS rfl _ _ 30 42 i0 _ 56 rfl Try.underlying30 hi hz0 hz1 hz2 rfl w.heap.size _ ([] : List V3) rfl HOW.out 2513169434843 _ L rfl HI2.out HN1.out.1 HN1.out.2 HZ.out ?_; intro v1 w1 hown1 hb1'; have hb1 : Below w.heap.size w w1 := ((Below.refl _ _).alloc (Nat.le_refl _) _).trans hb1'; have HO1 : Hid (OwnR 42 3 encS w.heap.size w1 v1 L) := hown1; clear hown1 hb1'; obtain ⟨g, gc, xs, rfl, hbg, hrow, q1, q2, q3, q4⟩ := HO1.out.row (by rw [← hN.out]; omega); rw [← hN.out] at q1 HO1 ⊢; obtain ⟨⟨g0, g1, g2⟩, f0, f1, f2⟩ := HG.out w1 g xs hrow q4)
      go_ret2
      have hkk : k < L.length := by rw [← hN.out]; exact hkN
      have hs := set_slots (x := (r + -1, (L.getD k v0).2)) (y := (r - 1, (l.getD k z0).2)) HLL.out HKL.out HR.out (hb1.setCell hbg _) (HRR.out _ (hb1.setCell hbg _)) ((row_one hkk hbg hrow (by rw [← hN.out]; exact q1) q2 q3 q4 (r + -1)).recs (by rw [List.length_set, ← hN.out]; exact hl))
      rw [← hN.out, ← HM.out] at hs
      exact ⟨_, _, _, rfl, hs, (hb1.setCell hbg _)⟩

end Go.Proofs.Ytnmcbpanmjnegag
