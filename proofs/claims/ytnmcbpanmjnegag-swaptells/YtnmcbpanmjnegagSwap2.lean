/- The contract of swap.with. -/
import Derived.Test.YtnmcbpanmjnegagSwap1
namespace Go.Proofs.Ytnmcbpanmjnegag
open Go.RowKit
set_option linter.unusedSimpArgs false
set_option linter.unusedVariables false

/-- The first k places of a row are the slots X, whose lists are the call's own; they read as those of m. -/
def Done (g : Nat) (w : World) (xs : List Value) (m : List Sl) (k : Nat) : Prop :=
  ∃ X : List V3, X.length = k ∧ xs.take (k * 3) = flatL encS X ∧ ∀ i, i < k → Own3 (g + 1) w (X.getD i v0) (m.getD i z0)

theorem Done.zero (g : Nat) (w : World) (xs : List Value) (m : List Sl) : Done g w xs m 0 := ⟨[], rfl, by simp [flatL], fun i hi => by omega⟩

theorem Done.below {g : Nat} {w w' : World} {xs : List Value} {m : List Sl} {k : Nat} (h : Done g w xs m k) (hb : Below w.heap.size w w') : Done g w' xs m k := by
  obtain ⟨X, h1, h2, h3⟩ := h
  exact ⟨X, h1, h2, fun i hi => (h3 i hi).below hb⟩

theorem set3_eq (xs : List Value) (j : Nat) (a b c : Value) (h : j + 3 ≤ xs.length) : ((xs.set j a).set (j + 1) b).set (j + 2) c = spl xs j [a, b, c] := by
  rw [← spl_cons xs j a [b, c] (by simpa using h), ← spl_cons (xs.set j a) (j + 1) b [c] (by simp; omega), ← spl_cons _ (j + 1 + 1) c [] (by simp; omega)]
  simp [spl]

theorem Done.next {g : Nat} {w : World} {e : TypeId} {xs : List Value} {m : List Sl} {k : Nat} (h : Done g w xs m k) (hr : OwnRow w g e xs) (hx : k * 3 + 3 ≤ xs.length) {r : Int} {ba ta : Option Addr} {bn bc tn tc : Nat} (ho : Own3 (g + 1) w (r, (ba, bn, bc), (ta, tn, tc)) (m.getD k z0)) :
    Done g (((w.setCell ⟨g, k * 3, none⟩ (.int .i64 r)).setCell ⟨g, k * 3 + 1, none⟩ (.slice ba bn bc)).setCell ⟨g, k * 3 + 2, none⟩ (.slice ta tn tc)) (spl xs (k * 3) (encS (r, (ba, bn, bc), (ta, tn, tc)))) m (k + 1) := by
  obtain ⟨X, h1, h2, h3⟩ := h
  refine ⟨X ++ [(r, (ba, bn, bc), (ta, tn, tc))], by simp [h1], ?_, fun i hi => ?_⟩
  · rw [flatL_append, flatL_one, ← h2, Nat.succ_mul]
    exact spl_take_hi (vs := encS (r, (ba, bn, bc), (ta, tn, tc))) (by omega)
  · have hg : g < g + 1 := Nat.lt_succ_self g
    by_cases he : i < k
    · rw [List.getD_eq_getElem?_getD, List.getElem?_append_left (by omega), ← List.getD_eq_getElem?_getD]
      exact (((h3 i he).beside hg).beside hg).beside hg
    · obtain rfl : i = k := by omega
      rw [List.getD_eq_getElem?_getD, List.getElem?_append_right (by omega), h1, Nat.sub_self]
      exact ((ho.beside hg).beside hg).beside hg

theorem Done.slots {g : Nat} {w : World} {e : TypeId} {xs : List Value} {m : List Sl} {n : Nat} (h : Done g w xs m n) (hr : OwnRow w g e xs) (hn : n = m.length) (hx : xs.length = n * 3) (hl : n ≤ 2513169434843) : IsSlots w (.slice (some ⟨g, 0, none⟩) n n) m := by
  obtain ⟨X, h1, h2, h3⟩ := h
  refine ⟨X, by omega, ⟨some ⟨g, 0, none⟩, n, by rw [h1], by omega, by omega, fun _ => ⟨g, 0, rfl, fun j u hj => ?_⟩⟩, fun i hi => (h3 i (by omega)).rd⟩
  rw [Nat.zero_add, hr.cell]
  rw [← h2, List.take_of_length_le (by omega)] at hj
  exact hj

set_option maxHeartbeats 1600000 in
theorem with_any (v : Value) (l : List Sl) (n : Nat) (r : Int) (ba ta : Option Addr) (bn bc tn tc : Nat) (y : Sl) (w : World) (h : IsSlots w v l) (hy : Rd w (r, (ba, bn, bc), (ta, tn, tc)) y) :
    Calls Try.prog 27 #[v, .int .i64 n, .agg #[.int .i64 r, .slice ba bn bc, .slice ta tn tc]] w fun e w' => ∃ a c, e = .returned (.slice a l.length c) ∧ IsSlots w' (.slice a l.length c) (l.set n y) ∧ Below w.heap.size w w' := by
  obtain ⟨L, hL, ⟨a, cap, rfl, h1, hl, hc'⟩, hR⟩ := h
  obtain ⟨i0, hi, hz0, hz1, hz2⟩ := info_parts info_slot
  obtain ⟨N, hN⟩ : ∃ N, Hid (N = L.length) := ⟨_, rfl⟩
  have HL : Hid (N = l.length) := hN.out.trans hL
  rw [← HL.out]
  rw [← hN.out] at hl hc' h1 ⊢
  have HR : Hid (∀ i, i < N → Rd w (L.getD i v0) (l.getD i z0)) := fun i hi => hR i (by rw [← HL.out]; exact hi)
  have HY : Hid (Rd w (r, (ba, bn, bc), (ta, tn, tc)) y) := hy
  clear hR hL hy
  go_enter Try.func27, Try.ntmps27
  go_wp2_with (at_make; refine wpList_make_room _ rfl _ _ 30 rfl 42 i0 _ Try.underlying30 hi hz0 hz1 .i64 .i64 N N rfl rfl (Nat.le_refl _) (by rw [hz2]; omega) (by unfold maxLen; omega) ?_; intro w1 xs hrow hxs hb1 hs1)
  have hbox : OwnRow w1 w.heap.size 42 (encS (r, (ba, bn, bc), (ta, tn, tc))) := own_one (xs := encS (r, (ba, bn, bc), (ta, tn, tc))) hb1
  have hrow' : OwnRow w1 (w.heap.size + 1) 42 xs := by simpa using hrow
  have hb01 : Below w.heap.size w w1 := below_one hb1
  clear hb1 hrow hs1
  go_loopw [15] (fun i wr => ∃ (k : Nat) (xs' : List Value), k ≤ N ∧ i = .int .i64 k ∧ OwnRow wr (w.heap.size + 1) 42 xs' ∧ Hid (xs'.length = N * 3) ∧ Hid (Done (w.heap.size + 1) wr xs' (l.set n y) k) ∧ OwnRow wr w.heap.size 42 (encS (r, (ba, bn, bc), (ta, tn, tc))) ∧ Below w.heap.size w wr) (fun i _ => N - (intOf i).toNat)
  case atStart => exact ⟨0, xs, Nat.zero_le _, rfl, hrow', hxs, Done.zero _ _ _ _, hbox, hb01⟩
  case round =>
    obtain ⟨k, xs', hk, rfl, hro, hxl, hdo, hbx, hbel⟩ := hrel
    clear hrow' hbox hb01 hxs
    by_cases hlt : k < N
    · obtain ⟨b, off, rfl, hc⟩ := hc' (by omega)
      have hkl : k < l.length := by rw [← HL.out]; exact hlt
      obtain ⟨⟨rk, ⟨pa, pn, pc⟩, ⟨qa, qn, qc⟩⟩, hp⟩ : ∃ q, q = L.getD k v0 := ⟨_, rfl⟩
      obtain ⟨hk0, hk1, hk2⟩ := cell3 hc hbel k (by rw [← hN.out]; exact hlt) hp
      obtain ⟨⟨hx0, hx1, hx2⟩, -, -, -⟩ := hbx.three
      have hrk := HR.out k hlt
      rw [← hp] at hrk
      have hgt : w.heap.size + 1 < wr.heap.size := hro.lt
      have hgt0 : w.heap.size < wr.heap.size := hbx.lt
      obtain ⟨u0, hu0⟩ : ∃ u, xs'[k * 3]? = some u := ⟨_, List.getElem?_eq_getElem (by rw [hxl.out]; omega)⟩
      obtain ⟨u1, hu1⟩ : ∃ u, xs'[k * 3 + 1]? = some u := ⟨_, List.getElem?_eq_getElem (by rw [hxl.out]; omega)⟩
      obtain ⟨u2, hu2⟩ : ∃ u, xs'[k * 3 + 2]? = some u := ⟨_, List.getElem?_eq_getElem (by rw [hxl.out]; omega)⟩
      have HG : Hid (∀ w3, Below wr.heap.size wr w3 → (w3.cell? ⟨w.heap.size + 1, k * 3, none⟩ = some u0 ∧ w3.cell? ⟨w.heap.size + 1, k * 3 + 1, none⟩ = some u1 ∧ w3.cell? ⟨w.heap.size + 1, k * 3 + 2, none⟩ = some u2) ∧ w3.frozen? ⟨w.heap.size + 1, k * 3, none⟩ = false ∧ w3.frozen? ⟨w.heap.size + 1, k * 3 + 1, none⟩ = false ∧ w3.frozen? ⟨w.heap.size + 1, k * 3 + 2, none⟩ = false) := by
        intro w3 hb3
        have h := hro.below hb3 hgt
        exact ⟨⟨by rw [h.cell]; exact hu0, by rw [h.cell]; exact hu1, by rw [h.cell]; exact hu2⟩, h.free _, h.free _, h.free _⟩
      by_cases hkn : k = n
      · subst hkn
        have hm : (l.set k y).getD k z0 = y := getD_set_self hkl y
        have HC : Hid (∀ w1, Below wr.heap.size wr w1 → Calls Try.prog 30 #[.agg #[.int .i64 r, .slice ba bn bc, .slice ta tn tc]] w1 fun e w' => ∃ ba' bn' bc' ta' tn' tc', e = .returned (.agg #[.int .i64 r, .slice ba' bn' bc', .slice ta' tn' tc']) ∧ Own3 (w.heap.size + 1 + 1) w' (r, (ba', bn', bc'), (ta', tn', tc')) ((l.set k y).getD k z0) ∧ Below wr.heap.size wr w') := by
          intro w1 hb1
          refine (copied_any r ba ta bn bc tn tc y w1 (HY.out.below (hbel.trans (hb1.mono hbel.size)))).mono ?_
          rintro e w' ⟨x1, x2, x3, x4, x5, x6, he, ho, hb2⟩
          exact ⟨x1, x2, x3, x4, x5, x6, he, by rw [hm]; exact ho.mono (by have := hb1.size; omega), hb1.trans (hb2.mono hb1.size)⟩
        clear hm hp hrk hc hu0 hu1 hu2 hkl
        go_wp2_with fail
        refine (HC.out _ ((Below.refl _ _).alloc (Nat.le_refl _) _)).mono ?_
        rintro e w3 ⟨x1, x2, x3, x4, x5, x6, rfl, ho3, hb3⟩
        have HO : Hid (Own3 (w.heap.size + 1 + 1) w3 (r, (x1, x2, x3), (x4, x5, x6)) ((l.set k y).getD k z0)) := ho3
        clear ho3
        obtain ⟨⟨g0, g1, g2⟩, f0, f1, f2⟩ := HG.out _ hb3
        go_wp2
        have hro3 := hro.below hb3 hgt
        have hbx3 := hbx.below hb3 hgt0
        have hb03 := hbel.trans (hb3.mono hbel.size)
        have hxl3 : k * 3 + 3 ≤ xs'.length := by rw [hxl.out]; omega
        have hnew := ((hro3.set (k * 3) (.int .i64 r)).set (k * 3 + 1) (.slice x1 x2 x3)).set (k * 3 + 2) (.slice x4 x5 x6)
        rw [set3_eq _ _ _ _ _ hxl3] at hnew
        have hdn := (hdo.out.below hb3).next hro3 hxl3 HO.out
        have hbw3 := ((hb03.setCell (p := ⟨w.heap.size + 1, k * 3, none⟩) (Nat.le_succ _) (.int .i64 r)).setCell (p := ⟨w.heap.size + 1, k * 3 + 1, none⟩) (Nat.le_succ _) (.slice x1 x2 x3)).setCell (p := ⟨w.heap.size + 1, k * 3 + 2, none⟩) (Nat.le_succ _) (.slice x4 x5 x6)
        have hbn : OwnRow _ w.heap.size 42 (encS (r, (ba, bn, bc), (ta, tn, tc))) := hbx3.of_block (w' := (((w3.setCell ⟨w.heap.size + 1, k * 3, none⟩ (.int .i64 r)).setCell ⟨w.heap.size + 1, k * 3 + 1, none⟩ (.slice x1 x2 x3)).setCell ⟨w.heap.size + 1, k * 3 + 2, none⟩ (.slice x4 x5 x6))) (by rw [Below.heap_setCell _ _ _ _ (by simp), Below.heap_setCell _ _ _ _ (by simp), Below.heap_setCell _ _ _ _ (by simp)])
        go_roundw
        case rel => exact ⟨k + 1, _, by omega, by go_num, hnew, by show _ = _; rw [spl_len (by simpa using hxl3)]; exact hxl.out, hdn, hbn, hbw3⟩
        case measure => simp [intOf]; omega
      · have hne : ¬ (k : Int) = (n : Int) := by omega
        have hm : (l.set n y).getD k z0 = l.getD k z0 := getD_set_other (Ne.symm hkn) y
        have HC : Hid (∀ w1, Below wr.heap.size wr w1 → Calls Try.prog 30 #[.agg #[.int .i64 rk, .slice pa pn pc, .slice qa qn qc]] w1 fun e w' => ∃ ba' bn' bc' ta' tn' tc', e = .returned (.agg #[.int .i64 rk, .slice ba' bn' bc', .slice ta' tn' tc']) ∧ Own3 (w.heap.size + 1 + 1) w' (rk, (ba', bn', bc'), (ta', tn', tc')) ((l.set n y).getD k z0) ∧ Below wr.heap.size wr w') := by
          intro w1 hb1
          refine (copied_any rk pa qa pn pc qn qc _ w1 (hrk.below (hbel.trans (hb1.mono hbel.size)))).mono ?_
          rintro e w' ⟨x1, x2, x3, x4, x5, x6, he, ho, hb2⟩
          exact ⟨x1, x2, x3, x4, x5, x6, he, by rw [hm]; exact ho.mono (by have := hb1.size; omega), hb1.trans (hb2.mono hb1.size)⟩
        clear hm hp hrk hc hu0 hu1 hu2 hkl hkn
        go_wp2_with fail
        refine (HC.out _ ((Below.refl _ _).alloc (Nat.le_refl _) _)).mono ?_
        rintro e w3 ⟨x1, x2, x3, x4, x5, x6, rfl, ho3, hb3⟩
        have HO : Hid (Own3 (w.heap.size + 1 + 1) w3 (rk, (x1, x2, x3), (x4, x5, x6)) ((l.set n y).getD k z0)) := ho3
        clear ho3
        obtain ⟨⟨g0, g1, g2⟩, f0, f1, f2⟩ := HG.out _ hb3
        go_wp2
        have hro3 := hro.below hb3 hgt
        have hbx3 := hbx.below hb3 hgt0
        have hb03 := hbel.trans (hb3.mono hbel.size)
        have hxl3 : k * 3 + 3 ≤ xs'.length := by rw [hxl.out]; omega
        have hnew := ((hro3.set (k * 3) (.int .i64 rk)).set (k * 3 + 1) (.slice x1 x2 x3)).set (k * 3 + 2) (.slice x4 x5 x6)
        rw [set3_eq _ _ _ _ _ hxl3] at hnew
        have hdn := (hdo.out.below hb3).next hro3 hxl3 HO.out
        have hbw3 := ((hb03.setCell (p := ⟨w.heap.size + 1, k * 3, none⟩) (Nat.le_succ _) (.int .i64 rk)).setCell (p := ⟨w.heap.size + 1, k * 3 + 1, none⟩) (Nat.le_succ _) (.slice x1 x2 x3)).setCell (p := ⟨w.heap.size + 1, k * 3 + 2, none⟩) (Nat.le_succ _) (.slice x4 x5 x6)
        have hbn : OwnRow _ w.heap.size 42 (encS (r, (ba, bn, bc), (ta, tn, tc))) := hbx3.of_block (w' := (((w3.setCell ⟨w.heap.size + 1, k * 3, none⟩ (.int .i64 rk)).setCell ⟨w.heap.size + 1, k * 3 + 1, none⟩ (.slice x1 x2 x3)).setCell ⟨w.heap.size + 1, k * 3 + 2, none⟩ (.slice x4 x5 x6))) (by rw [Below.heap_setCell _ _ _ _ (by simp), Below.heap_setCell _ _ _ _ (by simp), Below.heap_setCell _ _ _ _ (by simp)])
        go_roundw
        case rel => exact ⟨k + 1, _, by omega, by go_num, hnew, by show _ = _; rw [spl_len (by simpa using hxl3)]; exact hxl.out, hdn, hbn, hbw3⟩
        case measure => simp [intOf]; omega
    · obtain rfl : k = N := by omega
      have HS : Hid (IsSlots wr (.slice (some ⟨w.heap.size + 1, 0, none⟩) k k) (l.set n y)) := hdo.out.slots hro (by rw [List.length_set]; exact HL.out) hxl.out hl
      go_wp2
      go_ret
      exact ⟨_, _, rfl, HS.out, hbel⟩

end Go.Proofs.Ytnmcbpanmjnegag
