/- The contracts of slices.EqualFunc at api.Page and framewardenref.SameProc, where both sides read as one: they are the same. -/
import Derived.Test.YtbiipnojhjhejaaJKeep
import Derived.Test.YtbiipnojhjhejaaKeys3
import Derived.Test.YtbiipnojhjhejaaFlatIeq
namespace Go.Proofs.Ytbiipnojhjhejaa
set_option maxRecDepth 100000
open Go.RowKit
set_option linter.unusedSimpArgs false
set_option linter.unusedVariables false

set_option maxHeartbeats 1600000 in
theorem same1_any (r : Int) (ba ta ca da : Option Addr) (bn bc tn tc cn cc dn dc : Nat) (y : Sl) (w : World) (h : Rd w (r, (ba, bn, bc), (ta, tn, tc)) y) (h2 : Rd w (r, (ca, cn, cc), (da, dn, dc)) y) :
    Calls Try.prog 25 #[.agg #[.int .i64 r, .slice ba bn bc, .slice ta tn tc], .agg #[.int .i64 r, .slice ca cn cc, .slice da dn dc]] w fun e w' => e = .returned (.bool true) ∧ Below w.heap.size w w' := by
  have HE : Hid (∀ w1, Below w.heap.size w w1 → Calls Try.prog 14 #[.slice ta tn tc, .slice da dn dc] w1 fun e w' => e = .returned (.bool true) ∧ Below w.heap.size w w') := by
    intro w1 hb1
    refine (iequal_same _ _ y.2.2 w1 (h.2.2.below hb1) (h2.2.2.below hb1)).mono ?_
    rintro e w' ⟨he, hb2⟩
    exact ⟨he, hb1.trans (hb2.mono hb1.size)⟩
  have HB : Below w.heap.size w ((w.alloc (.cells #[.int .i64 r, .slice ba bn bc, .slice ta tn tc] 54)).alloc (.cells #[.int .i64 r, .slice ca cn cc, .slice da dn dc] 54)) := ((Below.refl _ _).alloc (Nat.le_refl _) _).alloc (by simp) _
  have hs1 := str_of (h.2.1.below HB)
  have hs2 := str_of (h2.2.1.below HB)
  generalize strOfNums y.2.1 = Z at hs1 hs2
  simp only [hdr] at hs1 hs2
  clear h h2
  go_enter Try.func25, Try.ntmps25
  go_wp2_with fail
  refine (HE.out _ HB).mono ?_
  rintro e w3 ⟨rfl, hb3⟩
  go_wp2
  go_ret
  exact ⟨rfl, hb3⟩

set_option maxHeartbeats 1600000 in
theorem equalFunc_any (v u : Value) (l : List Sl) (w : World) (h : IsSlots w v l) (hu : IsSlots w u l) :
    Calls Try.prog 24 #[v, u, .func (.func 25) #[] #[]] w fun e w' => e = .returned (.bool true) ∧ Below w.heap.size w w' := by
  obtain ⟨L, hL, ⟨a, cap, rfl, h1, hl, hc'⟩, hR⟩ := h
  obtain ⟨M, hM, ⟨a', cap', rfl, h1', hl', hm'⟩, hR'⟩ := hu
  obtain ⟨n, hn⟩ : ∃ n, Hid (n = l.length) := ⟨_, rfl⟩
  have HL : Hid (n = L.length) := hn.out.trans hL.symm
  have HM : Hid (n = M.length) := hn.out.trans hM.symm
  rw [← HL.out] at hl hc' h1 ⊢
  rw [← HM.out] at hl' hm' h1' ⊢
  have HR : Hid (∀ i, i < n → Rd w (L.getD i v0) (l.getD i z0) ∧ Rd w (M.getD i v0) (l.getD i z0)) := fun i hi => ⟨hR i (by rw [← hn.out]; exact hi), hR' i (by rw [← hn.out]; exact hi)⟩
  clear hR hR' hL hM
  go_enter Try.func24, Try.ntmps24
  go_wp2_with fail
  go_loopw [17] (fun i wr => ∃ k : Nat, k ≤ n ∧ i = .int .i64 k ∧ Below w.heap.size w wr) (fun i _ => n - (intOf i).toNat)
  case atStart => exact ⟨0, Nat.zero_le _, rfl, Below.refl _ _⟩
  case round =>
    obtain ⟨k, hk, rfl, hbel⟩ := hrel
    by_cases hlt : k < n
    · obtain ⟨b, off, rfl, hc⟩ := hc' (by omega)
      obtain ⟨g, goff, rfl, hm⟩ := hm' (by omega)
      obtain ⟨⟨r, ⟨ba, bn, bc⟩, ⟨ta, tn, tc⟩⟩, hp⟩ : ∃ q, q = L.getD k v0 := ⟨_, rfl⟩
      obtain ⟨⟨r', ⟨ca, cn, cc⟩, ⟨da, dn, dc⟩⟩, hq⟩ : ∃ q, q = M.getD k v0 := ⟨_, rfl⟩
      obtain ⟨hk0, hk1, hk2⟩ := cell3 hc hbel k (by rw [← HL.out]; exact hlt) hp
      obtain ⟨hr0, hr1, hr2⟩ := cell3 hm hbel k (by rw [← HM.out]; exact hlt) hq
      obtain ⟨r1, r2⟩ := HR.out k hlt
      rw [← hp] at r1
      rw [← hq] at r2
      obtain rfl : r' = r := r2.1.trans r1.1.symm
      have HC : Hid (∀ w1, Below wr.heap.size wr w1 → Calls Try.prog 25 #[.agg #[.int .i64 r', .slice ba bn bc, .slice ta tn tc], .agg #[.int .i64 r', .slice ca cn cc, .slice da dn dc]] w1 fun e w' => e = .returned (.bool true) ∧ Below w.heap.size w w') := by
        intro w1 hb1
        have hb := hbel.trans (hb1.mono hbel.size)
        refine (same1_any r' ba ta ca da bn bc tn tc cn cc dn dc _ w1 (r1.below hb) (r2.below hb)).mono ?_
        rintro e w' ⟨he, hb2⟩
        exact ⟨he, hb.trans (hb2.mono hb.size)⟩
      have hgb : b < wr.heap.size := cell_lt hk0
      have hgg : g < wr.heap.size := cell_lt hr0
      clear hp hq hc hm hc' hm' r1 r2
      go_wp2_with (go_at_call 25; refine (HC.out _ (((Below.refl _ _).alloc (Nat.le_refl _) _).alloc (by simp) _)).mono ?_; rintro e w2 ⟨rfl, hb2⟩)
      go_roundw
      case rel => exact ⟨k + 1, by omega, by go_num, hb2⟩
      case measure => simp [intOf]; omega
    · go_wp2
      go_ret
      exact ⟨rfl, hbel⟩

set_option maxHeartbeats 1600000 in
theorem sameProc_any (base base' : Nat) (p : Pr) (a : Option Addr) (n c : Nat) (a' : Option Addr) (n' c' : Nat) (b : Option Addr) (m d : Nat) (b' : Option Addr) (m' d' : Nat) (w : World) (h : Seems base w p (.slice a n c) (.slice a' n' c')) (h2 : Seems base' w p (.slice b m d) (.slice b' m' d')) (hl : p.L.length ≤ 64) (hpl : (pagesL p p.L).length ≤ 4096) :
    Calls Try.prog 12 #[.agg (procC p (.slice a n c) (.slice a' n' c')).toArray, .agg (procC p (.slice b m d) (.slice b' m' d')).toArray] w fun e w' => e = .returned (.bool true) ∧ Below w.heap.size w w' := by
  have HE : Hid (∀ w1, Below w.heap.size w w1 → Calls Try.prog 13 #[.slice a n c, .slice b m d] w1 fun e w' => e = .returned (.bool true) ∧ Below w1.heap.size w1 w') := fun w1 hb =>
    (requal_is _ _ _ _ 64 w1 ((h.regs.below hb).recs hl) ((h2.regs.below hb).recs hl) (by decide) (by simp))
  have HF : Hid (∀ w1, Below w.heap.size w w1 → Calls Try.prog 24 #[.slice a' n' c', .slice b' m' d', .func (.func 25) #[] #[]] w1 fun e w' => e = .returned (.bool true) ∧ Below w.heap.size w w') := fun w1 hb =>
    (equalFunc_any _ _ _ w1 ((h.pages.below hb).slots (by omega)) ((h2.pages.below hb).slots (by omega))).mono fun e w' ⟨he, hb2⟩ => ⟨he, hb.trans (hb2.mono hb.size)⟩
  obtain ⟨lv, L, ⟨t0, d0, t1, d1, t2, d2, t3, d3⟩, B, T⟩ := p
  have hpc : ∀ r q, procC ⟨lv, L, (t0, d0, t1, d1, t2, d2, t3, d3), B, T⟩ r q = [.bool lv, r, .bool t0, .int .i64 d0, .bool t1, .int .i64 d1, .bool t2, .int .i64 d2, .bool t3, .int .i64 d3, q] := fun r q => rfl
  rw [hpc, hpc]
  have q0 := eql_keys t0 d0 t1 d1 t2 d2 t3 d3
  have hlv : (lv == lv) = true := by simp
  have HB : Below w.heap.size w ((w.alloc (.cells #[.bool lv, .slice a n c, .bool t0, .int .i64 d0, .bool t1, .int .i64 d1, .bool t2, .int .i64 d2, .bool t3, .int .i64 d3, .slice a' n' c'] 33)).alloc (.cells #[.bool lv, .slice b m d, .bool t0, .int .i64 d0, .bool t1, .int .i64 d1, .bool t2, .int .i64 d2, .bool t3, .int .i64 d3, .slice b' m' d'] 33)) := ((Below.refl _ _).alloc (Nat.le_refl _) _).alloc (by simp) _
  clear h h2 hpc
  go_enter Try.func12, Try.ntmps12
  go_wp2_with fail
  refine (HE.out _ HB).mono ?_
  rintro e w3 ⟨rfl, hb3⟩
  obtain ⟨r1, r2⟩ := own_two (w := w) (xs := [.bool lv, .slice a n c, .bool t0, .int .i64 d0, .bool t1, .int .i64 d1, .bool t2, .int .i64 d2, .bool t3, .int .i64 d3, .slice a' n' c']) (ys := [.bool lv, .slice b m d, .bool t0, .int .i64 d0, .bool t1, .int .i64 d1, .bool t2, .int .i64 d2, .bool t3, .int .i64 d3, .slice b' m' d']) (e := 33) (e' := 33) hb3
  have c1 : w3.cell? ⟨w.heap.size, 10, none⟩ = some (.slice a' n' c') := r1.cell 10
  have c2 : w3.cell? ⟨w.heap.size + 1, 10, none⟩ = some (.slice b' m' d') := r2.cell 10
  have hb4 := HB.trans (hb3.mono HB.size)
  clear r1 r2 hb3
  go_wp2_with fail
  refine (HF.out _ hb4).mono ?_
  rintro e w5 ⟨rfl, hb5⟩
  go_wp2
  go_ret
  exact ⟨rfl, hb5⟩

end Go.Proofs.Ytbiipnojhjhejaa
