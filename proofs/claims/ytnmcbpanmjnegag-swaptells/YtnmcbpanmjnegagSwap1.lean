/- The contracts of swap.isMeant and swap.copied. -/
import Derived.Test.YtnmcbpanmjnegagSlots
namespace Go.Proofs.Ytnmcbpanmjnegag
open Go.RowKit
set_option linter.unusedSimpArgs false
set_option linter.unusedVariables false

set_option maxHeartbeats 800000 in
theorem isMeant_any (v : Value) (l : List Sl) (n : Int) (w : World) (h : IsSlots w v l) :
    Calls Try.prog 26 #[v, .int .i64 n] w fun e w' => e = .returned (.bool (mt l n)) ∧ Below w.heap.size w w' := by
  obtain ⟨L, hL, ⟨a, cap, rfl, h1, hl, hc'⟩, hR⟩ := h
  obtain ⟨N, hN⟩ : ∃ N, Hid (N = L.length) := ⟨_, rfl⟩
  have HL : Hid (N = l.length) := hN.out.trans hL
  rw [← hN.out] at hl hc' h1 ⊢
  by_cases h2 : 0 ≤ n
  · by_cases h3 : n < (N : Int)
    · obtain ⟨k, rfl⟩ : ∃ k : Nat, n = (k : Int) := ⟨n.toNat, by omega⟩
      obtain ⟨b, off, rfl, hc⟩ := hc' (by omega)
      have hkl : k < l.length := by rw [← HL.out]; omega
      obtain ⟨⟨r, ⟨ba, bn, bc⟩, ⟨ta, tn, tc⟩⟩, hp⟩ : ∃ q, q = L.getD k v0 := ⟨_, rfl⟩
      obtain ⟨hk0, hk1, hk2⟩ := cell3 hc (Below.refl _ _) k (by rw [← hN.out]; omega) hp
      have hr := (hR k hkl).1
      rw [← hp] at hr
      have HM : Hid (mt l (k : Int) = decide (1 ≤ r)) := by show _ = _; rw [mt_nat hkl, ← hr]
      clear hp hr hkl hk1 hk2 hR hL hc hc'
      by_cases h4 : 1 ≤ r
      · go_enter Try.func26, Try.ntmps26
        go_wp2
        go_ret
        exact ⟨ret_bool (by rw [HM.out, decide_eq_true h4]), Below.refl _ _⟩
      · go_enter Try.func26, Try.ntmps26
        go_wp2
        go_ret
        exact ⟨ret_bool (by rw [HM.out, decide_eq_false (by omega)]), Below.refl _ _⟩
    · clear hR hL hc'
      go_enter Try.func26, Try.ntmps26
      go_wp2
      go_ret
      refine ⟨ret_bool ?_, Below.refl _ _⟩
      rw [HL.out] at h3
      unfold mt
      rw [decide_eq_false (p := n < (l.length : Int)) (by omega)]
      simp
  · clear hR hL hc'
    go_enter Try.func26, Try.ntmps26
    go_wp2
    go_ret
    refine ⟨ret_bool ?_, Below.refl _ _⟩
    unfold mt
    rw [decide_eq_false (p := 0 ≤ n) (by omega)]
    simp

theorem isMeant_is {f : Bool} (v : Value) (l : List Sl) (n : Int) (w : World) (h : IsSlots w v l) (hf : mt l n = f) :
    Calls Try.prog 26 #[v, .int .i64 n] w fun e w' => e = .returned (.bool f) ∧ Below w.heap.size w w' := hf ▸ isMeant_any v l n w h

/-- Three cells of block g, and all that lay in W lies as it did. -/
def Three (W : World) (g : Nat) (a b c : Value) (w' : World) : Prop :=
  (w'.cell? ⟨g, 0, none⟩ = some a ∧ w'.cell? ⟨g, 1, none⟩ = some b ∧ w'.cell? ⟨g, 2, none⟩ = some c) ∧ Below W.heap.size W w'

/-- A slot stored into a variable. -/
theorem set3 {w : World} {g : Nat} {e : TypeId} {xs : List Value} (h : OwnRow w g e xs) (hl : xs.length = 3) (a b c : Value) :
    OwnRow (((w.setCell ⟨g, 0, none⟩ a).setCell ⟨g, 1, none⟩ b).setCell ⟨g, 2, none⟩ c) g e [a, b, c] := by
  have h1 := ((h.set 0 a).set 1 b).set 2 c
  match xs, hl with
  | [x, y, z], _ => exact h1

set_option maxHeartbeats 1600000 in
theorem copied_any (r : Int) (ba ta : Option Addr) (bn bc tn tc : Nat) (y : Sl) (w : World) (h : Rd w (r, (ba, bn, bc), (ta, tn, tc)) y) :
    Calls Try.prog 30 #[.agg #[.int .i64 r, .slice ba bn bc, .slice ta tn tc]] w fun e w' => ∃ ba' bn' bc' ta' tn' tc', e = .returned (.agg #[.int .i64 r, .slice ba' bn' bc', .slice ta' tn' tc']) ∧ Own3 w.heap.size w' (r, (ba', bn', bc'), (ta', tn', tc')) y ∧ Below w.heap.size w w' := by
  obtain ⟨hr, hb, ht⟩ := h
  have HU : Hid (∀ w1, Below w.heap.size w w1 → Calls Try.prog 32 #[.slice ba bn bc] w1 fun e w' => ∃ a n c, e = .returned (.slice a n c) ∧ OwnU w1.heap.size w' (.slice a n c) y.2.1 ∧ Below w1.heap.size w1 w') :=
    fun w1 h1 => (uclone_any _ _ w1 (hb.below h1)).mono fun e w' ⟨a, c, he, h2, h3⟩ => ⟨a, _, c, he, h2, h3⟩
  have HI : Hid (∀ w1, Below w.heap.size w w1 → Calls Try.prog 33 #[.slice ta tn tc] w1 fun e w' => ∃ a n c, e = .returned (.slice a n c) ∧ OwnR 3 1 encI w1.heap.size w' (.slice a n c) y.2.2 ∧ Below w1.heap.size w1 w') :=
    fun w1 h1 => (iclone_any _ _ w1 (ht.below h1)).mono fun e w' ⟨a, c, he, h2, h3⟩ => ⟨a, _, c, he, h2, h3⟩
  have HR : Hid (r = y.1) := hr
  have HT : Hid (y.2.2.length ≤ 17592186043904) := ht.len
  clear hr hb ht
  go_enter Try.func30, Try.ntmps30
  go_wp2_with fail
  have hbw : Below w.heap.size w ((w.alloc (.cells #[.int .i64 r, .slice ba bn bc, .slice ta tn tc] 42)).alloc (.cells #[.int .i64 0, .slice none 0 0, .slice none 0 0] 42)) := ((Below.refl _ _).alloc (Nat.le_refl _) _).alloc (by simp) _
  have hAB := own_two (w := w) (xs := encS (r, (ba, bn, bc), (ta, tn, tc))) (ys := encS v0) (e := 42) (e' := 42) (Below.refl _ _)
  change OwnRow ((w.alloc (.cells #[.int .i64 r, .slice ba bn bc, .slice ta tn tc] 42)).alloc (.cells #[.int .i64 0, .slice none 0 0, .slice none 0 0] 42)) _ _ _ ∧ OwnRow ((w.alloc (.cells #[.int .i64 r, .slice ba bn bc, .slice ta tn tc] 42)).alloc (.cells #[.int .i64 0, .slice none 0 0, .slice none 0 0] 42)) _ _ _ at hAB
  generalize ((w.alloc (.cells #[.int .i64 r, .slice ba bn bc, .slice ta tn tc] 42)).alloc (.cells #[.int .i64 0, .slice none 0 0, .slice none 0 0] 42)) = W0 at hbw hAB ⊢
  have HAB : Hid (∀ w', Below W0.heap.size W0 w' → OwnRow w' w.heap.size 42 (encS (r, (ba, bn, bc), (ta, tn, tc))) ∧ OwnRow w' (w.heap.size + 1) 42 (encS v0)) := fun w' hb => ⟨hAB.1.below hb hAB.1.lt, hAB.2.below hb hAB.2.lt⟩
  obtain ⟨⟨ha0, ha1, ha2⟩, -, -, -⟩ := hAB.1.three
  obtain ⟨⟨hb0, hb1, hb2⟩, hf0, hf1, hf2⟩ := hAB.2.three
  clear hAB
  have HS0 : Hid (∀ w', Below W0.heap.size W0 w' → Three w w.heap.size (.int .i64 r) (.slice ba bn bc) (.slice ta tn tc) w') := fun w' hb => ⟨(HAB.out _ hb).1.three.1, hbw.trans (hb.mono hbw.size)⟩
  have HS1 : Hid (∀ w' a b c, Below W0.heap.size W0 w' → Three w w.heap.size (.int .i64 r) (.slice ba bn bc) (.slice ta tn tc) (((w'.setCell ⟨w.heap.size + 1, 0, none⟩ a).setCell ⟨w.heap.size + 1, 1, none⟩ b).setCell ⟨w.heap.size + 1, 2, none⟩ c)) := by
    intro w' a b c hb
    have h1 := (HAB.out _ hb).1
    have h2 : OwnRow (((w'.setCell ⟨w.heap.size + 1, 0, none⟩ a).setCell ⟨w.heap.size + 1, 1, none⟩ b).setCell ⟨w.heap.size + 1, 2, none⟩ c) w.heap.size 42 (encS (r, (ba, bn, bc), (ta, tn, tc))) :=
      h1.of_block (by rw [Below.heap_setCell _ _ _ _ (by simp), Below.heap_setCell _ _ _ _ (by simp), Below.heap_setCell _ _ _ _ (by simp)])
    exact ⟨h2.three.1, (((hbw.trans (hb.mono hbw.size)).setCell (by simp) _).setCell (by simp) _).setCell (by simp) _⟩
  clear hb0 hb1 hb2 hf0 hf1 hf2
  go_region_held3 (fun w' => (w'.cell? ⟨w.heap.size, 0, none⟩ = some (.int .i64 r) ∧ w'.cell? ⟨w.heap.size, 1, none⟩ = some (.slice ba bn bc) ∧ w'.cell? ⟨w.heap.size, 2, none⟩ = some (.slice ta tn tc)) ∧ Below w.heap.size w w')
    (first | exact HS0.out _ hB1 | exact HS0.out _ (Below.refl _ _).drew | exact HS0.out _ hB2 | exact HS1.out _ _ _ _ hB2)
    (first
    | (go_at_call 32; refine (HU.out _ hbw.drew).mono ?_; rintro e w1 ⟨pa, pn, pc, rfl, hou, hw1⟩; have hB1 := (Below.refl W0.heap.size W0).drew.trans hw1)
    | (go_at_call 33; refine (HI.out _ (hbw.trans (hB1.mono hbw.size))).mono ?_; rintro e w2 ⟨qa, qn, qc, rfl, hoi, hw2⟩; have hB2 := hB1.trans (hw2.mono hB1.size); have hk2 := (HAB.out _ hB2).2.three; have gb0 := hk2.1.1; have gb1 := hk2.1.2.1; have gb2 := hk2.1.2.2; have gf0 := hk2.2.1; have gf1 := hk2.2.2.1; have gf2 := hk2.2.2.2; clear hk2))
  rename_i hH
  have hlt : w.heap.size + 1 < W0.heap.size := (HAB.out W0 (Below.refl _ _)).2.lt
  have hO : Own3 W0.heap.size w2 (r, (pa, pn, pc), (qa, qn, qc)) y := ⟨HR.out, ⟨ownsRow_below hou.1 hw2, hou.2⟩, hoi.mono hB1.size, HT.out⟩
  have hO3 : Hid (Own3 W0.heap.size (((w2.setCell ⟨w.heap.size + 1, 0, none⟩ (.int .i64 r)).setCell ⟨w.heap.size + 1, 1, none⟩ (.slice pa pn pc)).setCell ⟨w.heap.size + 1, 2, none⟩ (.slice qa qn qc)) (r, (pa, pn, pc), (qa, qn, qc)) y) := ((hO.beside hlt).beside hlt).beside hlt
  have hrow := set3 (HAB.out _ hB2).2 rfl (.int .i64 r) (.slice pa pn pc) (.slice qa qn qc)
  have hbz : Below w.heap.size w (((w2.setCell ⟨w.heap.size + 1, 0, none⟩ (.int .i64 r)).setCell ⟨w.heap.size + 1, 1, none⟩ (.slice pa pn pc)).setCell ⟨w.heap.size + 1, 2, none⟩ (.slice qa qn qc)) := hH.2
  clear hH hO gb0 gb1 gb2 gf0 gf1 gf2
  generalize (((w2.setCell ⟨w.heap.size + 1, 0, none⟩ (.int .i64 r)).setCell ⟨w.heap.size + 1, 1, none⟩ (.slice pa pn pc)).setCell ⟨w.heap.size + 1, 2, none⟩ (.slice qa qn qc)) = w3 at hO3 hrow hbz ⊢
  obtain ⟨⟨gb0, gb1, gb2⟩, -, -, -⟩ := hrow.three
  go_wp2
  refine bodyPost_ret (v := .agg #[.int .i64 r, .slice pa pn pc, .slice qa qn qc]) (by simp [results, Try.results30, go_sem, gb0, gb1, gb2]) rfl ⟨_, _, _, _, _, _, rfl, hO3.out.mono hbw.size, hbz⟩

end Go.Proofs.Ytnmcbpanmjnegag
