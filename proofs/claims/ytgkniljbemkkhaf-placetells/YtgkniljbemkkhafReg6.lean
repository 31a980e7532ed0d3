/- The contracts of region.wrong, region.replace, region.Add and region.Cut. -/
import Derived.Test.YtgkniljbemkkhafReg5
namespace Go.Proofs.Ytgkniljbemkkhaf
open Go.RowKit
set_option linter.unusedSimpArgs false
set_option linter.unusedVariables false

set_option maxHeartbeats 400000 in
theorem wrong_any (v : Value) (l : List R6) (f t : Int) (B : Nat) (w : World) (h : IsRecs encR B w v l) (hB : B ≤ 4398046511104) :
    Calls Try.prog 21 #[v, .int .i64 f, .int .i64 t] w fun e w' => e = .returned (.int .i64 (wrE l f t)) ∧ Below w.heap.size w w' := by
  have HR : Hid (Calls Try.prog 16 #[v] w fun e w' => e = .returned (.bool (rightR l)) ∧ Below w.heap.size w w') := right_any v l B w h hB
  obtain ⟨a, cap, rfl⟩ := h.form
  unfold wrE
  cases hr : rightR l with
  | true =>
    rw [hr] at HR
    cases hs : isSp f t with
    | true =>
      go_enter Try.func21, Try.ntmps21
      go_wp2_with (first
        | (go_at_call 16; refine HR.out.mono ?_; rintro e w1 ⟨rfl, hw1⟩)
        | (go_at_call 25; refine (isSpan_is _ _ _ hs).mono ?_; rintro e w2 ⟨rfl, hw2⟩))
      go_ret
      exact ⟨rfl, hw1.trans (hw2.mono hw1.size)⟩
    | false =>
      go_enter Try.func21, Try.ntmps21
      go_wp2_with (first
        | (go_at_call 16; refine HR.out.mono ?_; rintro e w1 ⟨rfl, hw1⟩)
        | (go_at_call 25; refine (isSpan_is _ _ _ hs).mono ?_; rintro e w2 ⟨rfl, hw2⟩))
      go_ret
      exact ⟨rfl, hw1.trans (hw2.mono hw1.size)⟩
  | false =>
    rw [hr] at HR
    go_enter Try.func21, Try.ntmps21
    go_wp2_with (first
      | (go_at_call 16; refine HR.out.mono ?_; rintro e w1 ⟨rfl, hw1⟩))
    go_ret
    exact ⟨rfl, hw1⟩

theorem IsRecs.up {α : Type} {enc : α → List Value} {B B' : Nat} {w : World} {v : Value} {l : List α} (h : IsRecs enc B w v l) (hB : l.length ≤ B') : IsRecs enc B' w v l := by
  obtain ⟨a, cap, rfl, h1, h2, h3⟩ := h
  exact ⟨a, cap, rfl, h1, hB, h3⟩

set_option maxHeartbeats 400000 in
theorem replace_any (v u : Value) (l m : List R6) (f t : Int) (B : Nat) (w : World) (h : IsRecs encR B w v l) (hm : IsRecs encR B w u m) (hl : l.length ≤ 64) (hml : m.length ≤ 64) :
    Calls Try.prog 23 #[v, .int .i64 f, .int .i64 t, u] w fun e w' => ∃ v', e = .returned v' ∧ OwnR 36 6 encR w.heap.size w' v' (replL l f t m) ∧ Below w.heap.size w w' := by
  have h' : IsRecs encR 1000000 w v l := h.up (by omega)
  have hm' : IsRecs encR 1000000 w u m := hm.up (by omega)
  have HP : Hid (∀ w1 x y, Below w.heap.size w w1 → Calls Try.prog 34 #[v, .int .i64 x, .int .i64 y] w1 fun e w' => ∃ v', e = .returned v' ∧ OwnR 36 6 encR w1.heap.size w' v' (partL l x y) ∧ Below w1.heap.size w1 w') := fun w1 x y hb => part_any v l x y _ w1 (h'.below hb) (by decide)
  have HJ : Hid (∀ w1 v1 l1 base, OwnR 36 6 encR base w1 v1 l1 → Calls Try.prog 32 #[v1] w1 fun e w' => ∃ v', e = .returned v' ∧ OwnR 36 6 encR base w' v' (joinL l1) ∧ Below base w1 w') := fun w1 v1 l1 base ho => join_any base v1 l1 w1 ho
  have hp1 := partL_len l 0 f
  have hp2 := partL_len l t 64
  have HR : Hid (replL l f t m = joinL (partL l 0 f ++ m ++ partL l t 64)) := rfl
  have HM : Hid (∀ w1, Below w.heap.size w w1 → IsRecs encR 1000000 w1 u m) := fun w1 hb => hm'.below hb
  obtain ⟨va, vc, rfl⟩ := h.form
  obtain ⟨ua, uc, rfl⟩ := hm.form
  rw [HR.out]
  clear h h' hm hm' HR
  obtain ⟨L3, hL3⟩ : ∃ L, Hid (L = partL l 0 f ++ m ++ partL l t 64) := ⟨_, rfl⟩
  rw [← hL3.out]
  have HC : Hid (∀ g w1 s0 s1 s2, w1.cell? ⟨g, 0, none⟩ = some s0 → w1.cell? ⟨g, 1, none⟩ = some s1 → w1.cell? ⟨g, 2, none⟩ = some s2 → IsRecs encR 1000000 w1 s0 (partL l 0 f) → IsRecs encR 1000000 w1 s1 m → IsRecs encR 1000000 w1 s2 (partL l t 64) → Calls Try.prog 33 #[.slice (some ⟨g, 0, none⟩) 3 3] w1 fun e w' => ∃ v', e = .returned v' ∧ OwnR 36 6 encR w1.heap.size w' v' L3 ∧ Below w1.heap.size w1 w') :=
    fun g w1 s0 s1 s2 c0 c1 c2 i0 i1 i2 => hL3.out ▸ concat3 g 3 s0 s1 s2 (partL l 0 f) m (partL l t 64) w1 c0 c1 c2 i0 i1 i2 (by omega)
  have hP1 : (partL l 0 f).length ≤ 64 := by omega
  have hP2 : (partL l t 64).length ≤ 64 := by omega
  obtain ⟨n, hn⟩ : ∃ n, Hid (n = l.length) := ⟨_, rfl⟩
  obtain ⟨m', hm'⟩ : ∃ n, Hid (n = m.length) := ⟨_, rfl⟩
  rw [← hn.out] at HP ⊢
  rw [← hm'.out] at HM ⊢
  clear hp1 hp2 hl hml
  go_enter Try.func23, Try.ntmps23
  go_wp2_with fail
  refine (HP.out w 0 f (Below.refl _ _)).mono ?_
  rintro e w1 ⟨v1, rfl, ho1, hb1⟩
  obtain ⟨a1, c1, rfl⟩ := ho1.form
  go_wp2_with fail
  refine (HP.out w1 t 64 hb1).mono ?_
  rintro e w2 ⟨v2, rfl, ho2, hb2⟩
  obtain ⟨a2, c2, rfl⟩ := ho2.form
  go_wp2_with fail
  refine (HC.out w2.heap.size _ _ _ _ (by simp) (by simp) (by simp) (((ho1.recs (by omega)).below hb2).below ((Below.refl _ _).alloc (Nat.le_refl _) _)) (HM.out _ ((hb1.trans (hb2.mono hb1.size)).alloc (Nat.le_trans hb1.size hb2.size) _)) ((ho2.recs (by omega)).below ((Below.refl _ _).alloc (Nat.le_refl _) _))).mono ?_
  rintro e w3 ⟨v3, rfl, ho3, hb3⟩
  obtain ⟨a3, c3, rfl⟩ := ho3.form
  go_wp2_with fail
  refine (HJ.out _ _ _ _ ho3).mono ?_
  rintro e w4 ⟨v4, rfl, ho4, hb4⟩
  go_wp2
  go_ret
  have hs := Nat.le_trans hb1.size hb2.size
  refine ⟨_, rfl, ho4.mono (by simp; omega), ?_⟩
  exact ((hb1.trans (hb2.mono hb1.size)).alloc hs _).trans ((hb3.mono (by simp; omega)).trans (hb4.mono (by simp; omega)))

/-- A slice of one that was just laid. -/
theorem lit_one (W : World) (f t r k : Int) (g s : Bool) (ty : TypeId) : IsRecs encR 1000 (W.alloc (.cells #[.int .i64 f, .int .i64 t, .int .i64 r, .int .i64 k, .bool g, .bool s] ty)) (.slice (some ⟨W.heap.size, 0, none⟩) 1 1) [(f, t, r, k, g, s)] := by
  refine ⟨_, _, rfl, Nat.le_refl _, by simp, fun _ => ⟨W.heap.size, 0, rfl, fun j u hj => ?_⟩⟩
  have h : OwnRow (W.alloc (.cells #[.int .i64 f, .int .i64 t, .int .i64 r, .int .i64 k, .bool g, .bool s] ty)) W.heap.size ty (flatL encR [(f, t, r, k, g, s)]) := heap_alloc_new W _
  rw [Nat.zero_add, h.cell, hj]

/-- A list and an error, as they are returned. -/
abbrev lstV (v : Value) (e : Int) : Value := .tuple #[v, .int .i64 e]

set_option maxHeartbeats 800000 in
theorem cut_any (v : Value) (l : List R6) (f t : Int) (B : Nat) (w : World) (h : IsRecs encR B w v l) (hB : B ≤ 3518437208883) :
    Calls Try.prog 15 #[v, .int .i64 f, .int .i64 t] w fun e w' => ∃ v', e = .returned (lstV v' (wrE l f t)) ∧ OwnR 36 6 encR w.heap.size w' v' (cutL l f t) ∧ Below w.heap.size w w' := by
  have HW : Hid (Calls Try.prog 21 #[v, .int .i64 f, .int .i64 t] w fun e w' => e = .returned (.int .i64 (wrE l f t)) ∧ Below w.heap.size w w') := wrong_any v l f t B w h (by omega)
  obtain ⟨a, cap, rfl⟩ := h.form
  by_cases h0 : wrE l f t = 0
  · have hg := good_len (good_of_right (wrE_iff.1 h0).1)
    have HR : Hid (∀ w1, Below w.heap.size w w1 → Calls Try.prog 23 #[.slice a l.length cap, .int .i64 f, .int .i64 t, .slice none 0 0] w1 fun e w' => ∃ v', e = .returned v' ∧ OwnR 36 6 encR w1.heap.size w' v' (cutL l f t) ∧ Below w1.heap.size w1 w') := by
      intro w1 hb
      have := replace_any _ _ l [] f t B w1 (h.below hb) (isRecs_nil _ _ 0 none) hg (by decide)
      unfold cutL
      rw [if_pos h0]
      exact this
    rw [h0] at HW ⊢
    go_enter Try.func15, Try.ntmps15
    go_wp2_with (first
      | (go_at_call 21; refine HW.out.mono ?_; rintro e w1 ⟨rfl, hw1⟩)
      | (go_at_call 23; refine (HR.out _ hw1).mono ?_; rintro e w2 ⟨v2, rfl, ho2, hb2⟩))
    go_ret2
    exact ⟨_, rfl, ho2.mono hw1.size, hw1.trans (hb2.mono hw1.size)⟩
  · have HL : Hid (cutL l f t = []) := by unfold cutL; rw [if_neg h0]; rfl
    have hne : (wrE l f t != 0) = true := by rw [bne_iff_ne]; exact h0
    generalize wrE l f t = E at *
    go_enter Try.func15, Try.ntmps15
    go_wp2_with (go_at_call 21; refine HW.out.mono ?_; rintro e w1 ⟨rfl, hw1⟩)
    go_ret2
    exact ⟨_, rfl, by rw [HL.out]; exact ownR_nil _ _ _, hw1⟩

set_option maxHeartbeats 800000 in
theorem add_any (v : Value) (l : List R6) (f t r k : Int) (g s : Bool) (B : Nat) (w : World) (h : IsRecs encR B w v l) (hB : B ≤ 3518437208883) :
    Calls Try.prog 12 #[v, .agg #[.int .i64 f, .int .i64 t, .int .i64 r, .int .i64 k, .bool g, .bool s]] w fun e w' => ∃ v', e = .returned (lstV v' (addE l (f, t, r, k, g, s))) ∧ OwnR 36 6 encR w.heap.size w' v' (addL l (f, t, r, k, g, s)) ∧ Below w.heap.size w w' := by
  have HW : Hid (∀ w1, Below w.heap.size w w1 → Calls Try.prog 21 #[v, .int .i64 f, .int .i64 t] w1 fun e w' => e = .returned (.int .i64 (wrE l f t)) ∧ Below w1.heap.size w1 w') := fun w1 hb => wrong_any v l f t B w1 (h.below hb) (by omega)
  have hbx : Hid (∀ o, Below w.heap.size w (w.alloc o)) := fun o => (Below.refl _ _).alloc (Nat.le_refl _) _
  by_cases h0 : wrE l f t = 0
  · have hg := good_len (good_of_right (wrE_iff.1 h0).1)
    have hsp := isSp_iff.1 (wrE_iff.1 h0).2
    have HC : Hid (∀ w1, Below w.heap.size w w1 → Calls Try.prog 22 #[v, .int .i64 f, .int .i64 t] w1 fun e w' => e = .returned (.int .i64 (cnt l f t)) ∧ Below w1.heap.size w1 w') := fun w1 hb => count_any v l f t B w1 (h.below hb) (by omega) hsp.1 (by omega) hsp.2.2
    by_cases hc : 0 < cnt l f t
    · have hE : addE l (f, t, r, k, g, s) = 7 := by unfold addE; rw [if_pos h0, if_pos hc]
      have HL : Hid (addL l (f, t, r, k, g, s) = []) := by unfold addL; rw [hE]; rfl
      obtain ⟨a, cap, rfl⟩ := h.form
      rw [hE]
      rw [h0] at HW
      generalize cnt l f t = N at *
      clear h hE hsp
      go_enter Try.func12, Try.ntmps12
      go_wp2_with (first
        | (go_at_call 21; refine (HW.out _ (hbx.out _)).mono ?_; rintro e w1 ⟨rfl, hw1⟩; obtain ⟨q0, q1, q2, q3, q4, q5⟩ := (own_one (xs := encR (f, t, r, k, g, s)) hw1).six)
        | (go_at_call 22; refine (HC.out _ (below_one hw1)).mono ?_; rintro e w2 ⟨rfl, hw2⟩))
      go_ret2
      have hx := below_one hw1
      exact ⟨_, rfl, by rw [HL.out]; exact ownR_nil _ _ _, hx.trans (hw2.mono hx.size)⟩
    · have hE : addE l (f, t, r, k, g, s) = 0 := by unfold addE; rw [if_pos h0, if_neg hc]
      have HR : Hid (∀ w1 u, Below w.heap.size w w1 → IsRecs encR 1000 w1 u [(f, t, r, k, g, s)] → Calls Try.prog 23 #[v, .int .i64 f, .int .i64 t, u] w1 fun e w' => ∃ v', e = .returned v' ∧ OwnR 36 6 encR w1.heap.size w' v' (addL l (f, t, r, k, g, s)) ∧ Below w1.heap.size w1 w') := by
        intro w1 u hb hu
        have := replace_any _ _ l [(f, t, r, k, g, s)] f t 1000 w1 ((h.below hb).up (by omega)) hu hg (by simp)
        unfold addL
        rw [if_pos hE]
        exact this
      obtain ⟨a, cap, rfl⟩ := h.form
      rw [hE]
      rw [h0] at HW
      have hc' : cnt l f t ≤ 0 := by omega
      generalize cnt l f t = N at *
      clear h hE hsp hc
      go_enter Try.func12, Try.ntmps12
      go_wp2_with (first
        | (go_at_call 21; refine (HW.out _ (hbx.out _)).mono ?_; rintro e w1 ⟨rfl, hw1⟩; obtain ⟨q0, q1, q2, q3, q4, q5⟩ := (own_one (xs := encR (f, t, r, k, g, s)) hw1).six)
        | (go_at_call 22; refine (HC.out _ (below_one hw1)).mono ?_; rintro e w2 ⟨rfl, hw2⟩; obtain ⟨z0, z1, z2, z3, z4, z5⟩ := ((own_one (xs := encR (f, t, r, k, g, s)) hw1).below hw2 (own_one (xs := encR (f, t, r, k, g, s)) hw1).lt).six)
        | (go_at_call 23; refine (HR.out _ _ (((below_one hw1).trans (hw2.mono (below_one hw1).size)).alloc (Nat.le_trans (below_one hw1).size hw2.size) _) (lit_one w2 f t r k g s _)).mono ?_; rintro e w3 ⟨v3, rfl, ho3, hb3⟩))
      have hx := below_one hw1
      have hy := hx.trans (hw2.mono hx.size)
      go_ret2
      exact ⟨_, rfl, ho3.mono (by have := hy.size; simp; omega), (hy.alloc hy.size _).trans (hb3.mono (by have := hy.size; simp; omega))⟩
  · have hE : addE l (f, t, r, k, g, s) = wrE l f t := by unfold addE; rw [if_neg h0]
    have HL : Hid (addL l (f, t, r, k, g, s) = []) := by unfold addL; rw [hE, if_neg h0]; rfl
    have hne : (wrE l f t != 0) = true := by rw [bne_iff_ne]; exact h0
    rw [hE]
    obtain ⟨a, cap, rfl⟩ := h.form
    clear h hE
    generalize wrE l f t = E at *
    go_enter Try.func12, Try.ntmps12
    go_wp2_with (go_at_call 21; refine (HW.out _ (hbx.out _)).mono ?_; rintro e w1 ⟨rfl, hw1⟩)
    go_ret2
    exact ⟨_, rfl, by rw [HL.out]; exact ownR_nil _ _ _, below_one hw1⟩

end Go.Proofs.Ytgkniljbemkkhaf
