/- The contract of framewardenkeep.alive12: it returns true, and nothing that was there is written. -/
import Derived.Test.YtnmcbpanmjnegagSwap4
import Derived.Test.YtnmcbpanmjnegagSwapRef1
import Derived.Deep.RegionHeld3
namespace Go.Proofs.Ytnmcbpanmjnegag
open Go.RowKit
set_option linter.unusedSimpArgs false
set_option linter.unusedVariables false

/-- Sixty-four bytes, all 0. -/
def zb64 : Array Value := madeCells #[.int .u8 0] 64

theorem run_make_b64 (w : World) : (Instr.makeSlice 31 (.int .i64 64) (.int .i64 64)).run Try.prog w = .ok (.slice (some ⟨w.heap.size, 0, none⟩) 64 64) (w.alloc (.cells zb64 5)) := by
  obtain ⟨i0, hi, hz0, hz1, hz2⟩ := info_parts Try.infoU8
  have h := run_make (P := Try.prog) w 31 5 i0 (.int .u8 0) Try.underlying31 hi hz0 .i64 .i64 64 64 (by decide) (by decide) (by rw [hz2]; decide) (by decide)
  rw [hz1] at h
  exact h

/-- What alive12 puts. -/
def aliveM (r : Int) : List Sl := noSlots.set 0 (r, List.replicate 64 0, [1, 2, 3, 4])

theorem alive_put : PutSays noSlots (List.replicate 64 0) [1, 2, 3, 4] 2 (aliveM 2) 0 0 :=
  Or.inr (Or.inr ⟨rfl, 0, ⟨by decide, by decide, fun j hj => by omega⟩, rfl, rfl, rfl⟩)

theorem alive_drop : drE (aliveM 2) 0 = 0 ∧ drL (aliveM 2) 0 = aliveM 1 := by
  have := drop_more' (l := noSlots) (k := 0) (by decide) (s := (2, List.replicate 64 0, [1, 2, 3, 4])) (by decide)
  exact this

theorem alive_get : gtB (aliveM 1) 0 = List.replicate 64 0 ∧ gtT (aliveM 1) 0 = [1, 2, 3, 4] ∧ gtE (aliveM 1) 0 = 0 :=
  put_gt (l := noSlots) (k := 0) (by decide) (s := (1, List.replicate 64 0, [1, 2, 3, 4])) (by decide)

/-- A row of four numbers that was just laid. -/
theorem lit_i4 (W W' : World) (s : Nat) (hs : s = W.heap.size) (ty : TypeId) (hb : Below (W.alloc (.cells #[.int .i64 1, .int .i64 2, .int .i64 3, .int .i64 4] ty)).heap.size (W.alloc (.cells #[.int .i64 1, .int .i64 2, .int .i64 3, .int .i64 4] ty)) W') : IsRecs encI 17592186043904 W' (.slice (some ⟨s, 0, none⟩) 4 4) [1, 2, 3, 4] := by
  subst hs
  refine IsRecs.below (w := W.alloc (.cells #[.int .i64 1, .int .i64 2, .int .i64 3, .int .i64 4] ty)) ⟨_, _, rfl, Nat.le_refl _, by simp, fun _ => ⟨W.heap.size, 0, rfl, fun j u hj => ?_⟩⟩ hb
  have h : OwnRow (W.alloc (.cells #[.int .i64 1, .int .i64 2, .int .i64 3, .int .i64 4] ty)) W.heap.size ty (flatL encI [1, 2, 3, 4]) := heap_alloc_new W _
  rw [Nat.zero_add, h.cell, hj]

theorem lit_b64 (W W' : World) (s : Nat) (hs : s = W.heap.size) (hb : Below (W.alloc (.cells zb64 5)).heap.size (W.alloc (.cells zb64 5)) W') : IsBytes W' (.slice (some ⟨s, 0, none⟩) 64 64) (List.replicate 64 0) := by
  subst hs
  exact (zero_gen 64 (heap_alloc_new W _) (by decide)).below hb

theorem bel_next {w w1 w2 : World} (hc : Below w1.heap.size w1 w2) (hS : Below w.heap.size w w1) : Below w.heap.size w w2 := hS.trans (hc.mono hS.size)

set_option maxHeartbeats 1600000 in
theorem alive12_any (w : World) :
    Calls Try.prog 22 #[] w fun e w' => e = .returned (.bool true) ∧ Below w.heap.size w w' := by
  have HN : Hid (∀ w1, Calls Try.prog 19 #[] w1 fun e w' => ∃ g, e = .returned (.slice (some ⟨g, 0, none⟩) 64 64) ∧ IsSlots w' (.slice (some ⟨g, 0, none⟩) 64 64) noSlots ∧ Below w1.heap.size w1 w') := new_any
  have HP : Hid (∀ v bv tv w1, IsSlots w1 v noSlots → IsBytes w1 bv (List.replicate 64 0) → IsRecs encI 17592186043904 w1 tv [1, 2, 3, 4] → Calls Try.prog 13 #[v, bv, tv, .int .i64 2] w1 fun e w' => ∃ a N c, e = .returned (.tuple #[.slice a N c, .int .i64 0, .int .i64 0]) ∧ IsSlots w' (.slice a N c) (aliveM 2) ∧ Below w1.heap.size w1 w') := by
    intro v bv tv w1 h1 h2 h3
    refine (put_any v bv tv _ _ _ 2 w1 h1 h2 h3).mono ?_
    rintro e w' ⟨a, N, c, m, n, err, rfl, hs, hp, hb⟩
    obtain ⟨rfl, rfl, rfl⟩ := alive_put.unique hp
    exact ⟨a, N, c, rfl, hs, hb⟩
  have HD : Hid (∀ v w1, IsSlots w1 v (aliveM 2) → Calls Try.prog 17 #[v, .int .i64 0] w1 fun e w' => ∃ a N c, e = .returned (.tuple #[.slice a N c, .int .i64 0]) ∧ IsSlots w' (.slice a N c) (aliveM 1) ∧ Below w1.heap.size w1 w') := by
    intro v w1 h1
    have := drop_any v _ 0 w1 h1 (by decide)
    rw [alive_drop.1, alive_drop.2] at this
    exact this
  have HG : Hid (∀ v w1, IsSlots w1 v (aliveM 1) → Calls Try.prog 20 #[v, .int .i64 0] w1 fun e w' => ∃ ba bn bc ta tn tc, e = .returned (.tuple #[.slice ba bn bc, .slice ta tn tc, .int .i64 0]) ∧ IsRecs encI 17592186043904 w' (.slice ta tn tc) [1, 2, 3, 4] ∧ Below w1.heap.size w1 w') := by
    intro v w1 h1
    have := get_any v _ 0 w1 h1
    rw [alive_get.1, alive_get.2.1, alive_get.2.2] at this
    exact this.mono fun e w' ⟨ba, bn, bc, ta, tn, tc, he, _, ht, hb⟩ => ⟨ba, bn, bc, ta, tn, tc, he, ht, hb⟩
  have HE : Hid (∀ v u w1, IsRecs encI 17592186043904 w1 v [1, 2, 3, 4] → IsRecs encI 17592186043904 w1 u [1, 2, 3, 4] → Calls Try.prog 21 #[v, u] w1 fun e w' => e = .returned (.bool true) ∧ Below w1.heap.size w1 w') := fun v u w1 h1 h2 => iequal_same v u _ w1 h1 h2
  have hmk := run_make_b64
  go_enter Try.func22, Try.ntmps22
  go_wp2_with fail
  go_region_held3 (fun w' => Below w.heap.size w w')
    (first | exact (Below.refl _ _).drew | exact ((Below.refl _ _).alloc (Nat.le_refl _) _).drew | exact (((Below.refl _ _).alloc (Nat.le_refl _) _).alloc (by simp) _).drew | (refine bel_next (by assumption) ?_; assumption) | (refine bel_next ((Below.refl _ _).alloc (Nat.le_refl _) _) ?_; assumption))
    (first
      | (go_at_call 19; refine (HN.out _).mono ?_; rintro e w1 ⟨g, rfl, hs1, hw1⟩)
      | (go_at_call 13; refine (HP.out _ _ _ _ (by first | exact hs1 | exact hs1.below ((Below.refl _ _).alloc (Nat.le_refl _) _) | exact hs1.below (((Below.refl _ _).alloc (Nat.le_refl _) _).alloc (by simp) _)) (by first | exact lit_b64 _ _ _ (by simp) (Below.refl _ _) | exact lit_b64 _ _ _ (by simp) ((Below.refl _ _).drew) | exact lit_b64 _ _ _ (by simp) ((Below.refl _ _).alloc (Nat.le_refl _) _) | exact lit_b64 _ _ _ (by simp) (((Below.refl _ _).alloc (Nat.le_refl _) _).drew) | exact lit_b64 _ _ _ (by simp) ((Below.refl _ _).drew.trans hw1) | exact lit_b64 _ _ _ (by simp) (hw1) | exact lit_b64 _ _ _ (by simp) (((Below.refl _ _).alloc (Nat.le_refl _) _).drew.trans (hw1.mono (by simp))) | exact lit_b64 _ _ _ (by simp) (((Below.refl _ _).drew.trans hw1).alloc (by first | exact hw1.size | (have := hw1.size; simp at this ⊢; omega)) _) | exact lit_b64 _ _ _ (by simp) (hw1.alloc hw1.size _)) (by first | exact lit_i4 _ _ _ (by simp) _ (Below.refl _ _) | exact lit_i4 _ _ _ (by simp) _ ((Below.refl _ _).drew) | exact lit_i4 _ _ _ (by simp) _ ((Below.refl _ _).alloc (Nat.le_refl _) _) | exact lit_i4 _ _ _ (by simp) _ (((Below.refl _ _).alloc (Nat.le_refl _) _).drew) | exact lit_i4 _ _ _ (by simp) _ ((Below.refl _ _).drew.trans hw1) | exact lit_i4 _ _ _ (by simp) _ (hw1) | exact lit_i4 _ _ _ (by simp) _ (((Below.refl _ _).alloc (Nat.le_refl _) _).drew.trans (hw1.mono (by simp))) | exact lit_i4 _ _ _ (by simp) _ (((Below.refl _ _).drew.trans hw1).alloc (by first | exact hw1.size | (have := hw1.size; simp at this ⊢; omega)) _) | exact lit_i4 _ _ _ (by simp) _ (hw1.alloc hw1.size _))).mono ?_; rintro e w2 ⟨pa, pN, pc, rfl, hs2, hw2⟩))
  all_goals
    rename_i hH
    have HS2 : Hid (IsSlots w2 (.slice pa pN pc) (aliveM 2)) := hs2
    clear hs1 hw1 hw2 hs2 hmk
    go_wp2_with fail
    refine (HD.out _ _ HS2.out).mono ?_
    rintro e w3 ⟨qa, qN, qc, rfl, hs3, hb3⟩
    have HS3 : Hid (IsSlots w3 (.slice qa qN qc) (aliveM 1)) := hs3
    clear hs3
    go_wp2_with fail
    refine (HG.out _ _ HS3.out).mono ?_
    rintro e w4 ⟨ba, bn, bc, ta, tn, tc, rfl, ht4, hb4⟩
    have HT4 : Hid (IsRecs encI 17592186043904 w4 (.slice ta tn tc) [1, 2, 3, 4]) := ht4
    clear ht4
    go_wp2_with fail
    refine (HE.out _ _ _ (HT4.out.below ((Below.refl _ _).alloc (Nat.le_refl _) _)) (lit_i4 _ _ _ rfl _ (Below.refl _ _))).mono ?_
    rintro e w5 ⟨rfl, hb5⟩
    go_wp2
    go_ret
    exact ⟨rfl, bel_next (below_one hb5) (bel_next hb4 (bel_next hb3 hH))⟩

end Go.Proofs.Ytnmcbpanmjnegag
