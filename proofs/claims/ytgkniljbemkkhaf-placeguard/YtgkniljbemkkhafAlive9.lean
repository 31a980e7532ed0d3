/- The contract of framewardenkeep.alive9: it returns true, and nothing that was there is written. -/
import Derived.Test.YtgkniljbemkkhafPlace2
import Derived.Test.YtgkniljbemkkhafReg6
namespace Go.Proofs.Ytgkniljbemkkhaf
open Go.RowKit
set_option linter.unusedSimpArgs false
set_option linter.unusedVariables false

theorem alive_place : choE [(3, 62, 0, 0, false, false)] 1 = 0 ∧ choV [(3, 62, 0, 0, false, false)] 1 4 = 1 ∧ choE [(3, 62, 0, 0, false, false)] 3 = 4 ∧ allP [(3, 62, 0, 0, false, false)] 1 = [0, 1, 63] := by decide +kernel

/-- A slice of three ints that was just laid. -/
theorem lit_i3 (W : World) (x y z : Int) (ty : TypeId) : IsRecs encI 1000 (W.alloc (.cells #[.int .i64 x, .int .i64 y, .int .i64 z] ty)) (.slice (some ⟨W.heap.size, 0, none⟩) 3 3) [x, y, z] := by
  refine ⟨_, _, rfl, Nat.le_refl _, by simp, fun _ => ⟨W.heap.size, 0, rfl, fun j u hj => ?_⟩⟩
  have h : OwnRow (W.alloc (.cells #[.int .i64 x, .int .i64 y, .int .i64 z] ty)) W.heap.size ty (flatL encI [x, y, z]) := heap_alloc_new W _
  rw [Nat.zero_add, h.cell, hj]

set_option maxHeartbeats 800000 in
theorem alive9_any (w : World) :
    Calls Try.prog 11 #[] w fun e w' => e = .returned (.bool true) ∧ Below w.heap.size w w' := by
  obtain ⟨L, hL⟩ : ∃ L, Hid (L = ([(3, 62, 0, 0, false, false)] : List R6)) := ⟨_, rfl⟩
  have H0 : Hid (∀ (W : World) (ty : TypeId), IsRecs encR 1000 (W.alloc (.cells #[.int .i64 3, .int .i64 62, .int .i64 0, .int .i64 0, .bool false, .bool false] ty)) (.slice (some ⟨W.heap.size, 0, none⟩) 1 1) L) := fun W ty => by rw [hL.out]; exact lit_one W 3 62 0 0 false false ty
  have HC : Hid (∀ w1 v c d V E, IsRecs encR 1000 w1 v L → (c = 1 ∧ d = 4 ∧ V = 1 ∧ E = 0) ∨ (c = 3 ∧ d = 0 ∧ V = 0 ∧ E = 4) → Calls Try.prog 6 #[v, .int .i64 c, .int .i64 d] w1 fun e w' => e = .returned (numV V E) ∧ Below w1.heap.size w1 w') := by
    rintro w1 v c d V E h (⟨rfl, rfl, rfl, rfl⟩ | ⟨rfl, rfl, rfl, rfl⟩)
    · have := choose_any v L 1 4 1000 w1 h (by decide) ⟨by decide, by decide⟩
      rw [hL.out, alive_place.1, alive_place.2.1] at this
      exact this
    · have := choose_any v L 3 0 1000 w1 h (by decide) ⟨by decide, by decide⟩
      rw [hL.out, choV_no (by rw [alive_place.2.2.1]; decide), alive_place.2.2.1] at this
      exact this
  have HA : Hid (∀ w1 v, IsRecs encR 1000 w1 v L → Calls Try.prog 9 #[v, .int .i64 1] w1 fun e w' => ∃ va vc, e = .returned (.slice va 3 vc) ∧ OwnR 3 1 encI w1.heap.size w' (.slice va 3 vc) [0, 1, 63] ∧ Below w1.heap.size w1 w') := by
    intro w1 v h
    have := all_any v L 1 1000 w1 h (by decide) ⟨by decide, by decide⟩
    rw [hL.out, alive_place.2.2.2] at this
    refine this.mono fun e w' ⟨v', he, ho, hb⟩ => ?_
    obtain ⟨va, vc, rfl⟩ := ho.form
    exact ⟨va, vc, he, ho, hb⟩
  have HE : Hid (∀ w1 v u base, OwnR 3 1 encI base w1 v [0, 1, 63] → IsRecs encI 1000 w1 u [0, 1, 63] → Calls Try.prog 8 #[v, u] w1 fun e w' => e = .returned (.bool true) ∧ Below w1.heap.size w1 w') :=
    fun w1 v u base h hu => iequal_is v u _ _ 1000 w1 (h.recs (by decide)) hu (by decide) (by decide)
  have HI : Hid (∀ w1 w2 v, IsRecs encR 1000 w1 v L → Below w1.heap.size w1 w2 → IsRecs encR 1000 w2 v L) := fun w1 w2 v h hb => h.below hb
  have hbx : Hid (∀ o, Below w.heap.size w (w.alloc o)) := fun o => (Below.refl _ _).alloc (Nat.le_refl _) _
  clear hL
  go_enter Try.func11, Try.ntmps11
  go_wp2_with fail
  have h0 := H0.out w 36
  refine (HC.out _ _ _ _ 1 0 h0 (Or.inl ⟨rfl, rfl, rfl, rfl⟩)).mono ?_
  rintro e w1 ⟨rfl, hw1⟩
  have h1 := HI.out _ _ _ h0 hw1
  have hx1 := below_one hw1
  clear h0 hw1
  go_wp2_with fail
  refine (HC.out _ _ _ _ 0 4 h1 (Or.inr ⟨rfl, rfl, rfl, rfl⟩)).mono ?_
  rintro e w2 ⟨rfl, hw2⟩
  have h2 := HI.out _ _ _ h1 hw2
  have hx2 := hx1.trans (hw2.mono hx1.size)
  clear h1 hw2
  go_wp2_with fail
  refine (HA.out _ _ h2).mono ?_
  rintro e w3 ⟨va, vc, rfl, ho3, hw3⟩
  have hx3 := hx2.trans (hw3.mono hx2.size)
  have hal : Hid (∀ o, Below w3.heap.size w3 (w3.alloc o)) := fun o => (Below.refl _ _).alloc (Nat.le_refl _) _
  go_wp2_with fail
  refine (HE.out _ _ _ _ (ho3.below (hal.out _)) (lit_i3 w3 0 1 63 _)).mono ?_
  rintro e w4 ⟨rfl, hw4⟩
  have hx34 := below_one hw4
  go_wp2
  go_ret
  exact ⟨rfl, hx3.trans (hx34.mono hx3.size)⟩

end Go.Proofs.Ytgkniljbemkkhaf
