/- The contract of framewardenkeep.alive11: it returns true, and nothing that was there is written. -/
import Derived.Test.YtidaoomhnfgckagClock1
namespace Go.Proofs.Ytidaoomhnfgckag
open Go.RowKit
set_option linter.unusedSimpArgs false
set_option linter.unusedVariables false

theorem alive_says : Says 2 [true, false, true] [false, false, true] 0 1 [false, false, false] 0 :=
  Or.inr (Or.inr (Or.inr ⟨rfl, by decide, by decide, rfl, 1, ⟨by decide, fun j hj => by
    have e : j = 0 := by omega
    rw [e]
    decide⟩, by decide, by decide, by decide⟩))

theorem says_len {hand : Int} {m u : List Bool} {a b : Int} {L : List Bool} {e : Int} (h : Says hand m u a b L e) : L.length ≤ u.length := by
  rcases h with ⟨-, -, -, rfl, -⟩ | ⟨-, -, -, -, rfl, -⟩ | ⟨-, -, -, -, -, rfl, -⟩ | ⟨-, -, -, -, K, -, -, -, rfl⟩
  · exact Nat.zero_le _
  · exact Nat.zero_le _
  · exact Nat.zero_le _
  · rw [passL_len]; exact Nat.le_refl _

/-- A slice of three bools that was just laid. -/
theorem lit_b3 (W : World) (x y z : Bool) (ty : TypeId) : IsRecs encB 1000 (W.alloc (.cells #[.bool x, .bool y, .bool z] ty)) (.slice (some ⟨W.heap.size, 0, none⟩) 3 3) [x, y, z] := by
  refine ⟨_, _, rfl, Nat.le_refl _, by simp, fun _ => ⟨W.heap.size, 0, rfl, fun j u hj => ?_⟩⟩
  have h : OwnRow (W.alloc (.cells #[.bool x, .bool y, .bool z] ty)) W.heap.size ty (flatL encB [x, y, z]) := heap_alloc_new W _
  rw [Nat.zero_add, h.cell, hj]

set_option maxHeartbeats 800000 in
theorem alive11_any (w : World) :
    Calls Try.prog 9 #[] w fun e w' => e = .returned (.bool true) ∧ Below w.heap.size w w' := by
  have HN : Hid (∀ w1 v u, IsRecs encB 1000 w1 v [true, false, true] → IsRecs encB 1000 w1 u [false, false, true] → Calls Try.prog 6 #[.int .i64 2, v, u] w1 fun e w' => ∃ va vc, e = .returned (.tuple #[.int .i64 0, .int .i64 1, .slice va 3 vc, .int .i64 0]) ∧ OwnR 4 1 encB w1.heap.size w' (.slice va 3 vc) [false, false, false] ∧ Below w1.heap.size w1 w') := by
    intro w1 v u h hu
    refine (next_any 2 v u _ _ 1000 w1 h hu (by decide)).mono ?_
    rintro e w' ⟨a, b, v', L, err, rfl, ho, hs, hb⟩
    obtain ⟨rfl, rfl, rfl, rfl⟩ := hs.unique alive_says
    obtain ⟨va, vc, rfl⟩ := ho.form
    exact ⟨va, vc, rfl, ho, hb⟩
  have HE : Hid (∀ w1 v u base, OwnR 4 1 encB base w1 v [false, false, false] → IsRecs encB 1000 w1 u [false, false, false] → Calls Try.prog 8 #[v, u] w1 fun e w' => e = .returned (.bool true) ∧ Below w1.heap.size w1 w') :=
    fun w1 v u base h hu => bequal_is v u _ _ 1000 w1 (h.recs (by decide)) hu (by decide) (by decide)
  have H1 : Hid (IsRecs encB 1000 ((w.alloc (.cells #[.bool true, .bool false, .bool true] 4)).alloc (.cells #[.bool false, .bool false, .bool true] 4)) (.slice (some ⟨w.heap.size, 0, none⟩) 3 3) [true, false, true]) := (lit_b3 w true false true _).below ((Below.refl _ _).alloc (Nat.le_refl _) _)
  have H2 : Hid (IsRecs encB 1000 ((w.alloc (.cells #[.bool true, .bool false, .bool true] 4)).alloc (.cells #[.bool false, .bool false, .bool true] 4)) (.slice (some ⟨w.heap.size + 1, 0, none⟩) 3 3) [false, false, true]) := by
    have := lit_b3 (w.alloc (.cells #[.bool true, .bool false, .bool true] 4)) false false true 4
    show IsRecs _ _ _ _ _
    simpa using this
  have HB : Hid (Below w.heap.size w ((w.alloc (.cells #[.bool true, .bool false, .bool true] 4)).alloc (.cells #[.bool false, .bool false, .bool true] 4))) := ((Below.refl _ _).alloc (Nat.le_refl _) _).alloc (by simp) _
  go_enter Try.func9, Try.ntmps9
  go_wp2_with fail
  refine (HN.out _ _ _ H1.out H2.out).mono ?_
  rintro e w1 ⟨va, vc, rfl, ho1, hw1⟩
  have hx1 : Below w.heap.size w w1 := HB.out.trans (hw1.mono (by simp; omega))
  have hal : Hid (∀ o, Below w1.heap.size w1 (w1.alloc o)) := fun o => (Below.refl _ _).alloc (Nat.le_refl _) _
  go_wp2_with fail
  refine (HE.out _ _ _ _ (ho1.below (hal.out _)) (lit_b3 w1 false false false _)).mono ?_
  rintro e w2 ⟨rfl, hw2⟩
  have hx2 := below_one hw2
  go_wp2
  go_ret
  exact ⟨rfl, hx1.trans (hx2.mono hx1.size)⟩

end Go.Proofs.Ytidaoomhnfgckag
