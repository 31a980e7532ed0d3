/- The contract of framewardenkeep.alive8: it returns true, and nothing that was there is written. -/
import Derived.Test.YtkiamhmjkpbaiaeReg8
namespace Go.Proofs.Ytkiamhmjkpbaiae
open Go.RowKit
set_option linter.unusedSimpArgs false
set_option linter.unusedVariables false

theorem alive_add : addE [(0, 2, 1, 0, false, false)] (2, 5, 1, 0, false, false) = 0 ∧ addL [(0, 2, 1, 0, false, false)] (2, 5, 1, 0, false, false) = [(0, 5, 1, 0, false, false)] := by decide +kernel
theorem alive_cut : wrE [(0, 5, 1, 0, false, false)] 1 3 = 0 ∧ cutL [(0, 5, 1, 0, false, false)] 1 3 = [(0, 1, 1, 0, false, false), (3, 5, 1, 0, false, false)] := by decide +kernel
theorem alive_seal : chE [(0, 1, 1, 0, false, false), (3, 5, 1, 0, false, false)] 0 4 = 3 ∧ cnt [(0, 1, 1, 0, false, false), (3, 5, 1, 0, false, false)] 0 64 = 3 ∧ rightR [(0, 1, 1, 0, false, false), (3, 5, 1, 0, false, false)] = true := by decide +kernel

theorem lit_at (W : World) (s : Nat) (hs : s = W.heap.size) (f t r k : Int) (g e : Bool) (ty : TypeId) : IsRecs encR 1000 (W.alloc (.cells #[.int .i64 f, .int .i64 t, .int .i64 r, .int .i64 k, .bool g, .bool e] ty)) (.slice (some ⟨s, 0, none⟩) 1 1) [(f, t, r, k, g, e)] := hs ▸ lit_one W f t r k g e ty

/-- A row of that many. -/
def OwnN (n : Nat) (base : Nat) (w : World) (v : Value) (l : List R6) : Prop := OwnR 31 6 encR base w v l ∧ l.length = n

theorem OwnN.form {n base : Nat} {w : World} {v : Value} {l : List R6} (h : OwnN n base w v l) : ∃ a c, v = .slice a n c := by
  obtain ⟨a, c, rfl⟩ := h.1.form
  exact ⟨a, c, by rw [h.2]⟩

set_option maxHeartbeats 800000 in
theorem alive8_any (w : World) :
    Calls Try.prog 29 #[] w fun e w' => e = .returned (.bool true) ∧ Below w.heap.size w w' := by
  obtain ⟨L1, hL1⟩ : ∃ L, Hid (L = ([(0, 5, 1, 0, false, false)] : List R6)) := ⟨_, rfl⟩
  obtain ⟨L2, hL2⟩ : ∃ L, Hid (L = ([(0, 1, 1, 0, false, false), (3, 5, 1, 0, false, false)] : List R6)) := ⟨_, rfl⟩
  have HA : Hid (∀ w1 v, IsRecs encR 1000 w1 v [(0, 2, 1, 0, false, false)] → Calls Try.prog 15 #[v, .agg #[.int .i64 2, .int .i64 5, .int .i64 1, .int .i64 0, .bool false, .bool false]] w1 fun e w' => ∃ v', e = .returned (lstV v' 0) ∧ OwnN 1 w1.heap.size w' v' L1 ∧ Below w1.heap.size w1 w') := by
    intro w1 v h
    have := add_any v _ 2 5 1 0 false false 1000 w1 h (by decide)
    rw [alive_add.1, alive_add.2, ← hL1.out] at this
    exact this.mono fun e w' ⟨v', he, ho, hb⟩ => ⟨v', he, ⟨ho, by rw [hL1.out]; rfl⟩, hb⟩
  have HC : Hid (∀ w1 v base, OwnN 1 base w1 v L1 → Calls Try.prog 18 #[v, .int .i64 1, .int .i64 3] w1 fun e w' => ∃ v', e = .returned (lstV v' 0) ∧ OwnN 2 w1.heap.size w' v' L2 ∧ Below w1.heap.size w1 w') := by
    intro w1 v base h
    have := cut_any v L1 1 3 1000 w1 (h.1.recs (by rw [h.2]; decide)) (by decide)
    rw [hL1.out, alive_cut.1, alive_cut.2, ← hL2.out] at this
    exact this.mono fun e w' ⟨v', he, ho, hb⟩ => ⟨v', he, ⟨ho, by rw [hL2.out]; rfl⟩, hb⟩
  have HS : Hid (∀ w1 v base, OwnN 2 base w1 v L2 → Calls Try.prog 25 #[v, .int .i64 0, .int .i64 4] w1 fun e w' => ∃ v', e = .returned (lstV v' 3) ∧ Below w1.heap.size w1 w') := by
    intro w1 v base h
    have := seal_any v L2 0 4 1000 w1 (h.1.recs (by rw [h.2]; decide)) (by decide)
    rw [hL2.out, alive_seal.1] at this
    exact this.mono fun e w' ⟨v', he, ho, hb⟩ => ⟨v', he, hb⟩
  have HE : Hid (∀ w1 v u base, OwnN 1 base w1 v L1 → IsRecs encR 1000 w1 u [(0, 5, 1, 0, false, false)] → Calls Try.prog 20 #[v, u] w1 fun e w' => e = .returned (.bool true) ∧ Below w1.heap.size w1 w') :=
    fun w1 v u base h hu => requal_is v u _ _ 1000 w1 (h.1.recs (by rw [h.2]; decide)) hu (by decide) (by rw [hL1.out]; decide)
  have HN : Hid (∀ w1 v base, OwnN 2 base w1 v L2 → Calls Try.prog 13 #[v] w1 fun e w' => e = .returned (.int .i64 3) ∧ Below w1.heap.size w1 w') := by
    intro w1 v base h
    have := countAll_any v L2 1000 w1 (h.1.recs (by rw [h.2]; decide)) (by decide)
    rw [hL2.out, alive_seal.2.1] at this
    exact this
  have HR : Hid (∀ w1 v base, OwnN 2 base w1 v L2 → Calls Try.prog 11 #[v] w1 fun e w' => e = .returned (.bool true) ∧ Below w1.heap.size w1 w') :=
    fun w1 v base h => right_is v L2 1000 w1 (h.1.recs (by rw [h.2]; decide)) (by decide) (by rw [hL2.out]; exact alive_seal.2.2)
  have HB : Hid (∀ n base w1 w2 v l, OwnN n base w1 v l → Below w1.heap.size w1 w2 → OwnN n base w2 v l) := fun n base w1 w2 v l h hb => ⟨h.1.below hb, h.2⟩
  have hbx : Hid (∀ o o', Below w.heap.size w ((w.alloc o).alloc o')) := fun o o' => ((Below.refl _ _).alloc (Nat.le_refl _) _).alloc (by simp) _
  clear hL1 hL2
  go_enter Try.func29, Try.ntmps29
  go_wp2_with fail
  refine (HA.out _ _ (lit_at (w.alloc _) _ (by simp) 0 2 1 0 false false _)).mono ?_
  rintro e w1 ⟨v1, rfl, ho1, hw1⟩
  have hA1 := (own_two (xs := [.int .i64 1, .int .i64 0, .bool false, .bool false]) (ys := encR (0, 2, 1, 0, false, false)) hw1).1
  have hx1 : Below w.heap.size w w1 := (hbx.out _ _).trans (hw1.mono (by simp; omega))
  clear hw1
  obtain ⟨a1, c1, rfl⟩ := ho1.form
  go_wp2_with fail
  refine (HC.out _ _ _ ho1).mono ?_
  rintro e w2 ⟨v2, rfl, ho2, hw2⟩
  obtain ⟨a2, c2, rfl⟩ := ho2.form
  have hA2 := hA1.below hw2 hA1.lt
  have hx2 : Below w.heap.size w w2 := hx1.trans (hw2.mono hx1.size)
  have ho12 := HB.out _ _ _ _ _ _ ho1 hw2
  clear hw2 ho1 hA1
  go_wp2_with fail
  refine (HS.out _ _ _ ho2).mono ?_
  rintro e w3 ⟨v3, rfl, hw3⟩
  have hA3 := hA2.below hw3 hA2.lt
  have hx3 : Below w.heap.size w w3 := hx2.trans (hw3.mono hx2.size)
  have ho13 := HB.out _ _ _ _ _ _ ho12 hw3
  have ho23 := HB.out _ _ _ _ _ _ ho2 hw3
  clear hw3 ho12 ho2 hA2
  obtain ⟨d0, d1, d2, d3⟩ := hA3.quad
  have hz := hA3.lt
  clear hA3
  have hal : Hid (∀ o, Below w3.heap.size w3 (w3.alloc o)) := fun o => (Below.refl _ _).alloc (Nat.le_refl _) _
  go_wp2_with fail
  refine (HE.out _ _ _ _ (HB.out _ _ _ _ _ _ ho13 (hal.out _)) (lit_at w3 _ rfl 0 5 1 0 false false _)).mono ?_
  rintro e w4 ⟨rfl, hw4⟩
  have hx34 := below_one hw4
  have ho24 := HB.out _ _ _ _ _ _ ho23 hx34
  have hx4 : Below w.heap.size w w4 := hx3.trans (hx34.mono hx3.size)
  clear hw4 hx34 ho23
  go_wp2_with fail
  refine (HN.out _ _ _ ho24).mono ?_
  rintro e w5 ⟨rfl, hw5⟩
  have ho25 := HB.out _ _ _ _ _ _ ho24 hw5
  go_wp2_with fail
  refine (HR.out _ _ _ ho25).mono ?_
  rintro e w6 ⟨rfl, hw6⟩
  go_wp2
  go_ret
  have hx5 := hx4.trans (hw5.mono hx4.size)
  exact ⟨rfl, hx5.trans (hw6.mono hx5.size)⟩

end Go.Proofs.Ytkiamhmjkpbaiae
