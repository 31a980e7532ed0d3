/- The contract of framewardenkeep.alive6: it returns true, and nothing that was there is written. -/
import Derived.Test.YtgkdbcafijhdiacTlb6
namespace Go.Proofs.Ytgkdbcafijhdiac
open Go.RowKit
set_option linter.unusedSimpArgs false
set_option linter.unusedVariables false

theorem alive_play : play [(1, 4, 1, 2), (1, 5, 1, 3), (1, 4, 1, 2)] = [(1, 5, 1, 3), (1, 4, 1, 2)] ∧ play [(1, 4, 1, 2), (1, 5, 1, 3), (1, -1, 0, 0)] = [] := by decide +kernel

/-- A row that was just laid. -/
theorem lit_recs (W : World) (l : List C4) (t : TypeId) (n B : Nat) (hn : n = l.length) (hB : n ≤ B) : IsRecs encC B (W.alloc (.cells (flatL encC l).toArray t)) (.slice (some ⟨W.heap.size, 0, none⟩) n n) l := by
  subst hn
  refine ⟨_, _, rfl, Nat.le_refl _, hB, fun _ => ⟨W.heap.size, 0, rfl, fun j u hj => ?_⟩⟩
  have h : OwnRow (W.alloc (.cells (flatL encC l).toArray t)) W.heap.size t (flatL encC l) := heap_alloc_new W _
  rw [Nat.zero_add, h.cell, hj]

/-- The eight cells of two boxes, and that all that lay in W0 lies as it did. -/
def Two (W0 : World) (A B : Nat) (w' : World) : Prop :=
  (w'.cell? ⟨A, 0, none⟩ = some (.int .i64 1) ∧ w'.cell? ⟨A, 1, none⟩ = some (.int .i64 4) ∧ w'.cell? ⟨A, 2, none⟩ = some (.int .i64 1) ∧ w'.cell? ⟨A, 3, none⟩ = some (.int .i64 2)) ∧
  (w'.cell? ⟨B, 0, none⟩ = some (.int .i64 1) ∧ w'.cell? ⟨B, 1, none⟩ = some (.int .i64 5) ∧ w'.cell? ⟨B, 2, none⟩ = some (.int .i64 1) ∧ w'.cell? ⟨B, 3, none⟩ = some (.int .i64 3)) ∧ Below W0.heap.size W0 w'

theorem two_of {W0 w' : World} {A B : Nat} {e : TypeId} (hA : OwnRow W0 A e (encC (1, 4, 1, 2))) (hB : OwnRow W0 B e (encC (1, 5, 1, 3))) (hb : Below W0.heap.size W0 w') : Two W0 A B w' :=
  ⟨(hA.below hb hA.lt).quad, (hB.below hb hB.lt).quad, hb⟩

theorem two_next {W0 w1 w2 : World} {A B : Nat} (hc : Below w1.heap.size w1 w2) (hS : Two W0 A B w1) : Two W0 A B w2 := by
  obtain ⟨⟨a0, a1, a2, a3⟩, ⟨b0, b1, b2, b3⟩, hb⟩ := hS
  exact ⟨⟨(hc.cell (cell_lt a0)).trans a0, (hc.cell (cell_lt a1)).trans a1, (hc.cell (cell_lt a2)).trans a2, (hc.cell (cell_lt a3)).trans a3⟩,
    ⟨(hc.cell (cell_lt b0)).trans b0, (hc.cell (cell_lt b1)).trans b1, (hc.cell (cell_lt b2)).trans b2, (hc.cell (cell_lt b3)).trans b3⟩, hb.trans (hc.mono hb.size)⟩

set_option maxHeartbeats 1600000 in
theorem alive6_any (w : World) :
    Calls Try.prog 21 #[] w fun e w' => e = .returned (.bool true) ∧ Below w.heap.size w w' := by
  have HP1 : Hid (∀ v w1, IsRecs encC 4398046511000 w1 v [(1, 4, 1, 2), (1, 5, 1, 3), (1, 4, 1, 2)] → Calls Try.prog 19 #[v] w1 fun e w' => ∃ A, e = .returned (.slice (some A) 2 9) ∧ IsRecs encC 4398046511000 w' (.slice (some A) 2 9) [(1, 5, 1, 3), (1, 4, 1, 2)] ∧ Below w1.heap.size w1 w') := by
    intro v w1 h
    have := play_any v _ w1 h
    rw [alive_play.1] at this
    exact this.mono fun e w' ⟨he, hr, hb⟩ => ⟨_, he, hr.recs (by decide), hb⟩
  have HP2 : Hid (∀ v w1, IsRecs encC 4398046511000 w1 v [(1, 4, 1, 2), (1, 5, 1, 3), (1, -1, 0, 0)] → Calls Try.prog 19 #[v] w1 fun e w' => ∃ A, e = .returned (.slice (some A) 0 9) ∧ Below w1.heap.size w1 w') := by
    intro v w1 h
    have := play_any v _ w1 h
    rw [alive_play.2] at this
    exact this.mono fun e w' ⟨he, hr, hb⟩ => ⟨_, he, hb⟩
  have HE : Hid (∀ v u w1, IsRecs encC 4398046511000 w1 v [(1, 5, 1, 3), (1, 4, 1, 2)] → IsRecs encC 4398046511000 w1 u [(1, 5, 1, 3), (1, 4, 1, 2)] → Calls Try.prog 18 #[v, u] w1 fun e w' => e = .returned (.bool true) ∧ Below w1.heap.size w1 w') :=
    fun v u w1 h1 h2 => cequal_is v u _ _ _ w1 h1 h2 (by decide) (by decide)
  go_enter Try.func21, Try.ntmps21
  go_wp2_with fail
  have hbw : Below w.heap.size w ((w.alloc (.cells #[.int .i64 1, .int .i64 4, .int .i64 1, .int .i64 2] 40)).alloc (.cells #[.int .i64 1, .int .i64 5, .int .i64 1, .int .i64 3] 40)) := ((Below.refl _ _).alloc (Nat.le_refl _) _).alloc (by simp) _
  have hAB := own_two (w := w) (xs := encC (1, 4, 1, 2)) (ys := encC (1, 5, 1, 3)) (e := 40) (e' := 40) (Below.refl _ _)
  change OwnRow ((w.alloc (.cells #[.int .i64 1, .int .i64 4, .int .i64 1, .int .i64 2] 40)).alloc (.cells #[.int .i64 1, .int .i64 5, .int .i64 1, .int .i64 3] 40)) _ _ _ ∧ OwnRow ((w.alloc (.cells #[.int .i64 1, .int .i64 4, .int .i64 1, .int .i64 2] 40)).alloc (.cells #[.int .i64 1, .int .i64 5, .int .i64 1, .int .i64 3] 40)) _ _ _ at hAB
  generalize ((w.alloc (.cells #[.int .i64 1, .int .i64 4, .int .i64 1, .int .i64 2] 40)).alloc (.cells #[.int .i64 1, .int .i64 5, .int .i64 1, .int .i64 3] 40)) = W0 at hbw hAB ⊢
  obtain ⟨hA, hB⟩ := hAB
  have HS0 : Hid (∀ w', Below W0.heap.size W0 w' → Two W0 w.heap.size (w.heap.size + 1) w') := fun w' hb => two_of hA hB hb
  have HL1 : Hid (∀ (W W' : World) s, s = W.heap.size → Below (W.alloc (.cells #[.int .i64 1, .int .i64 4, .int .i64 1, .int .i64 2, .int .i64 1, .int .i64 5, .int .i64 1, .int .i64 3, .int .i64 1, .int .i64 4, .int .i64 1, .int .i64 2] 40)).heap.size (W.alloc (.cells #[.int .i64 1, .int .i64 4, .int .i64 1, .int .i64 2, .int .i64 1, .int .i64 5, .int .i64 1, .int .i64 3, .int .i64 1, .int .i64 4, .int .i64 1, .int .i64 2] 40)) W' → IsRecs encC 4398046511000 W' (.slice (some ⟨s, 0, none⟩) 3 3) [(1, 4, 1, 2), (1, 5, 1, 3), (1, 4, 1, 2)]) := fun W W' s hs hb => hs ▸ (lit_recs W [(1, 4, 1, 2), (1, 5, 1, 3), (1, 4, 1, 2)] _ 3 _ rfl (by decide)).below hb
  have HL2 : Hid (∀ (W W' : World) s, s = W.heap.size → Below (W.alloc (.cells #[.int .i64 1, .int .i64 5, .int .i64 1, .int .i64 3, .int .i64 1, .int .i64 4, .int .i64 1, .int .i64 2] 40)).heap.size (W.alloc (.cells #[.int .i64 1, .int .i64 5, .int .i64 1, .int .i64 3, .int .i64 1, .int .i64 4, .int .i64 1, .int .i64 2] 40)) W' → IsRecs encC 4398046511000 W' (.slice (some ⟨s, 0, none⟩) 2 2) [(1, 5, 1, 3), (1, 4, 1, 2)]) := fun W W' s hs hb => hs ▸ (lit_recs W [(1, 5, 1, 3), (1, 4, 1, 2)] _ 2 _ rfl (by decide)).below hb
  have HL3 : Hid (∀ (W W' : World) s, s = W.heap.size → Below (W.alloc (.cells #[.int .i64 1, .int .i64 4, .int .i64 1, .int .i64 2, .int .i64 1, .int .i64 5, .int .i64 1, .int .i64 3, .int .i64 1, .int .i64 (-1), .int .i64 0, .int .i64 0] 40)).heap.size (W.alloc (.cells #[.int .i64 1, .int .i64 4, .int .i64 1, .int .i64 2, .int .i64 1, .int .i64 5, .int .i64 1, .int .i64 3, .int .i64 1, .int .i64 (-1), .int .i64 0, .int .i64 0] 40)) W' → IsRecs encC 4398046511000 W' (.slice (some ⟨s, 0, none⟩) 3 3) [(1, 4, 1, 2), (1, 5, 1, 3), (1, -1, 0, 0)]) := fun W W' s hs hb => hs ▸ (lit_recs W [(1, 4, 1, 2), (1, 5, 1, 3), (1, -1, 0, 0)] _ 3 _ rfl (by decide)).below hb
  clear hA hB
  go_region_held3 (fun w' => (w'.cell? ⟨w.heap.size, 0, none⟩ = some (.int .i64 1) ∧ w'.cell? ⟨w.heap.size, 1, none⟩ = some (.int .i64 4) ∧ w'.cell? ⟨w.heap.size, 2, none⟩ = some (.int .i64 1) ∧ w'.cell? ⟨w.heap.size, 3, none⟩ = some (.int .i64 2)) ∧
  (w'.cell? ⟨w.heap.size + 1, 0, none⟩ = some (.int .i64 1) ∧ w'.cell? ⟨w.heap.size + 1, 1, none⟩ = some (.int .i64 5) ∧ w'.cell? ⟨w.heap.size + 1, 2, none⟩ = some (.int .i64 1) ∧ w'.cell? ⟨w.heap.size + 1, 3, none⟩ = some (.int .i64 3)) ∧ Below W0.heap.size W0 w')
    (first | exact HS0.out _ (Below.refl _ _).drew | exact HS0.out _ ((Below.refl _ _).alloc (Nat.le_refl _) _).drew | exact HS0.out _ (((Below.refl _ _).alloc (Nat.le_refl _) _).alloc (by simp) _).drew | (refine two_next (by assumption) ?_; assumption) | (refine two_next ((Below.refl _ _).alloc (Nat.le_refl _) _) ?_; assumption) | exact two_next ((Below.refl _ _).alloc (Nat.le_refl _) _) (HS0.out _ (Below.refl _ _).drew))
    (first
      | (go_at_call 19; first
          | (refine (HP1.out _ _ (by first | exact HL1.out _ _ _ (by simp) (Below.refl _ _).drew | exact HL1.out _ _ _ (by simp) ((Below.refl _ _).alloc (Nat.le_refl _) _).drew | exact HL1.out _ _ _ (by simp) (Below.refl _ _))).mono ?_; rintro e w2 ⟨A2, rfl, hr2, hw2⟩)
          | (refine (HP2.out _ _ (by first | exact HL3.out _ _ _ (by simp) (Below.refl _ _).drew | exact HL3.out _ _ _ (by simp) ((Below.refl _ _).alloc (Nat.le_refl _) _).drew | exact HL3.out _ _ _ (by simp) (Below.refl _ _))).mono ?_; rintro e w4 ⟨A4, rfl, hw4⟩))
      | (go_at_call 18; refine (HE.out _ _ _ (by first | exact hr2 | exact hr2.below ((Below.refl _ _).alloc (Nat.le_refl _) _)) (by first | exact HL2.out _ _ _ (by simp) (Below.refl _ _).drew | exact HL2.out _ _ _ (by simp) ((Below.refl _ _).alloc (Nat.le_refl _) _).drew | exact HL2.out _ _ _ (by simp) (Below.refl _ _) | exact HL2.out _ _ _ (by simp) ((Below.refl _ _).drew.trans hw2) | exact HL2.out _ _ _ (by simp) (((Below.refl _ _).alloc (Nat.le_refl _) _).drew.trans (hw2.mono (by simp))))).mono ?_; rintro e w3 ⟨rfl, hw3⟩))
  all_goals (rename_i hH; go_wp2; go_ret; exact ⟨rfl, hbw.trans (hH.2.2.mono hbw.size)⟩)

end Go.Proofs.Ytgkdbcafijhdiac
