/- The order of giving back is no matter: framewardenkeep.BuddyOrder returns true at every slice of blocks within the form's own reach and at all blocks. -/
import Derived.Test.YtflhcphdggabeabBuddyGive
import Derived.Test.YtflhcphdggabeabAlive2
namespace Go.Proofs.Ytflhcphdggabeab
open Go.RowKit
set_option linter.unusedSimpArgs false
set_option linter.unusedVariables false

set_option maxHeartbeats 1600000 in
theorem buddyOrder_any (v : Value) (l : List (Int × Int)) (ax ay bx by' : Int) (w : World) (h : IsBlocks w v l) :
    Calls Try.prog 3 #[v, .agg #[.int .i64 ax, .int .i64 ay], .agg #[.int .i64 bx, .int .i64 by']] w fun e w' => e = .returned (.bool true) ∧ Below w.heap.size w w' := by
  have HI : Hid (IsBlocks w v l) := h
  clear h
  obtain ⟨W, hW⟩ : ∃ W, W = (w.alloc (.cells #[.int .i64 ax, .int .i64 ay] 24)).alloc (.cells #[.int .i64 bx, .int .i64 by'] 24) := ⟨_, rfl⟩
  have hbW : Below w.heap.size w W := by rw [hW]; exact ((Below.refl _ _).alloc (Nat.le_refl _) _).alloc (by simp) _
  have hA : OwnRow W w.heap.size 24 [.int .i64 ax, .int .i64 ay] := by
    have h1 : OwnRow (w.alloc (.cells #[.int .i64 ax, .int .i64 ay] 24)) w.heap.size 24 [.int .i64 ax, .int .i64 ay] := heap_alloc_new w _
    rw [hW]
    exact h1.below ((Below.refl _ _).alloc (Nat.le_refl _) _) h1.lt
  have hB : OwnRow W (w.heap.size + 1) 24 [.int .i64 bx, .int .i64 by'] := by
    rw [hW]
    have := heap_alloc_new (w.alloc (.cells #[.int .i64 ax, .int .i64 ay] 24)) (.cells #[.int .i64 bx, .int .i64 by'] 24)
    simpa [OwnRow] using this
  have hcell : Hid (∀ w', Below W.heap.size W w' → (w'.cell? ⟨w.heap.size, 0, none⟩ = some (.int .i64 ax) ∧ w'.cell? ⟨w.heap.size, 1, none⟩ = some (.int .i64 ay)) ∧ w'.cell? ⟨w.heap.size + 1, 0, none⟩ = some (.int .i64 bx) ∧ w'.cell? ⟨w.heap.size + 1, 1, none⟩ = some (.int .i64 by')) := by
    intro w' hb
    have h1 := hA.below hb hA.lt
    have h2 := hB.below hb hB.lt
    exact ⟨⟨by rw [h1.cell]; rfl, by rw [h1.cell]; rfl⟩, by rw [h2.cell]; rfl, by rw [h2.cell]; rfl⟩
  go_enter Try.func3, Try.ntmps3
  go_wp2_with fail
  rw [← hW]
  clear hA hB hW
  refine (alive2_any W).mono ?_
  rintro e w1 ⟨rfl, hb1⟩
  obtain ⟨⟨c0, c1⟩, c2, c3⟩ := hcell.out w1 hb1
  go_wp2_with fail
  refine (give_any v l ax ay w1 (HI.out.below (hbW.trans (hb1.mono hbW.size)))).mono ?_
  rintro e w2 ⟨v2, rfl, ho2, hb2⟩
  have hbb2 := hb1.trans (hb2.mono hb1.size)
  obtain ⟨⟨c0, c1⟩, c2, c3⟩ := hcell.out w2 hbb2
  have hl2 := give_len l ax ay
  go_wp2_with fail
  refine (give_any v2 _ bx by' w2 (ho2.blocks (by omega))).mono ?_
  rintro e w3 ⟨v3, rfl, ho3, hb3⟩
  have hbb3 := hbb2.trans (hb3.mono hbb2.size)
  obtain ⟨⟨c0, c1⟩, c2, c3⟩ := hcell.out w3 hbb3
  go_wp2_with fail
  refine (give_any v l bx by' w3 (HI.out.below (hbW.trans (hbb3.mono hbW.size)))).mono ?_
  rintro e w4 ⟨v4, rfl, ho4, hb4⟩
  have hbb4 := hbb3.trans (hb4.mono hbb3.size)
  obtain ⟨⟨c0, c1⟩, c2, c3⟩ := hcell.out w4 hbb4
  have hl4 := give_len l bx by'
  go_wp2_with fail
  refine (give_any v4 _ ax ay w4 (ho4.blocks (by omega))).mono ?_
  rintro e w5 ⟨v5, rfl, ho5, hb5⟩
  have hbb5 := hbb4.trans (hb5.mono hbb4.size)
  have hfin := hbW.trans (hbb5.mono hbW.size)
  have hl3 := give_len (giveL l ax ay) bx by'
  have hl5 := give_len (giveL l bx by') ax ay
  have H3 : Hid (IsBlocks w5 v3 (giveL (giveL l ax ay) bx by')) := (ho3.blocks (by omega)).below (hb4.trans (hb5.mono hb4.size))
  have H5 : Hid (IsBlocks w5 v5 (giveL (giveL l bx by') ax ay)) := ho5.blocks (by omega)
  obtain ⟨a3, n3, k3, rfl⟩ := ho3.form
  obtain ⟨a5, n5, k5, rfl⟩ := ho5.form
  clear ho2 ho3 ho4 ho5 c0 c1 c2 c3 hl2 hl4 hl3 hl5
  by_cases he : giveE l ax ay = 0
  · by_cases hg : giveE l bx by' = 0
    · obtain ⟨q1, q2⟩ := give_order he hg
      rw [he, hg, q1]
      have HQ : Hid _ := q2
      clear q1 q2 he hg
      go_wp2_with fail
      refine (equal_is (f := true) _ _ _ _ _ H3.out H5.out (by rw [decide_eq_true_iff]; exact HQ.out)).mono ?_
      rintro e w6 ⟨rfl, hb6⟩
      go_wp2
      go_ret
      exact ⟨rfl, hfin.trans (hb6.mono hfin.size)⟩
    · rw [he]
      generalize giveE l bx by' = g at *
      have hd : (g != 0) = true := by simpa using hg
      go_wp2
      go_ret
      exact ⟨rfl, hfin⟩
  · generalize giveE l ax ay = g at *
    have hd : (g != 0) = true := by simpa using he
    go_wp2
    go_ret
    exact ⟨rfl, hfin⟩

end Go.Proofs.Ytflhcphdggabeab
