/- Package buddy answers what its chapter says: framewardenlaw.BuddyTells returns true at every slice of blocks within the form's own reach and at all numbers and blocks. -/
import Derived.Test.YtflhcphdggabeaaBuddyRef5
namespace Go.Proofs.Ytflhcphdggabeaa
open Go.RowKit
set_option linter.unusedSimpArgs false
set_option linter.unusedVariables false

set_option maxRecDepth 100000 in
set_option maxHeartbeats 4000000 in
theorem buddyTells_any (v : Value) (l : List (Int × Int)) (o bx by' : Int) (w : World) (h : IsBlocks w v l) (ho : (Lit.int .i64 o).wf = true) :
    Calls Try.prog 6 #[v, .int .i64 o, .agg #[.int .i64 bx, .int .i64 by']] w fun e w' => e = .returned (.bool true) ∧ Below w.heap.size w w' := by
  have HI : Hid (IsBlocks w v l) := h
  have hbA : Below w.heap.size w (w.alloc (.cells #[.int .i64 bx, .int .i64 by'] 37)) := (Below.refl _ _).alloc (Nat.le_refl _) _
  have hro : OwnRow (w.alloc (.cells #[.int .i64 bx, .int .i64 by'] 37)) w.heap.size 37 [.int .i64 bx, .int .i64 by'] := heap_alloc_new w _
  clear h ho
  obtain ⟨w0, hw0⟩ : ∃ w0, w0 = w.alloc (.cells #[.int .i64 bx, .int .i64 by'] 37) := ⟨_, rfl⟩
  have hlt := take_len l o
  have hlg := give_len l bx by'
  go_enter Try.func6, Try.ntmps6
  go_wp2_with fail
  rw [← hw0] at hro hbA ⊢
  clear hw0
  refine (btake_any v l o _ (HI.out.below hbA)).mono ?_
  rintro e w1 ⟨v1, rfl, ho1, hb1⟩
  have hbb1 := hbA.trans (hb1.mono hbA.size)
  have hro1 := hro.below hb1 hro.lt
  go_wp2_with fail
  refine (bref_take v l o _ (HI.out.below hbb1)).mono ?_
  rintro e w2 ⟨v2, rfl, ho2, hb2⟩
  have hbb2 := hbb1.trans (hb2.mono hbb1.size)
  have hro2 := hro1.below hb2 hro1.lt
  have hc0 : w2.cell? ⟨w.heap.size, 0, none⟩ = some (.int .i64 bx) := by rw [hro2.cell]; rfl
  have hc1 : w2.cell? ⟨w.heap.size, 1, none⟩ = some (.int .i64 by') := by rw [hro2.cell]; rfl
  go_wp2_with fail
  refine (give_any v l bx by' _ (HI.out.below hbb2)).mono ?_
  rintro e w3 ⟨v3, rfl, ho3, hb3⟩
  have hbb3 := hbb2.trans (hb3.mono hbb2.size)
  have hro3 := hro2.below hb3 hro2.lt
  clear hc0 hc1
  have hc0 : w3.cell? ⟨w.heap.size, 0, none⟩ = some (.int .i64 bx) := by rw [hro3.cell]; rfl
  have hc1 : w3.cell? ⟨w.heap.size, 1, none⟩ = some (.int .i64 by') := by rw [hro3.cell]; rfl
  go_wp2_with fail
  refine (bgive_any v l bx by' _ (HI.out.below hbb3)).mono ?_
  rintro e w4 ⟨v4, rfl, ho4, hb4⟩
  have hbb4 := hbb3.trans (hb4.mono hbb3.size)
  have H1 : Hid (IsBlocks w4 v1 (takeL l o)) := (ho1.blocks (by omega)).below ((hb2.trans (hb3.mono hb2.size)).trans (hb4.mono (Nat.le_trans hb2.size hb3.size)))
  have H2 : Hid (IsBlocks w4 v2 (takeL l o)) := (ho2.blocks (by omega)).below (hb3.trans (hb4.mono hb3.size))
  have H3 : Hid (IsBlocks w4 v3 (giveL l bx by')) := (ho3.blocks (by omega)).below hb4
  have H4 : Hid (IsBlocks w4 v4 (giveL l bx by')) := ho4.blocks (by omega)
  obtain ⟨a1, n1, c1, rfl⟩ := ho1.form
  obtain ⟨a2, n2, c2, rfl⟩ := ho2.form
  obtain ⟨a3, n3, c3, rfl⟩ := ho3.form
  obtain ⟨a4, n4, c4, rfl⟩ := ho4.form
  generalize takeE l o = te at *
  generalize takeAt l o = ta at *
  generalize giveE l bx by' = ge at *
  clear ho1 ho2 ho3 ho4 hc0 hc1 hro hro1 hro2 hro3 hlt hlg
  go_wp2_with fail
  refine (new_any w4).mono ?_
  rintro e w5 ⟨v5, rfl, ho5, hb5⟩
  have hbB : Below w5.heap.size w5 (w5.alloc (.cells #[.int .i64 0, .int .i64 6] 37)) := (Below.refl _ _).alloc (Nat.le_refl _) _
  have H5 : Hid (IsBlocks (w5.alloc (.cells #[.int .i64 0, .int .i64 6] 37)) v5 [(0, 6)]) := (ho5.blocks (by simp)).below hbB
  have H6 : Hid (IsBlocks (w5.alloc (.cells #[.int .i64 0, .int .i64 6] 37)) (.slice (some ⟨w5.heap.size, 0, none⟩) 1 1) [(0, 6)]) := by
    refine ⟨_, _, rfl, by simp, by simp, fun _ => ⟨w5.heap.size, 0, rfl, fun i hi => ?_⟩⟩
    obtain rfl : i = 0 := by simp at hi; omega
    exact ⟨by simp, by simp⟩
  have hb45 := hb5.trans (hbB.mono hb5.size)
  go_wp2_with fail
  refine (equal_is (f := true) _ _ _ _ _ H5.out H6.out (by decide)).mono ?_
  rintro e w6 ⟨rfl, hb6⟩
  have hb46 := hb45.trans (hb6.mono hb45.size)
  have hbb6 := hbb4.trans (hb46.mono hbb4.size)
  obtain ⟨R, hR⟩ : ∃ R, rightB l = R := ⟨_, rfl⟩
  have HRR : Hid (rightB l = R) := hR
  clear hR
  go_wp2_with fail
  refine (right_is _ l _ (HI.out.below hbb6) HRR.out).mono ?_
  rintro e w7 ⟨rfl, hb7⟩
  have hb47 := hb46.trans (hb7.mono hb46.size)
  have hbb7 := hbb4.trans (hb47.mono hbb4.size)
  go_wp2_with fail
  refine (bright_is _ l _ (HI.out.below hbb7) HRR.out).mono ?_
  rintro e w8 ⟨rfl, hb8⟩
  have hb48 := hb47.trans (hb8.mono hb47.size)
  go_wp2_with fail
  refine (equal_is (f := true) _ _ _ _ _ (H1.out.below hb48) (H2.out.below hb48) (by simp)).mono ?_
  rintro e w9 ⟨rfl, hb9⟩
  have hb49 := hb48.trans (hb9.mono hb48.size)
  go_wp2_with fail
  refine (equal_is (f := true) _ _ _ _ _ (H3.out.below hb49) (H4.out.below hb49) (by simp)).mono ?_
  rintro e w10 ⟨rfl, hb10⟩
  have hb410 := hb49.trans (hb10.mono hb49.size)
  go_wp2
  go_ret
  exact ⟨rfl, hbb4.trans (hb410.mono hbb4.size)⟩

end Go.Proofs.Ytflhcphdggabeaa
