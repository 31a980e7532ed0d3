/- The walk of framewardenkeep.RegionBack: it returns true, and nothing that was there is written. -/
import Derived.Test.YtkiamhmjkpbaiaeAlive8
namespace Go.Proofs.Ytkiamhmjkpbaiae
open Go.RowKit
set_option linter.unusedSimpArgs false
set_option linter.unusedVariables false

set_option maxHeartbeats 800000 in
theorem regionBack_any (v : Value) (l : List R6) (f t r k : Int) (g s : Bool) (w : World) (h : IsRecs encR 3518437208780 w v l) (_ : ∀ x ∈ l, wfR x) :
    Calls Try.prog 6 #[v, .agg #[.int .i64 f, .int .i64 t, .int .i64 r, .int .i64 k, .bool g, .bool s]] w fun e w' => e = .returned (.bool true) ∧ Below w.heap.size w w' := by
  have Hal : Hid (∀ w1, Calls Try.prog 29 #[] w1 fun e w' => e = .returned (.bool true) ∧ Below w1.heap.size w1 w') := alive8_any
  have HA : Hid (∀ w1, Below w.heap.size w w1 → Calls Try.prog 15 #[v, .agg #[.int .i64 f, .int .i64 t, .int .i64 r, .int .i64 k, .bool g, .bool s]] w1 fun e w' => ∃ v', e = .returned (lstV v' (addE l (f, t, r, k, g, s))) ∧ OwnR 31 6 encR w1.heap.size w' v' (addL l (f, t, r, k, g, s)) ∧ Below w1.heap.size w1 w') := fun w1 hb => add_any v l f t r k g s _ w1 (h.below hb) (by decide)
  by_cases h0 : addE l (f, t, r, k, g, s) = 0
  · obtain ⟨b1, b2, b3, b4⟩ := back_said h0
    simp only at b1 b2 b3 b4
    obtain ⟨p1, p2, p3, p4, -⟩ := add_pages h0
    have hsp := isSp_iff.1 p2
    simp only at hsp
    have hml := good_len p4
    have hll := good_len p1
    have hN := cnt_bd (show (0 : Int) ≤ 64 by decide) l
    obtain ⟨va, vn, rfl⟩ := h.form
    have HI : Hid (∀ w1, Below w.heap.size w w1 → IsRecs encR 1000 w1 (.slice va l.length vn) l) := fun w1 hb => (h.below hb).up (by omega)
    rw [h0] at HA
    generalize addL l (f, t, r, k, g, s) = M at *
    have hN2 : 0 ≤ cnt l 0 64 ∧ cnt l 0 64 ≤ 4096 := by constructor <;> omega
    clear hN h p1 p2 p3 p4 h0
    have HC : Hid (∀ w1 v1 base, OwnR 31 6 encR base w1 v1 M → Calls Try.prog 18 #[v1, .int .i64 f, .int .i64 t] w1 fun e w' => ∃ v', e = .returned (lstV v' 0) ∧ OwnR 31 6 encR w1.heap.size w' v' l ∧ Below w1.heap.size w1 w') := by
      intro w1 v1 base ho
      have := cut_any v1 M f t 1000 w1 (ho.recs (by omega)) (by decide)
      rw [b1, b2] at this
      exact this
    have HB : Hid (cnt M 0 64 = cnt l 0 64 + t - f ∧ rightR M = true) := ⟨b4, b3⟩
    obtain ⟨N, hNl⟩ : ∃ N, Hid (N = cnt l 0 64) := ⟨_, rfl⟩
    rw [← hNl.out] at HB hN2
    clear b1 b2 b3 b4
    obtain ⟨n, hn⟩ : ∃ n, Hid (n = l.length) := ⟨_, rfl⟩
    rw [← hn.out] at HA HI ⊢
    have hbx : Hid (∀ o, Below w.heap.size w (w.alloc o)) := fun o => (Below.refl _ _).alloc (Nat.le_refl _) _
    go_enter Try.func6, Try.ntmps6
    go_wp2_with fail
    refine (Hal.out _).mono ?_
    rintro e w1 ⟨rfl, hw1⟩
    have hx1 := below_one hw1
    have hA1 := own_one (xs := encR (f, t, r, k, g, s)) hw1
    clear hw1
    obtain ⟨c0, c1, c2, c3, c4, c5⟩ := hA1.six
    have hz1 := hA1.lt
    go_wp2_with fail
    refine (HA.out _ hx1).mono ?_
    rintro e w2 ⟨v2, rfl, ho2, hw2⟩
    have hA2 := hA1.below hw2 hA1.lt
    have hx2 := hx1.trans (hw2.mono hx1.size)
    obtain ⟨d0, d1, d2, d3, d4, d5⟩ := hA2.six
    have hz2 := hA2.lt
    obtain ⟨a2, m2, rfl⟩ := ho2.form
    clear c0 c1 c2 c3 c4 c5 hA1
    go_wp2_with fail
    refine (HC.out _ _ _ ho2).mono ?_
    rintro e w3 ⟨v3, rfl, ho3, hw3⟩
    have hA3 := hA2.below hw3 hA2.lt
    have hx3 := hx2.trans (hw3.mono hx2.size)
    obtain ⟨e0, e1, e2, e3, e4, e5⟩ := hA3.six
    have ho23 := ho2.below hw3
    obtain ⟨a3, m3, rfl⟩ := ho3.form
    clear d0 d1 d2 d3 d4 d5 hA2 ho2
    have I2 : Hid (IsRecs encR 1000 w3 (.slice a2 M.length m2) M) := ho23.recs (by omega)
    have I3 : Hid (IsRecs encR 1000 w3 (.slice a3 l.length m3) l) := ho3.recs (by omega)
    have I0 : Hid (IsRecs encR 1000 w3 (.slice va n vn) l) := HI.out _ hx3
    go_wp2_with fail
    refine wp_region_calm (by kernel_rfl) (by kernel_rfl) (fun W hW _ => ?_)
    have hbW : Below w3.heap.size w3 W := by rw [hW]; exact Below.refl _ _
    have hc0 : ∀ u : Wd W, u.w.cell? ⟨w.heap.size, 0, none⟩ = some (.int .i64 f) := fun u => u.cell ((hbW.cell (cell_lt e0)).trans e0)
    have hc1 : ∀ u : Wd W, u.w.cell? ⟨w.heap.size, 1, none⟩ = some (.int .i64 t) := fun u => u.cell ((hbW.cell (cell_lt e1)).trans e1)
    clear hW
    have hu : ∀ u : Wd W, Below w3.heap.size w3 u.w := fun u => hbW.trans (u.ok.mono hbW.size)
    have HEq : Hid (∀ u : Wd W, Calls Try.prog 20 #[.slice a3 l.length m3, .slice va n vn] u.w fun e w' => e = .returned (.bool true) ∧ Below u.w.heap.size u.w w') := fun u => requal_is _ _ l l 1000 _ (I3.out.below (hu u)) (I0.out.below (hu u)) (by decide) (by simp)
    have HRt : Hid (∀ u : Wd W, Calls Try.prog 11 #[.slice a2 M.length m2] u.w fun e w' => e = .returned (.bool true) ∧ Below u.w.heap.size u.w w') := fun u => right_is _ M 1000 _ (I2.out.below (hu u)) (by decide) HB.out.2
    have HCt : Hid (∀ (u : Wd W) (x : Value) (c : Int), (x = .slice a2 M.length m2 ∧ c = N + t - f) ∨ (x = .slice va n vn ∧ c = N) → Calls Try.prog 13 #[x] u.w fun e w' => e = .returned (.int .i64 c) ∧ Below u.w.heap.size u.w w') := by
      rintro u x c (⟨rfl, rfl⟩ | ⟨rfl, rfl⟩)
      · rw [← HB.out.1]; exact countAll_any _ M 1000 _ (I2.out.below (hu u)) (by decide)
      · rw [hNl.out]; exact countAll_any _ l 1000 _ (I0.out.below (hu u)) (by decide)
    clear hu
    repeat (go_big_quiet_step (first | (go_at_call 20; exact calm_of (HEq.out _)) | (go_at_call 11; exact calm_of (HRt.out _)) | (go_at_call 13; exact calm_of (HCt.out _ _ _ (by first | exact Or.inl ⟨rfl, rfl⟩ | exact Or.inr ⟨rfl, rfl⟩)))))
    refine wpQuiet_nil ?_
    rintro w2 ⟨⟨_, hw2⟩, rfl⟩
    have hb2 : Below w3.heap.size w3 w2 := hbW.trans (hw2.mono hbW.size)
    go_wp2
    go_ret
    exact ⟨rfl, hx3.trans (hb2.mono hx3.size)⟩
  · have HL : Hid (addL l (f, t, r, k, g, s) = []) := by unfold addL; rw [if_neg h0]; rfl
    have hne : (addE l (f, t, r, k, g, s) != 0) = true := by rw [bne_iff_ne]; exact h0
    obtain ⟨va, vn, rfl⟩ := h.form
    rw [HL.out] at HA
    generalize addE l (f, t, r, k, g, s) = E at *
    have hbx : Hid (∀ o, Below w.heap.size w (w.alloc o)) := fun o => (Below.refl _ _).alloc (Nat.le_refl _) _
    go_enter Try.func6, Try.ntmps6
    go_wp2_with fail
    refine (Hal.out _).mono ?_
    rintro e w1 ⟨rfl, hw1⟩
    have hx1 := below_one hw1
    obtain ⟨c0, c1, c2, c3, c4, c5⟩ := (own_one (xs := encR (f, t, r, k, g, s)) hw1).six
    have hz1 := (own_one (xs := encR (f, t, r, k, g, s)) hw1).lt
    clear hw1
    go_wp2_with fail
    refine (HA.out _ hx1).mono ?_
    rintro e w2 ⟨v2, rfl, ho2, hw2⟩
    obtain ⟨a2, m2, rfl⟩ : ∃ a c, v2 = .slice a 0 c := ho2.form
    go_wp2
    go_ret
    exact ⟨rfl, hx1.trans (hw2.mono hx1.size)⟩

end Go.Proofs.Ytkiamhmjkpbaiae
