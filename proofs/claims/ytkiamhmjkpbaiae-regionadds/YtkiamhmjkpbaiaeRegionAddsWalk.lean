/- The walk of framewardenlaw.RegionAdds: it returns true, and nothing that was there is written. -/
import Derived.Test.YtkiamhmjkpbaiaeRegEAdd
import Derived.Test.YtkiamhmjkpbaiaeRegECut
namespace Go.Proofs.Ytkiamhmjkpbaiae
open Go.RowKit
set_option linter.unusedSimpArgs false
set_option linter.unusedVariables false

theorem add_len64 (l : List R6) (x : R6) : (addL l x).length ≤ 64 := by
  by_cases h : addE l x = 0
  · obtain ⟨-, -, -, p4, -⟩ := add_pages h
    exact good_len p4
  · unfold addL
    rw [if_neg h]
    simp

theorem cut_len64 (l : List R6) (f t : Int) : (cutL l f t).length ≤ 64 := by
  by_cases h : wrE l f t = 0
  · obtain ⟨-, -, p4, -⟩ := cut_pages h
    exact good_len p4
  · unfold cutL
    rw [if_neg h]
    simp

set_option maxHeartbeats 400000 in
theorem addc_any (B : Nat) (f t r k : Int) (g s : Bool) (p : Option Addr) (w : World) (hc : OwnRow w B 31 (encR (f, t, r, k, g, s))) :
    Calls Try.prog 17 #[.pointer p, .pointer (some ⟨B, 0, none⟩)] w fun e w' => ∃ p', e = .returned (.pointer p') ∧ AtP w' p' (some (r, k, g, s)) ∧ Below w.heap.size w w' := by
  obtain ⟨c0, c1, c2, c3, c4, c5⟩ := hc.six
  have HA : Hid (AtP w (some ⟨B, 2, none⟩) (some (r, k, g, s))) := ⟨B, 2, rfl, c2, c3, c4, c5⟩
  clear c0 c1 c2 c3 c4 c5 hc
  go_enter Try.func17, Try.ntmps17
  go_wp2
  go_ret
  exact ⟨_, rfl, HA.out, Below.refl _ _⟩

set_option maxHeartbeats 400000 in
theorem cutc_any (p : Option Addr) (w : World) :
    Calls Try.prog 19 #[.pointer p] w fun e w' => ∃ p', e = .returned (.pointer p') ∧ AtP w' p' none ∧ Below w.heap.size w w' := by
  go_enter Try.func19, Try.ntmps19
  go_wp2
  go_ret
  exact ⟨_, rfl, rfl, Below.refl _ _⟩

set_option maxHeartbeats 800000 in
theorem regionAdds_any (v : Value) (l : List R6) (f t r k : Int) (g s : Bool) (w : World) (h : IsRecs encR 3518437208780 w v l) (_ : ∀ x ∈ l, wfR x) :
    Calls Try.prog 4 #[v, .agg #[.int .i64 f, .int .i64 t, .int .i64 r, .int .i64 k, .bool g, .bool s]] w fun e w' => e = .returned (.bool true) ∧ Below w.heap.size w w' := by
  have HA1 : Hid (∀ w1, Below w.heap.size w w1 → Calls Try.prog 15 #[v, .agg #[.int .i64 f, .int .i64 t, .int .i64 r, .int .i64 k, .bool g, .bool s]] w1 fun e w' => ∃ v', e = .returned (lstV v' (addE l (f, t, r, k, g, s))) ∧ OwnR 31 6 encR w1.heap.size w' v' (addL l (f, t, r, k, g, s)) ∧ Below w1.heap.size w1 w') := fun w1 hb => add_any v l f t r k g s _ w1 (h.below hb) (by decide)
  have HA2 : Hid (∀ w1, Below w.heap.size w w1 → OwnRow w1 w.heap.size 31 (encR (f, t, r, k, g, s)) → Calls Try.prog 16 #[v, .int .i64 f, .int .i64 t, .int .i64 (-1), .func (.func 17) #[] #[.pointer (some ⟨w.heap.size, 0, none⟩)]] w1 fun e w' => ∃ v', e = .returned (lstV v' (addE l (f, t, r, k, g, s))) ∧ OwnR 31 6 encR w1.heap.size w' v' (addL l (f, t, r, k, g, s)) ∧ Below w1.heap.size w1 w') :=
    fun w1 hb ho => heach_add #[.pointer (some ⟨w.heap.size, 0, none⟩)] (r, k, g, s) v l f t _ w1 (h.below hb) (by decide) (fun w2 p o hb2 _ => addc_any w.heap.size f t r k g s p w2 (ho.below hb2 ho.lt))
  have HC1 : Hid (∀ w1, Below w.heap.size w w1 → Calls Try.prog 18 #[v, .int .i64 f, .int .i64 t] w1 fun e w' => ∃ v', e = .returned (lstV v' (wrE l f t)) ∧ OwnR 31 6 encR w1.heap.size w' v' (cutL l f t) ∧ Below w1.heap.size w1 w') := fun w1 hb => cut_any v l f t _ w1 (h.below hb) (by decide)
  have HC2 : Hid (∀ w1, Below w.heap.size w w1 → Calls Try.prog 16 #[v, .int .i64 f, .int .i64 t, .int .i64 0, .func (.func 19) #[] #[]] w1 fun e w' => ∃ v', e = .returned (lstV v' (wrE l f t)) ∧ OwnR 31 6 encR w1.heap.size w' v' (cutL l f t) ∧ Below w1.heap.size w1 w') :=
    fun w1 hb => heach_cut #[] v l f t _ w1 (h.below hb) (by decide) (fun w2 p o hb2 _ => cutc_any p w2)
  have HEq : Hid (∀ w1 v1 v2 M b1 b2, OwnR 31 6 encR b1 w1 v1 M → OwnR 31 6 encR b2 w1 v2 M → M.length ≤ 64 → Calls Try.prog 20 #[v1, v2] w1 fun e w' => e = .returned (.bool true) ∧ Below w1.heap.size w1 w') := fun w1 v1 v2 M b1 b2 h1 h2 hl => requal_is v1 v2 M M 64 w1 (h1.recs hl) (h2.recs hl) (by decide) (by simp)
  have hla := add_len64 l (f, t, r, k, g, s)
  have hlc := cut_len64 l f t
  obtain ⟨va, vn, rfl⟩ := h.form
  obtain ⟨n, hn⟩ : ∃ n, Hid (n = l.length) := ⟨_, rfl⟩
  rw [← hn.out] at HA1 HA2 HC1 HC2 ⊢
  generalize addE l (f, t, r, k, g, s) = E at *
  generalize addL l (f, t, r, k, g, s) = M at *
  generalize wrE l f t = G at *
  generalize cutL l f t = C at *
  clear h
  have hal : Hid (∀ o, Below w.heap.size w (w.alloc o)) := fun o => (Below.refl _ _).alloc (Nat.le_refl _) _
  go_enter Try.func4, Try.ntmps4
  go_wp2_with fail
  refine (HA1.out _ (hal.out _)).mono ?_
  rintro e w1 ⟨v1, rfl, ho1, hw1⟩
  obtain ⟨a1, m1, rfl⟩ := ho1.form
  have hA1 := own_one (xs := encR (f, t, r, k, g, s)) hw1
  have hx1 := below_one hw1
  clear hw1
  obtain ⟨c0, c1, c2, c3, c4, c5⟩ := hA1.six
  have hz1 := hA1.lt
  go_wp2_with fail
  refine (HA2.out _ hx1 hA1).mono ?_
  rintro e w2 ⟨v2, rfl, ho2, hw2⟩
  obtain ⟨a2, m2, rfl⟩ := ho2.form
  have hA2 := hA1.below hw2 hA1.lt
  have hx2 := hx1.trans (hw2.mono hx1.size)
  have ho12 := ho1.below hw2
  clear c0 c1 c2 c3 c4 c5 hz1 hA1 ho1 hw2
  obtain ⟨c0, c1, c2, c3, c4, c5⟩ := hA2.six
  have hz2 := hA2.lt
  go_wp2_with fail
  refine (HC1.out _ hx2).mono ?_
  rintro e w3 ⟨v3, rfl, ho3, hw3⟩
  obtain ⟨a3, m3, rfl⟩ := ho3.form
  have hA3 := hA2.below hw3 hA2.lt
  have hx3 := hx2.trans (hw3.mono hx2.size)
  have ho13 := ho12.below hw3
  have ho23 := ho2.below hw3
  clear c0 c1 c2 c3 c4 c5 hz2 hA2 ho12 ho2 hw3
  obtain ⟨c0, c1, c2, c3, c4, c5⟩ := hA3.six
  have hz3 := hA3.lt
  go_wp2_with fail
  refine (HC2.out _ hx3).mono ?_
  rintro e w4 ⟨v4, rfl, ho4, hw4⟩
  obtain ⟨a4, m4, rfl⟩ := ho4.form
  have hx4 := hx3.trans (hw4.mono hx3.size)
  have ho14 := ho13.below hw4
  have ho24 := ho23.below hw4
  have ho34 := ho3.below hw4
  clear c0 c1 c2 c3 c4 c5 hz3 hA3 ho13 ho23 ho3 hw4
  go_wp2_with fail
  refine (HEq.out _ _ _ _ _ _ ho14 ho24 hla).mono ?_
  rintro e w5 ⟨rfl, hw5⟩
  have hx5 := hx4.trans (hw5.mono hx4.size)
  have ho35 := ho34.below hw5
  have ho45 := ho4.below hw5
  go_wp2_with fail
  refine (HEq.out _ _ _ _ _ _ ho35 ho45 hlc).mono ?_
  rintro e w6 ⟨rfl, hw6⟩
  go_wp2
  go_ret
  exact ⟨ret_bool (by simp), hx5.trans (hw6.mono hx5.size)⟩

end Go.Proofs.Ytkiamhmjkpbaiae
