/- The walk of framewardenlaw.RegionTells: it returns true, and nothing that was there is written. -/
import Derived.Test.YtkiamhmjkpbaiaeRegRef4
namespace Go.Proofs.Ytkiamhmjkpbaiae
open Go.RowKit
set_option linter.unusedSimpArgs false
set_option linter.unusedVariables false

set_option maxHeartbeats 800000 in
theorem regionTells_any (v : Value) (l : List R6) (p : Int) (w : World) (h : IsRecs encR 3518437208780 w v l) (hwf : ∀ x ∈ l, wfR x) (hp : (Lit.int .i64 p).wf = true) :
    Calls Try.prog 3 #[v, .int .i64 p] w fun e w' => e = .returned (.bool true) ∧ Below w.heap.size w w' := by
  have HF1 : Hid (Calls Try.prog 9 #[v, .int .i64 p] w fun e w' => e = .returned (attO (atR l p)) ∧ Below w.heap.size w w') := find_any v l p _ w h (by decide)
  have HF2 : Hid (∀ w1, Below w.heap.size w w1 → Calls Try.prog 10 #[v, .int .i64 p] w1 fun e w' => e = .returned (attO (atR l p)) ∧ Below w1.heap.size w1 w') := fun w1 hb => hfind_any v l p _ w1 (h.below hb) (by decide) hwf (wf_bd hp)
  have HR1 : Hid (∀ w1, Below w.heap.size w w1 → Calls Try.prog 11 #[v] w1 fun e w' => e = .returned (.bool (rightR l)) ∧ Below w1.heap.size w1 w') := fun w1 hb => right_any v l _ w1 (h.below hb) (by decide)
  have HR2 : Hid (∀ w1, Below w.heap.size w w1 → Calls Try.prog 12 #[v] w1 fun e w' => e = .returned (.bool (rightR l)) ∧ Below w1.heap.size w1 w') := fun w1 hb => hright_any v l _ w1 (h.below hb) (by decide)
  have HC1 : Hid (∀ w1, Below w.heap.size w w1 → Calls Try.prog 13 #[v] w1 fun e w' => e = .returned (.int .i64 (cnt l 0 64)) ∧ Below w1.heap.size w1 w') := fun w1 hb => countAll_any v l _ w1 (h.below hb) (by decide)
  have HC2 : Hid (∀ w1, Below w.heap.size w w1 → Calls Try.prog 14 #[v] w1 fun e w' => e = .returned (.int .i64 (cnt l 0 64)) ∧ Below w1.heap.size w1 w') := fun w1 hb => hcount_any v l _ w1 (h.below hb) (by decide)
  obtain ⟨va, vn, rfl⟩ := h.form
  obtain ⟨n, hn⟩ : ∃ n, Hid (n = l.length) := ⟨_, rfl⟩
  rw [← hn.out] at HF1 HF2 HR1 HR2 HC1 HC2 ⊢
  obtain ⟨oa, ob, oc, od, B, hO⟩ : ∃ (oa ob : Int) (oc od B : Bool), Hid (attO (atR l p) = attV oa ob oc od B) := ⟨_, _, _, _, _, rfl⟩
  rw [hO.out] at HF1 HF2
  generalize rightR l = R at *
  generalize cnt l 0 64 = N at *
  clear h hwf hp hO
  have hq := eql_attr oa ob oc od oa ob oc od
  rw [show decide ((oa, ob, oc, od) = (oa, ob, oc, od)) = true by simp] at hq
  have hg := eqGuard_attr
  go_enter Try.func3, Try.ntmps3
  go_wp2_with fail
  refine HF1.out.mono ?_
  rintro e w1 ⟨rfl, hw1⟩
  have hal1 : Hid (∀ o, Below w1.heap.size w1 (w1.alloc o)) := fun o => (Below.refl _ _).alloc (Nat.le_refl _) _
  go_wp2_with fail
  refine (HF2.out _ (hw1.trans ((hal1.out _).mono hw1.size))).mono ?_
  rintro e w2 ⟨rfl, hw2⟩
  have hx12 := below_one hw2
  have hA2 := own_one (xs := [.int .i64 oa, .int .i64 ob, .bool oc, .bool od]) hw2
  have hx2 := hw1.trans (hx12.mono hw1.size)
  clear hw2 hx12
  have hal2 : Hid (∀ o, Below w2.heap.size w2 (w2.alloc o)) := fun o => (Below.refl _ _).alloc (Nat.le_refl _) _
  go_wp2_with fail
  refine (HR1.out _ (hx2.trans ((hal2.out _).mono hx2.size))).mono ?_
  rintro e w3 ⟨rfl, hw3⟩
  have hx23 := below_one hw3
  have hB3 := own_one (xs := [.int .i64 oa, .int .i64 ob, .bool oc, .bool od]) hw3
  have hA3 := hA2.below hx23 hA2.lt
  have hx3 := hx2.trans (hx23.mono hx2.size)
  clear hw3 hx23 hA2
  go_wp2_with fail
  refine (HR2.out _ hx3).mono ?_
  rintro e w4 ⟨rfl, hw4⟩
  have hx4 := hx3.trans (hw4.mono hx3.size)
  obtain ⟨a0, a1, a2, a3⟩ := (hA3.below hw4 hA3.lt).quad
  obtain ⟨b0, b1, b2, b3⟩ := (hB3.below hw4 hB3.lt).quad
  have za := (hA3.below hw4 hA3.lt).lt
  have zb := (hB3.below hw4 hB3.lt).lt
  clear hA3 hB3 hw4
  go_wp2_with fail
  refine (HC1.out _ hx4).mono ?_
  rintro e w5 ⟨rfl, hw5⟩
  have hx5 := hx4.trans (hw5.mono hx4.size)
  go_wp2_with fail
  refine (HC2.out _ hx5).mono ?_
  rintro e w6 ⟨rfl, hw6⟩
  go_wp2
  go_ret
  exact ⟨ret_bool (by simp), hx5.trans (hw6.mono hx5.size)⟩

end Go.Proofs.Ytkiamhmjkpbaiae
