/- The walk of framewardenkeep.RegionPages: it returns true, and nothing that was there is written. -/
import Derived.Test.YtkiamhmjkpbaiaeAlive8
namespace Go.Proofs.Ytkiamhmjkpbaiae
open Go.RowKit
set_option linter.unusedSimpArgs false
set_option linter.unusedVariables false

set_option maxHeartbeats 800000 in
theorem regionPages_any (v : Value) (l : List R6) (f t : Int) (r k : Int) (g s : Bool) (p : Int) (w : World) (h : IsRecs encR 3518437208780 w v l) (_ : ∀ x ∈ l, wfR x) (_ : (Lit.int .i64 f).wf = true) (_ : (Lit.int .i64 t).wf = true) (_ : (Lit.int .i64 p).wf = true) :
    Calls Try.prog 7 #[v, .int .i64 f, .int .i64 t, .agg #[.int .i64 r, .int .i64 k, .bool g, .bool s], .int .i64 p] w fun e w' => e = .returned (.bool true) ∧ Below w.heap.size w w' := by
  have Hal : Hid (∀ w1, Calls Try.prog 29 #[] w1 fun e w' => e = .returned (.bool true) ∧ Below w1.heap.size w1 w') := alive8_any
  have HT : Hid (∀ w1, Below w.heap.size w w1 → Calls Try.prog 23 #[v, .int .i64 f, .int .i64 t, .agg #[.int .i64 r, .int .i64 k, .bool g, .bool s]] w1 fun e w' => ∃ v', e = .returned (lstV v' (chE l f t)) ∧ OwnR 31 6 encR w1.heap.size w' v' (chL (tuA (r, k, g, s)) l f t) ∧ Below w1.heap.size w1 w') := fun w1 hb => turn_any v l f t r k g s _ w1 (h.below hb) (by decide)
  by_cases h0 : chE l f t = 0
  · obtain ⟨p1, p2, p3, p4, p5⟩ := ch_pages (φ := tuA (r, k, g, s)) h0
    obtain ⟨q1, q2⟩ := pages_said (φ := tuA (r, k, g, s)) h0
    have hml := good_len p4
    have hll := good_len p1
    obtain ⟨va, vn, rfl⟩ := h.form
    have HI : Hid (∀ w1, Below w.heap.size w w1 → IsRecs encR 1000 w1 (.slice va l.length vn) l) := fun w1 hb => (h.below hb).up (by omega)
    rw [h0] at HT
    have P3 := p3 p
    have P5 := p5 p
    have Q1 := q1 p
    generalize chL (tuA (r, k, g, s)) l f t = M at *
    clear p1 p2 p3 p4 p5 q1 h h0
    have HF1 : Hid (∀ w1, Below w.heap.size w w1 → Calls Try.prog 9 #[.slice va l.length vn, .int .i64 p] w1 fun e w' => e = .returned (attO (atR l p)) ∧ Below w1.heap.size w1 w') := fun w1 hb => find_any _ l p 1000 w1 (HI.out _ hb) (by decide)
    have HF2 : Hid (∀ w1 v1 base, OwnR 31 6 encR base w1 v1 M → Calls Try.prog 9 #[v1, .int .i64 p] w1 fun e w' => e = .returned (attO (atR M p)) ∧ Below w1.heap.size w1 w') := fun w1 v1 base ho => find_any _ M p 1000 w1 (ho.recs (by omega)) (by decide)
    have HC1 : Hid (∀ w1, Below w.heap.size w w1 → Calls Try.prog 13 #[.slice va l.length vn] w1 fun e w' => e = .returned (.int .i64 (cnt M 0 64)) ∧ Below w1.heap.size w1 w') := fun w1 hb => q2 ▸ countAll_any _ l 1000 w1 (HI.out _ hb) (by decide)
    have HC2 : Hid (∀ w1 v1 base, OwnR 31 6 encR base w1 v1 M → Calls Try.prog 13 #[v1] w1 fun e w' => e = .returned (.int .i64 (cnt M 0 64)) ∧ Below w1.heap.size w1 w') := fun w1 v1 base ho => countAll_any _ M 1000 w1 (ho.recs (by omega)) (by decide)
    generalize cnt M 0 64 = N at *
    clear q2
    have hO : ∃ (oa ob : Int) (oc od : Bool) (pa pb : Int) (pc pd B : Bool), Hid (attO (atR l p) = attV oa ob oc od B) ∧ Hid (attO (atR M p) = attV pa pb pc pd B) ∧ Hid (iv f t p = true → B = true ∧ (pa, pb, pc, pd) = (r, k, g, s)) ∧ Hid (iv f t p = false → (oa, ob, oc, od) = (pa, pb, pc, pd)) := by
      refine ⟨_, _, _, _, _, _, _, _, (atR l p).isSome, rfl, by show _ = _; rw [Q1], fun hi => ?_, fun hi => ?_⟩
      · rw [P5, if_pos hi]
        have := P3 hi
        cases ho : atR l p with
        | none => rw [ho] at this; cases this
        | some a => exact ⟨rfl, rfl⟩
      · rw [P5, hi]
        rfl
    obtain ⟨oa, ob, oc, od, pa, pb, pc, pd, B, hO1, hO2, hO3, hO4⟩ := hO
    rw [hO1.out] at HF1
    rw [hO2.out] at HF2
    clear hO1 hO2 Q1 P3 P5
    obtain ⟨n, hn⟩ : ∃ n, Hid (n = l.length) := ⟨_, rfl⟩
    rw [← hn.out] at HT HI HF1 HC1 ⊢
    have hq := eql_attr
    have hg := eqGuard_attr
    go_enter Try.func7, Try.ntmps7
    go_wp2_with fail
    refine (Hal.out _).mono ?_
    rintro e w1 ⟨rfl, hw1⟩
    have hx1 := below_one hw1
    have hA1 := own_one (xs := [.int .i64 r, .int .i64 k, .bool g, .bool s]) hw1
    clear hw1
    obtain ⟨c0, c1, c2, c3⟩ := hA1.quad
    have hz1 := hA1.lt
    go_wp2_with fail
    refine (HT.out _ hx1).mono ?_
    rintro e w2 ⟨v2, rfl, ho2, hw2⟩
    have hA2 := hA1.below hw2 hA1.lt
    have hx2 := hx1.trans (hw2.mono hx1.size)
    obtain ⟨a2, m2, rfl⟩ := ho2.form
    clear c0 c1 c2 c3 hA1 hz1
    go_wp2_with fail
    refine (HF1.out _ hx2).mono ?_
    rintro e w3 ⟨rfl, hw3⟩
    have hA3 := hA2.below hw3 hA2.lt
    have hx3 := hx2.trans (hw3.mono hx2.size)
    have ho3 := ho2.below hw3
    clear hA2 ho2
    go_wp2_with fail
    have hal3 : Hid (∀ o, Below w3.heap.size w3 (w3.alloc o)) := fun o => (Below.refl _ _).alloc (Nat.le_refl _) _
    refine (HF2.out _ _ _ (ho3.below (hal3.out _))).mono ?_
    rintro e w4 ⟨rfl, hw4⟩
    have hB4 := own_one (xs := [.int .i64 oa, .int .i64 ob, .bool oc, .bool od]) hw4
    have hx34 := below_one hw4
    have hA4 := hA3.below hx34 hA3.lt
    have hx4 := hx3.trans (hx34.mono hx3.size)
    have ho4 := ho3.below hx34
    clear hw4 hA3 ho3 hx34
    go_wp2_with fail
    have hal4 : Hid (∀ o, Below w4.heap.size w4 (w4.alloc o)) := fun o => (Below.refl _ _).alloc (Nat.le_refl _) _
    refine (HC1.out _ (hx4.trans ((hal4.out _).mono hx4.size))).mono ?_
    rintro e w5 ⟨rfl, hw5⟩
    have hC5 := own_one (xs := [.int .i64 pa, .int .i64 pb, .bool pc, .bool pd]) hw5
    have hx45 := below_one hw5
    have hA5 := hA4.below hx45 hA4.lt
    have hB5 := hB4.below hx45 hB4.lt
    have hx5 := hx4.trans (hx45.mono hx4.size)
    have ho5 := ho4.below hx45
    clear hw5 hA4 hB4 ho4 hx45
    go_wp2_with fail
    refine (HC2.out _ _ _ ho5).mono ?_
    rintro e w6 ⟨rfl, hw6⟩
    obtain ⟨a0, a1, a2', a3⟩ := (hA5.below hw6 hA5.lt).quad
    obtain ⟨b0, b1, b2, b3⟩ := (hB5.below hw6 hB5.lt).quad
    obtain ⟨c0, c1, c2, c3⟩ := (hC5.below hw6 hC5.lt).quad
    have za := (hA5.below hw6 hA5.lt).lt
    have zb := (hB5.below hw6 hB5.lt).lt
    have zc := (hC5.below hw6 hC5.lt).lt
    have hx6 := hx5.trans (hw6.mono hx5.size)
    clear hA5 hB5 hC5 hw6 ho5
    by_cases hp1 : f ≤ p
    · by_cases hp2 : p < t
      · obtain ⟨rfl, hq'⟩ := hO3.out (iv_iff.2 ⟨hp1, hp2⟩)
        obtain ⟨rfl, rfl, rfl, rfl⟩ : pa = r ∧ pb = k ∧ pc = g ∧ pd = s := by simpa using hq'
        clear hq'
        go_wp2
        go_ret
        exact ⟨ret_bool (by simp), hx6⟩
      · have hq' := hO4.out (by rw [Bool.eq_false_iff, ne_eq, iv_iff]; omega)
        obtain ⟨rfl, rfl, rfl, rfl⟩ : oa = pa ∧ ob = pb ∧ oc = pc ∧ od = pd := by simpa using hq'
        clear hq'
        go_wp2
        go_ret
        exact ⟨ret_bool (by simp), hx6⟩
    · have hq' := hO4.out (by rw [Bool.eq_false_iff, ne_eq, iv_iff]; omega)
      obtain ⟨rfl, rfl, rfl, rfl⟩ : oa = pa ∧ ob = pb ∧ oc = pc ∧ od = pd := by simpa using hq'
      clear hq'
      go_wp2
      go_ret
      exact ⟨ret_bool (by simp), hx6⟩
  · have hne : (chE l f t != 0) = true := by rw [bne_iff_ne]; exact h0
    obtain ⟨va, vn, rfl⟩ := h.form
    generalize chE l f t = E at *
    generalize chL (tuA (r, k, g, s)) l f t = M at *
    clear h h0
    go_enter Try.func7, Try.ntmps7
    go_wp2_with fail
    refine (Hal.out _).mono ?_
    rintro e w1 ⟨rfl, hw1⟩
    have hx1 := below_one hw1
    have hA1 := own_one (xs := [.int .i64 r, .int .i64 k, .bool g, .bool s]) hw1
    clear hw1
    obtain ⟨c0, c1, c2, c3⟩ := hA1.quad
    have hz1 := hA1.lt
    go_wp2_with fail
    refine (HT.out _ hx1).mono ?_
    rintro e w2 ⟨v2, rfl, ho2, hw2⟩
    go_wp2
    go_ret
    exact ⟨rfl, hx1.trans (hw2.mono hx1.size)⟩

end Go.Proofs.Ytkiamhmjkpbaiae
