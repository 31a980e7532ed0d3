/- The walk of framewardenkeep.RegionOnce: it returns true, and nothing that was there is written. -/
import Derived.Test.YtkiamhmjkpbaiaeAlive8
namespace Go.Proofs.Ytkiamhmjkpbaiae
open Go.RowKit
set_option linter.unusedSimpArgs false
set_option linter.unusedVariables false

theorem ch_len (φ : A4 → A4) (l : List R6) (f t : Int) : (chL φ l f t).length ≤ 64 := by
  by_cases h : chE l f t = 0
  · obtain ⟨-, -, -, p4, -⟩ := ch_pages (φ := φ) h
    exact good_len p4
  · unfold chL
    rw [if_neg h]
    simp

theorem cut_len (l : List R6) (f t : Int) : (cutL l f t).length ≤ 64 := by
  by_cases h : wrE l f t = 0
  · obtain ⟨-, -, p4, -⟩ := cut_pages h
    exact good_len p4
  · unfold cutL
    rw [if_neg h]
    simp

theorem seA_once (a : A4) : seA (seA a) = seA a := rfl

set_option maxHeartbeats 6000000 in
theorem regionOnce_any (v : Value) (l : List R6) (f t o q : Int) (r k : Int) (g s : Bool) (w : World) (h : IsRecs encR 3518437208780 w v l) (_ : ∀ x ∈ l, wfR x) (_ : (Lit.int .i64 f).wf = true) (_ : (Lit.int .i64 t).wf = true) (_ : (Lit.int .i64 o).wf = true) (_ : (Lit.int .i64 q).wf = true) :
    Calls Try.prog 8 #[v, .int .i64 f, .int .i64 t, .int .i64 o, .int .i64 q, .agg #[.int .i64 r, .int .i64 k, .bool g, .bool s]] w fun e w' => e = .returned (.bool true) ∧ Below w.heap.size w w' := by
  have Hal : Hid (∀ w1, Calls Try.prog 29 #[] w1 fun e w' => e = .returned (.bool true) ∧ Below w1.heap.size w1 w') := alive8_any
  have HS1 : Hid (∀ w1, Below w.heap.size w w1 → Calls Try.prog 25 #[v, .int .i64 f, .int .i64 t] w1 fun e w' => ∃ v', e = .returned (lstV v' (chE l f t)) ∧ OwnR 31 6 encR w1.heap.size w' v' (chL seA l f t) ∧ Below w1.heap.size w1 w') := fun w1 hb => seal_any v l f t _ w1 (h.below hb) (by decide)
  have HS2 : Hid (∀ w1 v1 base, OwnR 31 6 encR base w1 v1 (chL seA l f t) → Calls Try.prog 25 #[v1, .int .i64 f, .int .i64 t] w1 fun e w' => ∃ v', e = .returned (lstV v' (chE (chL seA l f t) f t)) ∧ OwnR 31 6 encR w1.heap.size w' v' (chL seA (chL seA l f t) f t) ∧ Below w1.heap.size w1 w') := fun w1 v1 base ho => seal_any v1 _ f t 64 w1 (ho.recs (ch_len _ _ _ _)) (by decide)
  have HC1 : Hid (∀ w1, Below w.heap.size w w1 → Calls Try.prog 18 #[v, .int .i64 f, .int .i64 t] w1 fun e w' => ∃ v', e = .returned (lstV v' (wrE l f t)) ∧ OwnR 31 6 encR w1.heap.size w' v' (cutL l f t) ∧ Below w1.heap.size w1 w') := fun w1 hb => cut_any v l f t _ w1 (h.below hb) (by decide)
  have HC2 : Hid (∀ w1 v1 base, OwnR 31 6 encR base w1 v1 (cutL l f t) → Calls Try.prog 18 #[v1, .int .i64 f, .int .i64 t] w1 fun e w' => ∃ v', e = .returned (lstV v' (wrE (cutL l f t) f t)) ∧ OwnR 31 6 encR w1.heap.size w' v' (cutL (cutL l f t) f t) ∧ Below w1.heap.size w1 w') := fun w1 v1 base ho => cut_any v1 _ f t 64 w1 (ho.recs (cut_len _ _ _)) (by decide)
  have HT1 : Hid (∀ w1 v1 base, OwnR 31 6 encR base w1 v1 (chL seA l f t) → Calls Try.prog 23 #[v1, .int .i64 o, .int .i64 q, .agg #[.int .i64 r, .int .i64 k, .bool g, .bool s]] w1 fun e w' => ∃ v', e = .returned (lstV v' (chE (chL seA l f t) o q)) ∧ OwnR 31 6 encR w1.heap.size w' v' (chL (tuA (r, k, g, s)) (chL seA l f t) o q) ∧ Below w1.heap.size w1 w') := fun w1 v1 base ho => turn_any v1 _ o q r k g s 64 w1 (ho.recs (ch_len _ _ _ _)) (by decide)
  have HT2 : Hid (∀ w1, Below w.heap.size w w1 → Calls Try.prog 23 #[v, .int .i64 o, .int .i64 q, .agg #[.int .i64 r, .int .i64 k, .bool g, .bool s]] w1 fun e w' => ∃ v', e = .returned (lstV v' (chE l o q)) ∧ OwnR 31 6 encR w1.heap.size w' v' (chL (tuA (r, k, g, s)) l o q) ∧ Below w1.heap.size w1 w') := fun w1 hb => turn_any v l o q r k g s _ w1 (h.below hb) (by decide)
  have HS3 : Hid (∀ w1 v1 base, OwnR 31 6 encR base w1 v1 (chL (tuA (r, k, g, s)) l o q) → Calls Try.prog 25 #[v1, .int .i64 f, .int .i64 t] w1 fun e w' => ∃ v', e = .returned (lstV v' (chE (chL (tuA (r, k, g, s)) l o q) f t)) ∧ OwnR 31 6 encR w1.heap.size w' v' (chL seA (chL (tuA (r, k, g, s)) l o q) f t) ∧ Below w1.heap.size w1 w') := fun w1 v1 base ho => seal_any v1 _ f t 64 w1 (ho.recs (ch_len _ _ _ _)) (by decide)
  have HEq : Hid (∀ w1 v1 v2 M b1 b2, OwnR 31 6 encR b1 w1 v1 M → OwnR 31 6 encR b2 w1 v2 M → M.length ≤ 64 → Calls Try.prog 20 #[v1, v2] w1 fun e w' => e = .returned (.bool true) ∧ Below w1.heap.size w1 w') := fun w1 v1 v2 M b1 b2 h1 h2 hl => requal_is v1 v2 M M 64 w1 (h1.recs hl) (h2.recs hl) (by decide) (by simp)
  have HB : Hid (∀ b w1 w2 v1 M, OwnR 31 6 encR b w1 v1 M → Below w1.heap.size w1 w2 → OwnR 31 6 encR b w2 v1 M) := fun b w1 w2 v1 M h hb => h.below hb
  have hS : (chL seA l f t).length ≤ 64 := ch_len _ _ _ _
  have hC : (cutL l f t).length ≤ 64 := cut_len _ _ _
  have hU : (chL (tuA (r, k, g, s)) (chL seA l f t) o q).length ≤ 64 := ch_len _ _ _ _
  have X1 : Hid ((chE l f t) = 0 → (chE (chL seA l f t) f t) = 0 ∧ (chL seA (chL seA l f t) f t) = (chL seA l f t)) := fun h => seal_once seA_once h
  have X2 : Hid ((wrE l f t) = 0 → (wrE (cutL l f t) f t) = 0 ∧ (cutL (cutL l f t) f t) = (cutL l f t)) := fun h => cut_once h
  have X3 : Hid ((chE l f t) = 0 → (chE (chL seA l f t) o q) = 0 → ¬ (t > o ∧ q > f) → (chE l o q) = 0 ∧ (chE (chL (tuA (r, k, g, s)) l o q) f t) = 0 ∧ (chL (tuA (r, k, g, s)) (chL seA l f t) o q) = (chL seA (chL (tuA (r, k, g, s)) l o q) f t)) := fun h h2 h3 => apart_said h h2 h3
  generalize (chE (chL (tuA (r, k, g, s)) l o q) f t) = K1 at *
  generalize (chE (chL seA l f t) o q) = I1 at *
  generalize (chE l o q) = J1 at *
  generalize (wrE (cutL l f t) f t) = H1 at *
  generalize (chE (chL seA l f t) f t) = F1 at *
  generalize (chL seA (chL (tuA (r, k, g, s)) l o q) f t) = W2 at *
  generalize (chL (tuA (r, k, g, s)) (chL seA l f t) o q) = U at *
  generalize (chL seA (chL seA l f t) f t) = T at *
  generalize (cutL (cutL l f t) f t) = D at *
  generalize (chL (tuA (r, k, g, s)) l o q) = V at *
  generalize (chL seA l f t) = S at *
  generalize (cutL l f t) = C at *
  generalize (wrE l f t) = G1 at *
  generalize (chE l f t) = E1 at *
  obtain ⟨va, vn, rfl⟩ := h.form
  clear h
  obtain ⟨n, hn⟩ : ∃ n, Hid (n = l.length) := ⟨_, rfl⟩
  rw [← hn.out] at HS1 HC1 HT2 ⊢
  by_cases hE : E1 = 0
  · obtain ⟨rfl, rfl⟩ := X1.out hE
    subst hE
    by_cases hG : G1 = 0
    · obtain ⟨rfl, rfl⟩ := X2.out hG
      subst hG
      by_cases ho1 : o < t
      · by_cases ho2 : f < q
        · skip
          go_enter Try.func8, Try.ntmps8
          go_wp2_with fail
          refine (Hal.out _).mono ?_
          rintro e w1 ⟨rfl, hw1⟩
          have hx1 := below_one hw1
          have hA1 := own_one (xs := [.int .i64 r, .int .i64 k, .bool g, .bool s]) hw1
          clear hw1
          go_wp2_with fail
          refine (HS1.out _ hx1).mono ?_
          rintro e w2 ⟨v2, rfl, ho2, hw2⟩
          obtain ⟨a2, m2, rfl⟩ := ho2.form
          have hx2 := hx1.trans (hw2.mono hx1.size)
          have hA2 := hA1.below hw2 hA1.lt
          clear hA1 hw2
          go_wp2_with fail
          refine (HS2.out _ _ _ ho2).mono ?_
          rintro e w3 ⟨v3, rfl, ho3, hw3⟩
          obtain ⟨a3, m3, rfl⟩ := ho3.form
          have hx3 := hx2.trans (hw3.mono hx2.size)
          have hA3 := hA2.below hw3 hA2.lt
          have hoS3 := HB.out _ _ _ _ _ ho2 hw3
          clear hA2 hw3 ho2
          go_wp2_with fail
          refine (HC1.out _ hx3).mono ?_
          rintro e w4 ⟨v4, rfl, ho4, hw4⟩
          obtain ⟨a4, m4, rfl⟩ := ho4.form
          have hx4 := hx3.trans (hw4.mono hx3.size)
          have hA4 := hA3.below hw4 hA3.lt
          have hoS4 := HB.out _ _ _ _ _ hoS3 hw4
          have hoT4 := HB.out _ _ _ _ _ ho3 hw4
          clear hA3 hw4 ho3 hoS3
          go_wp2_with fail
          refine (HC2.out _ _ _ ho4).mono ?_
          rintro e w5 ⟨v5, rfl, ho5, hw5⟩
          obtain ⟨a5, m5, rfl⟩ := ho5.form
          have hx5 := hx4.trans (hw5.mono hx4.size)
          have hA5 := hA4.below hw5 hA4.lt
          have hoS5 := HB.out _ _ _ _ _ hoS4 hw5
          have hoT5 := HB.out _ _ _ _ _ hoT4 hw5
          have hoC5 := HB.out _ _ _ _ _ ho4 hw5
          clear hA4 hw5 ho4 hoS4 hoT4
          go_wp2_with fail
          refine (HEq.out _ _ _ _ _ _ hoS5 hoT5 hS).mono ?_
          rintro e w6 ⟨rfl, hw6⟩
          have hx6 := hx5.trans (hw6.mono hx5.size)
          have hA6 := hA5.below hw6 hA5.lt
          have hoS6 := HB.out _ _ _ _ _ hoS5 hw6
          have hoC6 := HB.out _ _ _ _ _ hoC5 hw6
          have ho56 := HB.out _ _ _ _ _ ho5 hw6
          go_wp2_with fail
          refine (HEq.out _ _ _ _ _ _ hoC6 ho56 hC).mono ?_
          rintro e w7 ⟨rfl, hw7⟩
          have hx7 := hx6.trans (hw7.mono hx6.size)
          have hA7 := hA6.below hw7 hA6.lt
          have hoS7 := HB.out _ _ _ _ _ hoS6 hw7
          go_wp2
          go_ret
          exact ⟨rfl, hx7⟩
        · have hap : ¬ (t > o ∧ q > f) := by omega
          have X4 : Hid (I1 = 0 → J1 = 0 ∧ K1 = 0 ∧ U = W2) := fun hi => X3.out rfl hi hap
          clear hap
          by_cases hI : I1 = 0
          · obtain ⟨rfl, rfl, rfl⟩ := X4.out hI
            subst hI
            go_enter Try.func8, Try.ntmps8
            go_wp2_with fail
            refine (Hal.out _).mono ?_
            rintro e w1 ⟨rfl, hw1⟩
            have hx1 := below_one hw1
            have hA1 := own_one (xs := [.int .i64 r, .int .i64 k, .bool g, .bool s]) hw1
            clear hw1
            go_wp2_with fail
            refine (HS1.out _ hx1).mono ?_
            rintro e w2 ⟨v2, rfl, ho2, hw2⟩
            obtain ⟨a2, m2, rfl⟩ := ho2.form
            have hx2 := hx1.trans (hw2.mono hx1.size)
            have hA2 := hA1.below hw2 hA1.lt
            clear hA1 hw2
            go_wp2_with fail
            refine (HS2.out _ _ _ ho2).mono ?_
            rintro e w3 ⟨v3, rfl, ho3, hw3⟩
            obtain ⟨a3, m3, rfl⟩ := ho3.form
            have hx3 := hx2.trans (hw3.mono hx2.size)
            have hA3 := hA2.below hw3 hA2.lt
            have hoS3 := HB.out _ _ _ _ _ ho2 hw3
            clear hA2 hw3 ho2
            go_wp2_with fail
            refine (HC1.out _ hx3).mono ?_
            rintro e w4 ⟨v4, rfl, ho4, hw4⟩
            obtain ⟨a4, m4, rfl⟩ := ho4.form
            have hx4 := hx3.trans (hw4.mono hx3.size)
            have hA4 := hA3.below hw4 hA3.lt
            have hoS4 := HB.out _ _ _ _ _ hoS3 hw4
            have hoT4 := HB.out _ _ _ _ _ ho3 hw4
            clear hA3 hw4 ho3 hoS3
            go_wp2_with fail
            refine (HC2.out _ _ _ ho4).mono ?_
            rintro e w5 ⟨v5, rfl, ho5, hw5⟩
            obtain ⟨a5, m5, rfl⟩ := ho5.form
            have hx5 := hx4.trans (hw5.mono hx4.size)
            have hA5 := hA4.below hw5 hA4.lt
            have hoS5 := HB.out _ _ _ _ _ hoS4 hw5
            have hoT5 := HB.out _ _ _ _ _ hoT4 hw5
            have hoC5 := HB.out _ _ _ _ _ ho4 hw5
            clear hA4 hw5 ho4 hoS4 hoT4
            go_wp2_with fail
            refine (HEq.out _ _ _ _ _ _ hoS5 hoT5 hS).mono ?_
            rintro e w6 ⟨rfl, hw6⟩
            have hx6 := hx5.trans (hw6.mono hx5.size)
            have hA6 := hA5.below hw6 hA5.lt
            have hoS6 := HB.out _ _ _ _ _ hoS5 hw6
            have hoC6 := HB.out _ _ _ _ _ hoC5 hw6
            have ho56 := HB.out _ _ _ _ _ ho5 hw6
            go_wp2_with fail
            refine (HEq.out _ _ _ _ _ _ hoC6 ho56 hC).mono ?_
            rintro e w7 ⟨rfl, hw7⟩
            have hx7 := hx6.trans (hw7.mono hx6.size)
            have hA7 := hA6.below hw7 hA6.lt
            have hoS7 := HB.out _ _ _ _ _ hoS6 hw7
            obtain ⟨c0, c1, c2, c3⟩ := hA7.quad
            have hz := hA7.lt
            go_wp2_with fail
            refine (HT1.out _ _ _ hoS7).mono ?_
            rintro e w8 ⟨v8, rfl, ho8, hw8⟩
            obtain ⟨a8, m8, rfl⟩ := ho8.form
            have hx8 := hx7.trans (hw8.mono hx7.size)
            have hA8 := hA7.below hw8 hA7.lt
            obtain ⟨d0, d1, d2, d3⟩ := hA8.quad
            have hz8 := hA8.lt
            clear c0 c1 c2 c3 hz
            go_wp2_with fail
            refine (HT2.out _ hx8).mono ?_
            rintro e w9 ⟨v9, rfl, ho9, hw9⟩
            obtain ⟨a9, m9, rfl⟩ := ho9.form
            have hx9 := hx8.trans (hw9.mono hx8.size)
            have hoU9 := HB.out _ _ _ _ _ ho8 hw9
            go_wp2_with fail
            refine (HS3.out _ _ _ ho9).mono ?_
            rintro e w10 ⟨v10, rfl, ho10, hw10⟩
            obtain ⟨a10, m10, rfl⟩ := ho10.form
            have hx10 := hx9.trans (hw10.mono hx9.size)
            have hoU10 := HB.out _ _ _ _ _ hoU9 hw10
            go_wp2_with fail
            refine (HEq.out _ _ _ _ _ _ hoU10 ho10 hU).mono ?_
            rintro e w11 ⟨rfl, hw11⟩
            have hx11 := hx10.trans (hw11.mono hx10.size)
            go_wp2
            go_ret
            exact ⟨rfl, hx11⟩
          · have hIn : (I1 != 0) = true := by rw [bne_iff_ne]; exact hI
            go_enter Try.func8, Try.ntmps8
            go_wp2_with fail
            refine (Hal.out _).mono ?_
            rintro e w1 ⟨rfl, hw1⟩
            have hx1 := below_one hw1
            have hA1 := own_one (xs := [.int .i64 r, .int .i64 k, .bool g, .bool s]) hw1
            clear hw1
            go_wp2_with fail
            refine (HS1.out _ hx1).mono ?_
            rintro e w2 ⟨v2, rfl, ho2, hw2⟩
            obtain ⟨a2, m2, rfl⟩ := ho2.form
            have hx2 := hx1.trans (hw2.mono hx1.size)
            have hA2 := hA1.below hw2 hA1.lt
            clear hA1 hw2
            go_wp2_with fail
            refine (HS2.out _ _ _ ho2).mono ?_
            rintro e w3 ⟨v3, rfl, ho3, hw3⟩
            obtain ⟨a3, m3, rfl⟩ := ho3.form
            have hx3 := hx2.trans (hw3.mono hx2.size)
            have hA3 := hA2.below hw3 hA2.lt
            have hoS3 := HB.out _ _ _ _ _ ho2 hw3
            clear hA2 hw3 ho2
            go_wp2_with fail
            refine (HC1.out _ hx3).mono ?_
            rintro e w4 ⟨v4, rfl, ho4, hw4⟩
            obtain ⟨a4, m4, rfl⟩ := ho4.form
            have hx4 := hx3.trans (hw4.mono hx3.size)
            have hA4 := hA3.below hw4 hA3.lt
            have hoS4 := HB.out _ _ _ _ _ hoS3 hw4
            have hoT4 := HB.out _ _ _ _ _ ho3 hw4
            clear hA3 hw4 ho3 hoS3
            go_wp2_with fail
            refine (HC2.out _ _ _ ho4).mono ?_
            rintro e w5 ⟨v5, rfl, ho5, hw5⟩
            obtain ⟨a5, m5, rfl⟩ := ho5.form
            have hx5 := hx4.trans (hw5.mono hx4.size)
            have hA5 := hA4.below hw5 hA4.lt
            have hoS5 := HB.out _ _ _ _ _ hoS4 hw5
            have hoT5 := HB.out _ _ _ _ _ hoT4 hw5
            have hoC5 := HB.out _ _ _ _ _ ho4 hw5
            clear hA4 hw5 ho4 hoS4 hoT4
            go_wp2_with fail
            refine (HEq.out _ _ _ _ _ _ hoS5 hoT5 hS).mono ?_
            rintro e w6 ⟨rfl, hw6⟩
            have hx6 := hx5.trans (hw6.mono hx5.size)
            have hA6 := hA5.below hw6 hA5.lt
            have hoS6 := HB.out _ _ _ _ _ hoS5 hw6
            have hoC6 := HB.out _ _ _ _ _ hoC5 hw6
            have ho56 := HB.out _ _ _ _ _ ho5 hw6
            go_wp2_with fail
            refine (HEq.out _ _ _ _ _ _ hoC6 ho56 hC).mono ?_
            rintro e w7 ⟨rfl, hw7⟩
            have hx7 := hx6.trans (hw7.mono hx6.size)
            have hA7 := hA6.below hw7 hA6.lt
            have hoS7 := HB.out _ _ _ _ _ hoS6 hw7
            obtain ⟨c0, c1, c2, c3⟩ := hA7.quad
            have hz := hA7.lt
            go_wp2_with fail
            refine (HT1.out _ _ _ hoS7).mono ?_
            rintro e w8 ⟨v8, rfl, ho8, hw8⟩
            obtain ⟨a8, m8, rfl⟩ := ho8.form
            have hx8 := hx7.trans (hw8.mono hx7.size)
            have hA8 := hA7.below hw8 hA7.lt
            obtain ⟨d0, d1, d2, d3⟩ := hA8.quad
            have hz8 := hA8.lt
            clear c0 c1 c2 c3 hz
            go_wp2_with fail
            refine (HT2.out _ hx8).mono ?_
            rintro e w9 ⟨v9, rfl, ho9, hw9⟩
            obtain ⟨a9, m9, rfl⟩ := ho9.form
            have hx9 := hx8.trans (hw9.mono hx8.size)
            have hoU9 := HB.out _ _ _ _ _ ho8 hw9
            go_wp2_with fail
            refine (HS3.out _ _ _ ho9).mono ?_
            rintro e w10 ⟨v10, rfl, ho10, hw10⟩
            obtain ⟨a10, m10, rfl⟩ := ho10.form
            have hx10 := hx9.trans (hw10.mono hx9.size)
            have hoU10 := HB.out _ _ _ _ _ hoU9 hw10
            go_wp2
            go_ret
            exact ⟨rfl, hx10⟩
      · have hap : ¬ (t > o ∧ q > f) := by omega
        have X4 : Hid (I1 = 0 → J1 = 0 ∧ K1 = 0 ∧ U = W2) := fun hi => X3.out rfl hi hap
        clear hap
        by_cases hI : I1 = 0
        · obtain ⟨rfl, rfl, rfl⟩ := X4.out hI
          subst hI
          go_enter Try.func8, Try.ntmps8
          go_wp2_with fail
          refine (Hal.out _).mono ?_
          rintro e w1 ⟨rfl, hw1⟩
          have hx1 := below_one hw1
          have hA1 := own_one (xs := [.int .i64 r, .int .i64 k, .bool g, .bool s]) hw1
          clear hw1
          go_wp2_with fail
          refine (HS1.out _ hx1).mono ?_
          rintro e w2 ⟨v2, rfl, ho2, hw2⟩
          obtain ⟨a2, m2, rfl⟩ := ho2.form
          have hx2 := hx1.trans (hw2.mono hx1.size)
          have hA2 := hA1.below hw2 hA1.lt
          clear hA1 hw2
          go_wp2_with fail
          refine (HS2.out _ _ _ ho2).mono ?_
          rintro e w3 ⟨v3, rfl, ho3, hw3⟩
          obtain ⟨a3, m3, rfl⟩ := ho3.form
          have hx3 := hx2.trans (hw3.mono hx2.size)
          have hA3 := hA2.below hw3 hA2.lt
          have hoS3 := HB.out _ _ _ _ _ ho2 hw3
          clear hA2 hw3 ho2
          go_wp2_with fail
          refine (HC1.out _ hx3).mono ?_
          rintro e w4 ⟨v4, rfl, ho4, hw4⟩
          obtain ⟨a4, m4, rfl⟩ := ho4.form
          have hx4 := hx3.trans (hw4.mono hx3.size)
          have hA4 := hA3.below hw4 hA3.lt
          have hoS4 := HB.out _ _ _ _ _ hoS3 hw4
          have hoT4 := HB.out _ _ _ _ _ ho3 hw4
          clear hA3 hw4 ho3 hoS3
          go_wp2_with fail
          refine (HC2.out _ _ _ ho4).mono ?_
          rintro e w5 ⟨v5, rfl, ho5, hw5⟩
          obtain ⟨a5, m5, rfl⟩ := ho5.form
          have hx5 := hx4.trans (hw5.mono hx4.size)
          have hA5 := hA4.below hw5 hA4.lt
          have hoS5 := HB.out _ _ _ _ _ hoS4 hw5
          have hoT5 := HB.out _ _ _ _ _ hoT4 hw5
          have hoC5 := HB.out _ _ _ _ _ ho4 hw5
          clear hA4 hw5 ho4 hoS4 hoT4
          go_wp2_with fail
          refine (HEq.out _ _ _ _ _ _ hoS5 hoT5 hS).mono ?_
          rintro e w6 ⟨rfl, hw6⟩
          have hx6 := hx5.trans (hw6.mono hx5.size)
          have hA6 := hA5.below hw6 hA5.lt
          have hoS6 := HB.out _ _ _ _ _ hoS5 hw6
          have hoC6 := HB.out _ _ _ _ _ hoC5 hw6
          have ho56 := HB.out _ _ _ _ _ ho5 hw6
          go_wp2_with fail
          refine (HEq.out _ _ _ _ _ _ hoC6 ho56 hC).mono ?_
          rintro e w7 ⟨rfl, hw7⟩
          have hx7 := hx6.trans (hw7.mono hx6.size)
          have hA7 := hA6.below hw7 hA6.lt
          have hoS7 := HB.out _ _ _ _ _ hoS6 hw7
          obtain ⟨c0, c1, c2, c3⟩ := hA7.quad
          have hz := hA7.lt
          go_wp2_with fail
          refine (HT1.out _ _ _ hoS7).mono ?_
          rintro e w8 ⟨v8, rfl, ho8, hw8⟩
          obtain ⟨a8, m8, rfl⟩ := ho8.form
          have hx8 := hx7.trans (hw8.mono hx7.size)
          have hA8 := hA7.below hw8 hA7.lt
          obtain ⟨d0, d1, d2, d3⟩ := hA8.quad
          have hz8 := hA8.lt
          clear c0 c1 c2 c3 hz
          go_wp2_with fail
          refine (HT2.out _ hx8).mono ?_
          rintro e w9 ⟨v9, rfl, ho9, hw9⟩
          obtain ⟨a9, m9, rfl⟩ := ho9.form
          have hx9 := hx8.trans (hw9.mono hx8.size)
          have hoU9 := HB.out _ _ _ _ _ ho8 hw9
          go_wp2_with fail
          refine (HS3.out _ _ _ ho9).mono ?_
          rintro e w10 ⟨v10, rfl, ho10, hw10⟩
          obtain ⟨a10, m10, rfl⟩ := ho10.form
          have hx10 := hx9.trans (hw10.mono hx9.size)
          have hoU10 := HB.out _ _ _ _ _ hoU9 hw10
          go_wp2_with fail
          refine (HEq.out _ _ _ _ _ _ hoU10 ho10 hU).mono ?_
          rintro e w11 ⟨rfl, hw11⟩
          have hx11 := hx10.trans (hw11.mono hx10.size)
          go_wp2
          go_ret
          exact ⟨rfl, hx11⟩
        · have hIn : (I1 != 0) = true := by rw [bne_iff_ne]; exact hI
          go_enter Try.func8, Try.ntmps8
          go_wp2_with fail
          refine (Hal.out _).mono ?_
          rintro e w1 ⟨rfl, hw1⟩
          have hx1 := below_one hw1
          have hA1 := own_one (xs := [.int .i64 r, .int .i64 k, .bool g, .bool s]) hw1
          clear hw1
          go_wp2_with fail
          refine (HS1.out _ hx1).mono ?_
          rintro e w2 ⟨v2, rfl, ho2, hw2⟩
          obtain ⟨a2, m2, rfl⟩ := ho2.form
          have hx2 := hx1.trans (hw2.mono hx1.size)
          have hA2 := hA1.below hw2 hA1.lt
          clear hA1 hw2
          go_wp2_with fail
          refine (HS2.out _ _ _ ho2).mono ?_
          rintro e w3 ⟨v3, rfl, ho3, hw3⟩
          obtain ⟨a3, m3, rfl⟩ := ho3.form
          have hx3 := hx2.trans (hw3.mono hx2.size)
          have hA3 := hA2.below hw3 hA2.lt
          have hoS3 := HB.out _ _ _ _ _ ho2 hw3
          clear hA2 hw3 ho2
          go_wp2_with fail
          refine (HC1.out _ hx3).mono ?_
          rintro e w4 ⟨v4, rfl, ho4, hw4⟩
          obtain ⟨a4, m4, rfl⟩ := ho4.form
          have hx4 := hx3.trans (hw4.mono hx3.size)
          have hA4 := hA3.below hw4 hA3.lt
          have hoS4 := HB.out _ _ _ _ _ hoS3 hw4
          have hoT4 := HB.out _ _ _ _ _ ho3 hw4
          clear hA3 hw4 ho3 hoS3
          go_wp2_with fail
          refine (HC2.out _ _ _ ho4).mono ?_
          rintro e w5 ⟨v5, rfl, ho5, hw5⟩
          obtain ⟨a5, m5, rfl⟩ := ho5.form
          have hx5 := hx4.trans (hw5.mono hx4.size)
          have hA5 := hA4.below hw5 hA4.lt
          have hoS5 := HB.out _ _ _ _ _ hoS4 hw5
          have hoT5 := HB.out _ _ _ _ _ hoT4 hw5
          have hoC5 := HB.out _ _ _ _ _ ho4 hw5
          clear hA4 hw5 ho4 hoS4 hoT4
          go_wp2_with fail
          refine (HEq.out _ _ _ _ _ _ hoS5 hoT5 hS).mono ?_
          rintro e w6 ⟨rfl, hw6⟩
          have hx6 := hx5.trans (hw6.mono hx5.size)
          have hA6 := hA5.below hw6 hA5.lt
          have hoS6 := HB.out _ _ _ _ _ hoS5 hw6
          have hoC6 := HB.out _ _ _ _ _ hoC5 hw6
          have ho56 := HB.out _ _ _ _ _ ho5 hw6
          go_wp2_with fail
          refine (HEq.out _ _ _ _ _ _ hoC6 ho56 hC).mono ?_
          rintro e w7 ⟨rfl, hw7⟩
          have hx7 := hx6.trans (hw7.mono hx6.size)
          have hA7 := hA6.below hw7 hA6.lt
          have hoS7 := HB.out _ _ _ _ _ hoS6 hw7
          obtain ⟨c0, c1, c2, c3⟩ := hA7.quad
          have hz := hA7.lt
          go_wp2_with fail
          refine (HT1.out _ _ _ hoS7).mono ?_
          rintro e w8 ⟨v8, rfl, ho8, hw8⟩
          obtain ⟨a8, m8, rfl⟩ := ho8.form
          have hx8 := hx7.trans (hw8.mono hx7.size)
          have hA8 := hA7.below hw8 hA7.lt
          obtain ⟨d0, d1, d2, d3⟩ := hA8.quad
          have hz8 := hA8.lt
          clear c0 c1 c2 c3 hz
          go_wp2_with fail
          refine (HT2.out _ hx8).mono ?_
          rintro e w9 ⟨v9, rfl, ho9, hw9⟩
          obtain ⟨a9, m9, rfl⟩ := ho9.form
          have hx9 := hx8.trans (hw9.mono hx8.size)
          have hoU9 := HB.out _ _ _ _ _ ho8 hw9
          go_wp2_with fail
          refine (HS3.out _ _ _ ho9).mono ?_
          rintro e w10 ⟨v10, rfl, ho10, hw10⟩
          obtain ⟨a10, m10, rfl⟩ := ho10.form
          have hx10 := hx9.trans (hw10.mono hx9.size)
          have hoU10 := HB.out _ _ _ _ _ hoU9 hw10
          go_wp2
          go_ret
          exact ⟨rfl, hx10⟩
    · have hGf : (G1 == 0) = false := by rw [beq_eq_false_iff_ne]; exact hG
      by_cases ho1 : o < t
      · by_cases ho2 : f < q
        · skip
          go_enter Try.func8, Try.ntmps8
          go_wp2_with fail
          refine (Hal.out _).mono ?_
          rintro e w1 ⟨rfl, hw1⟩
          have hx1 := below_one hw1
          have hA1 := own_one (xs := [.int .i64 r, .int .i64 k, .bool g, .bool s]) hw1
          clear hw1
          go_wp2_with fail
          refine (HS1.out _ hx1).mono ?_
          rintro e w2 ⟨v2, rfl, ho2, hw2⟩
          obtain ⟨a2, m2, rfl⟩ := ho2.form
          have hx2 := hx1.trans (hw2.mono hx1.size)
          have hA2 := hA1.below hw2 hA1.lt
          clear hA1 hw2
          go_wp2_with fail
          refine (HS2.out _ _ _ ho2).mono ?_
          rintro e w3 ⟨v3, rfl, ho3, hw3⟩
          obtain ⟨a3, m3, rfl⟩ := ho3.form
          have hx3 := hx2.trans (hw3.mono hx2.size)
          have hA3 := hA2.below hw3 hA2.lt
          have hoS3 := HB.out _ _ _ _ _ ho2 hw3
          clear hA2 hw3 ho2
          go_wp2_with fail
          refine (HC1.out _ hx3).mono ?_
          rintro e w4 ⟨v4, rfl, ho4, hw4⟩
          obtain ⟨a4, m4, rfl⟩ := ho4.form
          have hx4 := hx3.trans (hw4.mono hx3.size)
          have hA4 := hA3.below hw4 hA3.lt
          have hoS4 := HB.out _ _ _ _ _ hoS3 hw4
          have hoT4 := HB.out _ _ _ _ _ ho3 hw4
          clear hA3 hw4 ho3 hoS3
          go_wp2_with fail
          refine (HC2.out _ _ _ ho4).mono ?_
          rintro e w5 ⟨v5, rfl, ho5, hw5⟩
          obtain ⟨a5, m5, rfl⟩ := ho5.form
          have hx5 := hx4.trans (hw5.mono hx4.size)
          have hA5 := hA4.below hw5 hA4.lt
          have hoS5 := HB.out _ _ _ _ _ hoS4 hw5
          have hoT5 := HB.out _ _ _ _ _ hoT4 hw5
          have hoC5 := HB.out _ _ _ _ _ ho4 hw5
          clear hA4 hw5 ho4 hoS4 hoT4
          go_wp2_with fail
          refine (HEq.out _ _ _ _ _ _ hoS5 hoT5 hS).mono ?_
          rintro e w6 ⟨rfl, hw6⟩
          have hx6 := hx5.trans (hw6.mono hx5.size)
          have hA6 := hA5.below hw6 hA5.lt
          have hoS6 := HB.out _ _ _ _ _ hoS5 hw6
          have hoC6 := HB.out _ _ _ _ _ hoC5 hw6
          have ho56 := HB.out _ _ _ _ _ ho5 hw6
          go_wp2
          go_ret
          exact ⟨rfl, hx6⟩
        · have hap : ¬ (t > o ∧ q > f) := by omega
          have X4 : Hid (I1 = 0 → J1 = 0 ∧ K1 = 0 ∧ U = W2) := fun hi => X3.out rfl hi hap
          clear hap
          by_cases hI : I1 = 0
          · obtain ⟨rfl, rfl, rfl⟩ := X4.out hI
            subst hI
            go_enter Try.func8, Try.ntmps8
            go_wp2_with fail
            refine (Hal.out _).mono ?_
            rintro e w1 ⟨rfl, hw1⟩
            have hx1 := below_one hw1
            have hA1 := own_one (xs := [.int .i64 r, .int .i64 k, .bool g, .bool s]) hw1
            clear hw1
            go_wp2_with fail
            refine (HS1.out _ hx1).mono ?_
            rintro e w2 ⟨v2, rfl, ho2, hw2⟩
            obtain ⟨a2, m2, rfl⟩ := ho2.form
            have hx2 := hx1.trans (hw2.mono hx1.size)
            have hA2 := hA1.below hw2 hA1.lt
            clear hA1 hw2
            go_wp2_with fail
            refine (HS2.out _ _ _ ho2).mono ?_
            rintro e w3 ⟨v3, rfl, ho3, hw3⟩
            obtain ⟨a3, m3, rfl⟩ := ho3.form
            have hx3 := hx2.trans (hw3.mono hx2.size)
            have hA3 := hA2.below hw3 hA2.lt
            have hoS3 := HB.out _ _ _ _ _ ho2 hw3
            clear hA2 hw3 ho2
            go_wp2_with fail
            refine (HC1.out _ hx3).mono ?_
            rintro e w4 ⟨v4, rfl, ho4, hw4⟩
            obtain ⟨a4, m4, rfl⟩ := ho4.form
            have hx4 := hx3.trans (hw4.mono hx3.size)
            have hA4 := hA3.below hw4 hA3.lt
            have hoS4 := HB.out _ _ _ _ _ hoS3 hw4
            have hoT4 := HB.out _ _ _ _ _ ho3 hw4
            clear hA3 hw4 ho3 hoS3
            go_wp2_with fail
            refine (HC2.out _ _ _ ho4).mono ?_
            rintro e w5 ⟨v5, rfl, ho5, hw5⟩
            obtain ⟨a5, m5, rfl⟩ := ho5.form
            have hx5 := hx4.trans (hw5.mono hx4.size)
            have hA5 := hA4.below hw5 hA4.lt
            have hoS5 := HB.out _ _ _ _ _ hoS4 hw5
            have hoT5 := HB.out _ _ _ _ _ hoT4 hw5
            have hoC5 := HB.out _ _ _ _ _ ho4 hw5
            clear hA4 hw5 ho4 hoS4 hoT4
            go_wp2_with fail
            refine (HEq.out _ _ _ _ _ _ hoS5 hoT5 hS).mono ?_
            rintro e w6 ⟨rfl, hw6⟩
            have hx6 := hx5.trans (hw6.mono hx5.size)
            have hA6 := hA5.below hw6 hA5.lt
            have hoS6 := HB.out _ _ _ _ _ hoS5 hw6
            have hoC6 := HB.out _ _ _ _ _ hoC5 hw6
            have ho56 := HB.out _ _ _ _ _ ho5 hw6
            obtain ⟨c0, c1, c2, c3⟩ := hA6.quad
            have hz := hA6.lt
            go_wp2_with fail
            refine (HT1.out _ _ _ hoS6).mono ?_
            rintro e w8 ⟨v8, rfl, ho8, hw8⟩
            obtain ⟨a8, m8, rfl⟩ := ho8.form
            have hx8 := hx6.trans (hw8.mono hx6.size)
            have hA8 := hA6.below hw8 hA6.lt
            obtain ⟨d0, d1, d2, d3⟩ := hA8.quad
            have hz8 := hA8.lt
            clear c0 c1 c2 c3 hz
            go_wp2_with fail
            refine (HT2.out _ hx8).mono ?_
            rintro e w9 ⟨v9, rfl, ho9, hw9⟩
            obtain ⟨a9, m9, rfl⟩ := ho9.form
            have hx9 := hx8.trans (hw9.mono hx8.size)
            have hoU9 := HB.out _ _ _ _ _ ho8 hw9
            go_wp2_with fail
            refine (HS3.out _ _ _ ho9).mono ?_
            rintro e w10 ⟨v10, rfl, ho10, hw10⟩
            obtain ⟨a10, m10, rfl⟩ := ho10.form
            have hx10 := hx9.trans (hw10.mono hx9.size)
            have hoU10 := HB.out _ _ _ _ _ hoU9 hw10
            go_wp2_with fail
            refine (HEq.out _ _ _ _ _ _ hoU10 ho10 hU).mono ?_
            rintro e w11 ⟨rfl, hw11⟩
            have hx11 := hx10.trans (hw11.mono hx10.size)
            go_wp2
            go_ret
            exact ⟨rfl, hx11⟩
          · have hIn : (I1 != 0) = true := by rw [bne_iff_ne]; exact hI
            go_enter Try.func8, Try.ntmps8
            go_wp2_with fail
            refine (Hal.out _).mono ?_
            rintro e w1 ⟨rfl, hw1⟩
            have hx1 := below_one hw1
            have hA1 := own_one (xs := [.int .i64 r, .int .i64 k, .bool g, .bool s]) hw1
            clear hw1
            go_wp2_with fail
            refine (HS1.out _ hx1).mono ?_
            rintro e w2 ⟨v2, rfl, ho2, hw2⟩
            obtain ⟨a2, m2, rfl⟩ := ho2.form
            have hx2 := hx1.trans (hw2.mono hx1.size)
            have hA2 := hA1.below hw2 hA1.lt
            clear hA1 hw2
            go_wp2_with fail
            refine (HS2.out _ _ _ ho2).mono ?_
            rintro e w3 ⟨v3, rfl, ho3, hw3⟩
            obtain ⟨a3, m3, rfl⟩ := ho3.form
            have hx3 := hx2.trans (hw3.mono hx2.size)
            have hA3 := hA2.below hw3 hA2.lt
            have hoS3 := HB.out _ _ _ _ _ ho2 hw3
            clear hA2 hw3 ho2
            go_wp2_with fail
            refine (HC1.out _ hx3).mono ?_
            rintro e w4 ⟨v4, rfl, ho4, hw4⟩
            obtain ⟨a4, m4, rfl⟩ := ho4.form
            have hx4 := hx3.trans (hw4.mono hx3.size)
            have hA4 := hA3.below hw4 hA3.lt
            have hoS4 := HB.out _ _ _ _ _ hoS3 hw4
            have hoT4 := HB.out _ _ _ _ _ ho3 hw4
            clear hA3 hw4 ho3 hoS3
            go_wp2_with fail
            refine (HC2.out _ _ _ ho4).mono ?_
            rintro e w5 ⟨v5, rfl, ho5, hw5⟩
            obtain ⟨a5, m5, rfl⟩ := ho5.form
            have hx5 := hx4.trans (hw5.mono hx4.size)
            have hA5 := hA4.below hw5 hA4.lt
            have hoS5 := HB.out _ _ _ _ _ hoS4 hw5
            have hoT5 := HB.out _ _ _ _ _ hoT4 hw5
            have hoC5 := HB.out _ _ _ _ _ ho4 hw5
            clear hA4 hw5 ho4 hoS4 hoT4
            go_wp2_with fail
            refine (HEq.out _ _ _ _ _ _ hoS5 hoT5 hS).mono ?_
            rintro e w6 ⟨rfl, hw6⟩
            have hx6 := hx5.trans (hw6.mono hx5.size)
            have hA6 := hA5.below hw6 hA5.lt
            have hoS6 := HB.out _ _ _ _ _ hoS5 hw6
            have hoC6 := HB.out _ _ _ _ _ hoC5 hw6
            have ho56 := HB.out _ _ _ _ _ ho5 hw6
            obtain ⟨c0, c1, c2, c3⟩ := hA6.quad
            have hz := hA6.lt
            go_wp2_with fail
            refine (HT1.out _ _ _ hoS6).mono ?_
            rintro e w8 ⟨v8, rfl, ho8, hw8⟩
            obtain ⟨a8, m8, rfl⟩ := ho8.form
            have hx8 := hx6.trans (hw8.mono hx6.size)
            have hA8 := hA6.below hw8 hA6.lt
            obtain ⟨d0, d1, d2, d3⟩ := hA8.quad
            have hz8 := hA8.lt
            clear c0 c1 c2 c3 hz
            go_wp2_with fail
            refine (HT2.out _ hx8).mono ?_
            rintro e w9 ⟨v9, rfl, ho9, hw9⟩
            obtain ⟨a9, m9, rfl⟩ := ho9.form
            have hx9 := hx8.trans (hw9.mono hx8.size)
            have hoU9 := HB.out _ _ _ _ _ ho8 hw9
            go_wp2_with fail
            refine (HS3.out _ _ _ ho9).mono ?_
            rintro e w10 ⟨v10, rfl, ho10, hw10⟩
            obtain ⟨a10, m10, rfl⟩ := ho10.form
            have hx10 := hx9.trans (hw10.mono hx9.size)
            have hoU10 := HB.out _ _ _ _ _ hoU9 hw10
            go_wp2
            go_ret
            exact ⟨rfl, hx10⟩
      · have hap : ¬ (t > o ∧ q > f) := by omega
        have X4 : Hid (I1 = 0 → J1 = 0 ∧ K1 = 0 ∧ U = W2) := fun hi => X3.out rfl hi hap
        clear hap
        by_cases hI : I1 = 0
        · obtain ⟨rfl, rfl, rfl⟩ := X4.out hI
          subst hI
          go_enter Try.func8, Try.ntmps8
          go_wp2_with fail
          refine (Hal.out _).mono ?_
          rintro e w1 ⟨rfl, hw1⟩
          have hx1 := below_one hw1
          have hA1 := own_one (xs := [.int .i64 r, .int .i64 k, .bool g, .bool s]) hw1
          clear hw1
          go_wp2_with fail
          refine (HS1.out _ hx1).mono ?_
          rintro e w2 ⟨v2, rfl, ho2, hw2⟩
          obtain ⟨a2, m2, rfl⟩ := ho2.form
          have hx2 := hx1.trans (hw2.mono hx1.size)
          have hA2 := hA1.below hw2 hA1.lt
          clear hA1 hw2
          go_wp2_with fail
          refine (HS2.out _ _ _ ho2).mono ?_
          rintro e w3 ⟨v3, rfl, ho3, hw3⟩
          obtain ⟨a3, m3, rfl⟩ := ho3.form
          have hx3 := hx2.trans (hw3.mono hx2.size)
          have hA3 := hA2.below hw3 hA2.lt
          have hoS3 := HB.out _ _ _ _ _ ho2 hw3
          clear hA2 hw3 ho2
          go_wp2_with fail
          refine (HC1.out _ hx3).mono ?_
          rintro e w4 ⟨v4, rfl, ho4, hw4⟩
          obtain ⟨a4, m4, rfl⟩ := ho4.form
          have hx4 := hx3.trans (hw4.mono hx3.size)
          have hA4 := hA3.below hw4 hA3.lt
          have hoS4 := HB.out _ _ _ _ _ hoS3 hw4
          have hoT4 := HB.out _ _ _ _ _ ho3 hw4
          clear hA3 hw4 ho3 hoS3
          go_wp2_with fail
          refine (HC2.out _ _ _ ho4).mono ?_
          rintro e w5 ⟨v5, rfl, ho5, hw5⟩
          obtain ⟨a5, m5, rfl⟩ := ho5.form
          have hx5 := hx4.trans (hw5.mono hx4.size)
          have hA5 := hA4.below hw5 hA4.lt
          have hoS5 := HB.out _ _ _ _ _ hoS4 hw5
          have hoT5 := HB.out _ _ _ _ _ hoT4 hw5
          have hoC5 := HB.out _ _ _ _ _ ho4 hw5
          clear hA4 hw5 ho4 hoS4 hoT4
          go_wp2_with fail
          refine (HEq.out _ _ _ _ _ _ hoS5 hoT5 hS).mono ?_
          rintro e w6 ⟨rfl, hw6⟩
          have hx6 := hx5.trans (hw6.mono hx5.size)
          have hA6 := hA5.below hw6 hA5.lt
          have hoS6 := HB.out _ _ _ _ _ hoS5 hw6
          have hoC6 := HB.out _ _ _ _ _ hoC5 hw6
          have ho56 := HB.out _ _ _ _ _ ho5 hw6
          obtain ⟨c0, c1, c2, c3⟩ := hA6.quad
          have hz := hA6.lt
          go_wp2_with fail
          refine (HT1.out _ _ _ hoS6).mono ?_
          rintro e w8 ⟨v8, rfl, ho8, hw8⟩
          obtain ⟨a8, m8, rfl⟩ := ho8.form
          have hx8 := hx6.trans (hw8.mono hx6.size)
          have hA8 := hA6.below hw8 hA6.lt
          obtain ⟨d0, d1, d2, d3⟩ := hA8.quad
          have hz8 := hA8.lt
          clear c0 c1 c2 c3 hz
          go_wp2_with fail
          refine (HT2.out _ hx8).mono ?_
          rintro e w9 ⟨v9, rfl, ho9, hw9⟩
          obtain ⟨a9, m9, rfl⟩ := ho9.form
          have hx9 := hx8.trans (hw9.mono hx8.size)
          have hoU9 := HB.out _ _ _ _ _ ho8 hw9
          go_wp2_with fail
          refine (HS3.out _ _ _ ho9).mono ?_
          rintro e w10 ⟨v10, rfl, ho10, hw10⟩
          obtain ⟨a10, m10, rfl⟩ := ho10.form
          have hx10 := hx9.trans (hw10.mono hx9.size)
          have hoU10 := HB.out _ _ _ _ _ hoU9 hw10
          go_wp2_with fail
          refine (HEq.out _ _ _ _ _ _ hoU10 ho10 hU).mono ?_
          rintro e w11 ⟨rfl, hw11⟩
          have hx11 := hx10.trans (hw11.mono hx10.size)
          go_wp2
          go_ret
          exact ⟨rfl, hx11⟩
        · have hIn : (I1 != 0) = true := by rw [bne_iff_ne]; exact hI
          go_enter Try.func8, Try.ntmps8
          go_wp2_with fail
          refine (Hal.out _).mono ?_
          rintro e w1 ⟨rfl, hw1⟩
          have hx1 := below_one hw1
          have hA1 := own_one (xs := [.int .i64 r, .int .i64 k, .bool g, .bool s]) hw1
          clear hw1
          go_wp2_with fail
          refine (HS1.out _ hx1).mono ?_
          rintro e w2 ⟨v2, rfl, ho2, hw2⟩
          obtain ⟨a2, m2, rfl⟩ := ho2.form
          have hx2 := hx1.trans (hw2.mono hx1.size)
          have hA2 := hA1.below hw2 hA1.lt
          clear hA1 hw2
          go_wp2_with fail
          refine (HS2.out _ _ _ ho2).mono ?_
          rintro e w3 ⟨v3, rfl, ho3, hw3⟩
          obtain ⟨a3, m3, rfl⟩ := ho3.form
          have hx3 := hx2.trans (hw3.mono hx2.size)
          have hA3 := hA2.below hw3 hA2.lt
          have hoS3 := HB.out _ _ _ _ _ ho2 hw3
          clear hA2 hw3 ho2
          go_wp2_with fail
          refine (HC1.out _ hx3).mono ?_
          rintro e w4 ⟨v4, rfl, ho4, hw4⟩
          obtain ⟨a4, m4, rfl⟩ := ho4.form
          have hx4 := hx3.trans (hw4.mono hx3.size)
          have hA4 := hA3.below hw4 hA3.lt
          have hoS4 := HB.out _ _ _ _ _ hoS3 hw4
          have hoT4 := HB.out _ _ _ _ _ ho3 hw4
          clear hA3 hw4 ho3 hoS3
          go_wp2_with fail
          refine (HC2.out _ _ _ ho4).mono ?_
          rintro e w5 ⟨v5, rfl, ho5, hw5⟩
          obtain ⟨a5, m5, rfl⟩ := ho5.form
          have hx5 := hx4.trans (hw5.mono hx4.size)
          have hA5 := hA4.below hw5 hA4.lt
          have hoS5 := HB.out _ _ _ _ _ hoS4 hw5
          have hoT5 := HB.out _ _ _ _ _ hoT4 hw5
          have hoC5 := HB.out _ _ _ _ _ ho4 hw5
          clear hA4 hw5 ho4 hoS4 hoT4
          go_wp2_with fail
          refine (HEq.out _ _ _ _ _ _ hoS5 hoT5 hS).mono ?_
          rintro e w6 ⟨rfl, hw6⟩
          have hx6 := hx5.trans (hw6.mono hx5.size)
          have hA6 := hA5.below hw6 hA5.lt
          have hoS6 := HB.out _ _ _ _ _ hoS5 hw6
          have hoC6 := HB.out _ _ _ _ _ hoC5 hw6
          have ho56 := HB.out _ _ _ _ _ ho5 hw6
          obtain ⟨c0, c1, c2, c3⟩ := hA6.quad
          have hz := hA6.lt
          go_wp2_with fail
          refine (HT1.out _ _ _ hoS6).mono ?_
          rintro e w8 ⟨v8, rfl, ho8, hw8⟩
          obtain ⟨a8, m8, rfl⟩ := ho8.form
          have hx8 := hx6.trans (hw8.mono hx6.size)
          have hA8 := hA6.below hw8 hA6.lt
          obtain ⟨d0, d1, d2, d3⟩ := hA8.quad
          have hz8 := hA8.lt
          clear c0 c1 c2 c3 hz
          go_wp2_with fail
          refine (HT2.out _ hx8).mono ?_
          rintro e w9 ⟨v9, rfl, ho9, hw9⟩
          obtain ⟨a9, m9, rfl⟩ := ho9.form
          have hx9 := hx8.trans (hw9.mono hx8.size)
          have hoU9 := HB.out _ _ _ _ _ ho8 hw9
          go_wp2_with fail
          refine (HS3.out _ _ _ ho9).mono ?_
          rintro e w10 ⟨v10, rfl, ho10, hw10⟩
          obtain ⟨a10, m10, rfl⟩ := ho10.form
          have hx10 := hx9.trans (hw10.mono hx9.size)
          have hoU10 := HB.out _ _ _ _ _ hoU9 hw10
          go_wp2
          go_ret
          exact ⟨rfl, hx10⟩
  · have hEn : (E1 != 0) = true := by rw [bne_iff_ne]; exact hE
    have hEf : (E1 == 0) = false := by rw [beq_eq_false_iff_ne]; exact hE
    by_cases hG : G1 = 0
    · obtain ⟨rfl, rfl⟩ := X2.out hG
      subst hG
      by_cases ho1 : o < t
      · by_cases ho2 : f < q
        · skip
          go_enter Try.func8, Try.ntmps8
          go_wp2_with fail
          refine (Hal.out _).mono ?_
          rintro e w1 ⟨rfl, hw1⟩
          have hx1 := below_one hw1
          have hA1 := own_one (xs := [.int .i64 r, .int .i64 k, .bool g, .bool s]) hw1
          clear hw1
          go_wp2_with fail
          refine (HS1.out _ hx1).mono ?_
          rintro e w2 ⟨v2, rfl, ho2, hw2⟩
          obtain ⟨a2, m2, rfl⟩ := ho2.form
          have hx2 := hx1.trans (hw2.mono hx1.size)
          have hA2 := hA1.below hw2 hA1.lt
          clear hA1 hw2
          go_wp2_with fail
          refine (HS2.out _ _ _ ho2).mono ?_
          rintro e w3 ⟨v3, rfl, ho3, hw3⟩
          obtain ⟨a3, m3, rfl⟩ := ho3.form
          have hx3 := hx2.trans (hw3.mono hx2.size)
          have hA3 := hA2.below hw3 hA2.lt
          have hoS3 := HB.out _ _ _ _ _ ho2 hw3
          clear hA2 hw3 ho2
          go_wp2_with fail
          refine (HC1.out _ hx3).mono ?_
          rintro e w4 ⟨v4, rfl, ho4, hw4⟩
          obtain ⟨a4, m4, rfl⟩ := ho4.form
          have hx4 := hx3.trans (hw4.mono hx3.size)
          have hA4 := hA3.below hw4 hA3.lt
          have hoS4 := HB.out _ _ _ _ _ hoS3 hw4
          have hoT4 := HB.out _ _ _ _ _ ho3 hw4
          clear hA3 hw4 ho3 hoS3
          go_wp2_with fail
          refine (HC2.out _ _ _ ho4).mono ?_
          rintro e w5 ⟨v5, rfl, ho5, hw5⟩
          obtain ⟨a5, m5, rfl⟩ := ho5.form
          have hx5 := hx4.trans (hw5.mono hx4.size)
          have hA5 := hA4.below hw5 hA4.lt
          have hoS5 := HB.out _ _ _ _ _ hoS4 hw5
          have hoT5 := HB.out _ _ _ _ _ hoT4 hw5
          have hoC5 := HB.out _ _ _ _ _ ho4 hw5
          clear hA4 hw5 ho4 hoS4 hoT4
          go_wp2_with fail
          refine (HEq.out _ _ _ _ _ _ hoC5 ho5 hC).mono ?_
          rintro e w7 ⟨rfl, hw7⟩
          have hx7 := hx5.trans (hw7.mono hx5.size)
          have hA7 := hA5.below hw7 hA5.lt
          have hoS7 := HB.out _ _ _ _ _ hoS5 hw7
          go_wp2
          go_ret
          exact ⟨rfl, hx7⟩
        · have hap : ¬ (t > o ∧ q > f) := by omega
          clear hap
          go_enter Try.func8, Try.ntmps8
          go_wp2_with fail
          refine (Hal.out _).mono ?_
          rintro e w1 ⟨rfl, hw1⟩
          have hx1 := below_one hw1
          have hA1 := own_one (xs := [.int .i64 r, .int .i64 k, .bool g, .bool s]) hw1
          clear hw1
          go_wp2_with fail
          refine (HS1.out _ hx1).mono ?_
          rintro e w2 ⟨v2, rfl, ho2, hw2⟩
          obtain ⟨a2, m2, rfl⟩ := ho2.form
          have hx2 := hx1.trans (hw2.mono hx1.size)
          have hA2 := hA1.below hw2 hA1.lt
          clear hA1 hw2
          go_wp2_with fail
          refine (HS2.out _ _ _ ho2).mono ?_
          rintro e w3 ⟨v3, rfl, ho3, hw3⟩
          obtain ⟨a3, m3, rfl⟩ := ho3.form
          have hx3 := hx2.trans (hw3.mono hx2.size)
          have hA3 := hA2.below hw3 hA2.lt
          have hoS3 := HB.out _ _ _ _ _ ho2 hw3
          clear hA2 hw3 ho2
          go_wp2_with fail
          refine (HC1.out _ hx3).mono ?_
          rintro e w4 ⟨v4, rfl, ho4, hw4⟩
          obtain ⟨a4, m4, rfl⟩ := ho4.form
          have hx4 := hx3.trans (hw4.mono hx3.size)
          have hA4 := hA3.below hw4 hA3.lt
          have hoS4 := HB.out _ _ _ _ _ hoS3 hw4
          have hoT4 := HB.out _ _ _ _ _ ho3 hw4
          clear hA3 hw4 ho3 hoS3
          go_wp2_with fail
          refine (HC2.out _ _ _ ho4).mono ?_
          rintro e w5 ⟨v5, rfl, ho5, hw5⟩
          obtain ⟨a5, m5, rfl⟩ := ho5.form
          have hx5 := hx4.trans (hw5.mono hx4.size)
          have hA5 := hA4.below hw5 hA4.lt
          have hoS5 := HB.out _ _ _ _ _ hoS4 hw5
          have hoT5 := HB.out _ _ _ _ _ hoT4 hw5
          have hoC5 := HB.out _ _ _ _ _ ho4 hw5
          clear hA4 hw5 ho4 hoS4 hoT4
          go_wp2_with fail
          refine (HEq.out _ _ _ _ _ _ hoC5 ho5 hC).mono ?_
          rintro e w7 ⟨rfl, hw7⟩
          have hx7 := hx5.trans (hw7.mono hx5.size)
          have hA7 := hA5.below hw7 hA5.lt
          have hoS7 := HB.out _ _ _ _ _ hoS5 hw7
          obtain ⟨c0, c1, c2, c3⟩ := hA7.quad
          have hz := hA7.lt
          go_wp2_with fail
          refine (HT1.out _ _ _ hoS7).mono ?_
          rintro e w8 ⟨v8, rfl, ho8, hw8⟩
          obtain ⟨a8, m8, rfl⟩ := ho8.form
          have hx8 := hx7.trans (hw8.mono hx7.size)
          have hA8 := hA7.below hw8 hA7.lt
          obtain ⟨d0, d1, d2, d3⟩ := hA8.quad
          have hz8 := hA8.lt
          clear c0 c1 c2 c3 hz
          go_wp2_with fail
          refine (HT2.out _ hx8).mono ?_
          rintro e w9 ⟨v9, rfl, ho9, hw9⟩
          obtain ⟨a9, m9, rfl⟩ := ho9.form
          have hx9 := hx8.trans (hw9.mono hx8.size)
          have hoU9 := HB.out _ _ _ _ _ ho8 hw9
          go_wp2_with fail
          refine (HS3.out _ _ _ ho9).mono ?_
          rintro e w10 ⟨v10, rfl, ho10, hw10⟩
          obtain ⟨a10, m10, rfl⟩ := ho10.form
          have hx10 := hx9.trans (hw10.mono hx9.size)
          have hoU10 := HB.out _ _ _ _ _ hoU9 hw10
          go_wp2
          go_ret
          exact ⟨rfl, hx10⟩
      · have hap : ¬ (t > o ∧ q > f) := by omega
        clear hap
        go_enter Try.func8, Try.ntmps8
        go_wp2_with fail
        refine (Hal.out _).mono ?_
        rintro e w1 ⟨rfl, hw1⟩
        have hx1 := below_one hw1
        have hA1 := own_one (xs := [.int .i64 r, .int .i64 k, .bool g, .bool s]) hw1
        clear hw1
        go_wp2_with fail
        refine (HS1.out _ hx1).mono ?_
        rintro e w2 ⟨v2, rfl, ho2, hw2⟩
        obtain ⟨a2, m2, rfl⟩ := ho2.form
        have hx2 := hx1.trans (hw2.mono hx1.size)
        have hA2 := hA1.below hw2 hA1.lt
        clear hA1 hw2
        go_wp2_with fail
        refine (HS2.out _ _ _ ho2).mono ?_
        rintro e w3 ⟨v3, rfl, ho3, hw3⟩
        obtain ⟨a3, m3, rfl⟩ := ho3.form
        have hx3 := hx2.trans (hw3.mono hx2.size)
        have hA3 := hA2.below hw3 hA2.lt
        have hoS3 := HB.out _ _ _ _ _ ho2 hw3
        clear hA2 hw3 ho2
        go_wp2_with fail
        refine (HC1.out _ hx3).mono ?_
        rintro e w4 ⟨v4, rfl, ho4, hw4⟩
        obtain ⟨a4, m4, rfl⟩ := ho4.form
        have hx4 := hx3.trans (hw4.mono hx3.size)
        have hA4 := hA3.below hw4 hA3.lt
        have hoS4 := HB.out _ _ _ _ _ hoS3 hw4
        have hoT4 := HB.out _ _ _ _ _ ho3 hw4
        clear hA3 hw4 ho3 hoS3
        go_wp2_with fail
        refine (HC2.out _ _ _ ho4).mono ?_
        rintro e w5 ⟨v5, rfl, ho5, hw5⟩
        obtain ⟨a5, m5, rfl⟩ := ho5.form
        have hx5 := hx4.trans (hw5.mono hx4.size)
        have hA5 := hA4.below hw5 hA4.lt
        have hoS5 := HB.out _ _ _ _ _ hoS4 hw5
        have hoT5 := HB.out _ _ _ _ _ hoT4 hw5
        have hoC5 := HB.out _ _ _ _ _ ho4 hw5
        clear hA4 hw5 ho4 hoS4 hoT4
        go_wp2_with fail
        refine (HEq.out _ _ _ _ _ _ hoC5 ho5 hC).mono ?_
        rintro e w7 ⟨rfl, hw7⟩
        have hx7 := hx5.trans (hw7.mono hx5.size)
        have hA7 := hA5.below hw7 hA5.lt
        have hoS7 := HB.out _ _ _ _ _ hoS5 hw7
        obtain ⟨c0, c1, c2, c3⟩ := hA7.quad
        have hz := hA7.lt
        go_wp2_with fail
        refine (HT1.out _ _ _ hoS7).mono ?_
        rintro e w8 ⟨v8, rfl, ho8, hw8⟩
        obtain ⟨a8, m8, rfl⟩ := ho8.form
        have hx8 := hx7.trans (hw8.mono hx7.size)
        have hA8 := hA7.below hw8 hA7.lt
        obtain ⟨d0, d1, d2, d3⟩ := hA8.quad
        have hz8 := hA8.lt
        clear c0 c1 c2 c3 hz
        go_wp2_with fail
        refine (HT2.out _ hx8).mono ?_
        rintro e w9 ⟨v9, rfl, ho9, hw9⟩
        obtain ⟨a9, m9, rfl⟩ := ho9.form
        have hx9 := hx8.trans (hw9.mono hx8.size)
        have hoU9 := HB.out _ _ _ _ _ ho8 hw9
        go_wp2_with fail
        refine (HS3.out _ _ _ ho9).mono ?_
        rintro e w10 ⟨v10, rfl, ho10, hw10⟩
        obtain ⟨a10, m10, rfl⟩ := ho10.form
        have hx10 := hx9.trans (hw10.mono hx9.size)
        have hoU10 := HB.out _ _ _ _ _ hoU9 hw10
        go_wp2
        go_ret
        exact ⟨rfl, hx10⟩
    · have hGf : (G1 == 0) = false := by rw [beq_eq_false_iff_ne]; exact hG
      by_cases ho1 : o < t
      · by_cases ho2 : f < q
        · skip
          go_enter Try.func8, Try.ntmps8
          go_wp2_with fail
          refine (Hal.out _).mono ?_
          rintro e w1 ⟨rfl, hw1⟩
          have hx1 := below_one hw1
          have hA1 := own_one (xs := [.int .i64 r, .int .i64 k, .bool g, .bool s]) hw1
          clear hw1
          go_wp2_with fail
          refine (HS1.out _ hx1).mono ?_
          rintro e w2 ⟨v2, rfl, ho2, hw2⟩
          obtain ⟨a2, m2, rfl⟩ := ho2.form
          have hx2 := hx1.trans (hw2.mono hx1.size)
          have hA2 := hA1.below hw2 hA1.lt
          clear hA1 hw2
          go_wp2_with fail
          refine (HS2.out _ _ _ ho2).mono ?_
          rintro e w3 ⟨v3, rfl, ho3, hw3⟩
          obtain ⟨a3, m3, rfl⟩ := ho3.form
          have hx3 := hx2.trans (hw3.mono hx2.size)
          have hA3 := hA2.below hw3 hA2.lt
          have hoS3 := HB.out _ _ _ _ _ ho2 hw3
          clear hA2 hw3 ho2
          go_wp2_with fail
          refine (HC1.out _ hx3).mono ?_
          rintro e w4 ⟨v4, rfl, ho4, hw4⟩
          obtain ⟨a4, m4, rfl⟩ := ho4.form
          have hx4 := hx3.trans (hw4.mono hx3.size)
          have hA4 := hA3.below hw4 hA3.lt
          have hoS4 := HB.out _ _ _ _ _ hoS3 hw4
          have hoT4 := HB.out _ _ _ _ _ ho3 hw4
          clear hA3 hw4 ho3 hoS3
          go_wp2_with fail
          refine (HC2.out _ _ _ ho4).mono ?_
          rintro e w5 ⟨v5, rfl, ho5, hw5⟩
          obtain ⟨a5, m5, rfl⟩ := ho5.form
          have hx5 := hx4.trans (hw5.mono hx4.size)
          have hA5 := hA4.below hw5 hA4.lt
          have hoS5 := HB.out _ _ _ _ _ hoS4 hw5
          have hoT5 := HB.out _ _ _ _ _ hoT4 hw5
          have hoC5 := HB.out _ _ _ _ _ ho4 hw5
          clear hA4 hw5 ho4 hoS4 hoT4
          go_wp2
          go_ret
          exact ⟨rfl, hx5⟩
        · have hap : ¬ (t > o ∧ q > f) := by omega
          clear hap
          go_enter Try.func8, Try.ntmps8
          go_wp2_with fail
          refine (Hal.out _).mono ?_
          rintro e w1 ⟨rfl, hw1⟩
          have hx1 := below_one hw1
          have hA1 := own_one (xs := [.int .i64 r, .int .i64 k, .bool g, .bool s]) hw1
          clear hw1
          go_wp2_with fail
          refine (HS1.out _ hx1).mono ?_
          rintro e w2 ⟨v2, rfl, ho2, hw2⟩
          obtain ⟨a2, m2, rfl⟩ := ho2.form
          have hx2 := hx1.trans (hw2.mono hx1.size)
          have hA2 := hA1.below hw2 hA1.lt
          clear hA1 hw2
          go_wp2_with fail
          refine (HS2.out _ _ _ ho2).mono ?_
          rintro e w3 ⟨v3, rfl, ho3, hw3⟩
          obtain ⟨a3, m3, rfl⟩ := ho3.form
          have hx3 := hx2.trans (hw3.mono hx2.size)
          have hA3 := hA2.below hw3 hA2.lt
          have hoS3 := HB.out _ _ _ _ _ ho2 hw3
          clear hA2 hw3 ho2
          go_wp2_with fail
          refine (HC1.out _ hx3).mono ?_
          rintro e w4 ⟨v4, rfl, ho4, hw4⟩
          obtain ⟨a4, m4, rfl⟩ := ho4.form
          have hx4 := hx3.trans (hw4.mono hx3.size)
          have hA4 := hA3.below hw4 hA3.lt
          have hoS4 := HB.out _ _ _ _ _ hoS3 hw4
          have hoT4 := HB.out _ _ _ _ _ ho3 hw4
          clear hA3 hw4 ho3 hoS3
          go_wp2_with fail
          refine (HC2.out _ _ _ ho4).mono ?_
          rintro e w5 ⟨v5, rfl, ho5, hw5⟩
          obtain ⟨a5, m5, rfl⟩ := ho5.form
          have hx5 := hx4.trans (hw5.mono hx4.size)
          have hA5 := hA4.below hw5 hA4.lt
          have hoS5 := HB.out _ _ _ _ _ hoS4 hw5
          have hoT5 := HB.out _ _ _ _ _ hoT4 hw5
          have hoC5 := HB.out _ _ _ _ _ ho4 hw5
          clear hA4 hw5 ho4 hoS4 hoT4
          obtain ⟨c0, c1, c2, c3⟩ := hA5.quad
          have hz := hA5.lt
          go_wp2_with fail
          refine (HT1.out _ _ _ hoS5).mono ?_
          rintro e w8 ⟨v8, rfl, ho8, hw8⟩
          obtain ⟨a8, m8, rfl⟩ := ho8.form
          have hx8 := hx5.trans (hw8.mono hx5.size)
          have hA8 := hA5.below hw8 hA5.lt
          obtain ⟨d0, d1, d2, d3⟩ := hA8.quad
          have hz8 := hA8.lt
          clear c0 c1 c2 c3 hz
          go_wp2_with fail
          refine (HT2.out _ hx8).mono ?_
          rintro e w9 ⟨v9, rfl, ho9, hw9⟩
          obtain ⟨a9, m9, rfl⟩ := ho9.form
          have hx9 := hx8.trans (hw9.mono hx8.size)
          have hoU9 := HB.out _ _ _ _ _ ho8 hw9
          go_wp2_with fail
          refine (HS3.out _ _ _ ho9).mono ?_
          rintro e w10 ⟨v10, rfl, ho10, hw10⟩
          obtain ⟨a10, m10, rfl⟩ := ho10.form
          have hx10 := hx9.trans (hw10.mono hx9.size)
          have hoU10 := HB.out _ _ _ _ _ hoU9 hw10
          go_wp2
          go_ret
          exact ⟨rfl, hx10⟩
      · have hap : ¬ (t > o ∧ q > f) := by omega
        clear hap
        go_enter Try.func8, Try.ntmps8
        go_wp2_with fail
        refine (Hal.out _).mono ?_
        rintro e w1 ⟨rfl, hw1⟩
        have hx1 := below_one hw1
        have hA1 := own_one (xs := [.int .i64 r, .int .i64 k, .bool g, .bool s]) hw1
        clear hw1
        go_wp2_with fail
        refine (HS1.out _ hx1).mono ?_
        rintro e w2 ⟨v2, rfl, ho2, hw2⟩
        obtain ⟨a2, m2, rfl⟩ := ho2.form
        have hx2 := hx1.trans (hw2.mono hx1.size)
        have hA2 := hA1.below hw2 hA1.lt
        clear hA1 hw2
        go_wp2_with fail
        refine (HS2.out _ _ _ ho2).mono ?_
        rintro e w3 ⟨v3, rfl, ho3, hw3⟩
        obtain ⟨a3, m3, rfl⟩ := ho3.form
        have hx3 := hx2.trans (hw3.mono hx2.size)
        have hA3 := hA2.below hw3 hA2.lt
        have hoS3 := HB.out _ _ _ _ _ ho2 hw3
        clear hA2 hw3 ho2
        go_wp2_with fail
        refine (HC1.out _ hx3).mono ?_
        rintro e w4 ⟨v4, rfl, ho4, hw4⟩
        obtain ⟨a4, m4, rfl⟩ := ho4.form
        have hx4 := hx3.trans (hw4.mono hx3.size)
        have hA4 := hA3.below hw4 hA3.lt
        have hoS4 := HB.out _ _ _ _ _ hoS3 hw4
        have hoT4 := HB.out _ _ _ _ _ ho3 hw4
        clear hA3 hw4 ho3 hoS3
        go_wp2_with fail
        refine (HC2.out _ _ _ ho4).mono ?_
        rintro e w5 ⟨v5, rfl, ho5, hw5⟩
        obtain ⟨a5, m5, rfl⟩ := ho5.form
        have hx5 := hx4.trans (hw5.mono hx4.size)
        have hA5 := hA4.below hw5 hA4.lt
        have hoS5 := HB.out _ _ _ _ _ hoS4 hw5
        have hoT5 := HB.out _ _ _ _ _ hoT4 hw5
        have hoC5 := HB.out _ _ _ _ _ ho4 hw5
        clear hA4 hw5 ho4 hoS4 hoT4
        obtain ⟨c0, c1, c2, c3⟩ := hA5.quad
        have hz := hA5.lt
        go_wp2_with fail
        refine (HT1.out _ _ _ hoS5).mono ?_
        rintro e w8 ⟨v8, rfl, ho8, hw8⟩
        obtain ⟨a8, m8, rfl⟩ := ho8.form
        have hx8 := hx5.trans (hw8.mono hx5.size)
        have hA8 := hA5.below hw8 hA5.lt
        obtain ⟨d0, d1, d2, d3⟩ := hA8.quad
        have hz8 := hA8.lt
        clear c0 c1 c2 c3 hz
        go_wp2_with fail
        refine (HT2.out _ hx8).mono ?_
        rintro e w9 ⟨v9, rfl, ho9, hw9⟩
        obtain ⟨a9, m9, rfl⟩ := ho9.form
        have hx9 := hx8.trans (hw9.mono hx8.size)
        have hoU9 := HB.out _ _ _ _ _ ho8 hw9
        go_wp2_with fail
        refine (HS3.out _ _ _ ho9).mono ?_
        rintro e w10 ⟨v10, rfl, ho10, hw10⟩
        obtain ⟨a10, m10, rfl⟩ := ho10.form
        have hx10 := hx9.trans (hw10.mono hx9.size)
        have hoU10 := HB.out _ _ _ _ _ hoU9 hw10
        go_wp2
        go_ret
        exact ⟨rfl, hx10⟩

end Go.Proofs.Ytkiamhmjkpbaiae
