/- The walk of framewardenlaw.RegionTurns: it returns true, and nothing that was there is written. -/
import Derived.Test.YtkiamhmjkpbaiaeRegTTurn
import Derived.Test.YtkiamhmjkpbaiaeRegTSeal
import Derived.Test.YtkiamhmjkpbaiaeRegTGuard
namespace Go.Proofs.Ytkiamhmjkpbaiae
open Go.RowKit
set_option linter.unusedSimpArgs false
set_option linter.unusedVariables false

theorem ch_len64 (φ : A4 → A4) (l : List R6) (f t : Int) : (chL φ l f t).length ≤ 64 := by
  by_cases h : chE l f t = 0
  · obtain ⟨-, -, -, p4, -⟩ := ch_pages (φ := φ) h
    exact good_len p4
  · unfold chL
    rw [if_neg h]
    simp

/-- Four boxes that were laid one behind the other: what is in them. -/
structure Four (w W : World) (v : Value) (f t r k : Int) (g s : Bool) : Prop where
  a : OwnRow W w.heap.size 22 [v]
  b : OwnRow W (w.heap.size + 1) 3 [.int .i64 f]
  c : OwnRow W (w.heap.size + 2) 3 [.int .i64 t]
  d : OwnRow W (w.heap.size + 3) 24 [.int .i64 r, .int .i64 k, .bool g, .bool s]
  bel : Below w.heap.size w W

theorem Four.next {w W W' : World} {v : Value} {f t r k : Int} {g s : Bool} (h : Four w W v f t r k g s) (hb : Below W.heap.size W W') : Four w W' v f t r k g s :=
  ⟨h.a.below hb h.a.lt, h.b.below hb h.b.lt, h.c.below hb h.c.lt, h.d.below hb h.d.lt, h.bel.trans (hb.mono h.bel.size)⟩

theorem four_new (w : World) (v : Value) (f t r k : Int) (g s : Bool) : Four w ((((w.alloc (.cells #[v] 22)).alloc (.cells #[.int .i64 f] 3)).alloc (.cells #[.int .i64 t] 3)).alloc (.cells #[.int .i64 r, .int .i64 k, .bool g, .bool s] 24)) v f t r k g s := by
  have al : ∀ (W : World) (o : Obj), Below W.heap.size W (W.alloc o) := fun W o => (Below.refl _ _).alloc (Nat.le_refl _) _
  obtain ⟨a2, b2⟩ := own_two (w := w) (xs := [v]) (ys := [.int .i64 f]) (e := 22) (e' := 3) (Below.refl _ _)
  generalize hW : (w.alloc (.cells [v].toArray 22)).alloc (.cells [Value.int .i64 f].toArray 3) = W2 at a2 b2
  have hs2 : W2.heap.size = w.heap.size + 2 := by rw [← hW]; simp
  have hb2 : Below w.heap.size w W2 := by rw [← hW]; exact ((Below.refl _ _).alloc (Nat.le_refl _) _).alloc (by simp) _
  obtain ⟨c4, d4⟩ := own_two (w := W2) (xs := [.int .i64 t]) (ys := [.int .i64 r, .int .i64 k, .bool g, .bool s]) (e := 3) (e' := 24) (Below.refl _ _)
  rw [hs2] at c4 d4
  have h4 : Below W2.heap.size W2 ((W2.alloc (.cells [Value.int .i64 t].toArray 3)).alloc (.cells [Value.int .i64 r, .int .i64 k, .bool g, .bool s].toArray 24)) := ((Below.refl _ _).alloc (Nat.le_refl _) _).alloc (by simp) _
  have a4 := a2.below h4 a2.lt
  have b4 := b2.below h4 b2.lt
  have e4 := hb2.trans (h4.mono hb2.size)
  subst hW
  exact ⟨a4, b4, c4, d4, e4⟩

/-- The cells of the four boxes, one by one. -/
theorem Four.cells {w W : World} {v : Value} {f t r k : Int} {g s : Bool} (h : Four w W v f t r k g s) :
    W.cell? ⟨w.heap.size, 0, none⟩ = some v ∧ W.cell? ⟨w.heap.size + 1, 0, none⟩ = some (.int .i64 f) ∧ W.cell? ⟨w.heap.size + 2, 0, none⟩ = some (.int .i64 t) ∧ (W.cell? ⟨w.heap.size + 3, 0, none⟩ = some (.int .i64 r) ∧ W.cell? ⟨w.heap.size + 3, 1, none⟩ = some (.int .i64 k) ∧ W.cell? ⟨w.heap.size + 3, 2, none⟩ = some (.bool g) ∧ W.cell? ⟨w.heap.size + 3, 3, none⟩ = some (.bool s)) ∧ w.heap.size + 3 < W.heap.size :=
  ⟨by rw [h.a.cell]; rfl, by rw [h.b.cell]; rfl, by rw [h.c.cell]; rfl, h.d.quad, h.d.lt⟩

set_option maxHeartbeats 1600000 in
theorem regionTurns_any (v : Value) (l : List R6) (f t : Int) (r k : Int) (g s : Bool) (w : World) (h : IsRecs encR 3518437208780 w v l) (_ : ∀ x ∈ l, wfR x) (_ : (Lit.int .i64 f).wf = true) (_ : (Lit.int .i64 t).wf = true) :
    Calls Try.prog 5 #[v, .int .i64 f, .int .i64 t, .agg #[.int .i64 r, .int .i64 k, .bool g, .bool s]] w fun e w' => e = .returned (.bool true) ∧ Below w.heap.size w w' := by
  have HA1 : Hid (∀ w1, Four w w1 v f t r k g s → Calls Try.prog 23 #[v, .int .i64 f, .int .i64 t, .agg #[.int .i64 r, .int .i64 k, .bool g, .bool s]] w1 fun e w' => ∃ v', e = .returned (lstV v' (chE l f t)) ∧ OwnR 31 6 encR w1.heap.size w' v' (chL (tuA (r, k, g, s)) l f t) ∧ Below w1.heap.size w1 w') := fun w1 h4 => turn_any v l f t r k g s _ w1 (h.below h4.bel) (by decide)
  have HA2 : Hid (∀ w1, Four w w1 v f t r k g s → Calls Try.prog 21 #[.func (.func 24) #[] #[.pointer (some ⟨w.heap.size + 3, 0, none⟩)], .pointer (some ⟨w.heap.size, 0, none⟩), .pointer (some ⟨w.heap.size + 1, 0, none⟩), .pointer (some ⟨w.heap.size + 2, 0, none⟩)] w1 fun e w' => ∃ v', e = .returned (lstV v' (chE l f t)) ∧ OwnR 31 6 encR w1.heap.size w' v' (chL (tuA (r, k, g, s)) l f t) ∧ Below w1.heap.size w1 w') := fun w1 h4 => each_turn (w.heap.size + 3) r k g s _ _ _ v l f t _ w1 (h.below h4.bel) (by decide) h4.a h4.b h4.c h4.d
  have HB1 : Hid (∀ w1, Four w w1 v f t r k g s → Calls Try.prog 25 #[v, .int .i64 f, .int .i64 t] w1 fun e w' => ∃ v', e = .returned (lstV v' (chE l f t)) ∧ OwnR 31 6 encR w1.heap.size w' v' (chL seA l f t) ∧ Below w1.heap.size w1 w') := fun w1 h4 => seal_any v l f t _ w1 (h.below h4.bel) (by decide)
  have HB2 : Hid (∀ w1, Four w w1 v f t r k g s → Calls Try.prog 21 #[.func (.func 26) #[] #[], .pointer (some ⟨w.heap.size, 0, none⟩), .pointer (some ⟨w.heap.size + 1, 0, none⟩), .pointer (some ⟨w.heap.size + 2, 0, none⟩)] w1 fun e w' => ∃ v', e = .returned (lstV v' (chE l f t)) ∧ OwnR 31 6 encR w1.heap.size w' v' (chL seA l f t) ∧ Below w1.heap.size w1 w') := fun w1 h4 => each_seal _ _ _ v l f t _ w1 (h.below h4.bel) (by decide) h4.a h4.b h4.c
  have HC1 : Hid (∀ w1, Four w w1 v f t r k g s → Calls Try.prog 27 #[v, .int .i64 f, .int .i64 t, .int .i64 r, .int .i64 k] w1 fun e w' => ∃ v', e = .returned (lstV v' (chE l f t)) ∧ OwnR 31 6 encR w1.heap.size w' v' (chL (guA r k) l f t) ∧ Below w1.heap.size w1 w') := fun w1 h4 => guard_any v l f t r k _ w1 (h.below h4.bel) (by decide)
  have HC2 : Hid (∀ w1, Four w w1 v f t r k g s → Calls Try.prog 21 #[.func (.func 28) #[] #[.pointer (some ⟨w.heap.size + 3, 0, none⟩)], .pointer (some ⟨w.heap.size, 0, none⟩), .pointer (some ⟨w.heap.size + 1, 0, none⟩), .pointer (some ⟨w.heap.size + 2, 0, none⟩)] w1 fun e w' => ∃ v', e = .returned (lstV v' (chE l f t)) ∧ OwnR 31 6 encR w1.heap.size w' v' (chL (guA r k) l f t) ∧ Below w1.heap.size w1 w') := fun w1 h4 => each_guard (w.heap.size + 3) r k g s _ _ _ v l f t _ w1 (h.below h4.bel) (by decide) h4.a h4.b h4.c h4.d
  have HEq : Hid (∀ w1 v1 v2 M b1 b2, OwnR 31 6 encR b1 w1 v1 M → OwnR 31 6 encR b2 w1 v2 M → M.length ≤ 64 → Calls Try.prog 20 #[v1, v2] w1 fun e w' => e = .returned (.bool true) ∧ Below w1.heap.size w1 w') := fun w1 v1 v2 M b1 b2 h1 h2 hl => requal_is v1 v2 M M 64 w1 (h1.recs hl) (h2.recs hl) (by decide) (by simp)
  have HO : Hid (∀ b w1 w2 v1 M, OwnR 31 6 encR b w1 v1 M → Below w1.heap.size w1 w2 → OwnR 31 6 encR b w2 v1 M) := fun b w1 w2 v1 M h hb => h.below hb
  have hl1 : (chL (tuA (r, k, g, s)) l f t).length ≤ 64 := ch_len64 _ _ _ _
  have hl2 : (chL seA l f t).length ≤ 64 := ch_len64 _ _ _ _
  have hl3 : (chL (guA r k) l f t).length ≤ 64 := ch_len64 _ _ _ _
  have HFN : Hid (∀ w1 w2, Four w w1 v f t r k g s → Below w1.heap.size w1 w2 → Four w w2 v f t r k g s) := fun w1 w2 h4 hb => h4.next hb
  have HF0 : Hid (Four w _ v f t r k g s) := four_new w v f t r k g s
  obtain ⟨va, vn, rfl⟩ := h.form
  obtain ⟨n, hn⟩ : ∃ n, Hid (n = l.length) := ⟨_, rfl⟩
  rw [← hn.out] at HA1 HA2 HB1 HB2 HC1 HC2 HFN HF0 ⊢
  generalize chE l f t = E at *
  generalize (chL (tuA (r, k, g, s)) l f t) = M1 at *
  generalize (chL seA l f t) = M2 at *
  generalize (chL (guA r k) l f t) = M3 at *
  clear h
  go_enter Try.func5, Try.ntmps5
  go_wp2_with fail
  refine (HA1.out _ HF0.out).mono ?_
  rintro e w1 ⟨v1, rfl, ho1, hw1⟩
  obtain ⟨a1, m1, rfl⟩ := ho1.form
  have h4 := HFN.out _ _ HF0.out hw1
  have hq1 := ho1
  clear HF0 hw1 ho1
  obtain ⟨c0, c1, c2, ⟨c3, c4, c5, c6⟩, hz⟩ := h4.cells
  have H4 : Hid _ := h4
  clear h4
  go_wp2_with fail
  refine (HA2.out _ H4.out).mono ?_
  rintro e w2 ⟨v2, rfl, ho2, hw2⟩
  obtain ⟨a2, m2, rfl⟩ := ho2.form
  have h4 := HFN.out _ _ H4.out hw2
  have hq1 := HO.out _ _ _ _ _ hq1 hw2
  have hq2 := ho2
  clear c0 c1 c2 c3 c4 c5 c6 hz H4 hw2 ho2
  obtain ⟨c0, c1, c2, ⟨c3, c4, c5, c6⟩, hz⟩ := h4.cells
  have H4 : Hid _ := h4
  clear h4
  go_wp2_with fail
  refine (HB1.out _ H4.out).mono ?_
  rintro e w3 ⟨v3, rfl, ho3, hw3⟩
  obtain ⟨a3, m3, rfl⟩ := ho3.form
  have h4 := HFN.out _ _ H4.out hw3
  have hq1 := HO.out _ _ _ _ _ hq1 hw3
  have hq2 := HO.out _ _ _ _ _ hq2 hw3
  have hq3 := ho3
  clear c0 c1 c2 c3 c4 c5 c6 hz H4 hw3 ho3
  obtain ⟨c0, c1, c2, ⟨c3, c4, c5, c6⟩, hz⟩ := h4.cells
  have H4 : Hid _ := h4
  clear h4
  go_wp2_with fail
  refine (HB2.out _ H4.out).mono ?_
  rintro e w4 ⟨v4, rfl, ho4, hw4⟩
  obtain ⟨a4, m4, rfl⟩ := ho4.form
  have h4 := HFN.out _ _ H4.out hw4
  have hq1 := HO.out _ _ _ _ _ hq1 hw4
  have hq2 := HO.out _ _ _ _ _ hq2 hw4
  have hq3 := HO.out _ _ _ _ _ hq3 hw4
  have hq4 := ho4
  clear c0 c1 c2 c3 c4 c5 c6 hz H4 hw4 ho4
  obtain ⟨c0, c1, c2, ⟨c3, c4, c5, c6⟩, hz⟩ := h4.cells
  have H4 : Hid _ := h4
  clear h4
  go_wp2_with fail
  refine (HC1.out _ H4.out).mono ?_
  rintro e w5 ⟨v5, rfl, ho5, hw5⟩
  obtain ⟨a5, m5, rfl⟩ := ho5.form
  have h4 := HFN.out _ _ H4.out hw5
  have hq1 := HO.out _ _ _ _ _ hq1 hw5
  have hq2 := HO.out _ _ _ _ _ hq2 hw5
  have hq3 := HO.out _ _ _ _ _ hq3 hw5
  have hq4 := HO.out _ _ _ _ _ hq4 hw5
  have hq5 := ho5
  clear c0 c1 c2 c3 c4 c5 c6 hz H4 hw5 ho5
  obtain ⟨c0, c1, c2, ⟨c3, c4, c5, c6⟩, hz⟩ := h4.cells
  have H4 : Hid _ := h4
  clear h4
  go_wp2_with fail
  refine (HC2.out _ H4.out).mono ?_
  rintro e w6 ⟨v6, rfl, ho6, hw6⟩
  obtain ⟨a6, m6, rfl⟩ := ho6.form
  have h4 := HFN.out _ _ H4.out hw6
  have hq1 := HO.out _ _ _ _ _ hq1 hw6
  have hq2 := HO.out _ _ _ _ _ hq2 hw6
  have hq3 := HO.out _ _ _ _ _ hq3 hw6
  have hq4 := HO.out _ _ _ _ _ hq4 hw6
  have hq5 := HO.out _ _ _ _ _ hq5 hw6
  have hq6 := ho6
  clear c0 c1 c2 c3 c4 c5 c6 hz H4 hw6 ho6
  have hx6 := h4.bel
  clear h4
  go_wp2_with fail
  refine (HEq.out _ _ _ _ _ _ hq1 hq2 hl1).mono ?_
  rintro e w7 ⟨rfl, hw7⟩
  have hx7 := hx6.trans (hw7.mono hx6.size)
  have hq3 := HO.out _ _ _ _ _ hq3 hw7
  have hq4 := HO.out _ _ _ _ _ hq4 hw7
  have hq5 := HO.out _ _ _ _ _ hq5 hw7
  have hq6 := HO.out _ _ _ _ _ hq6 hw7
  go_wp2_with fail
  refine (HEq.out _ _ _ _ _ _ hq3 hq4 hl2).mono ?_
  rintro e w8 ⟨rfl, hw8⟩
  have hx8 := hx7.trans (hw8.mono hx7.size)
  have hq5 := HO.out _ _ _ _ _ hq5 hw8
  have hq6 := HO.out _ _ _ _ _ hq6 hw8
  go_wp2_with fail
  refine (HEq.out _ _ _ _ _ _ hq5 hq6 hl3).mono ?_
  rintro e w9 ⟨rfl, hw9⟩
  go_wp2
  go_ret
  exact ⟨ret_bool (by simp), hx8.trans (hw9.mono hx8.size)⟩

end Go.Proofs.Ytkiamhmjkpbaiae
