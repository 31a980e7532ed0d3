/- The contract of the document's own answer framewardenref.IChoose, and the walk of framewardenlaw.PlaceTells: it returns true, and nothing that was there is written. -/
import Derived.Test.YtgkniljbemkkhafPlaceRef1
namespace Go.Proofs.Ytgkniljbemkkhaf
open Go.RowKit
set_option linter.unusedSimpArgs false
set_option linter.unusedVariables false

set_option maxHeartbeats 800000 in
theorem ichoose_any (v : Value) (l : List R6) (c d : Int) (B : Nat) (w : World) (h : IsRecs encR B w v l) (hB : B ≤ 4398046511104) (hc0 : bdI c) :
    Calls Try.prog 7 #[v, .int .i64 c, .int .i64 d] w fun e w' => e = .returned (numV (choV l c d) (choE l c)) ∧ Below w.heap.size w w' := by
  have HR : Hid (Calls Try.prog 18 #[v] w fun e w' => e = .returned (.bool (rightR l)) ∧ Below w.heap.size w w') := hright_any v l B w h hB
  have HA : Hid (∀ w1, Below w.heap.size w w1 → Calls Try.prog 10 #[v, .int .i64 c] w1 fun e w' => ∃ v', e = .returned v' ∧ OwnR 3 1 encI w1.heap.size w' v' (allP l c) ∧ Below w1.heap.size w1 w') := fun w1 hb => iall_any v l c B w1 (h.below hb) hB hc0
  obtain ⟨a, cap, rfl⟩ := h.form
  obtain ⟨n, hn⟩ : ∃ n, Hid (n = l.length) := ⟨_, rfl⟩
  rw [← hn.out] at HR HA ⊢
  clear h
  cases hr : rightR l with
  | false =>
    rw [hr] at HR
    have hE : choE l c = 1 := by unfold choE; rw [if_neg (by rw [hr]; decide)]
    have hV : choV l c d = 0 := choV_no (by rw [hE]; decide)
    rw [hE, hV]
    clear hE hV hr
    go_enter Try.func7, Try.ntmps7
    go_wp2_with (go_at_call 18; refine HR.out.mono ?_; rintro e w1 ⟨rfl, hw1⟩)
    go_ret2
    exact ⟨rfl, hw1⟩
  | true =>
    rw [hr] at HR
    by_cases hc : 1 ≤ c ∧ c ≤ 64
    · obtain ⟨q1, q2⟩ := hc
      have hl64 := allP_len l c
      by_cases hl : (allP l c).length = 0
      · have hE : choE l c = 4 := by unfold choE; rw [if_pos hr, if_pos ⟨q1, q2⟩, if_pos hl]
        have hV : choV l c d = 0 := choV_no (by rw [hE]; decide)
        rw [hE, hV]
        obtain ⟨L, hL⟩ : ∃ L, Hid (L = allP l c) := ⟨_, rfl⟩
        rw [← hL.out] at HA hl
        clear hE hV hr hl64
        have HA' : Hid (∀ w1, Below w.heap.size w w1 → Calls Try.prog 10 #[.slice a n cap, .int .i64 c] w1 fun e w' => ∃ va vc, e = .returned (.slice va 0 vc) ∧ Below w1.heap.size w1 w') := fun w1 hb => (HA.out w1 hb).mono fun e w' ⟨v', he, ho, hb'⟩ => by
          obtain ⟨va, vc, rfl⟩ := ho.form
          rw [hl] at he
          exact ⟨va, vc, he, hb'⟩
        clear HA hl
        go_enter Try.func7, Try.ntmps7
        go_wp2_with (first
          | (go_at_call 18; refine HR.out.mono ?_; rintro e w1 ⟨rfl, hw1⟩)
          | (go_at_call 10; refine (HA'.out _ hw1).mono ?_; rintro e w2 ⟨va, vc, rfl, hw2⟩))
        go_ret2
        exact ⟨rfl, hw1.trans (hw2.mono hw1.size)⟩
      · have hE : choE l c = 0 := by unfold choE; rw [if_pos hr, if_pos ⟨q1, q2⟩, if_neg hl]
        have hV := choV_at (d := d) hE
        rw [hE, hV]
        obtain ⟨L, hL⟩ : ∃ L, Hid (L = allP l c) := ⟨_, rfl⟩
        rw [← hL.out] at HA hl hl64 ⊢
        clear hE hV hr
        obtain ⟨m, hm⟩ : ∃ m, Hid (m = L.length) := ⟨_, rfl⟩
        rw [← hm.out] at hl hl64 ⊢
        obtain ⟨t1, t2, t3, t4⟩ := rest_eq d m (by omega)
        have h5 := Int.emod_nonneg d (show (m : Int) ≠ 0 by omega)
        have h6 := Int.emod_lt_of_pos d (show (0 : Int) < (m : Int) by omega)
        obtain ⟨k, hk⟩ : ∃ k : Nat, d % (m : Int) = k := ⟨(d % (m : Int)).toNat, by omega⟩
        rw [hk] at t1 t2 h5 h6 ⊢
        rw [Int.toNat_natCast]
        have hkm : k < m := by omega
        have hne : ¬ (m : Int) = 0 := by omega
        obtain ⟨T, hT⟩ : ∃ T, d.tmod m = T := ⟨_, rfl⟩
        rw [hT] at t1 t2 t3 t4
        clear h5 h6 hk
        obtain ⟨X, hX⟩ : ∃ X, Hid (X = L.getD k 0) := ⟨_, rfl⟩
        rw [← hX.out]
        have HA' : Hid (∀ w1, Below w.heap.size w w1 → Calls Try.prog 10 #[.slice a n cap, .int .i64 c] w1 fun e w' => ∃ b off vc, e = .returned (.slice (some ⟨b, off, none⟩) m vc) ∧ w'.cell? ⟨b, off + k, none⟩ = some (.int .i64 X) ∧ Below w1.heap.size w1 w') := fun w1 hb => (HA.out w1 hb).mono fun e w' ⟨v', he, ho, hb'⟩ => by
          obtain ⟨va, vc, rfl, -, -, hcell⟩ := ho.recs (B := 64) (by rw [← hm.out]; exact hl64)
          obtain ⟨b, off, rfl, hc⟩ := hcell (by rw [← hm.out]; omega)
          exact ⟨b, off, vc, by rw [he, ← hm.out], cell1 hc (Below.refl _ _) k (by rw [← hm.out]; exact hkm) hX.out, hb'⟩
        clear HA
        by_cases h0 : T < 0
        · have he := t2 h0
          obtain rfl : T = (k : Int) - m := by omega
          have hw : wrap64 ((k : Int) - m + m) = k := by unfold wrap64; omega
          have hw2 : (k : Int) - m + m = k := by omega
          clear he t1 t2
          go_enter Try.func7, Try.ntmps7
          go_wp2_with (first
            | (go_at_call 18; refine HR.out.mono ?_; rintro e w1 ⟨rfl, hw1⟩)
            | (go_at_call 10; refine (HA'.out _ hw1).mono ?_; rintro e w2 ⟨b, off, vc, rfl, hx0, hw2⟩))
          go_ret2
          exact ⟨rfl, hw1.trans (hw2.mono hw1.size)⟩
        · have he := t1 (by omega)
          subst he
          clear t1 t2
          go_enter Try.func7, Try.ntmps7
          go_wp2_with (first
            | (go_at_call 18; refine HR.out.mono ?_; rintro e w1 ⟨rfl, hw1⟩)
            | (go_at_call 10; refine (HA'.out _ hw1).mono ?_; rintro e w2 ⟨b, off, vc, rfl, hx0, hw2⟩))
          go_ret2
          exact ⟨rfl, hw1.trans (hw2.mono hw1.size)⟩
    · have hE : choE l c = 2 := by unfold choE; rw [if_pos hr, if_neg hc]
      have hV : choV l c d = 0 := choV_no (by rw [hE]; decide)
      rw [hE, hV]
      clear hE hV hr
      by_cases q1 : c < 1
      · clear hc
        go_enter Try.func7, Try.ntmps7
        go_wp2_with (go_at_call 18; refine HR.out.mono ?_; rintro e w1 ⟨rfl, hw1⟩)
        go_ret2
        exact ⟨rfl, hw1⟩
      · have q2 : 64 < c := by omega
        have q3 : decide (c < 1) = false := by simpa using q1
        clear hc q1
        go_enter Try.func7, Try.ntmps7
        go_wp2_with (go_at_call 18; refine HR.out.mono ?_; rintro e w1 ⟨rfl, hw1⟩)
        go_ret2
        exact ⟨rfl, hw1⟩

set_option maxHeartbeats 800000 in
theorem placeTells_any (v : Value) (l : List R6) (c d : Int) (w : World) (h : IsRecs encR 3518437208780 w v l) (_ : ∀ x ∈ l, wfR x) (hc0 : (Lit.int .i64 c).wf = true) (_ : (Lit.int .i64 d).wf = true) :
    Calls Try.prog 3 #[v, .int .i64 c, .int .i64 d] w fun e w' => e = .returned (.bool true) ∧ Below w.heap.size w w' := by
  have hcb := wf_bd hc0
  have HC1 : Hid (Calls Try.prog 6 #[v, .int .i64 c, .int .i64 d] w fun e w' => e = .returned (numV (choV l c d) (choE l c)) ∧ Below w.heap.size w w') := choose_any v l c d _ w h (by decide) hcb
  have HC2 : Hid (∀ w1, Below w.heap.size w w1 → Calls Try.prog 7 #[v, .int .i64 c, .int .i64 d] w1 fun e w' => e = .returned (numV (choV l c d) (choE l c)) ∧ Below w1.heap.size w1 w') := fun w1 hb => ichoose_any v l c d _ w1 (h.below hb) (by decide) hcb
  have HA1 : Hid (∀ w1, Below w.heap.size w w1 → Calls Try.prog 9 #[v, .int .i64 c] w1 fun e w' => ∃ v', e = .returned v' ∧ OwnR 3 1 encI w1.heap.size w' v' (allP l c) ∧ Below w1.heap.size w1 w') := fun w1 hb => all_any v l c _ w1 (h.below hb) (by decide) hcb
  have HA2 : Hid (∀ w1, Below w.heap.size w w1 → Calls Try.prog 10 #[v, .int .i64 c] w1 fun e w' => ∃ v', e = .returned v' ∧ OwnR 3 1 encI w1.heap.size w' v' (allP l c) ∧ Below w1.heap.size w1 w') := fun w1 hb => iall_any v l c _ w1 (h.below hb) (by decide) hcb
  have l1 := allP_len l c
  generalize allP l c = L at *
  generalize choV l c d = V at *
  generalize choE l c = E at *
  have HE : Hid (∀ w1 v1 u1 b1 b2, OwnR 3 1 encI b1 w1 v1 L → OwnR 3 1 encI b2 w1 u1 L → Calls Try.prog 8 #[v1, u1] w1 fun e w' => e = .returned (.bool true) ∧ Below w1.heap.size w1 w') := fun w1 v1 u1 b1 b2 h1 h2 => iequal_is v1 u1 L L 64 w1 (h1.recs l1) (h2.recs l1) (by decide) (by simp)
  obtain ⟨va, vn, rfl⟩ := h.form
  obtain ⟨n, hn⟩ : ∃ n, Hid (n = l.length) := ⟨_, rfl⟩
  rw [← hn.out] at HC1 HC2 HA1 HA2 ⊢
  clear h hc0 hcb
  go_enter Try.func3, Try.ntmps3
  go_wp2_with fail
  refine HC1.out.mono ?_
  rintro e w1 ⟨rfl, hx1⟩
  go_wp2_with fail
  refine (HC2.out _ hx1).mono ?_
  rintro e w2 ⟨rfl, hw2⟩
  have hx2 := hx1.trans (hw2.mono hx1.size)
  go_wp2_with fail
  refine (HA1.out _ hx2).mono ?_
  rintro e w3 ⟨v3, rfl, ho3, hw3⟩
  have hx3 := hx2.trans (hw3.mono hx2.size)
  obtain ⟨a3, m3, rfl⟩ := ho3.form
  go_wp2_with fail
  refine (HA2.out _ hx3).mono ?_
  rintro e w4 ⟨v4, rfl, ho4, hw4⟩
  have hx4 := hx3.trans (hw4.mono hx3.size)
  have ho34 := ho3.below hw4
  obtain ⟨a4, m4, rfl⟩ := ho4.form
  go_wp2_with fail
  refine (HE.out _ _ _ _ _ ho34 ho4).mono ?_
  rintro e w5 ⟨rfl, hw5⟩
  go_wp2
  go_ret
  exact ⟨ret_bool (by simp), hx4.trans (hw5.mono hx4.size)⟩

end Go.Proofs.Ytgkniljbemkkhaf
