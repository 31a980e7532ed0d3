/- The walk of framewardenkeep.PlaceGuard: it returns true, and nothing that was there is written. -/
import Derived.Test.YtgkniljbemkkhafAlive9
namespace Go.Proofs.Ytgkniljbemkkhaf
open Go.RowKit
set_option linter.unusedSimpArgs false
set_option linter.unusedVariables false

set_option maxHeartbeats 1600000 in
theorem placeGuard_any (v : Value) (l : List R6) (c d : Int) (r k : Int) (g s : Bool) (w : World) (h : IsRecs encR 3518437208780 w v l) (_ : ∀ x ∈ l, wfR x) (hc0 : (Lit.int .i64 c).wf = true) (_ : (Lit.int .i64 d).wf = true) :
    Calls Try.prog 4 #[v, .int .i64 c, .int .i64 d, .agg #[.int .i64 r, .int .i64 k, .bool g, .bool s]] w fun e w' => e = .returned (.bool true) ∧ Below w.heap.size w w' := by
  have hcb := wf_bd hc0
  have Hal : Hid (∀ w1, Calls Try.prog 11 #[] w1 fun e w' => e = .returned (.bool true) ∧ Below w1.heap.size w1 w') := alive9_any
  have HC : Hid (∀ w1 x, Below w.heap.size w w1 → Calls Try.prog 6 #[v, .int .i64 c, .int .i64 x] w1 fun e w' => e = .returned (numV (choV l c x) (choE l c)) ∧ Below w1.heap.size w1 w') := fun w1 x hb => choose_any v l c x _ w1 (h.below hb) (by decide) hcb
  clear hc0
  by_cases h0 : choE l c = 0
  · obtain ⟨g1, g2, g3, g4, g5, g6, g7⟩ := guard_said (d := d) h0 (r, k, g, s)
    have HV : Hid (∀ x : Nat, x < (allP l c).length → choV l c (x : Int) = (allP l c).getD x 0) := fun x hx => choV_each h0 hx
    have HM : Hid (choV l c d ∈ allP l c) := choV_mem h0
    rw [h0] at HC
    have HCd : Hid (∀ w1, Below w.heap.size w w1 → Calls Try.prog 6 #[v, .int .i64 c, .int .i64 d] w1 fun e w' => e = .returned (numV (choV l c d) 0) ∧ Below w1.heap.size w1 w') := fun w1 hb => HC.out w1 d hb
    have HCk : Hid (∀ (x : Nat) w1, x < (allP l c).length → Below w.heap.size w w1 → Calls Try.prog 6 #[v, .int .i64 c, .int .i64 x] w1 fun e w' => e = .returned (numV ((allP l c).getD x 0) 0) ∧ Below w1.heap.size w1 w') := fun x w1 hx hb => by
      have := HC.out w1 (x : Int) hb
      rw [HV.out x hx] at this
      exact this
    clear HC HV
    generalize choV l c d = P at *
    have HA : Hid (∀ w1, Below w.heap.size w w1 → Calls Try.prog 12 #[v, .agg #[.int .i64 P, .int .i64 (P + c), .int .i64 r, .int .i64 k, .bool g, .bool s]] w1 fun e w' => ∃ va vc, e = .returned (lstV (.slice va (l.length + 1) vc) 0) ∧ Below w1.heap.size w1 w') := fun w1 hb =>
      (add_any v l P (P + c) r k g s _ w1 (h.below hb) (by decide)).mono fun e w' ⟨v', he, ho, hb'⟩ => by
        obtain ⟨va, vc, rfl⟩ := ho.form
        rw [g1, g2] at he
        exact ⟨va, vc, he, hb'⟩
    have HF : Hid (∀ w1 q, Below w.heap.size w w1 → q = P - 1 ∨ q = P + c → Calls Try.prog 13 #[v, .int .i64 q] w1 fun e w' => e = .returned (attV 0 0 false false false) ∧ Below w1.heap.size w1 w') := by
      rintro w1 q hb (rfl | rfl)
      · have := find_any v l (P - 1) _ w1 (h.below hb) (by decide)
        rw [g3] at this
        exact this
      · have := find_any v l (P + c) _ w1 (h.below hb) (by decide)
        rw [g4] at this
        exact this
    have HL : Hid (∀ w1, Below w.heap.size w w1 → Calls Try.prog 9 #[v, .int .i64 c] w1 fun e w' => ∃ v', e = .returned v' ∧ OwnR 3 1 encI w1.heap.size w' v' (allP l c) ∧ Below w1.heap.size w1 w') := fun w1 hb => all_any v l c _ w1 (h.below hb) (by decide) hcb
    have l1 := allP_len l c
    have hl64 : l.length ≤ 64 := good_len (good_of_right (choE_iff.1 h0).1)
    obtain ⟨L, hL⟩ : ∃ L, Hid (L = allP l c) := ⟨_, rfl⟩
    rw [← hL.out] at HM HCk HL l1
    have HK : Hid (∀ w1 v1 base, OwnR 3 1 encI base w1 v1 L → Calls Try.prog 14 #[v1, .int .i64 P] w1 fun e w' => e = .returned (.bool true) ∧ Below w1.heap.size w1 w') := fun w1 v1 base ho => icontains_is v1 L P 64 w1 (ho.recs l1) (by decide) (by simpa using HM.out)
    obtain ⟨va, vn, rfl⟩ := h.form
    obtain ⟨n, hn⟩ : ∃ n, Hid (n = l.length) := ⟨_, rfl⟩
    rw [← hn.out] at HCd HCk HA HF HL hl64 ⊢
    clear h h0 g1 g2 g3 g4 HM hL hcb
    have hbx : Hid (∀ (w1 : World) o, Below w1.heap.size w1 (w1.alloc o)) := fun w1 o => (Below.refl _ _).alloc (Nat.le_refl _) _
    go_enter Try.func4, Try.ntmps4
    go_wp2_with fail
    refine (Hal.out _).mono ?_
    rintro e w1 ⟨rfl, hw1⟩
    have hx1 := below_one hw1
    have hA1 := own_one (xs := [.int .i64 r, .int .i64 k, .bool g, .bool s]) hw1
    clear hw1
    go_wp2_with fail
    refine (HCd.out _ hx1).mono ?_
    rintro e w2 ⟨rfl, hw2⟩
    have hA2 := hA1.below hw2 hA1.lt
    have hx2 := hx1.trans (hw2.mono hx1.size)
    obtain ⟨c0, c1, c2, c3⟩ := hA2.quad
    have hz2 := hA2.lt
    clear hw2 hA1 hA2
    go_wp2_with fail
    refine (HA.out _ hx2).mono ?_
    rintro e w3 ⟨a3, m3, rfl, hw3⟩
    have hx3 := hx2.trans (hw3.mono hx2.size)
    clear hw3 c0 c1 c2 c3 hz2
    go_wp2_with fail
    refine (HF.out _ _ hx3 (Or.inl rfl)).mono ?_
    rintro e w4 ⟨rfl, hw4⟩
    have hx4 := hx3.trans (hw4.mono hx3.size)
    clear hw4
    go_wp2_with fail
    refine (HF.out _ _ (hx4.trans ((hbx.out _ _).mono hx4.size)) (Or.inr rfl)).mono ?_
    rintro e w5 ⟨rfl, hw5⟩
    have hx45 := below_one hw5
    have hx5 := hx4.trans (hx45.mono hx4.size)
    clear hw5 hx45
    go_wp2_with fail
    refine (HL.out _ (hx5.trans ((hbx.out _ _).mono hx5.size))).mono ?_
    rintro e w6 ⟨v6, rfl, ho6, hw6⟩
    have hx56 := below_one hw6
    have hx6 := hx5.trans (hx56.mono hx5.size)
    clear hw6 hx56
    obtain ⟨a6, m6, rfl, h61, h62, hcell'⟩ := ho6.recs (B := 64) l1
    obtain ⟨k6, hk6⟩ : ∃ n, Hid (n = L.length) := ⟨_, rfl⟩
    have HO6 : Hid (∀ w1, Below w6.heap.size w6 w1 → OwnR 3 1 encI 0 w1 (.slice a6 k6 m6) L) := fun w1 hb => by rw [hk6.out]; exact (ho6.below hb).mono (Nat.zero_le _)
    rw [← hk6.out] at h61 h62 hcell' HCk ⊢
    clear ho6 HL HF HA HCd Hal
    go_wp2_with fail
    go_loopw [66] (fun i wr => ∃ j : Nat, j ≤ k6 ∧ i = .int .i64 j ∧ Below w6.heap.size w6 wr) (fun i _ => k6 - (intOf i).toNat)
    case atStart => exact ⟨0, Nat.zero_le _, rfl, Below.refl _ _⟩
    case round =>
      obtain ⟨j, hj, rfl, hbel⟩ := hrel
      have hxr := hx6.trans (hbel.mono hx6.size)
      by_cases hlt : j < k6
      · obtain ⟨b, off, rfl, hcell⟩ := hcell' (by omega)
        obtain ⟨p, hp⟩ : ∃ p, p = L.getD j 0 := ⟨_, rfl⟩
        have hk0 := cell1 hcell hbel j (by rw [← hk6.out]; exact hlt) hp
        have HCj : Hid (Calls Try.prog 6 #[.slice va n vn, .int .i64 c, .int .i64 (j : Int)] wr fun e w' => e = .returned (numV p 0) ∧ Below wr.heap.size wr w') := by
          have := HCk.out j wr hlt hxr
          rw [← hp] at this
          exact this
        clear hp
        go_wp2_with fail
        refine HCj.out.mono ?_
        rintro e w7 ⟨rfl, hw7⟩
        go_wp2
        go_roundw
        case rel => exact ⟨j + 1, by omega, by go_num, hbel.trans (hw7.mono hbel.size)⟩
        case measure => simp [intOf]; omega
      · go_wp2_with fail
        refine (HK.out _ _ _ (HO6.out _ hbel)).mono ?_
        rintro e w7 ⟨rfl, hw7⟩
        go_wp2
        go_ret
        exact ⟨rfl, hxr.trans (hw7.mono hxr.size)⟩
  · have hV := choV_no (d := d) h0
    have hne : (choE l c != 0) = true := by rw [bne_iff_ne]; exact h0
    have HCd : Hid (∀ w1, Below w.heap.size w w1 → Calls Try.prog 6 #[v, .int .i64 c, .int .i64 d] w1 fun e w' => e = .returned (numV 0 (choE l c)) ∧ Below w1.heap.size w1 w') := fun w1 hb => by
      have := HC.out w1 d hb
      rw [hV] at this
      exact this
    obtain ⟨va, vn, rfl⟩ := h.form
    clear h hV HC h0 hcb
    generalize choE l c = E at *
    go_enter Try.func4, Try.ntmps4
    go_wp2_with fail
    refine (Hal.out _).mono ?_
    rintro e w1 ⟨rfl, hw1⟩
    have hx1 := below_one hw1
    clear hw1
    go_wp2_with fail
    refine (HCd.out _ hx1).mono ?_
    rintro e w2 ⟨rfl, hw2⟩
    go_wp2
    go_ret
    exact ⟨rfl, hx1.trans (hw2.mono hx1.size)⟩

end Go.Proofs.Ytgkniljbemkkhaf
