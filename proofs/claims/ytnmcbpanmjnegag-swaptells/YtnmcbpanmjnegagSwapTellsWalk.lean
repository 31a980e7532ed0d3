/- The walk of framewardenlaw.SwapTells: New, Put, Get, Share and Drop, and the document's own answers, are one. -/
import Derived.Test.YtnmcbpanmjnegagAlive12
import Derived.Test.YtnmcbpanmjnegagSlotsOpen
import Derived.Test.YtnmcbpanmjnegagSwapRef3
namespace Go.Proofs.Ytnmcbpanmjnegag
open Go.RowKit
set_option linter.unusedSimpArgs false
set_option linter.unusedVariables false

/-- Sixty-four slots, nothing in them. -/
def zs64 : Array Value := madeCells (Value.agg #[.int .i64 0, .slice none 0 0, .slice none 0 0]).cells (64 * 3)

theorem run_make_s64 (w : World) : (Instr.makeSlice 30 (.int .i64 64) (.int .i64 64)).run Try.prog w = .ok (.slice (some ⟨w.heap.size, 0, none⟩) 64 64) (w.alloc (.cells zs64 42)) := by
  obtain ⟨i0, hi, hz0, hz1, hz2⟩ := info_parts info_slot
  have h := run_make (P := Try.prog) w 30 42 i0 _ Try.underlying30 hi hz0 .i64 .i64 64 64 (by decide) (by decide) (by rw [hz2]; decide) (by decide)
  rw [hz1] at h
  exact h

theorem lit_s64 (W W' : World) (s : Nat) (hs : s = W.heap.size) (hb : Below (W.alloc (.cells zs64 42)).heap.size (W.alloc (.cells zs64 42)) W') : IsSlots W' (.slice (some ⟨s, 0, none⟩) 64 64) noSlots := by
  subst hs
  have h : OwnRow (W.alloc (.cells zs64 42)) W.heap.size 42 zs64.toList := heap_alloc_new W _
  exact (slots64 h).below hb

set_option maxHeartbeats 6400000 in
theorem swapTells_walk (v : Value) (l : List Sl) (bv : Value) (bs : List Int) (tv : Value) (ts : List Int) (r n : Int) (w : World) (h : IsSlots w v l) (hf : FewRefs l) (hb : IsBytes w bv bs) (ht : IsInts w tv ts) (hr : (Lit.int .i64 r).wf = true) (hn : (Lit.int .i64 n).wf = true) :
    Calls Try.prog 6 #[v, bv, tv, .int .i64 r, .int .i64 n] w fun e w' => e = .returned (.bool true) ∧ Below w.heap.size w w' := by
  have ht' := ints_recs ht
  have hmx := hf n.toNat
  have HP : Hid (Calls Try.prog 13 #[v, bv, tv, .int .i64 r] w fun e w' => ∃ a N c m n err, e = .returned (.tuple #[.slice a N c, .int .i64 n, .int .i64 err]) ∧ IsSlots w' (.slice a N c) m ∧ PutSays l bs ts r m n err ∧ Below w.heap.size w w') := put_any v bv tv l bs ts r w h hb ht'
  have HLP : Hid (∀ w1 m n err, Below w.heap.size w w1 → PutSays l bs ts r m n err → Calls Try.prog 14 #[v, bv, tv, .int .i64 r] w1 fun e w' => ∃ a N c, e = .returned (.tuple #[.slice a N c, .int .i64 n, .int .i64 err]) ∧ IsSlots w' (.slice a N c) m ∧ Below w1.heap.size w1 w') := by
    intro w1 m n err hb1 hs
    refine (lput_any v bv tv l bs ts r w1 (h.below hb1) (hb.below hb1) (ht'.below hb1)).mono ?_
    rintro e w' ⟨a, N, c, m', n', err', rfl, h1, hs', hb2⟩
    obtain ⟨rfl, rfl, rfl⟩ := hs.unique hs'
    exact ⟨a, N, c, rfl, h1, hb2⟩
  obtain ⟨E2, hE2⟩ : ∃ E, Hid (E = shE l n) := ⟨_, rfl⟩
  obtain ⟨L2, hL2⟩ : ∃ E, Hid (E = shL l n) := ⟨_, rfl⟩
  obtain ⟨E3, hE3⟩ : ∃ E, Hid (E = drE l n) := ⟨_, rfl⟩
  obtain ⟨L3, hL3⟩ : ∃ E, Hid (E = drL l n) := ⟨_, rfl⟩
  have HSH : Hid (∀ w1, Below w.heap.size w w1 → Calls Try.prog 15 #[v, .int .i64 n] w1 fun e w' => ∃ a N c, e = .returned (.tuple #[.slice a N c, .int .i64 E2]) ∧ IsSlots w' (.slice a N c) L2 ∧ Below w1.heap.size w1 w') := by
    intro w1 hb1; rw [hE2.out, hL2.out]; exact share_any v l n w1 (h.below hb1)
  have HLS : Hid (∀ w1, Below w.heap.size w w1 → Calls Try.prog 16 #[v, .int .i64 n, .int .i64 1] w1 fun e w' => ∃ a N c, e = .returned (.tuple #[.slice a N c, .int .i64 E2]) ∧ IsSlots w' (.slice a N c) L2 ∧ Below w1.heap.size w1 w') := by
    intro w1 hb1; rw [hE2.out, hL2.out]; exact lshare_any v l n w1 (h.below hb1)
  have HDR : Hid (∀ w1, Below w.heap.size w w1 → Calls Try.prog 17 #[v, .int .i64 n] w1 fun e w' => ∃ a N c, e = .returned (.tuple #[.slice a N c, .int .i64 E3]) ∧ IsSlots w' (.slice a N c) L3 ∧ Below w1.heap.size w1 w') := by
    intro w1 hb1; rw [hE3.out, hL3.out]; exact drop_any v l n w1 (h.below hb1) hmx
  have HLD : Hid (∀ w1, Below w.heap.size w w1 → Calls Try.prog 16 #[v, .int .i64 n, .int .i64 (-1)] w1 fun e w' => ∃ a N c, e = .returned (.tuple #[.slice a N c, .int .i64 E3]) ∧ IsSlots w' (.slice a N c) L3 ∧ Below w1.heap.size w1 w') := by
    intro w1 hb1; rw [hE3.out, hL3.out]; exact ldrop_any v l n w1 (h.below hb1) hmx
  have HGT : Hid (∀ w1, Below w.heap.size w w1 → Calls Try.prog 20 #[v, .int .i64 n] w1 fun e w' => ∃ ba bn bc ta tn tc, e = .returned (.tuple #[.slice ba bn bc, .slice ta tn tc, .int .i64 (gtE l n)]) ∧ IsBytes w' (.slice ba bn bc) (gtB l n) ∧ IsRecs encI 17592186043904 w' (.slice ta tn tc) (gtT l n) ∧ Below w1.heap.size w1 w') := fun w1 hb1 => get_any v l n w1 (h.below hb1)
  have HIN : Hid (∀ w1, Below w.heap.size w w1 → IsSlots w1 v l) := fun w1 hb1 => h.below hb1
  obtain ⟨a, cap, rfl⟩ := h.form
  obtain ⟨ba0, bc0, rfl⟩ := hb.form'
  obtain ⟨ta0, tc0, rfl⟩ := ht'.form
  obtain ⟨N, hN⟩ : ∃ N, Hid (N = l.length) := ⟨_, rfl⟩
  obtain ⟨nb, hnb⟩ : ∃ N, Hid (N = bs.length) := ⟨_, rfl⟩
  obtain ⟨nt, hnt⟩ : ∃ N, Hid (N = ts.length) := ⟨_, rfl⟩
  rw [← hN.out, ← hnb.out, ← hnt.out] at HP HLP ⊢
  rw [← hN.out] at HSH HLS HDR HLD HGT HIN
  have hmk := run_make_s64
  clear h hf hb ht ht' hmx
  go_enter Try.func6, Try.ntmps6
  go_wp2_with fail
  refine HP.out.mono ?_
  rintro e w1 ⟨a1, N1, c1, m, x, err, rfl, hs1, hsay, hb1⟩
  have HSY : Hid (PutSays l bs ts r m x err) := hsay
  clear hsay
  have HS1 : Hid (∀ w', Below w1.heap.size w1 w' → IsSlots w' (.slice a1 N1 c1) m) := fun w' hb => hs1.below hb
  clear hs1
  go_wp2_with fail
  refine (HLP.out _ _ _ _ hb1 HSY.out).mono ?_
  rintro e w2 ⟨a2, N2, c2, rfl, hs2, hb2'⟩
  have HS2 : Hid (∀ w', Below w2.heap.size w2 w' → IsSlots w' (.slice a2 N2 c2) m) := fun w' hb => hs2.below hb
  have hb2 := bel_next hb2' hb1
  clear hs2
  go_wp2_with fail
  refine (HSH.out _ hb2).mono ?_
  rintro e w3 ⟨a3, N3, c3, rfl, hs3, hb3'⟩
  have HS3 : Hid (∀ w', Below w3.heap.size w3 w' → IsSlots w' (.slice a3 N3 c3) L2) := fun w' hb => hs3.below hb
  have hb3 := bel_next hb3' hb2
  clear hs3
  go_wp2_with fail
  refine (HLS.out _ hb3).mono ?_
  rintro e w4 ⟨a4, N4, c4, rfl, hs4, hb4'⟩
  have HS4 : Hid (∀ w', Below w4.heap.size w4 w' → IsSlots w' (.slice a4 N4 c4) L2) := fun w' hb => hs4.below hb
  have hb4 := bel_next hb4' hb3
  clear hs4
  go_wp2_with fail
  refine (HDR.out _ hb4).mono ?_
  rintro e w5 ⟨a5, N5, c5, rfl, hs5, hb5'⟩
  have HS5 : Hid (∀ w', Below w5.heap.size w5 w' → IsSlots w' (.slice a5 N5 c5) L3) := fun w' hb => hs5.below hb
  have hb5 := bel_next hb5' hb4
  clear hs5
  go_wp2_with fail
  refine (HLD.out _ hb5).mono ?_
  rintro e w6 ⟨a6, N6, c6, rfl, hs6, hb6'⟩
  have hb6 := bel_next hb6' hb5
  have HEQ : Hid (∀ p q w', Below w6.heap.size w6 w' → ((p = .slice a1 N1 c1 ∧ q = .slice a2 N2 c2) ∨ (p = .slice a3 N3 c3 ∧ q = .slice a4 N4 c4) ∨ (p = .slice a5 N5 c5 ∧ q = .slice a6 N6 c6)) → Calls Try.prog 18 #[p, q] w' fun e w'' => e = .returned (.bool true) ∧ Below w6.heap.size w6 w'') := by
    intro p q w' hb hpq
    have k5 := bel_next hb hb6'
    have k4 := bel_next k5 hb5'
    have k3 := bel_next k4 hb4'
    have k2 := bel_next k3 hb3'
    have k1 := bel_next k2 hb2'
    have key : ∃ m', IsSlots w' p m' ∧ IsSlots w' q m' := by
      rcases hpq with ⟨rfl, rfl⟩ | ⟨rfl, rfl⟩ | ⟨rfl, rfl⟩
      · exact ⟨_, HS1.out _ k1, HS2.out _ k2⟩
      · exact ⟨_, HS3.out _ k3, HS4.out _ k4⟩
      · exact ⟨_, HS5.out _ k5, hs6.below hb⟩
    obtain ⟨m', h1, h2⟩ := key
    exact (same_any p q m' w' h1 h2).mono fun e w'' ⟨he, hb'⟩ => ⟨he, bel_next hb' hb⟩
  have HNE : Hid (∀ w', Below w6.heap.size w6 w' → Calls Try.prog 19 #[] w' fun e w'' => ∃ g, e = .returned (.slice (some ⟨g, 0, none⟩) 64 64) ∧ IsSlots w'' (.slice (some ⟨g, 0, none⟩) 64 64) noSlots ∧ Below w'.heap.size w' w'' ∧ Below w6.heap.size w6 w'') :=
    fun w' hb => (new_any w').mono fun e w'' ⟨g, he, h1, h2⟩ => ⟨g, he, h1, h2, bel_next h2 hb⟩
  clear hs6
  have d1 : (err != err) = false := by simp
  have d2 : (x != x) = false := by simp
  have d3 : (E2 != E2) = false := by simp
  have d4 : (E3 != E3) = false := by simp
  go_wp2_with fail
  go_region_held3 (fun w' => Below w6.heap.size w6 w')
    (first | exact (Below.refl _ _).drew | assumption | (refine bel_next (by assumption) ?_; assumption) | (refine bel_next ((Below.refl _ _).alloc (Nat.le_refl _) _) ?_; assumption))
    (first
      | (go_at_call 19; refine (HNE.out _ (by first | assumption | exact (Below.refl _ _).drew)).mono ?_; rintro e w10 ⟨g10, rfl, hs10, hw10, hb10⟩)
      | (go_at_call 18; first
        | (refine (same_any _ _ noSlots _ (by first | exact hs10 | exact hs10.below ((Below.refl _ _).alloc (Nat.le_refl _) _)) (by first | exact lit_s64 _ _ _ (by simp) (Below.refl _ _) | exact lit_s64 _ _ _ (by simp) hw10)).mono ?_; rintro e w11 ⟨rfl, hw11⟩)
        | (refine (HEQ.out _ _ _ (by first | assumption | exact (Below.refl _ _).drew) (by first | exact Or.inl ⟨rfl, rfl⟩ | exact Or.inr (Or.inl ⟨rfl, rfl⟩) | exact Or.inr (Or.inr ⟨rfl, rfl⟩))).mono ?_; rintro e w7 ⟨rfl, hw7⟩)))
  all_goals
    rename_i hH
    have hb11 := bel_next hH hb6
    clear HP HLP HSH HLS HDR HLD HEQ HNE HS1 HS2 HS3 HS4 HS5 HSY d1 d2 d3 d4 hmk hE2 hL2 hL3 hb1 hb2 hb2' hb3 hb3' hb4 hb4' hb5 hb5' hb6 hb6' hH
    rcases Bool.eq_false_or_eq_true (mt l n) with hm | hm
    · obtain ⟨k, rfl⟩ : ∃ k : Nat, n = (k : Int) := ⟨n.toNat, by have := (mt_iff.1 hm).1; omega⟩
      obtain rfl : E3 = 0 := by rw [hE3.out]; exact (drE_ok hm).1
      have g0 : gtE l (k : Int) = 0 := by rw [gtE, hm]; rfl
      have g1 : gtB l (k : Int) = (l.getD k z0).2.1 := by rw [gtB, hm]; rfl
      have g2 : gtT l (k : Int) = (l.getD k z0).2.2 := by rw [gtT, hm]; rfl
      rw [g0, g1, g2] at HGT
      obtain ⟨b, off, cap', r', ba, bn, bc, ta, tn, tc, hv, h1', hkl, hr1, hrd, hcl⟩ := meant_slot (HIN.out _ hb11) hm
      injection hv with e1 e2 e3
      subst e1
      subst e3
      have hkN : k < N := by rw [hN.out]; exact hkl
      have hlN : N ≤ 2513169434843 := by rw [hN.out]; exact (HIN.out _ hb11).len
      have hcN : N ≤ cap := by rw [hN.out]; exact h1'
      have HCL : Hid _ := hcl
      have HRD : Hid (Rd w11 (r', (ba, bn, bc), (ta, tn, tc)) (l.getD k z0)) := hrd
      clear hcl hrd g0 g1 g2 e2 h1' hkl hr1 hE3 hm HIN
      go_wp2_with fail
      refine (HGT.out _ hb11).mono ?_
      rintro e w12 ⟨ya, yn, yc, za, zn, zc, rfl, hy, hi, hb12⟩
      have HY : Hid (IsBytes w12 (.slice ya yn yc) (l.getD k z0).2.1) := hy
      have HI : Hid (IsRecs encI 17592186043904 w12 (.slice za zn zc) (l.getD k z0).2.2) := hi
      clear hy hi HGT
      go_wp2_with fail
      refine wp_region_calm (by kernel_rfl) (by kernel_rfl) (fun W hW _ => ?_)
      have hbW : Below w12.heap.size w12 W := by rw [hW]; exact Below.refl _ _
      have hc1 : ∀ u : Wd W, u.w.cell? ⟨b, off + k * 3 + 1, none⟩ = some (.slice ba bn bc) := fun u => (HCL.out u.w (bel_next u.ok (bel_next hbW hb12))).2.1
      have hc2 : ∀ u : Wd W, u.w.cell? ⟨b, off + k * 3 + 2, none⟩ = some (.slice ta tn tc) := fun u => (HCL.out u.w (bel_next u.ok (bel_next hbW hb12))).2.2
      obtain ⟨Z, hZ⟩ : ∃ Z, Hid (Z = strOfNums (l.getD k z0).2.1) := ⟨_, rfl⟩
      have hz1 : ∀ u : Wd W, Sem.run Try.prog (convert 31 9 (.slice ya yn yc)) u.w = .ok (.string Z) u.w := fun u => by rw [hZ.out]; exact str_of (HY.out.below (bel_next u.ok hbW))
      have hz2 : ∀ u : Wd W, Sem.run Try.prog (convert 31 9 (.slice ba bn bc)) u.w = .ok (.string Z) u.w := fun u => by rw [hZ.out]; exact str_of (HRD.out.2.1.below (bel_next u.ok (bel_next hbW hb12)))
      have HQ : Hid (∀ u : Wd W, Calls Try.prog 21 #[.slice za zn zc, .slice ta tn tc] u.w fun e w' => e = .returned (.bool true) ∧ Below u.w.heap.size u.w w') := fun u => iequal_same _ _ _ u.w (HI.out.below (bel_next u.ok hbW)) (HRD.out.2.2.below (bel_next u.ok (bel_next hbW hb12)))
      clear hW
      repeat (go_big_quiet_step (first | (go_at_call 21; exact calm_of (HQ.out _))))
      refine wpQuiet_nil ?_
      rintro w13 ⟨⟨_, hw13⟩, rfl⟩
      go_wp2
      go_ret
      exact ⟨rfl, bel_next hw13 (bel_next hbW (bel_next hb12 hb11))⟩
    · obtain rfl : E3 = 3 := by rw [hE3.out]; exact (drE_none hm).1
      have g0 : gtE l n = 3 := by rw [gtE, hm]; rfl
      have g1 : gtB l n = [] := by rw [gtB, hm]; rfl
      have g2 : gtT l n = [] := by rw [gtT, hm]; rfl
      rw [g0, g1, g2] at HGT
      clear g0 g1 g2 hE3 hm HIN
      go_wp2_with fail
      refine (HGT.out _ hb11).mono ?_
      rintro e w12 ⟨ya, yn, yc, za, zn, zc, rfl, hy, hi, hb12⟩
      obtain ⟨qa, qc, hv⟩ := hy.form'
      injection hv with _ e2 _
      obtain rfl : yn = 0 := e2
      obtain ⟨qa', qc', hv⟩ := hi.form
      injection hv with _ e2 _
      obtain rfl : zn = 0 := e2
      clear hy hi HGT
      go_wp2
      go_ret
      exact ⟨rfl, bel_next hb12 hb11⟩

end Go.Proofs.Ytnmcbpanmjnegag
