/- The walk of framewardenkeep.SwapBack: what was put is there, all others are as they were, and when all who meant it are gone, so is it. -/
import Derived.Test.YtnmcbpanmjnegagAlive12
import Derived.Test.YtnmcbpanmjnegagSlotsOpen
import Derived.Test.YtnmcbpanmjnegagSwapRef2
namespace Go.Proofs.Ytnmcbpanmjnegag
open Go.RowKit
set_option linter.unusedSimpArgs false
set_option linter.unusedVariables false

/-- One slot of a slice, as a slice. -/
theorem slots_one {w : World} {b off N cap k : Nat} {l : List Sl} (h : IsSlots w (.slice (some ⟨b, off, none⟩) N cap) l) (hk : k < l.length) (A : Addr) (hA : A = ⟨b, off + k * 3, none⟩) : IsSlots w (.slice (some A) 1 (cap - k)) [l.getD k z0] := by
  subst hA
  obtain ⟨L, hL, ⟨a, cap', hv, h1, hl, hc'⟩, hR⟩ := h
  injection hv with e1 e2 e3
  subst e3
  obtain ⟨b', off', e4, hc⟩ := hc' (by omega)
  rw [← e1] at e4
  injection e4 with e4
  injection e4 with e4 e5
  subst e4
  subst e5
  have hd : (L.drop k).take 1 = [L.getD k v0] := by
    rw [List.drop_eq_getElem_cons (by omega), List.getD_eq_getElem?_getD, List.getElem?_eq_getElem (by omega)]
    rfl
  refine ⟨[L.getD k v0], rfl, ⟨_, _, rfl, by simp; omega, by simp, fun _ => ⟨b, off + k * 3, rfl, fun j u hj => ?_⟩⟩, fun i hi => ?_⟩
  · rw [← hd] at hj
    exact recs_part shS hc k 1 j u hj
  · obtain rfl : i = 0 := by simp at hi; exact hi
    exact hR k hk

theorem IsSlots.addr {w : World} {v : Value} {l : List Sl} (h : IsSlots w v l) (hp : 0 < l.length) : ∃ b off cap, v = .slice (some ⟨b, off, none⟩) l.length cap ∧ l.length ≤ cap := by
  obtain ⟨L, hL, ⟨a, cap, rfl, h1, hl, hc'⟩, hR⟩ := h
  obtain ⟨b, off, rfl, -⟩ := hc' (by omega)
  exact ⟨b, off, cap, by rw [hL], by omega⟩

theorem left_few {l : List Sl} {k : Nat} {bs ts : List Int} {r c : Int} (hk : k < l.length) (h0 : 0 ≤ c) (h1 : r ≤ 4) : ((l.set k (left bs ts r c)).getD (k : Int).toNat z0).1 ≤ 9223372036854775807 := by
  rw [Int.toNat_natCast, getD_set_self hk]
  unfold left
  split
  · decide
  · simp only; omega

set_option maxHeartbeats 3200000 in
theorem swapBack_walk (v : Value) (l : List Sl) (bv : Value) (bs : List Int) (tv : Value) (ts : List Int) (r o : Int) (w : World) (h : IsSlots w v l) (hf : FewRefs l) (hb : IsBytes w bv bs) (ht : IsInts w tv ts) (hr : (Lit.int .i64 r).wf = true) (ho : (Lit.int .i64 o).wf = true) :
    Calls Try.prog 7 #[v, bv, tv, .int .i64 r, .int .i64 o] w fun e w' => e = .returned (.bool true) ∧ Below w.heap.size w w' := by
  have HA : Hid (Calls Try.prog 22 #[] w fun e w' => e = .returned (.bool true) ∧ Below w.heap.size w w') := alive12_any w
  have HT : Hid (∀ w1, Below w.heap.size w w1 → IsRecs encI 17592186043904 w1 tv ts) := fun w1 hb1 => (ints_recs ht).below hb1
  have HB : Hid (∀ w1, Below w.heap.size w w1 → IsBytes w1 bv bs) := fun w1 hb1 => hb.below hb1
  have HIN : Hid (∀ w1, Below w.heap.size w w1 → IsSlots w1 v l) := fun w1 hb1 => h.below hb1
  by_cases hgood : (∃ k, Least l k) ∧ putOk bs ts r = true
  · obtain ⟨⟨k, hk⟩, hok⟩ := hgood
    obtain ⟨ob, ot, r1, r4⟩ := putOk_iff.1 hok
    have HKL : Hid (k < l.length) := hk.1
    have hsay : ∀ {m n e}, PutSays l bs ts r m n e → m = l.set k (r, bs, ts) ∧ n = (k : Int) ∧ e = 0 := fun h => PutSays.unique (Or.inr (Or.inr ⟨hok, k, hk, rfl, rfl, rfl⟩)) h
    have HP : Hid (∀ w1, Below w.heap.size w w1 → Calls Try.prog 13 #[v, bv, tv, .int .i64 r] w1 fun e w' => ∃ b off cap, e = .returned (.tuple #[.slice (some ⟨b, off, none⟩) l.length cap, .int .i64 k, .int .i64 0]) ∧ IsSlots w' (.slice (some ⟨b, off, none⟩) l.length cap) (l.set k (r, bs, ts)) ∧ l.length ≤ cap ∧ Below w.heap.size w w') := by
      intro w1 hb1
      refine (put_any v bv tv l bs ts r w1 (HIN.out _ hb1) (HB.out _ hb1) (HT.out _ hb1)).mono ?_
      rintro e w' ⟨a, N, c, m, n, err, rfl, hs, hp, hb2⟩
      obtain ⟨rfl, rfl, rfl⟩ := hsay hp
      obtain ⟨b, off, cap, hv, hc⟩ := hs.addr (by rw [List.length_set]; have := hk.1; omega)
      rw [List.length_set] at hv hc
      rw [hv] at hs ⊢
      exact ⟨b, off, cap, rfl, hs, hc, bel_next hb2 hb1⟩
    have HG1 : Hid (∀ u w1, IsSlots w1 u (l.set k (r, bs, ts)) → Calls Try.prog 20 #[u, .int .i64 k] w1 fun e w' => ∃ ba bn bc ta tn tc, e = .returned (.tuple #[.slice ba bn bc, .slice ta tn tc, .int .i64 0]) ∧ IsBytes w' (.slice ba bn bc) bs ∧ IsRecs encI 17592186043904 w' (.slice ta tn tc) ts ∧ Below w1.heap.size w1 w') := by
      intro u w1 h1
      have := get_any u _ k w1 h1
      have e := put_gt (l := l) (k := k) hk.1 (s := (r, bs, ts)) r1
      rw [e.1, e.2.1, e.2.2] at this
      exact this
    have HD : Hid (∀ (c : Nat) u w1, (c : Int) < r → IsSlots w1 u (l.set k (left bs ts r c)) → Calls Try.prog 17 #[u, .int .i64 k] w1 fun e w' => ∃ a N cc, e = .returned (.tuple #[.slice a N cc, .int .i64 0]) ∧ IsSlots w' (.slice a N cc) (l.set k (left bs ts r ((c + 1 : Nat) : Int))) ∧ Below w1.heap.size w1 w') := by
      intro c u w1 hc h1
      have := drop_any u _ k w1 h1 (left_few hk.1 (by omega) r4)
      have e := drop_more' (l := l) (k := k) hk.1 (s := left bs ts r c) (by rw [left_pos hc]; simp only; omega)
      rw [e.1, e.2, left_less hc] at this
      exact this
    have HG2 : Hid (∀ u w1, IsSlots w1 u (l.set k z0) → Calls Try.prog 20 #[u, .int .i64 k] w1 fun e w' => ∃ ba bn bc ta tn tc, e = .returned (.tuple #[.slice ba bn bc, .slice ta tn tc, .int .i64 3]) ∧ Below w1.heap.size w1 w') := by
      intro u w1 h1
      have := get_any u _ k w1 h1
      rw [gone hk.1] at this
      exact this.mono fun e w' ⟨ba, bn, bc, ta, tn, tc, he, _, _, hb⟩ => ⟨ba, bn, bc, ta, tn, tc, he, hb⟩
    have HP2 : Hid (∀ u w1, Below w.heap.size w w1 → IsSlots w1 u (l.set k z0) → Calls Try.prog 13 #[u, bv, tv, .int .i64 r] w1 fun e w' => ∃ a cap, e = .returned (.tuple #[.slice a l.length cap, .int .i64 k, .int .i64 0]) ∧ Below w1.heap.size w1 w') := by
      intro u w1 hb1 h1
      refine (put_any u bv tv _ bs ts r w1 h1 (HB.out _ hb1) (HT.out _ hb1)).mono ?_
      rintro e w' ⟨a, N, c, m, n, err, rfl, hs, hp, hb2⟩
      obtain ⟨rfl, rfl, rfl⟩ := (put_again hk hok).unique hp
      obtain ⟨a', cap, hv⟩ := hs.form
      rw [List.length_set] at hv
      rw [hv]
      exact ⟨a', cap, rfl, hb2⟩
    have HSE : Hid (∀ j, j ≠ k → (l.set k (r, bs, ts)).getD j z0 = l.getD j z0) := fun j hj => getD_set_other (Ne.symm hj) _
    have HL0 : Hid (l.set k (left bs ts r (0 : Nat)) = l.set k (r, bs, ts)) := by show _ = _; rw [show ((0 : Nat) : Int) = 0 from rfl, left_zero r1]
    obtain ⟨R, hR⟩ : ∃ R : Nat, r = (R : Int) := ⟨r.toNat, by omega⟩
    have HLR : Hid (l.set k (left bs ts r (R : Nat)) = l.set k z0) := by show _ = _; rw [← hR, left_all]
    obtain ⟨b0, off0, cap0, rfl, hc0⟩ := h.addr (by have := hk.1; omega)
    have hl := h.len
    obtain ⟨N, hN⟩ : ∃ N, Hid (N = l.length) := ⟨_, rfl⟩
    have hkN : k < N := by rw [hN.out]; exact hk.1
    rw [← hN.out] at hl hc0 HP HP2 HIN ⊢
    obtain ⟨ba0, bc0, rfl⟩ := hb.form'
    obtain ⟨ta0, tc0, rfl⟩ := (ints_recs ht).form
    rw [ob] at HB
    rw [ot] at HT
    rw [ob, ot] at HP HP2 ⊢
    obtain ⟨Z, hZ⟩ : ∃ Z, Hid (Z = strOfNums bs) := ⟨_, rfl⟩
    clear h hf hb ht hsay hk hok ob ot
    subst hR
    go_enter Try.func7, Try.ntmps7
    go_wp2_with fail
    refine HA.out.mono ?_
    rintro e w1 ⟨rfl, hb1⟩
    go_wp2_with fail
    refine (HP.out _ hb1).mono ?_
    rintro e w2 ⟨b, off, cap, rfl, hs2, hcap, hb2⟩
    have HS2 : Hid (∀ w', Below w2.heap.size w2 w' → IsSlots w' (.slice (some ⟨b, off, none⟩) N cap) (l.set k ((R : Int), bs, ts))) := fun w' hb => hs2.below hb
    clear hs2
    go_wp2_with fail
    refine (HG1.out _ _ (HS2.out _ (Below.refl _ _))).mono ?_
    rintro e w3 ⟨ba, bn, bc, ta, tn, tc, rfl, hy3, hi3, hb3⟩
    have hb03 := bel_next hb3 hb2
    have hz1 := str_of hy3
    have hz2 := str_of (HB.out _ hb03)
    rw [← hZ.out] at hz1 hz2
    have HQ : Hid (Calls Try.prog 21 #[.slice ta tn tc, .slice ta0 4 tc0] w3 fun e w' => e = .returned (.bool true) ∧ Below w3.heap.size w3 w') := iequal_same _ _ ts w3 hi3 (HT.out _ hb03)
    clear hy3 hi3
    go_wp2_with fail
    refine HQ.out.mono ?_
    rintro e w4 ⟨rfl, hb4⟩
    have hb24 := bel_next hb4 hb3
    have hb04 := bel_next hb4 hb03
    clear hz1 hz2
    go_wp2_with fail
    go_loopw [65] (fun i wr => ∃ j : Nat, j ≤ N ∧ i = .int .i64 j ∧ Below w4.heap.size w4 wr) (fun i _ => N - (intOf i).toNat)
    case atStart => exact ⟨0, Nat.zero_le _, rfl, Below.refl _ _⟩
    case round =>
      obtain ⟨j, hj, rfl, hbel⟩ := hrel
      by_cases hlt : j < N
      · by_cases hjk : j = k
        · subst hjk
          have hd : ((j : Int) != (j : Int)) = false := by simp
          go_wp2_with fail
          refine wp_region_calm (by kernel_rfl) (by kernel_rfl) (fun W hW _ => ?_)
          have hbW : Below wr.heap.size wr W := by rw [hW]; exact Below.refl _ _
          clear hW
          repeat (go_big_quiet_step (fail))
          refine wpQuiet_nil ?_
          rintro w2 ⟨⟨_, hw2⟩, rfl⟩
          have hb2 : Below wr.heap.size wr w2 := hbW.trans (hw2.mono hbW.size)
          go_wp2
          go_roundw
          case rel => exact ⟨j + 1, by omega, by go_num, bel_next hb2 hbel⟩
          case measure => simp [intOf]; omega
        · have hd : ((j : Int) != (k : Int)) = true := by simp; omega
          have hcj : ¬ cap = j := by omega
          have hcj0 : ¬ cap0 = j := by omega
          have HSS : Hid (∀ w', Below w4.heap.size w4 w' → Calls Try.prog 18 #[.slice (some ⟨b, off + j * 3, none⟩) 1 (cap - j), .slice (some ⟨b0, off0 + j * 3, none⟩) 1 (cap0 - j)] w' fun e w'' => e = .returned (.bool true) ∧ Below w'.heap.size w' w'') := by
            intro w' hb'
            have hjl : j < l.length := by rw [← hN.out]; exact hlt
            have h1 := slots_one (k := j) (HS2.out w' (bel_next hb' hb24)) (by rw [List.length_set]; exact hjl) ⟨b, off + j * 3, none⟩ rfl
            have h2 := slots_one (k := j) (HIN.out w' (bel_next hb' hb04)) hjl ⟨b0, off0 + j * 3, none⟩ rfl
            rw [HSE.out j hjk] at h1
            exact same_any _ _ _ w' h1 h2
          go_wp2_with fail
          refine wp_region_calm (by kernel_rfl) (by kernel_rfl) (fun W hW _ => ?_)
          have hbW : Below wr.heap.size wr W := by rw [hW]; exact Below.refl _ _
          clear hW
          have HSW : Hid (∀ u : Wd W, Calls Try.prog 18 #[.slice (some ⟨b, off + j * 3, none⟩) 1 (cap - j), .slice (some ⟨b0, off0 + j * 3, none⟩) 1 (cap0 - j)] u.w fun e w'' => e = .returned (.bool true) ∧ Below u.w.heap.size u.w w'') := fun u => HSS.out _ (bel_next u.ok (bel_next hbW hbel))
          repeat (go_big_quiet_step (first | (go_at_call 18; exact calm_of (HSW.out _))))
          refine wpQuiet_nil ?_
          rintro w2 ⟨⟨_, hw2⟩, rfl⟩
          have hb2 : Below wr.heap.size wr w2 := hbW.trans (hw2.mono hbW.size)
          go_wp2
          go_roundw
          case rel => exact ⟨j + 1, by omega, by go_num, bel_next hb2 hbel⟩
          case measure => simp [intOf]; omega
      · have hb0r := bel_next hbel hb04
        have HX : Hid (IsSlots wr (.slice (some ⟨b, off, none⟩) N cap) (l.set k (left bs ts (R : Int) ((0 : Nat) : Int)))) := by
          show IsSlots _ _ _
          rw [HL0.out]
          exact HS2.out _ (bel_next hbel hb24)
        obtain ⟨ws, hws⟩ : ∃ ws, ws = wr := ⟨_, rfl⟩
        rw [← hws] at hb0r HX ⊢
        clear hbel hws
        go_wp2_with fail
        go_loopw [87, 11] (fun i x wr => ∃ (c : Nat) (a : Option Addr) (n cc : Nat), c ≤ R ∧ i = .int .i64 c ∧ x = .slice a n cc ∧ Hid (IsSlots wr (.slice a n cc) (l.set k (left bs ts (R : Int) (c : Int)))) ∧ Below w.heap.size w wr) (fun i _ _ => R - (intOf i).toNat)
        case atStart => exact ⟨0, _, _, _, Nat.zero_le _, rfl, rfl, HX, hb0r⟩
        case round =>
          obtain ⟨c, xa, xn, xc, hc, rfl, rfl, hsx, hbx⟩ := hrel
          by_cases hcl : c < R
          · have HDD : Hid (Calls Try.prog 17 #[.slice xa xn xc, .int .i64 k] wr fun e w' => ∃ a N cc, e = .returned (.tuple #[.slice a N cc, .int .i64 0]) ∧ IsSlots w' (.slice a N cc) (l.set k (left bs ts (R : Int) ((c + 1 : Nat) : Int))) ∧ Below wr.heap.size wr w') := HD.out c _ wr (by omega) hsx.out
            go_wp2_with fail
            refine HDD.out.mono ?_
            rintro e w6 ⟨a6, n6, c6, rfl, hs6, hb6⟩
            have HS6 : Hid (IsSlots w6 (.slice a6 n6 c6) (l.set k (left bs ts (R : Int) ((c + 1 : Nat) : Int)))) := hs6
            clear hs6
            go_wp2
            go_roundw
            case rel => exact ⟨c + 1, a6, n6, c6, by omega, by go_num, rfl, HS6, bel_next hb6 hbx⟩
            case measure => simp [intOf]; omega
          · obtain rfl : c = R := by omega
            have HSZ : Hid (IsSlots wr (.slice xa xn xc) (l.set k z0)) := by
              have := hsx.out
              rw [HLR.out] at this
              exact this
            clear hsx
            go_wp2_with fail
            refine (HG2.out _ _ HSZ.out).mono ?_
            rintro e w7 ⟨y1, y2, y3, y4, y5, y6, rfl, hb7⟩
            have hb07 := bel_next hb7 hbx
            go_wp2_with fail
            refine (HP2.out _ _ hb07 (HSZ.out.below hb7)).mono ?_
            rintro e w8 ⟨a8, c8, rfl, hb8⟩
            go_wp2
            go_ret
            exact ⟨rfl, bel_next hb8 hb07⟩
  · have HP : Hid (∀ w1, Below w.heap.size w w1 → Calls Try.prog 13 #[v, bv, tv, .int .i64 r] w1 fun e w' => ∃ a c n err, e = .returned (.tuple #[.slice a 0 c, .int .i64 n, .int .i64 err]) ∧ ¬ err = 0 ∧ Below w.heap.size w w') := by
      intro w1 hb1
      refine (put_any v bv tv l bs ts r w1 (HIN.out _ hb1) (HB.out _ hb1) (HT.out _ hb1)).mono ?_
      rintro e w' ⟨a, N, c, m, n, err, rfl, hs, hp, hb2⟩
      have hm : m = [] ∧ ¬ err = 0 := by
        rcases hp with ⟨-, rfl, -, rfl⟩ | ⟨-, -, rfl, -, rfl⟩ | ⟨hok, k, hk, -⟩
        · exact ⟨rfl, by decide⟩
        · exact ⟨rfl, by decide⟩
        · exact absurd ⟨⟨k, hk⟩, hok⟩ hgood
      obtain ⟨rfl, he⟩ := hm
      obtain ⟨a', cap, hv⟩ := hs.form
      injection hv with _ e2 _
      subst e2
      exact ⟨a, c, n, err, rfl, he, bel_next hb2 hb1⟩
    obtain ⟨a, cap, rfl⟩ := h.form
    obtain ⟨ba0, bc0, rfl⟩ := hb.form'
    obtain ⟨ta0, tc0, rfl⟩ := (ints_recs ht).form
    clear h hf hb ht hgood HB HT HIN
    go_enter Try.func7, Try.ntmps7
    go_wp2_with fail
    refine HA.out.mono ?_
    rintro e w1 ⟨rfl, hb1⟩
    go_wp2_with fail
    refine (HP.out _ hb1).mono ?_
    rintro e w2 ⟨a2, c2, n2, err, rfl, hne, hb2⟩
    go_wp2
    go_ret
    exact ⟨rfl, hb2⟩

end Go.Proofs.Ytnmcbpanmjnegag
