/- The contract of the document's own answer framewardenref.KNext. -/
import Derived.Test.YtidaoomhnfgckagClock1
import Derived.Test.YtidaoomhnfgckagIntRecs
import Derived.BigQuiet
namespace Go.Proofs.Ytidaoomhnfgckag
open Go.RowKit
set_option linter.unusedSimpArgs false
set_option linter.unusedVariables false

/-- Places as numbers. -/
def nums (l : List Nat) : List Int := l.map (fun x : Nat => (x : Int))

theorem nums_len (l : List Nat) : (nums l).length = l.length := List.length_map _
theorem nums_snoc (l : List Nat) (x : Nat) : nums (l ++ [x]) = nums l ++ [(x : Int)] := by simp [nums]
theorem nums_get (l : List Nat) (k : Nat) : (nums l).getD k 0 = (l.getD k 0 : Nat) := by
  unfold nums
  rw [List.getD_eq_getElem?_getD, List.getD_eq_getElem?_getD, List.getElem?_map]
  cases l[k]? <;> rfl

theorem rem_ring (n h k : Nat) : ((h : Int) + (k : Int)).tmod (n : Int) = (ringP n h k : Nat) := by
  rw [Int.tmod_eq_emod_of_nonneg (by omega)]
  unfold ringP
  rw [Int.natCast_emod, Int.natCast_add]

theorem below_drewN {B : Nat} {a w : World} (h : Below B a w) (n : Nat) : Below B a (w.drewN n) := ⟨h.os, h.tape, h.output, h.size, h.block⟩

theorem rem_one (n x : Nat) : ((x : Int) + 1).tmod (n : Int) = ((x + 1) % n : Nat) := by
  rw [Int.tmod_eq_emod_of_nonneg (by omega), Int.natCast_emod, Int.natCast_add]
  rfl

/-- One more of these made unused. -/
theorem off_next {u : List Bool} {l : List Nat} {n k : Nat} {xs : List Value} (hn : n = u.length) (hk : k < l.length) (ht : xs.take n = flatL encB (offL u (l.take k))) : (xs.set (l.getD k 0) (.bool false)).take n = flatL encB (offL u (l.take (k + 1))) := by
  have := ownB_set (xs := xs) (l := offL u (l.take k)) (by rw [offL_len, ← hn]; exact ht) (l.getD k 0) false
  rw [List.length_set, offL_len, ← hn] at this
  rw [this, List.take_add_one, List.getElem?_eq_getElem hk, Option.toList_some, offL_snoc, List.getD_eq_getElem?_getD, List.getElem?_eq_getElem hk, Option.getD_some]

set_option maxHeartbeats 3200000 in
/-- Two slices as long as one another, a hand among them: the walk. -/
theorem knext_ok (H : Nat) (v u : Value) (m us : List Bool) (B : Nat) (w : World) (h : IsRecs encB B w v m) (hu : IsRecs encB B w u us) (hB : B ≤ 1048576) (hl : m.length = us.length) (hH : H < m.length) :
    Calls Try.prog 7 #[.int .i64 H, v, u] w fun e w' => ∃ a b v' L err, e = .returned (nxtV a b v' err) ∧ OwnR 4 1 encB w.heap.size w' v' L ∧ Says H m us a b L err ∧ Below w.heap.size w w' := by
  obtain ⟨i0, hi0, hz0, hz1, hz2⟩ := info_parts info_int
  obtain ⟨i1, hi1, hy0, hy1, hy2⟩ := info_parts info_bool
  have hlm := h.len
  obtain ⟨a, cap, rfl, h1, -, hc'⟩ := h
  obtain ⟨b, off, rfl, hc⟩ := hc' (by omega)
  obtain ⟨ua, ucap, rfl, h2, -, hd'⟩ := hu
  obtain ⟨ub, uoff, rfl, hd⟩ := hd' (by omega)
  clear hc' hd'
  have HCM : Hid (∀ k (wr : World), Below w.heap.size w wr → wr.cell? ⟨b, off + ringP m.length H k, none⟩ = some (.bool (m.getD (ringP m.length H k) false))) := fun k wr hb => cellB hc hb _ (ringP_lt (by omega)) rfl
  have HCU : Hid (∀ i (wr : World), i < m.length → Below w.heap.size w wr → wr.cell? ⟨ub, uoff + i, none⟩ = some (.bool (us.getD i false))) := fun i wr hi hb => cellB hd hb _ (by omega) rfl
  have HNEW0 : Hid (∀ (W w' : World), Below w.heap.size w W → Below W.heap.size W w' → ∀ j x, (flatL encB us)[j]? = some x → w'.cell? ((⟨ub, uoff, none⟩ : Addr).add j) = some x) := by
    intro W w' hb hb' j x hj
    rw [add_none]
    have := hd j x hj
    rw [← this]
    exact (hb.trans (hb'.mono hb.size)).cell (cell_lt this)
  have HLT : Hid (∀ k, ringP m.length H k < m.length) := fun k => ringP_lt (by omega)
  have HREM : Hid (∀ k : Nat, ((H : Int) + (k : Int)).tmod (m.length : Int) = (ringP m.length H k : Nat)) := fun k => rem_ring _ _ _
  have HIN : Hid (∀ x ∈ inP m H m.length, x < m.length) := fun x hx => inP_lt hH x hx
  have HILEN : Hid (∀ k, (inP m H k).length ≤ k) := fun k => inP_len m H k
  have HIY : Hid (∀ k, m.getD (ringP m.length H k) false = true → inP m H (k + 1) = inP m H k ++ [ringP m.length H k]) := fun k hy => by rw [inP, if_pos hy]
  have HINO : Hid (∀ k, m.getD (ringP m.length H k) false = false → inP m H (k + 1) = inP m H k) := fun k hy => by rw [inP, hy]; rfl
  have HNONE : Hid (inP m H m.length = [] → Says H m us 0 0 [] 3) := fun h0 => Or.inr (Or.inr (Or.inl ⟨hl, ⟨by omega, by omega⟩, in_none hH h0, rfl, rfl, rfl, rfl⟩))
  have HDONE : Hid (∀ K s, s < (inP m H m.length).length → Stops m us H K → Says H m us (ringP m.length H K : Nat) (ringP m.length H (K + 1) : Nat) (passL m us H K) 0) := fun K s hs hK => Or.inr (Or.inr (Or.inr ⟨hl, ⟨by omega, by omega⟩, in_some hs, rfl, K, by rw [Int.toNat_natCast]; exact hK, by rw [Int.toNat_natCast], by rw [Int.toNat_natCast], by rw [Int.toNat_natCast]⟩))
  have HFREE : Hid (∀ s, s < (inP m H m.length).length → us.getD ((inP m H m.length).getD s 0) false = false → (∀ j, j < s → us.getD ((inP m H m.length).getD j 0) false = true) → ∃ K, Stops m us H K ∧ (inP m H m.length).getD s 0 = ringP m.length H K ∧ offL us ((inP m H m.length).take s) = passL m us H K) := fun s hs h1 h2 => in_free hH hs h1 h2
  have HUSED : Hid (0 < (inP m H m.length).length → (∀ j, j < (inP m H m.length).length → us.getD ((inP m H m.length).getD j 0) false = true) → ∃ K, Stops m us H K ∧ (inP m H m.length).getD 0 0 = ringP m.length H K ∧ offL us (inP m H m.length) = passL m us H K) := fun hs h1 => in_used hH hs h1
  obtain ⟨n, hn⟩ : ∃ n, Hid (n = m.length) := ⟨_, rfl⟩
  have hn2 : Hid (n = us.length) := hn.out.trans hl
  have hnB : n ≤ 1048576 := by rw [hn.out]; omega
  have hHn : H < n := by rw [hn.out]; exact hH
  simp only [← hn.out, ← hn2.out] at HCM HCU HLT HREM HIN HIY HINO HNONE HDONE HFREE HUSED ⊢
  clear hc hd hlm hl h1 h2 hH hB
  have hd2 : decide ((n : Int) - 1 < (H : Int)) = false := by simp; omega
  have hd1 : decide ((H : Int) < 0) = false := by simp
  go_enter Try.func7, Try.ntmps7
  go_wp2_with fail
  go_loopw [11, 36] (fun v i wr => ∃ k : Nat, k ≤ n ∧ i = .int .i64 k ∧ Hid (OwnR 3 1 encI w.heap.size wr v (nums (inP m H k))) ∧ Below w.heap.size w wr) (fun _ i _ => n - (intOf i).toNat)
  case atStart => exact ⟨0, Nat.zero_le _, rfl, ownR_nil _ _ _, Below.refl _ _⟩
  case round =>
    obtain ⟨k, hk, rfl, hown, hbel⟩ := hrel
    obtain ⟨va, vc, rfl⟩ := hown.out.form
    have hlen := HILEN.out k
    rw [nums_len]
    obtain ⟨N, hN⟩ : ∃ N, Hid (N = (inP m H k).length) := ⟨_, rfl⟩
    rw [nums_len, ← hN.out] at hown
    rw [← hN.out] at hlen ⊢
    by_cases hlt : k < n
    · have c0 := HCM.out k wr hbel
      have hlr := HLT.out k
      have hrem := HREM.out k
      have HY1 : Hid _ := HIY.out k
      have HN1 : Hid _ := HINO.out k
      have hbw := hbel.size
      obtain ⟨x, hx⟩ : ∃ x, x = ringP n H k := ⟨_, rfl⟩
      rw [← hx] at c0 hlr hrem HY1 HN1
      clear hx
      have HL1 : Hid (((nums (inP m H k)).length + 1) * 8 ≤ 140737488355328) := by show _ ≤ _; rw [nums_len, ← hN.out]; omega
      have HL2 : Hid ((nums (inP m H k)).length + 1 ≤ maxLen) := by show _ ≤ _; rw [nums_len, ← hN.out]; unfold maxLen; omega
      cases hM : m.getD x false with
      | true =>
        rw [hM] at c0
        have HU : Hid (nums (inP m H (k + 1)) = nums (inP m H k) ++ [(x : Int)]) := by show _ = _; rw [HY1.out hM, nums_snoc]
        clear HY1 HN1 hM
        go_wp2_with (at_builtin; go_must (refine wpList_append_rec shI rfl _ _ 29 3 i0 _ 8 rfl Try.underlying29 hi0 hz0 hz1 hz2 rfl w.heap.size _ (nums (inP m H k)) rfl wr hown.out ((Below.refl _ _).alloc (Nat.le_refl _) _) hbw HL1.out HL2.out (x : Int) _ 1 rfl (box1 wr _ rfl _ _) ?_); intro v' w3 hown3 hbw3)
        go_roundw
        case rel => exact ⟨k + 1, by omega, by go_num, by show OwnR _ _ _ _ _ _ _; rw [HU.out]; exact hown3, ((hbel.alloc hbw _).trans hbw3)⟩
        case measure => simp [intOf]; omega
      | false =>
        rw [hM] at c0
        have HU : Hid (nums (inP m H (k + 1)) = nums (inP m H k)) := by show _ = _; rw [HN1.out hM]
        clear HY1 HN1 hM
        go_wp2_with fail
        go_roundw
        case rel => exact ⟨k + 1, by omega, by go_num, by show OwnR _ _ _ _ _ _ _; rw [HU.out]; exact hown.out, hbel⟩
        case measure => simp [intOf]; omega
    · obtain rfl : n = k := by omega
      obtain ⟨W1, hW1⟩ : ∃ x, x = wr := ⟨_, rfl⟩
      subst hW1
      obtain ⟨l, hlL⟩ : ∃ l, Hid (l = inP m H n) := ⟨_, rfl⟩
      rw [← hlL.out] at hN hown HIN HNONE HDONE HFREE HUSED
      by_cases hN0 : N = 0
      · have HS : Hid (Says H m us 0 0 [] 3) := HNONE.out (List.eq_nil_of_length_eq_zero (by rw [← hN.out]; exact hN0))
        clear HIN HNONE HDONE HFREE HUSED
        go_wp2_with fail
        (try simp only [Exit.inBlock, Exit.then]); refine bodyPost_ret (results_tmp4 rfl _ _ _) rfl ?_
        exact ⟨_, _, _, _, _, rfl, ownR_nil _ _ _, HS.out, hbel⟩
      · have hNp : 0 < N := by omega
        have HREC : Hid (IsRecs encI 1048576 W1 (.slice va N vc) (nums l)) := hown.out.recs (by rw [nums_len, ← hN.out]; omega)
        obtain ⟨ra, rcap, hre, hrc, hrB, hrcell⟩ := HREC.out
        rw [nums_len, ← hN.out] at hre hrc hrcell
        obtain ⟨gi, oi, rfl, hgi⟩ := hrcell hNp
        cases hre
        clear hrcell
        have HCI : Hid (∀ j (wr : World), j < N → Below W1.heap.size W1 wr → wr.cell? ⟨gi, oi + j, none⟩ = some (.int .i64 (l.getD j 0 : Nat))) := fun j wr hj hb => cell1 hgi hb j (by rw [nums_len, ← hN.out]; exact hj) (nums_get l j).symm
        have HIL : Hid (∀ j, j < N → l.getD j 0 < n) := fun j hj => HIN.out _ (by rw [List.getD_eq_getElem?_getD, List.getElem?_eq_getElem (by rw [← hN.out]; exact hj)]; exact List.getElem_mem _)
        rw [← hN.out] at HDONE HFREE HUSED
        have HNEW : Hid (∀ w', Below W1.heap.size W1 w' → ∀ j x, (flatL encB us)[j]? = some x → w'.cell? ((⟨ub, uoff, none⟩ : Addr).add j) = some x) := fun w' hb => HNEW0.out W1 w' hbel hb
        have c0 := HCI.out 0 W1 hNp (Below.refl _ _)
        rw [Nat.add_zero] at c0
        obtain ⟨X0, hX0⟩ : ∃ x, Hid (x = l.getD 0 0) := ⟨_, rfl⟩
        rw [← hX0.out] at c0
        have hX0l : X0 < n := by rw [hX0.out]; exact HIL.out 0 hNp
        have hdN : ¬ (N : Int) = 0 := by omega
        clear HIN HNONE hgi hN0 HNEW0 HIY HINO
        go_wp2_with fail
        go_loop [14, 15, 63] (fun x y i => ∃ j : Nat, j ≤ N ∧ x = .int .i64 X0 ∧ y = .int .i64 N ∧ i = .int .i64 j ∧ Hid (∀ t, t < j → us.getD (l.getD t 0) false = true)) (fun _ _ i => N - (intOf i).toNat)
        case atStart => exact ⟨0, Nat.zero_le _, rfl, rfl, rfl, fun t ht => by omega⟩
        case round =>
          obtain ⟨j, hj, rfl, rfl, rfl, hall⟩ := hrel
          by_cases hjN : j < N
          · have c1 := HCI.out j W1 hjN (Below.refl _ _)
            have hxl := HIL.out j hjN
            have c2 := HCU.out _ W1 hxl hbel
            obtain ⟨x, hx⟩ : ∃ x, x = l.getD j 0 := ⟨_, rfl⟩
            rw [← hx] at c1 hxl c2
            cases hU : us.getD x false with
            | true =>
              rw [hU] at c2
              have HA : Hid (∀ t, t < j + 1 → us.getD (l.getD t 0) false = true) := fun t ht => by
                by_cases e : t = j
                · rw [e, ← hx]; exact hU
                · exact hall.out t (by omega)
              clear hU hx
              go_wp2_with fail
              go_round
              case rel => exact ⟨j + 1, by omega, rfl, rfl, by go_num, HA⟩
              case measure => simp [intOf]; omega
            | false =>
              rw [hU] at c2
              obtain ⟨K, hK, hKx, hKo⟩ := HFREE.out j hjN (by rw [← hx]; exact hU) hall.out
              obtain ⟨Y, hY⟩ : ∃ Y, Y = (x + 1) % n := ⟨_, rfl⟩
              have hrem : ((x : Int) + 1).tmod (n : Int) = (Y : Nat) := by rw [hY]; exact rem_one n x
              have HSAY : Hid (Says H m us x Y (offL us (l.take j)) 0) := by
                show Says _ _ _ _ _ _ _
                rw [hKo, hY, hx, hKx, ← ringP_succ]
                exact HDONE.out K j hjN hK
              have hsN : j ≤ N ∧ j < N := ⟨hj, hjN⟩
              clear hU hx hK hKx hKo hY
              obtain ⟨b1, b2⟩ := hsN
              go_wp2_with (at_builtin; go_must (refine wpList_append_own _ rfl _ _ 22 rfl W1.heap.size 4 i1 _ 1 1 Try.underlying22 hi1 hy0 hy1 hy2 rfl (by decide) _ _ _ rfl (World.ownsRow_made W1 #[] 0 (Nat.le_refl _) (Nat.zero_le _) (by simp)) ⟨ub, uoff, none⟩ n ucap (flatL encB us) rfl (by rw [flatB_len, ← hn2.out, Nat.mul_one]) (HNEW.out _ ((Below.refl _ _).alloc (Nat.le_refl _) _)) (flatL_ones shB us) (by unfold maxLen; omega) (by omega) (by simp) ?_); intro ov W2 hown2 hgrow2 hnil2)
              have HOUT : Hid (OwnR 4 1 encB W1.heap.size W2 ov us) := by
                show OwnR _ _ _ _ _ _ _
                unfold OwnR
                rw [← hn2.out]
                simpa using hown2
              have hb12 : Below W1.heap.size W1 W2 := ((Below.refl _ W1).alloc (Nat.le_refl _) _).grown hgrow2 (by simp) (by intro k hk; cases hk; exact Nat.le_refl _)
              clear hown2 hgrow2 hnil2
              obtain ⟨go, ocap, xs0, rfl, hgo, hor, hoc, hom, hox, hot⟩ := HOUT.out.row (by rw [← hn2.out]; omega)
              rw [← hn2.out, Nat.mul_one] at hot
              rw [Nat.mul_one] at hox
              rw [← hn2.out] at hoc ⊢
              have hw1 := hbel.size
              go_wp2_with fail
              go_loopw [83] (fun i wr => ∃ (t : Nat) (xs : List Value), t ≤ j ∧ i = .int .i64 t ∧ Hid (OwnRow wr go 4 xs ∧ xs.length = ocap ∧ xs.take n = flatL encB (offL us (l.take t))) ∧ Below W1.heap.size W1 wr) (fun i _ => j - (intOf i).toNat)
              case atStart => exact ⟨0, xs0, Nat.zero_le _, rfl, ⟨hor, hox, by simpa [offL] using hot⟩, hb12⟩
              case round =>
                obtain ⟨t, xs, ht, rfl, HO, hb3⟩ := hrel
                by_cases htl : t < j
                · obtain ⟨ho, hxl', hxt⟩ := HO.out
                  have c3 := HCI.out t wr (by omega) hb3
                  have hyl := HIL.out t (by omega)
                  have HNX : Hid _ := off_next (u := us) (l := l) (n := n) (k := t) (xs := xs) hn2.out (by rw [← hN.out]; omega) hxt
                  have c4 := ownB_cell (l := offL us (l.take t)) ho (by rw [offL_len, ← hn2.out]; exact hxt) (i := l.getD t 0) (by rw [offL_len, ← hn2.out]; exact hyl)
                  have cf := ho.free (l.getD t 0)
                  have HO1 : Hid (OwnRow wr go 4 xs) := ho
                  have HX1 : Hid (xs.length = ocap) := hxl'
                  generalize (offL us (l.take t)).getD (l.getD t 0) false = z at c4
                  generalize l.getD t 0 = y at c3 hyl HNX c4 cf
                  clear HO ho hxl' hxt
                  go_wp2_with fail
                  go_roundw
                  case rel => exact ⟨t + 1, xs.set y (.bool false), by omega, by go_num, ⟨HO1.out.set y _, by rw [List.length_set]; exact HX1.out, HNX.out⟩, hb3.setCell hgo _⟩
                  case measure => simp [intOf]; omega
                · obtain rfl : j = t := by omega
                  obtain ⟨ho, hxl', hxt⟩ := HO.out
                  have HF : Hid (OwnR 4 1 encB w.heap.size wr (.slice (some ⟨go, 0, none⟩) n ocap) (offL us (l.take j))) := by
                    have := ownR_of_row (l := offL us (l.take j)) (cap := ocap) shB (Nat.le_trans hw1 hgo) ho (by rw [offL_len, ← hn2.out]; exact hoc) hom (by rw [Nat.mul_one]; exact hxl') (by rw [offL_len, ← hn2.out, Nat.mul_one]; exact hxt)
                    rw [offL_len, ← hn2.out] at this
                    exact this
                  clear HO ho hxl' hxt
                  go_wp2_with fail
                  go_quiet (fail)
                  go_wp2_with fail
                  (try simp only [Exit.inBlock, Exit.then]); refine bodyPost_ret (results_tmp4 rfl _ _ _) rfl ?_
                  exact ⟨_, _, _, _, _, rfl, HF.out, HSAY.out, below_drewN (hbel.trans (hb3.mono hw1)) _⟩
          · obtain ⟨K, hK, hKx, hKo⟩ := HUSED.out hNp (fun t ht => hall.out t (by omega))
            obtain ⟨Y, hY⟩ : ∃ Y, Y = (X0 + 1) % n := ⟨_, rfl⟩
            have hrem : ((X0 : Int) + 1).tmod (n : Int) = (Y : Nat) := by rw [hY]; exact rem_one n X0
            have HSAY : Hid (Says H m us X0 Y (offL us (l.take N)) 0) := by
              show Says _ _ _ _ _ _ _
              rw [hN.out, List.take_length, hKo, hY, hX0.out, hKx, ← ringP_succ]
              exact HDONE.out K 0 hNp hK
            have hsN : N ≤ N ∧ ¬ j < N := ⟨Nat.le_refl _, hjN⟩
            clear hK hKx hKo hY
            obtain ⟨b1, b2⟩ := hsN
            go_wp2_with (at_builtin; go_must (refine wpList_append_own _ rfl _ _ 22 rfl W1.heap.size 4 i1 _ 1 1 Try.underlying22 hi1 hy0 hy1 hy2 rfl (by decide) _ _ _ rfl (World.ownsRow_made W1 #[] 0 (Nat.le_refl _) (Nat.zero_le _) (by simp)) ⟨ub, uoff, none⟩ n ucap (flatL encB us) rfl (by rw [flatB_len, ← hn2.out, Nat.mul_one]) (HNEW.out _ ((Below.refl _ _).alloc (Nat.le_refl _) _)) (flatL_ones shB us) (by unfold maxLen; omega) (by omega) (by simp) ?_); intro ov W2 hown2 hgrow2 hnil2)
            have HOUT : Hid (OwnR 4 1 encB W1.heap.size W2 ov us) := by
              show OwnR _ _ _ _ _ _ _
              unfold OwnR
              rw [← hn2.out]
              simpa using hown2
            have hb12 : Below W1.heap.size W1 W2 := ((Below.refl _ W1).alloc (Nat.le_refl _) _).grown hgrow2 (by simp) (by intro k hk; cases hk; exact Nat.le_refl _)
            clear hown2 hgrow2 hnil2
            obtain ⟨go, ocap, xs0, rfl, hgo, hor, hoc, hom, hox, hot⟩ := HOUT.out.row (by rw [← hn2.out]; omega)
            rw [← hn2.out, Nat.mul_one] at hot
            rw [Nat.mul_one] at hox
            rw [← hn2.out] at hoc ⊢
            have hw1 := hbel.size
            go_wp2_with fail
            go_loopw [83] (fun i wr => ∃ (t : Nat) (xs : List Value), t ≤ N ∧ i = .int .i64 t ∧ Hid (OwnRow wr go 4 xs ∧ xs.length = ocap ∧ xs.take n = flatL encB (offL us (l.take t))) ∧ Below W1.heap.size W1 wr) (fun i _ => N - (intOf i).toNat)
            case atStart => exact ⟨0, xs0, Nat.zero_le _, rfl, ⟨hor, hox, by simpa [offL] using hot⟩, hb12⟩
            case round =>
              obtain ⟨t, xs, ht, rfl, HO, hb3⟩ := hrel
              by_cases htl : t < N
              · obtain ⟨ho, hxl', hxt⟩ := HO.out
                have c3 := HCI.out t wr (by omega) hb3
                have hyl := HIL.out t (by omega)
                have HNX : Hid _ := off_next (u := us) (l := l) (n := n) (k := t) (xs := xs) hn2.out (by rw [← hN.out]; omega) hxt
                have c4 := ownB_cell (l := offL us (l.take t)) ho (by rw [offL_len, ← hn2.out]; exact hxt) (i := l.getD t 0) (by rw [offL_len, ← hn2.out]; exact hyl)
                have cf := ho.free (l.getD t 0)
                have HO1 : Hid (OwnRow wr go 4 xs) := ho
                have HX1 : Hid (xs.length = ocap) := hxl'
                generalize (offL us (l.take t)).getD (l.getD t 0) false = z at c4
                generalize l.getD t 0 = y at c3 hyl HNX c4 cf
                clear HO ho hxl' hxt
                go_wp2_with fail
                go_roundw
                case rel => exact ⟨t + 1, xs.set y (.bool false), by omega, by go_num, ⟨HO1.out.set y _, by rw [List.length_set]; exact HX1.out, HNX.out⟩, hb3.setCell hgo _⟩
                case measure => simp [intOf]; omega
              · obtain rfl : N = t := by omega
                obtain ⟨ho, hxl', hxt⟩ := HO.out
                have HF : Hid (OwnR 4 1 encB w.heap.size wr (.slice (some ⟨go, 0, none⟩) n ocap) (offL us (l.take N))) := by
                  have := ownR_of_row (l := offL us (l.take N)) (cap := ocap) shB (Nat.le_trans hw1 hgo) ho (by rw [offL_len, ← hn2.out]; exact hoc) hom (by rw [Nat.mul_one]; exact hxl') (by rw [offL_len, ← hn2.out, Nat.mul_one]; exact hxt)
                  rw [offL_len, ← hn2.out] at this
                  exact this
                clear HO ho hxl' hxt
                go_wp2_with fail
                go_quiet (fail)
                go_wp2_with fail
                (try simp only [Exit.inBlock, Exit.then]); refine bodyPost_ret (results_tmp4 rfl _ _ _) rfl ?_
                exact ⟨_, _, _, _, _, rfl, HF.out, HSAY.out, below_drewN (hbel.trans (hb3.mono hw1)) _⟩

set_option maxHeartbeats 400000 in
/-- What the document's own answer is. -/
theorem knext_any (hand : Int) (v u : Value) (m us : List Bool) (B : Nat) (w : World) (h : IsRecs encB B w v m) (hu : IsRecs encB B w u us) (hB : B ≤ 1048576) :
    Calls Try.prog 7 #[.int .i64 hand, v, u] w fun e w' => ∃ a b v' L err, e = .returned (nxtV a b v' err) ∧ OwnR 4 1 encB w.heap.size w' v' L ∧ Says hand m us a b L err ∧ Below w.heap.size w w' := by
  by_cases hl : m.length = us.length
  · by_cases hr : 0 ≤ hand ∧ hand < m.length
    · obtain ⟨H, rfl⟩ := Int.eq_ofNat_of_zero_le hr.1
      exact knext_ok H v u m us B w h hu hB hl (by omega)
    · have HS : Hid (Says hand m us 0 0 [] 2) := Or.inr (Or.inl ⟨hl, hr, rfl, rfl, rfl, rfl⟩)
      have hlm := h.len
      obtain ⟨a, cap, rfl⟩ := h.form
      obtain ⟨ua, ucap, rfl⟩ := hu.form
      rw [← hl]
      generalize m.length = n at *
      clear h hu hl
      by_cases d1 : hand < 0
      · clear hr
        go_enter Try.func7, Try.ntmps7
        go_wp2
        (try simp only [Exit.inBlock, Exit.then]); refine bodyPost_ret (results_tmp4 rfl _ _ _) rfl ?_
        exact ⟨_, _, _, _, _, rfl, ownR_nil _ _ _, HS.out, Below.refl _ _⟩
      · have d2 : (n : Int) - 1 < hand := by omega
        clear hr
        go_enter Try.func7, Try.ntmps7
        go_wp2
        (try simp only [Exit.inBlock, Exit.then]); refine bodyPost_ret (results_tmp4 rfl _ _ _) rfl ?_
        exact ⟨_, _, _, _, _, rfl, ownR_nil _ _ _, HS.out, Below.refl _ _⟩
  · have HS : Hid (Says hand m us 0 0 [] 1) := Or.inl ⟨hl, rfl, rfl, rfl, rfl⟩
    have hd : ¬ (us.length : Int) = (m.length : Int) := by omega
    obtain ⟨a, cap, rfl⟩ := h.form
    obtain ⟨ua, ucap, rfl⟩ := hu.form
    generalize m.length = n at *
    generalize us.length = n' at *
    clear h hu hl
    go_enter Try.func7, Try.ntmps7
    go_wp2
    (try simp only [Exit.inBlock, Exit.then]); refine bodyPost_ret (results_tmp4 rfl _ _ _) rfl ?_
    exact ⟨_, _, _, _, _, rfl, ownR_nil _ _ _, HS.out, Below.refl _ _⟩

end Go.Proofs.Ytidaoomhnfgckag
