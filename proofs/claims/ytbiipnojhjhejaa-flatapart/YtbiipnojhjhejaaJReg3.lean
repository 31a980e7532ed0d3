/- The contract of region.change with the closure of region.Seal. -/
import Derived.Test.YtbiipnojhjhejaaJReg2
namespace Go.Proofs.Ytbiipnojhjhejaa
set_option maxRecDepth 100000
open Go.RowKit
set_option linter.unusedSimpArgs false
set_option linter.unusedVariables false

set_option maxHeartbeats 1600000 in
theorem change_seal (caps : Array Value) (φ : A4 → A4) (v : Value) (l : List R6) (f t : Int) (B : Nat) (w : World) (h : IsRecs encR B w v l) (hB : B ≤ 3518437208883)
    (hφ : ∀ w1 r k g s, Below w.heap.size w w1 → Calls Try.prog 83 (#[.agg #[.int .i64 r, .int .i64 k, .bool g, .bool s]] ++ caps) w1 fun e w' => e = .returned (.agg #[.int .i64 (φ (r, k, g, s)).1, .int .i64 (φ (r, k, g, s)).2.1, .bool (φ (r, k, g, s)).2.2.1, .bool (φ (r, k, g, s)).2.2.2]) ∧ Below w1.heap.size w1 w') :
    Calls Try.prog 81 #[v, .int .i64 f, .int .i64 t, .func (.func 83) #[] caps] w fun e w' => ∃ v', e = .returned (lstV v' (chE l f t)) ∧ OwnR 50 6 encR w.heap.size w' v' (chL φ l f t) ∧ Below w.heap.size w w' := by
  have HW : Hid (Calls Try.prog 79 #[v, .int .i64 f, .int .i64 t] w fun e w' => e = .returned (.int .i64 (wrE l f t)) ∧ Below w.heap.size w w') := rwrong_any v l f t B w h (by omega)
  by_cases h0 : wrE l f t = 0
  · have hg := good_len (good_of_right (wrE_iff.1 h0).1)
    have hsp := isSp_iff.1 (wrE_iff.1 h0).2
    have HC : Hid (∀ w1, Below w.heap.size w w1 → Calls Try.prog 30 #[v, .int .i64 f, .int .i64 t] w1 fun e w' => e = .returned (.int .i64 (cnt l f t)) ∧ Below w1.heap.size w1 w') := fun w1 hb => count_any v l f t B w1 (h.below hb) (by omega) hsp.1 (by omega) hsp.2.2
    by_cases hc : cnt l f t < t - f
    · have hE : chE l f t = 3 := by unfold chE; rw [if_pos h0, if_pos hc]
      have HL : Hid (chL φ l f t = []) := by unfold chL; rw [hE]; rfl
      obtain ⟨a, cap, rfl⟩ := h.form
      rw [hE]
      rw [h0] at HW
      generalize cnt l f t = N at *
      clear h hE hφ
      go_enter Try.func81, Try.ntmps81
      go_wp2_with (first
        | (go_at_call 79; refine HW.out.mono ?_; rintro e w1 ⟨rfl, hw1⟩)
        | (go_at_call 30; refine (HC.out _ hw1).mono ?_; rintro e w2 ⟨rfl, hw2⟩))
      go_ret2
      exact ⟨_, rfl, by rw [HL.out]; exact ownR_nil _ _ _, hw1.trans (hw2.mono hw1.size)⟩
    · have hE : chE l f t = 0 := by unfold chE; rw [if_pos h0, if_neg hc]
      have hpn : partL l f t ≠ [] := fun hn => by have := cnt_part_nil f t l hn; omega
      have HR : Hid (∀ w1 u, Below w.heap.size w w1 → IsRecs encR 1000 w1 u (mapA φ (partL l f t)) → Calls Try.prog 80 #[v, .int .i64 f, .int .i64 t, u] w1 fun e w' => ∃ v', e = .returned v' ∧ OwnR 50 6 encR w1.heap.size w' v' (chL φ l f t) ∧ Below w1.heap.size w1 w') := by
        intro w1 u hb hu
        have := replace_any _ _ l (mapA φ (partL l f t)) f t 1000 w1 ((h.below hb).up (by omega)) hu hg (by rw [mapA_len]; exact Nat.le_trans (partL_len l f t) hg)
        unfold chL
        rw [if_pos hE]
        exact this
      have HP : Hid (∀ w1, Below w.heap.size w w1 → Calls Try.prog 92 #[v, .int .i64 f, .int .i64 t] w1 fun e w' => ∃ v', e = .returned v' ∧ OwnR 50 6 encR w1.heap.size w' v' (partL l f t) ∧ Below w1.heap.size w1 w') := fun w1 hb => part_any v l f t _ w1 (h.below hb) hB
      have hPl := Nat.le_trans (partL_len l f t) hg
      have HF : Hid (∀ w1 r k g s, Below w.heap.size w w1 → Calls Try.prog 83 (#[.agg #[.int .i64 r, .int .i64 k, .bool g, .bool s]] ++ caps) w1 fun e w' => e = .returned (.agg #[.int .i64 (φ (r, k, g, s)).1, .int .i64 (φ (r, k, g, s)).2.1, .bool (φ (r, k, g, s)).2.2.1, .bool (φ (r, k, g, s)).2.2.2]) ∧ Below w1.heap.size w1 w') := hφ
      obtain ⟨a, cap, rfl⟩ := h.form
      rw [hE]
      rw [h0] at HW
      have hc' : t - f ≤ cnt l f t := by omega
      generalize cnt l f t = N at *
      generalize chL φ l f t = C at *
      generalize partL l f t = P at *
      clear h hE hφ hc
      obtain ⟨n, hn⟩ : ∃ n, Hid (n = P.length) := ⟨_, rfl⟩
      have hn0 : 0 < n := by rw [hn.out]; exact List.length_pos_iff.2 hpn
      rw [← hn.out] at hPl
      go_enter Try.func81, Try.ntmps81
      go_wp2_with (first
        | (go_at_call 79; refine HW.out.mono ?_; rintro e w1 ⟨rfl, hw1⟩)
        | (go_at_call 30; refine (HC.out _ hw1).mono ?_; rintro e w2 ⟨rfl, hw2⟩)
        | (go_at_call 92; refine (HP.out _ (hw1.trans (hw2.mono hw1.size))).mono ?_; rintro e w3 ⟨v3, rfl, ho3, hw3⟩; obtain ⟨g, cp, xs0, rfl, hgb, hrow0, hcp1, hcp2, hx0, hxt⟩ := ho3.row (by rw [← hn.out]; exact hn0); rw [← hn.out] at hcp1 hxt ⊢))
      have hb3 : Below w.heap.size w w3 := (hw1.trans (hw2.mono hw1.size)).trans (hw3.mono (Nat.le_trans hw1.size hw2.size))
      have hgw : w.heap.size ≤ g := Nat.le_trans (Nat.le_trans hw1.size hw2.size) hgb
      clear ho3
      go_loopw [35] (fun i wr => ∃ k : Nat, ∃ xs, k ≤ n ∧ i = .int .i64 k ∧ Hid (OwnRow wr g 50 xs) ∧ Hid (xs.length = cp * 6) ∧ Hid (xs.take (n * 6) = flatL encR (mapA φ (P.take k) ++ P.drop k)) ∧ Below w.heap.size w wr) (fun i _ => n - (intOf i).toNat)
      case atStart => exact ⟨0, xs0, Nat.zero_le _, rfl, hrow0, hx0, by show _ = _; rw [hxt]; simp [mapA], hb3⟩
      case round =>
        obtain ⟨k, xs, hk, rfl, hrow, hxl, hxk, hbel⟩ := hrel
        by_cases hlt : k < n
        · have hPk : k < P.length := by rw [← hn.out]; exact hlt
          have hLn : (mapA φ (P.take k) ++ P.drop k).length = n := by rw [List.length_append, mapA_len, List.length_take, List.length_drop, hn.out]; omega
          have hcell : ∀ t u, (encR (P.getD k zR))[t]? = some u → t < 6 → wr.cell? ⟨g, k * 6 + t, none⟩ = some u := by
            intro t u hu ht
            rw [hrow.out.cell]
            rw [← mapA_get φ P k hPk, ← flatL_get shR _ zR k t (by rw [hLn]; exact hlt) ht, ← hxk.out, List.getElem?_take_of_lt (by omega)] at hu
            exact hu
          have HM : Hid _ := mapA_step φ P k hPk
          have HG : Hid _ := mapA_get φ P k hPk
          obtain ⟨⟨pf, pt, pr, pk, pg, ps⟩, hp⟩ : ∃ p, p = P.getD k zR := ⟨_, rfl⟩
          rw [← hp] at hcell HM HG
          clear hp
          have hk0 : wr.cell? ⟨g, k * 6, none⟩ = some (.int .i64 pf) := hcell 0 _ rfl (by decide)
          have hk1 : wr.cell? ⟨g, k * 6 + 1, none⟩ = some (.int .i64 pt) := hcell 1 _ rfl (by decide)
          have hk2 : wr.cell? ⟨g, k * 6 + 2, none⟩ = some (.int .i64 pr) := hcell 2 _ rfl (by decide)
          have hk3 : wr.cell? ⟨g, k * 6 + 3, none⟩ = some (.int .i64 pk) := hcell 3 _ rfl (by decide)
          have hk4 : wr.cell? ⟨g, k * 6 + 4, none⟩ = some (.bool pg) := hcell 4 _ rfl (by decide)
          have hk5 : wr.cell? ⟨g, k * 6 + 5, none⟩ = some (.bool ps) := hcell 5 _ rfl (by decide)
          clear hcell
          have HF1 := fun w1 => HF.out w1 pr pk pg ps
          obtain ⟨⟨qr, qk, qg, qs⟩, hq⟩ : ∃ q, q = φ (pr, pk, pg, ps) := ⟨_, rfl⟩
          rw [← hq] at HF1 HM
          clear hq
          have HF2 : Hid (∀ w1, Below w.heap.size w w1 → Calls Try.prog 83 (#[.agg #[.int .i64 pr, .int .i64 pk, .bool pg, .bool ps]] ++ caps) w1 fun e w' => e = .returned (.agg #[.int .i64 qr, .int .i64 qk, .bool qg, .bool qs]) ∧ Below w1.heap.size w1 w') := HF1
          clear HF1
          have hsz := hbel.size
          go_wp2_with (go_at_call 83; refine (HF2.out _ (hbel.alloc hsz _)).mono ?_; rintro e w4 ⟨rfl, hw4⟩; have hb4 := below_one hw4; have hr4 := hrow.out.below hb4 hrow.out.lt; have hm2 := (hb4.cell (cell_lt hk2)).trans hk2; have hm3 := (hb4.cell (cell_lt hk3)).trans hk3; have hm4 := (hb4.cell (cell_lt hk4)).trans hk4; have hm5 := (hb4.cell (cell_lt hk5)).trans hk5; have hf2 := hr4.free (k * 6 + 2); have hf3 := hr4.free (k * 6 + 3); have hf4 := hr4.free (k * 6 + 4); have hf5 := hr4.free (k * 6 + 5); have hg4 := hr4.lt; have HR4 : Hid (OwnRow w4 g 50 xs) := hr4; clear hr4)
          go_roundw
          case rel =>
            refine ⟨k + 1, (((xs.set (k * 6 + 2) (.int .i64 qr)).set (k * 6 + 3) (.int .i64 qk)).set (k * 6 + 4) (.bool qg)).set (k * 6 + 5) (.bool qs), by omega, by go_num, (((HR4.out.set _ _).set _ _).set _ _).set _ _, ?_, ?_, ((((hbel.trans (hb4.mono hsz)).setCell hgw _).setCell hgw _).setCell hgw _).setCell hgw _⟩
            · show _ = _
              rw [List.length_set, List.length_set, List.length_set, List.length_set]
              exact hxl.out
            · show _ = _
              have hra := row_attr (pf, pt, pr, pk, pg, ps) (qr, qk, qg, qs) (by rw [hLn]; exact hlt) HG.out (by rw [hLn]; exact hxk.out)
              rw [hLn, HM.out] at hra
              exact hra
          case measure => simp [intOf]; omega
        · obtain rfl : k = n := by omega
          have hM : mapA φ (P.take k) ++ P.drop k = mapA φ P := by rw [hn.out, List.take_length, List.drop_length, List.append_nil]
          have HI : Hid (IsRecs encR 1000 wr (.slice (some ⟨g, 0, none⟩) k cp) (mapA φ P)) := by
            have hx := hxk.out
            rw [hM] at hx
            have hml : (mapA φ P).length = k := by rw [mapA_len, hn.out]
            have := (ownR_of_row (base := w.heap.size) shR hgw hrow.out (l := mapA φ P) (cap := cp) (by omega) hcp2 hxl.out (by rw [hml]; exact hx)).recs (B := 1000) (by omega)
            rw [hml] at this
            exact this
          go_wp2_with (go_at_call 80; refine (HR.out _ _ hbel HI.out).mono ?_; rintro e w5 ⟨v5, rfl, ho5, hw5⟩)
          go_ret2
          exact ⟨_, rfl, ho5.mono hbel.size, hbel.trans (hw5.mono hbel.size)⟩
  · have hE : chE l f t = wrE l f t := by unfold chE; rw [if_neg h0]
    have HL : Hid (chL φ l f t = []) := by unfold chL; rw [hE, if_neg h0]; rfl
    have hne : (wrE l f t != 0) = true := by rw [bne_iff_ne]; exact h0
    rw [hE]
    obtain ⟨a, cap, rfl⟩ := h.form
    clear h hE hφ
    generalize wrE l f t = E at *
    go_enter Try.func81, Try.ntmps81
    go_wp2_with (go_at_call 79; refine HW.out.mono ?_; rintro e w1 ⟨rfl, hw1⟩)
    go_ret2
    exact ⟨_, rfl, by rw [HL.out]; exact ownR_nil _ _ _, hw1⟩

end Go.Proofs.Ytbiipnojhjhejaa

/- The contract of region.change with the closure of region.Guard. -/
namespace Go.Proofs.Ytbiipnojhjhejaa
set_option maxRecDepth 100000
open Go.RowKit
set_option linter.unusedSimpArgs false
set_option linter.unusedVariables false

set_option maxHeartbeats 1600000 in
theorem change_guard (caps : Array Value) (φ : A4 → A4) (v : Value) (l : List R6) (f t : Int) (B : Nat) (w : World) (h : IsRecs encR B w v l) (hB : B ≤ 3518437208883)
    (hφ : ∀ w1 r k g s, Below w.heap.size w w1 → Calls Try.prog 82 (#[.agg #[.int .i64 r, .int .i64 k, .bool g, .bool s]] ++ caps) w1 fun e w' => e = .returned (.agg #[.int .i64 (φ (r, k, g, s)).1, .int .i64 (φ (r, k, g, s)).2.1, .bool (φ (r, k, g, s)).2.2.1, .bool (φ (r, k, g, s)).2.2.2]) ∧ Below w1.heap.size w1 w') :
    Calls Try.prog 81 #[v, .int .i64 f, .int .i64 t, .func (.func 82) #[] caps] w fun e w' => ∃ v', e = .returned (lstV v' (chE l f t)) ∧ OwnR 50 6 encR w.heap.size w' v' (chL φ l f t) ∧ Below w.heap.size w w' := by
  have HW : Hid (Calls Try.prog 79 #[v, .int .i64 f, .int .i64 t] w fun e w' => e = .returned (.int .i64 (wrE l f t)) ∧ Below w.heap.size w w') := rwrong_any v l f t B w h (by omega)
  by_cases h0 : wrE l f t = 0
  · have hg := good_len (good_of_right (wrE_iff.1 h0).1)
    have hsp := isSp_iff.1 (wrE_iff.1 h0).2
    have HC : Hid (∀ w1, Below w.heap.size w w1 → Calls Try.prog 30 #[v, .int .i64 f, .int .i64 t] w1 fun e w' => e = .returned (.int .i64 (cnt l f t)) ∧ Below w1.heap.size w1 w') := fun w1 hb => count_any v l f t B w1 (h.below hb) (by omega) hsp.1 (by omega) hsp.2.2
    by_cases hc : cnt l f t < t - f
    · have hE : chE l f t = 3 := by unfold chE; rw [if_pos h0, if_pos hc]
      have HL : Hid (chL φ l f t = []) := by unfold chL; rw [hE]; rfl
      obtain ⟨a, cap, rfl⟩ := h.form
      rw [hE]
      rw [h0] at HW
      generalize cnt l f t = N at *
      clear h hE hφ
      go_enter Try.func81, Try.ntmps81
      go_wp2_with (first
        | (go_at_call 79; refine HW.out.mono ?_; rintro e w1 ⟨rfl, hw1⟩)
        | (go_at_call 30; refine (HC.out _ hw1).mono ?_; rintro e w2 ⟨rfl, hw2⟩))
      go_ret2
      exact ⟨_, rfl, by rw [HL.out]; exact ownR_nil _ _ _, hw1.trans (hw2.mono hw1.size)⟩
    · have hE : chE l f t = 0 := by unfold chE; rw [if_pos h0, if_neg hc]
      have hpn : partL l f t ≠ [] := fun hn => by have := cnt_part_nil f t l hn; omega
      have HR : Hid (∀ w1 u, Below w.heap.size w w1 → IsRecs encR 1000 w1 u (mapA φ (partL l f t)) → Calls Try.prog 80 #[v, .int .i64 f, .int .i64 t, u] w1 fun e w' => ∃ v', e = .returned v' ∧ OwnR 50 6 encR w1.heap.size w' v' (chL φ l f t) ∧ Below w1.heap.size w1 w') := by
        intro w1 u hb hu
        have := replace_any _ _ l (mapA φ (partL l f t)) f t 1000 w1 ((h.below hb).up (by omega)) hu hg (by rw [mapA_len]; exact Nat.le_trans (partL_len l f t) hg)
        unfold chL
        rw [if_pos hE]
        exact this
      have HP : Hid (∀ w1, Below w.heap.size w w1 → Calls Try.prog 92 #[v, .int .i64 f, .int .i64 t] w1 fun e w' => ∃ v', e = .returned v' ∧ OwnR 50 6 encR w1.heap.size w' v' (partL l f t) ∧ Below w1.heap.size w1 w') := fun w1 hb => part_any v l f t _ w1 (h.below hb) hB
      have hPl := Nat.le_trans (partL_len l f t) hg
      have HF : Hid (∀ w1 r k g s, Below w.heap.size w w1 → Calls Try.prog 82 (#[.agg #[.int .i64 r, .int .i64 k, .bool g, .bool s]] ++ caps) w1 fun e w' => e = .returned (.agg #[.int .i64 (φ (r, k, g, s)).1, .int .i64 (φ (r, k, g, s)).2.1, .bool (φ (r, k, g, s)).2.2.1, .bool (φ (r, k, g, s)).2.2.2]) ∧ Below w1.heap.size w1 w') := hφ
      obtain ⟨a, cap, rfl⟩ := h.form
      rw [hE]
      rw [h0] at HW
      have hc' : t - f ≤ cnt l f t := by omega
      generalize cnt l f t = N at *
      generalize chL φ l f t = C at *
      generalize partL l f t = P at *
      clear h hE hφ hc
      obtain ⟨n, hn⟩ : ∃ n, Hid (n = P.length) := ⟨_, rfl⟩
      have hn0 : 0 < n := by rw [hn.out]; exact List.length_pos_iff.2 hpn
      rw [← hn.out] at hPl
      go_enter Try.func81, Try.ntmps81
      go_wp2_with (first
        | (go_at_call 79; refine HW.out.mono ?_; rintro e w1 ⟨rfl, hw1⟩)
        | (go_at_call 30; refine (HC.out _ hw1).mono ?_; rintro e w2 ⟨rfl, hw2⟩)
        | (go_at_call 92; refine (HP.out _ (hw1.trans (hw2.mono hw1.size))).mono ?_; rintro e w3 ⟨v3, rfl, ho3, hw3⟩; obtain ⟨g, cp, xs0, rfl, hgb, hrow0, hcp1, hcp2, hx0, hxt⟩ := ho3.row (by rw [← hn.out]; exact hn0); rw [← hn.out] at hcp1 hxt ⊢))
      have hb3 : Below w.heap.size w w3 := (hw1.trans (hw2.mono hw1.size)).trans (hw3.mono (Nat.le_trans hw1.size hw2.size))
      have hgw : w.heap.size ≤ g := Nat.le_trans (Nat.le_trans hw1.size hw2.size) hgb
      clear ho3
      go_loopw [35] (fun i wr => ∃ k : Nat, ∃ xs, k ≤ n ∧ i = .int .i64 k ∧ Hid (OwnRow wr g 50 xs) ∧ Hid (xs.length = cp * 6) ∧ Hid (xs.take (n * 6) = flatL encR (mapA φ (P.take k) ++ P.drop k)) ∧ Below w.heap.size w wr) (fun i _ => n - (intOf i).toNat)
      case atStart => exact ⟨0, xs0, Nat.zero_le _, rfl, hrow0, hx0, by show _ = _; rw [hxt]; simp [mapA], hb3⟩
      case round =>
        obtain ⟨k, xs, hk, rfl, hrow, hxl, hxk, hbel⟩ := hrel
        by_cases hlt : k < n
        · have hPk : k < P.length := by rw [← hn.out]; exact hlt
          have hLn : (mapA φ (P.take k) ++ P.drop k).length = n := by rw [List.length_append, mapA_len, List.length_take, List.length_drop, hn.out]; omega
          have hcell : ∀ t u, (encR (P.getD k zR))[t]? = some u → t < 6 → wr.cell? ⟨g, k * 6 + t, none⟩ = some u := by
            intro t u hu ht
            rw [hrow.out.cell]
            rw [← mapA_get φ P k hPk, ← flatL_get shR _ zR k t (by rw [hLn]; exact hlt) ht, ← hxk.out, List.getElem?_take_of_lt (by omega)] at hu
            exact hu
          have HM : Hid _ := mapA_step φ P k hPk
          have HG : Hid _ := mapA_get φ P k hPk
          obtain ⟨⟨pf, pt, pr, pk, pg, ps⟩, hp⟩ : ∃ p, p = P.getD k zR := ⟨_, rfl⟩
          rw [← hp] at hcell HM HG
          clear hp
          have hk0 : wr.cell? ⟨g, k * 6, none⟩ = some (.int .i64 pf) := hcell 0 _ rfl (by decide)
          have hk1 : wr.cell? ⟨g, k * 6 + 1, none⟩ = some (.int .i64 pt) := hcell 1 _ rfl (by decide)
          have hk2 : wr.cell? ⟨g, k * 6 + 2, none⟩ = some (.int .i64 pr) := hcell 2 _ rfl (by decide)
          have hk3 : wr.cell? ⟨g, k * 6 + 3, none⟩ = some (.int .i64 pk) := hcell 3 _ rfl (by decide)
          have hk4 : wr.cell? ⟨g, k * 6 + 4, none⟩ = some (.bool pg) := hcell 4 _ rfl (by decide)
          have hk5 : wr.cell? ⟨g, k * 6 + 5, none⟩ = some (.bool ps) := hcell 5 _ rfl (by decide)
          clear hcell
          have HF1 := fun w1 => HF.out w1 pr pk pg ps
          obtain ⟨⟨qr, qk, qg, qs⟩, hq⟩ : ∃ q, q = φ (pr, pk, pg, ps) := ⟨_, rfl⟩
          rw [← hq] at HF1 HM
          clear hq
          have HF2 : Hid (∀ w1, Below w.heap.size w w1 → Calls Try.prog 82 (#[.agg #[.int .i64 pr, .int .i64 pk, .bool pg, .bool ps]] ++ caps) w1 fun e w' => e = .returned (.agg #[.int .i64 qr, .int .i64 qk, .bool qg, .bool qs]) ∧ Below w1.heap.size w1 w') := HF1
          clear HF1
          have hsz := hbel.size
          go_wp2_with (go_at_call 82; refine (HF2.out _ (hbel.alloc hsz _)).mono ?_; rintro e w4 ⟨rfl, hw4⟩; have hb4 := below_one hw4; have hr4 := hrow.out.below hb4 hrow.out.lt; have hm2 := (hb4.cell (cell_lt hk2)).trans hk2; have hm3 := (hb4.cell (cell_lt hk3)).trans hk3; have hm4 := (hb4.cell (cell_lt hk4)).trans hk4; have hm5 := (hb4.cell (cell_lt hk5)).trans hk5; have hf2 := hr4.free (k * 6 + 2); have hf3 := hr4.free (k * 6 + 3); have hf4 := hr4.free (k * 6 + 4); have hf5 := hr4.free (k * 6 + 5); have hg4 := hr4.lt; have HR4 : Hid (OwnRow w4 g 50 xs) := hr4; clear hr4)
          go_roundw
          case rel =>
            refine ⟨k + 1, (((xs.set (k * 6 + 2) (.int .i64 qr)).set (k * 6 + 3) (.int .i64 qk)).set (k * 6 + 4) (.bool qg)).set (k * 6 + 5) (.bool qs), by omega, by go_num, (((HR4.out.set _ _).set _ _).set _ _).set _ _, ?_, ?_, ((((hbel.trans (hb4.mono hsz)).setCell hgw _).setCell hgw _).setCell hgw _).setCell hgw _⟩
            · show _ = _
              rw [List.length_set, List.length_set, List.length_set, List.length_set]
              exact hxl.out
            · show _ = _
              have hra := row_attr (pf, pt, pr, pk, pg, ps) (qr, qk, qg, qs) (by rw [hLn]; exact hlt) HG.out (by rw [hLn]; exact hxk.out)
              rw [hLn, HM.out] at hra
              exact hra
          case measure => simp [intOf]; omega
        · obtain rfl : k = n := by omega
          have hM : mapA φ (P.take k) ++ P.drop k = mapA φ P := by rw [hn.out, List.take_length, List.drop_length, List.append_nil]
          have HI : Hid (IsRecs encR 1000 wr (.slice (some ⟨g, 0, none⟩) k cp) (mapA φ P)) := by
            have hx := hxk.out
            rw [hM] at hx
            have hml : (mapA φ P).length = k := by rw [mapA_len, hn.out]
            have := (ownR_of_row (base := w.heap.size) shR hgw hrow.out (l := mapA φ P) (cap := cp) (by omega) hcp2 hxl.out (by rw [hml]; exact hx)).recs (B := 1000) (by omega)
            rw [hml] at this
            exact this
          go_wp2_with (go_at_call 80; refine (HR.out _ _ hbel HI.out).mono ?_; rintro e w5 ⟨v5, rfl, ho5, hw5⟩)
          go_ret2
          exact ⟨_, rfl, ho5.mono hbel.size, hbel.trans (hw5.mono hbel.size)⟩
  · have hE : chE l f t = wrE l f t := by unfold chE; rw [if_neg h0]
    have HL : Hid (chL φ l f t = []) := by unfold chL; rw [hE, if_neg h0]; rfl
    have hne : (wrE l f t != 0) = true := by rw [bne_iff_ne]; exact h0
    rw [hE]
    obtain ⟨a, cap, rfl⟩ := h.form
    clear h hE hφ
    generalize wrE l f t = E at *
    go_enter Try.func81, Try.ntmps81
    go_wp2_with (go_at_call 79; refine HW.out.mono ?_; rintro e w1 ⟨rfl, hw1⟩)
    go_ret2
    exact ⟨_, rfl, by rw [HL.out]; exact ownR_nil _ _ _, hw1⟩

end Go.Proofs.Ytbiipnojhjhejaa

/- The contracts of region.Seal and region.Guard. -/
namespace Go.Proofs.Ytbiipnojhjhejaa
set_option maxRecDepth 100000
open Go.RowKit
set_option linter.unusedSimpArgs false
set_option linter.unusedVariables false

set_option maxHeartbeats 400000 in
theorem sealc_any (x y : Int) (z u : Bool) (w : World) :
    Calls Try.prog 83 #[.agg #[.int .i64 x, .int .i64 y, .bool z, .bool u]] w fun e w' => e = .returned (.agg #[.int .i64 x, .int .i64 y, .bool z, .bool true]) ∧ Below w.heap.size w w' := by
  go_enter Try.func83, Try.ntmps83
  go_wp2
  exact bodyPost_ret (v := .agg #[.int .i64 x, .int .i64 y, .bool z, .bool true]) (by simp [results, Try.results83, go_sem]) rfl ⟨rfl, ((Below.refl _ _).alloc (Nat.le_refl _) _).alloc (by simp) _⟩

set_option maxHeartbeats 400000 in
theorem guardc_any (B C : Nat) (r k : Int) (x y : Int) (z u : Bool) (w : World) (hc : OwnRow w B 3 [.int .i64 r]) (hd : OwnRow w C 3 [.int .i64 k]) :
    Calls Try.prog 82 #[.agg #[.int .i64 x, .int .i64 y, .bool z, .bool u], .pointer (some ⟨B, 0, none⟩), .pointer (some ⟨C, 0, none⟩)] w fun e w' => e = .returned (.agg #[.int .i64 r, .int .i64 k, .bool z, .bool u]) ∧ Below w.heap.size w w' := by
  have c0 : w.cell? ⟨B, 0, none⟩ = some (.int .i64 r) := by rw [hc.cell]; rfl
  have c1 : w.cell? ⟨C, 0, none⟩ = some (.int .i64 k) := by rw [hd.cell]; rfl
  have hlt := hc.lt
  have hlt2 := hd.lt
  clear hc hd
  go_enter Try.func82, Try.ntmps82
  go_wp2
  go_region
  all_goals (try go_wp2)
  all_goals exact bodyPost_ret (v := .agg #[.int .i64 r, .int .i64 k, .bool z, .bool u]) (by simp [results, Try.results82, go_sem]) rfl ⟨rfl, (((Below.refl _ _).alloc (Nat.le_refl _) _).alloc (by simp) _).drew⟩

set_option maxHeartbeats 400000 in
theorem seal_any (v : Value) (l : List R6) (f t : Int) (B : Nat) (w : World) (h : IsRecs encR B w v l) (hB : B ≤ 3518437208883) :
    Calls Try.prog 66 #[v, .int .i64 f, .int .i64 t] w fun e w' => ∃ v', e = .returned (lstV v' (chE l f t)) ∧ OwnR 50 6 encR w.heap.size w' v' (chL seA l f t) ∧ Below w.heap.size w w' := by
  have HC : Hid (Calls Try.prog 81 #[v, .int .i64 f, .int .i64 t, .func (.func 83) #[] #[]] w fun e w' => ∃ v', e = .returned (lstV v' (chE l f t)) ∧ OwnR 50 6 encR w.heap.size w' v' (chL seA l f t) ∧ Below w.heap.size w w') :=
    change_seal #[] seA v l f t B w h hB (fun w2 x y z u hb2 => sealc_any x y z u w2)
  obtain ⟨a, cap, rfl⟩ := h.form
  generalize chE l f t = E at *
  generalize chL seA l f t = C at *
  clear h
  go_enter Try.func66, Try.ntmps66
  go_wp2_with (go_at_call 81; refine HC.out.mono ?_; rintro e w1 ⟨v1, rfl, ho1, hw1⟩)
  go_ret2
  exact ⟨_, rfl, ho1, hw1⟩

set_option maxHeartbeats 400000 in
theorem guard_any (v : Value) (l : List R6) (f t : Int) (r k : Int) (B : Nat) (w : World) (h : IsRecs encR B w v l) (hB : B ≤ 3518437208883) :
    Calls Try.prog 65 #[v, .int .i64 f, .int .i64 t, .int .i64 r, .int .i64 k] w fun e w' => ∃ v', e = .returned (lstV v' (chE l f t)) ∧ OwnR 50 6 encR w.heap.size w' v' (chL (guA r k) l f t) ∧ Below w.heap.size w w' := by
  have HC : Hid (∀ w1, OwnRow w1 w.heap.size 3 [.int .i64 r] → OwnRow w1 (w.heap.size + 1) 3 [.int .i64 k] → Below w.heap.size w w1 → Calls Try.prog 81 #[v, .int .i64 f, .int .i64 t, .func (.func 82) #[] #[.pointer (some ⟨w.heap.size, 0, none⟩), .pointer (some ⟨w.heap.size + 1, 0, none⟩)]] w1 fun e w' => ∃ v', e = .returned (lstV v' (chE l f t)) ∧ OwnR 50 6 encR w1.heap.size w' v' (chL (guA r k) l f t) ∧ Below w1.heap.size w1 w') :=
    fun w1 ho ho' hb => change_guard #[.pointer (some ⟨w.heap.size, 0, none⟩), .pointer (some ⟨w.heap.size + 1, 0, none⟩)] (guA r k) v l f t B w1 (h.below hb) hB (fun w2 x y z u hb2 => guardc_any w.heap.size (w.heap.size + 1) r k x y z u w2 (ho.below hb2 ho.lt) (ho'.below hb2 ho'.lt))
  obtain ⟨a, cap, rfl⟩ := h.form
  generalize chE l f t = E at *
  generalize chL (guA r k) l f t = C at *
  clear h
  have hbx : Hid (∀ o o', Below w.heap.size w ((w.alloc o).alloc o')) := fun o o' => ((Below.refl _ _).alloc (Nat.le_refl _) _).alloc (by simp) _
  have h2 : Hid (OwnRow ((w.alloc (.cells #[.int .i64 r] 3)).alloc (.cells #[.int .i64 k] 3)) w.heap.size 3 [.int .i64 r] ∧ OwnRow ((w.alloc (.cells #[.int .i64 r] 3)).alloc (.cells #[.int .i64 k] 3)) (w.heap.size + 1) 3 [.int .i64 k]) := own_two (w := w) (xs := [.int .i64 r]) (ys := [.int .i64 k]) (e := 3) (e' := 3) (Below.refl _ _)
  go_enter Try.func65, Try.ntmps65
  go_wp2_with (go_at_call 81; refine (HC.out _ h2.out.1 h2.out.2 (hbx.out _ _)).mono ?_; rintro e w1 ⟨v1, rfl, ho1, hw1⟩)
  go_ret2
  exact ⟨_, rfl, ho1.mono (by simp; omega), (hbx.out _ _).trans (hw1.mono (by simp; omega))⟩

end Go.Proofs.Ytbiipnojhjhejaa
