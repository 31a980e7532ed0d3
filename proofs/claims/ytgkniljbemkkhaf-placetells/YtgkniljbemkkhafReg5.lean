/- The contract of region.join: those that touch and are alike are made one, in place. -/
import Derived.Test.YtgkniljbemkkhafReg4
namespace Go.Proofs.Ytgkniljbemkkhaf
open Go.RowKit
set_option linter.unusedSimpArgs false
set_option linter.unusedVariables false

theorem jn_yes {acc : List R6} {x : R6} {q : Nat} (hq : acc.length = q + 1) (h : jo (acc.getD q zR) x = true) : jn acc x = acc.take q ++ [((acc.getD q zR).1, x.2.1, (acc.getD q zR).2.2)] := by
  unfold jn
  rw [show acc.length - 1 = q by omega, if_pos ⟨by omega, h⟩]

theorem jn_no {acc : List R6} {x : R6} {q : Nat} (hq : acc.length = q + 1) (h : jo (acc.getD q zR) x = false) : jn acc x = acc ++ [x] := by
  unfold jn
  rw [show acc.length - 1 = q by omega, if_neg (fun hh => by rw [h] at hh; exact absurd hh.2 (by decide))]

theorem jn_nil {acc : List R6} {x : R6} (hq : acc.length = 0) : jn acc x = acc ++ [x] := by
  unfold jn
  rw [if_neg (fun hh => hh.1 hq)]

/-- The last one's To is written over. -/
theorem row_to {xs : List Value} {acc : List R6} {q : Nat} (y : R6) (pt : Int) (hq : acc.length = q + 1) (hy : acc.getD q zR = y) (hxt : xs.take ((q + 1) * 6) = flatL encR acc) :
    (xs.set (q * 6 + 1) (.int .i64 pt)).take ((q + 1) * 6) = flatL encR (acc.take q ++ [(y.1, pt, y.2.2)]) := by
  have hs : acc = acc.take q ++ [y] := by
    have h : acc.take (q + 1) = acc.take q ++ [acc.getD q zR] := take_snoc acc q (by omega)
    rw [List.take_of_length_le (by omega), hy] at h
    exact h
  have hlen : (flatL encR (acc.take q)).length = q * 6 := by rw [flatL_len shR, List.length_take]; congr 1; omega
  rw [List.take_set, hxt]
  conv => lhs; rw [hs]
  rw [flatL_append, flatL_append, flatL_one, flatL_one, List.set_append_right _ _ (by omega), hlen, show q * 6 + 1 - q * 6 = 1 by omega]
  rfl

set_option maxHeartbeats 4000000 in
theorem join_row (base g cap : Nat) (l : List R6) (w : World) (xs0 : List Value) (hb : base ≤ g) (hrow0 : OwnRow w g 36 xs0) (hx0 : xs0.length = cap * 6) (hlc : l.length ≤ cap) (hxt : xs0.take (l.length * 6) = flatL encR l) (hcap : cap ≤ maxLen) :
    Calls Try.prog 32 #[.slice (some ⟨g, 0, none⟩) l.length cap] w fun e w' => ∃ v', e = .returned v' ∧ OwnR 36 6 encR base w' v' (joinL l) ∧ Below base w w' := by
  obtain ⟨i0, hi0, hz0, hz1, hz2⟩ := info_parts info_region
  have hgw := hrow0.lt
  obtain ⟨n, hn⟩ : ∃ n, Hid (n = l.length) := ⟨_, rfl⟩
  rw [← hn.out] at hlc hxt ⊢
  have hcap' : (cap : Int) ≤ 9223372036854775807 := by unfold maxLen at hcap; omega
  have hncap : (n : Int) ≤ (cap : Int) := by omega
  go_enter Try.func32, Try.ntmps32
  go_wp2_with fail
  go_loopw [3, 11] (fun v i wr => ∃ k r : Nat, ∃ xs, k ≤ n ∧ v = .slice (some ⟨g, 0, none⟩) r cap ∧ i = .int .i64 k ∧ Hid (r = (joinL (l.take k)).length) ∧ r ≤ k ∧ Hid (OwnRow wr g 36 xs) ∧ Hid (xs.length = cap * 6) ∧ Hid (xs.take (r * 6) = flatL encR (joinL (l.take k))) ∧ Hid (xs.drop (k * 6) = xs0.drop (k * 6)) ∧ Below base w wr) (fun _ i _ => n - (intOf i).toNat)
  case atStart => exact ⟨0, 0, xs0, Nat.zero_le _, rfl, rfl, by simp [Hid, joinL], Nat.le_refl _, hrow0, hx0, by simp [Hid, joinL, flatL], rfl, Below.refl _ _⟩
  case round =>
    obtain ⟨k, r, xs, hk, rfl, rfl, hr, hrk, hrow, hxl, hxr, hxd, hbel⟩ := hrel
    by_cases hlt : k < n
    · have hcell : ∀ t u, (encR (l.getD k zR))[t]? = some u → t < 6 → wr.cell? ⟨g, k * 6 + t, none⟩ = some u := by
        intro t u hu ht
        rw [hrow.out.cell, ← List.getElem?_drop, hxd.out, List.getElem?_drop]
        rw [← flatL_get shR l zR k t (by rw [← hn.out]; exact hlt) ht, ← hxt, List.getElem?_take_of_lt (by omega)] at hu
        exact hu
      have HF := joinL_snoc (l.take k) (l.getD k zR)
      rw [← take_snoc l k (by rw [← hn.out]; exact hlt)] at HF
      obtain ⟨⟨pf, pt, pr, pk, pg, ps⟩, hp⟩ : ∃ p, p = l.getD k zR := ⟨_, rfl⟩
      rw [← hp] at hcell HF
      clear hp
      have hk0 : wr.cell? ⟨g, k * 6, none⟩ = some (.int .i64 pf) := hcell 0 _ rfl (by decide)
      have hk1 : wr.cell? ⟨g, k * 6 + 1, none⟩ = some (.int .i64 pt) := hcell 1 _ rfl (by decide)
      have hk2 : wr.cell? ⟨g, k * 6 + 2, none⟩ = some (.int .i64 pr) := hcell 2 _ rfl (by decide)
      have hk3 : wr.cell? ⟨g, k * 6 + 3, none⟩ = some (.int .i64 pk) := hcell 3 _ rfl (by decide)
      have hk4 : wr.cell? ⟨g, k * 6 + 4, none⟩ = some (.bool pg) := hcell 4 _ rfl (by decide)
      have hk5 : wr.cell? ⟨g, k * 6 + 5, none⟩ = some (.bool ps) := hcell 5 _ rfl (by decide)
      clear hcell
      have HG : Hid _ := HF
      clear HF
      obtain ⟨acc, hacc⟩ : ∃ acc, Hid (acc = joinL (l.take k)) := ⟨_, rfl⟩
      rw [← hacc.out] at hr hxr HG
      have hbx : Hid (∀ o, Below wr.heap.size wr (wr.alloc o)) := fun o => (Below.refl _ _).alloc (Nat.le_refl _) _
      -- the end of a round in which x is put behind
      have HA : Hid (∀ w2, Below wr.heap.size wr w2 → ∀ o, jn acc (pf, pt, pr, pk, pg, ps) = acc ++ [(pf, pt, pr, pk, pg, ps)] → ∃ xs', OwnRow ((w2.alloc o).setCells g (r * 6) (encR (pf, pt, pr, pk, pg, ps))) g 36 xs' ∧ xs'.length = cap * 6 ∧ xs'.take ((r + 1) * 6) = flatL encR (joinL (l.take (k + 1))) ∧ xs'.drop ((k + 1) * 6) = xs0.drop ((k + 1) * 6) ∧ r + 1 = (joinL (l.take (k + 1))).length ∧ Below base w ((w2.alloc o).setCells g (r * 6) (encR (pf, pt, pr, pk, pg, ps)))) := by
        intro w2 hb2 o hj
        have hr2 := hrow.out.below hb2 hrow.out.lt
        have hr3 : OwnRow (w2.alloc o) g 36 xs := hr2.below ((Below.refl _ _).alloc (Nat.le_refl _) _) hr2.lt
        have hl6 : (encR (pf, pt, pr, pk, pg, ps)).length = 6 := rfl
        have hxl' := hxl.out
        refine ⟨spl xs (r * 6) (encR (pf, pt, pr, pk, pg, ps)), OwnRow.setCells _ (r * 6) _ _ hr3 (by rw [hl6]; omega), ?_, ?_, ?_, ?_, ?_⟩
        · rw [spl_len (by rw [hl6]; omega)]
          exact hxl'
        · rw [show (r + 1) * 6 = r * 6 + (encR (pf, pt, pr, pk, pg, ps)).length by rw [hl6]; omega, spl_take_hi (by omega), hxr.out, HG.out, hj, flatL_append, flatL_one]
        · rw [spl_drop_hi (by rw [hl6]; omega) (by omega)]
          exact drop_more hxd.out (by omega)
        · rw [HG.out, hj, List.length_append, ← hr.out]
          rfl
        · exact below_setCells hb _ _ w _ ((hbel.trans (hb2.mono (by have := hrow.out.lt; omega))).alloc (by have := hb2.size; have := hrow.out.lt; omega) _)
      have hsp : Hid (∀ w2, Below wr.heap.size wr w2 → ∀ o, ∀ j, j < (encR (pf, pt, pr, pk, pg, ps)).length → ((w2.alloc o).cell? ⟨g, 0 + r * 6 + j, none⟩).isSome = true ∧ (w2.alloc o).frozen? ⟨g, 0 + r * 6 + j, none⟩ = false) := by
        intro w2 hb2 o j hj
        have hr2 : OwnRow (w2.alloc o) g 36 xs := (hrow.out.below hb2 hrow.out.lt).below ((Below.refl _ _).alloc (Nat.le_refl _) _) (hrow.out.below hb2 hrow.out.lt).lt
        have hj' : j < 6 := hj
        exact ⟨xs_cell' hr2 (by have := hxl.out; omega), hr2.free _⟩
      by_cases hr0 : r = 0
      · have hd0 : decide (1 ≤ (r : Int)) = false := by simp; omega
        have hJ : Hid (jn acc (pf, pt, pr, pk, pg, ps) = acc ++ [(pf, pt, pr, pk, pg, ps)]) := jn_nil (by rw [← hr.out]; exact hr0)
        have HR0 : Hid (r = 0) := hr0
        clear hr0
        go_wp2_with fail
        have hx1 := hbx.out (.cells #[.int .i64 pf, .int .i64 pt, .int .i64 pr, .int .i64 pk, .bool pg, .bool ps] 36)
        have hW1 : OwnRow (wr.alloc (.cells #[.int .i64 pf, .int .i64 pt, .int .i64 pr, .int .i64 pk, .bool pg, .bool ps] 36)) wr.heap.size 36 (encR (pf, pt, pr, pk, pg, ps)) := heap_alloc_new wr _
        generalize (wr.alloc (.cells #[.int .i64 pf, .int .i64 pt, .int .i64 pr, .int .i64 pk, .bool pg, .bool ps] 36)) = W1 at hx1 hW1 ⊢
        obtain ⟨q0, q1, q2, q3, q4, q5⟩ := hW1.six
        refine wp_region_calm (by kernel_rfl) (by kernel_rfl) (fun W hW _ => ?_)
        have hbW : Below W1.heap.size W1 W := by rw [hW]; exact Below.refl _ _
        have hc0 : ∀ u : Wd W, u.w.cell? ⟨wr.heap.size, 0, none⟩ = some (.int .i64 pf) := fun u => u.cell ((hbW.cell (cell_lt q0)).trans q0)
        have hc1 : ∀ u : Wd W, u.w.cell? ⟨wr.heap.size, 1, none⟩ = some (.int .i64 pt) := fun u => u.cell ((hbW.cell (cell_lt q1)).trans q1)
        have hc2 : ∀ u : Wd W, u.w.cell? ⟨wr.heap.size, 2, none⟩ = some (.int .i64 pr) := fun u => u.cell ((hbW.cell (cell_lt q2)).trans q2)
        have hc3 : ∀ u : Wd W, u.w.cell? ⟨wr.heap.size, 3, none⟩ = some (.int .i64 pk) := fun u => u.cell ((hbW.cell (cell_lt q3)).trans q3)
        have hc4 : ∀ u : Wd W, u.w.cell? ⟨wr.heap.size, 4, none⟩ = some (.bool pg) := fun u => u.cell ((hbW.cell (cell_lt q4)).trans q4)
        have hc5 : ∀ u : Wd W, u.w.cell? ⟨wr.heap.size, 5, none⟩ = some (.bool ps) := fun u => u.cell ((hbW.cell (cell_lt q5)).trans q5)
        clear hW
        repeat (go_big_quiet_step (fail))
        refine wpQuiet_nil ?_
        rintro w2 ⟨⟨_, hw2⟩, rfl⟩
        have hb2 : Below W1.heap.size W1 w2 := hbW.trans (hw2.mono hbW.size)
        have hx2 : Below wr.heap.size wr w2 := hx1.trans (hb2.mono hx1.size)
        obtain ⟨s0, s1, s2, s3, s4, s5⟩ := (hW1.below hb2 hW1.lt).six
        go_wp2_with (at_builtin; go_must (refine wpList_append_fits rfl _ _ 22 rfl 36 i0 6 Try.underlying22 hi0 hz1 g 0 (r) cap rfl ⟨w2.heap.size, 0, none⟩ 1 1 (encR (pf, pt, pr, pk, pg, ps)) rfl rfl (box6 w2 _ rfl pf pt pr pk pg ps _) (shR.one _) (by omega) (hsp.out w2 hx2 _) ?_))
        obtain ⟨xs', a1, a2, a3, a4, a5, a6⟩ := HA.out w2 hx2 (.cells #[.int .i64 pf, .int .i64 pt, .int .i64 pr, .int .i64 pk, .bool pg, .bool ps] 36) hJ.out
        go_roundw
        case rel => exact ⟨k + 1, r + 1, xs', by omega, rfl, by go_num, a5, by omega, a1, a2, a3, a4, a6⟩
        case measure => simp [intOf]; omega
      · obtain ⟨q, rfl⟩ : ∃ q, r = q + 1 := ⟨r - 1, by omega⟩
        have hcq : ∀ t u, (encR (acc.getD q zR))[t]? = some u → t < 6 → wr.cell? ⟨g, q * 6 + t, none⟩ = some u := by
          intro t u hu ht
          rw [hrow.out.cell]
          rw [← flatL_get shR acc zR q t (by rw [← hr.out]; omega) ht, ← hxr.out, List.getElem?_take_of_lt (by omega)] at hu
          exact hu
        obtain ⟨⟨rf, rt, rr, rk, rg, rs⟩, hp⟩ : ∃ p, p = acc.getD q zR := ⟨_, rfl⟩
        have HP : Hid (acc.getD q zR = (rf, rt, rr, rk, rg, rs)) := hp.symm
        rw [← hp] at hcq
        clear hp
        have hr0' : wr.cell? ⟨g, q * 6, none⟩ = some (.int .i64 rf) := hcq 0 _ rfl (by decide)
        have hr1 : wr.cell? ⟨g, q * 6 + 1, none⟩ = some (.int .i64 rt) := hcq 1 _ rfl (by decide)
        have hr2 : wr.cell? ⟨g, q * 6 + 2, none⟩ = some (.int .i64 rr) := hcq 2 _ rfl (by decide)
        have hr3 : wr.cell? ⟨g, q * 6 + 3, none⟩ = some (.int .i64 rk) := hcq 3 _ rfl (by decide)
        have hr4 : wr.cell? ⟨g, q * 6 + 4, none⟩ = some (.bool rg) := hcq 4 _ rfl (by decide)
        have hr5 : wr.cell? ⟨g, q * 6 + 5, none⟩ = some (.bool rs) := hcq 5 _ rfl (by decide)
        clear hcq hr0
        have hr0 := hr0'
        clear hr0'
        have hqn : q < n := by omega
        have hgt : decide (((q + 1 : Nat) : Int) - 1 ≥ 0) = true := by simp
        cases hj : jo (rf, rt, rr, rk, rg, rs) (pf, pt, pr, pk, pg, ps) with
        | true =>
          go_wp2_with fail
          have hx1 := hbx.out (.cells #[.int .i64 pf, .int .i64 pt, .int .i64 pr, .int .i64 pk, .bool pg, .bool ps] 36)
          have hW1 : OwnRow (wr.alloc (.cells #[.int .i64 pf, .int .i64 pt, .int .i64 pr, .int .i64 pk, .bool pg, .bool ps] 36)) wr.heap.size 36 (encR (pf, pt, pr, pk, pg, ps)) := heap_alloc_new wr _
          generalize (wr.alloc (.cells #[.int .i64 pf, .int .i64 pt, .int .i64 pr, .int .i64 pk, .bool pg, .bool ps] 36)) = W1 at hx1 hW1 ⊢
          obtain ⟨q0, q1, q2, q3, q4, q5⟩ := hW1.six
          have p0 := (hx1.cell (cell_lt hr0)).trans hr0
          have p1 := (hx1.cell (cell_lt hr1)).trans hr1
          have p2 := (hx1.cell (cell_lt hr2)).trans hr2
          have p3 := (hx1.cell (cell_lt hr3)).trans hr3
          have p4 := (hx1.cell (cell_lt hr4)).trans hr4
          have p5 := (hx1.cell (cell_lt hr5)).trans hr5
          refine wp_region_calm (by kernel_rfl) (by kernel_rfl) (fun W hW _ => ?_)
          have hbW : Below W1.heap.size W1 W := by rw [hW]; exact Below.refl _ _
          have hc0 : ∀ u : Wd W, u.w.cell? ⟨wr.heap.size, 0, none⟩ = some (.int .i64 pf) := fun u => u.cell ((hbW.cell (cell_lt q0)).trans q0)
          have hc1 : ∀ u : Wd W, u.w.cell? ⟨wr.heap.size, 1, none⟩ = some (.int .i64 pt) := fun u => u.cell ((hbW.cell (cell_lt q1)).trans q1)
          have hc2 : ∀ u : Wd W, u.w.cell? ⟨wr.heap.size, 2, none⟩ = some (.int .i64 pr) := fun u => u.cell ((hbW.cell (cell_lt q2)).trans q2)
          have hc3 : ∀ u : Wd W, u.w.cell? ⟨wr.heap.size, 3, none⟩ = some (.int .i64 pk) := fun u => u.cell ((hbW.cell (cell_lt q3)).trans q3)
          have hc4 : ∀ u : Wd W, u.w.cell? ⟨wr.heap.size, 4, none⟩ = some (.bool pg) := fun u => u.cell ((hbW.cell (cell_lt q4)).trans q4)
          have hc5 : ∀ u : Wd W, u.w.cell? ⟨wr.heap.size, 5, none⟩ = some (.bool ps) := fun u => u.cell ((hbW.cell (cell_lt q5)).trans q5)
          have hc6 : ∀ u : Wd W, u.w.cell? ⟨g, q * 6, none⟩ = some (.int .i64 rf) := fun u => u.cell ((hbW.cell (cell_lt p0)).trans p0)
          have hc7 : ∀ u : Wd W, u.w.cell? ⟨g, q * 6 + 1, none⟩ = some (.int .i64 rt) := fun u => u.cell ((hbW.cell (cell_lt p1)).trans p1)
          have hc8 : ∀ u : Wd W, u.w.cell? ⟨g, q * 6 + 2, none⟩ = some (.int .i64 rr) := fun u => u.cell ((hbW.cell (cell_lt p2)).trans p2)
          have hc9 : ∀ u : Wd W, u.w.cell? ⟨g, q * 6 + 3, none⟩ = some (.int .i64 rk) := fun u => u.cell ((hbW.cell (cell_lt p3)).trans p3)
          have hc10 : ∀ u : Wd W, u.w.cell? ⟨g, q * 6 + 4, none⟩ = some (.bool rg) := fun u => u.cell ((hbW.cell (cell_lt p4)).trans p4)
          have hc11 : ∀ u : Wd W, u.w.cell? ⟨g, q * 6 + 5, none⟩ = some (.bool rs) := fun u => u.cell ((hbW.cell (cell_lt p5)).trans p5)
          clear hW
          repeat (go_big_quiet_step (first | (go_at_call 26; exact calm_of (joins_is _ _ _ _ _ _ _ _ _ _ _ _ _ hj))))
          refine wpQuiet_nil ?_
          rintro w2 ⟨⟨_, hw2⟩, rfl⟩
          have hb2 : Below W1.heap.size W1 w2 := hbW.trans (hw2.mono hbW.size)
          have hx2 : Below wr.heap.size wr w2 := hx1.trans (hb2.mono hx1.size)
          obtain ⟨s0, s1, s2, s3, s4, s5⟩ := (hW1.below hb2 hW1.lt).six
          have hf1 := (hrow.out.below hx2 hrow.out.lt).free (q * 6 + 1)
          have hm2 := ((hx2.cell (cell_lt hr1)).trans hr1)
          go_wp2
          go_roundw
          case rel =>
            have hG := HG.out
            rw [jn_yes hr.out.symm (by rw [HP.out]; exact hj), HP.out] at hG
            refine ⟨k + 1, q + 1, xs.set (q * 6 + 1) (.int .i64 pt), by omega, rfl, by go_num, ?_, by omega, (hrow.out.below hx2 hrow.out.lt).set _ _, ?_, ?_, ?_, (hbel.trans (hx2.mono (by have := hrow.out.lt; omega))).setCell hb _⟩
            · show _ = _
              rw [hG, List.length_append, List.length_take, ← hr.out]
              simp
            · show _ = _
              rw [List.length_set]
              exact hxl.out
            · show _ = _
              rw [hG]
              exact row_to (rf, rt, rr, rk, rg, rs) pt hr.out.symm HP.out hxr.out
            · show _ = _
              rw [List.drop_set_of_lt (by omega)]
              exact drop_more hxd.out (by omega)
          case measure => simp [intOf]; omega
        | false =>
          have hJ : Hid (jn acc (pf, pt, pr, pk, pg, ps) = acc ++ [(pf, pt, pr, pk, pg, ps)]) := jn_no hr.out.symm (by rw [HP.out]; exact hj)
          go_wp2_with fail
          have hx1 := hbx.out (.cells #[.int .i64 pf, .int .i64 pt, .int .i64 pr, .int .i64 pk, .bool pg, .bool ps] 36)
          have hW1 : OwnRow (wr.alloc (.cells #[.int .i64 pf, .int .i64 pt, .int .i64 pr, .int .i64 pk, .bool pg, .bool ps] 36)) wr.heap.size 36 (encR (pf, pt, pr, pk, pg, ps)) := heap_alloc_new wr _
          generalize (wr.alloc (.cells #[.int .i64 pf, .int .i64 pt, .int .i64 pr, .int .i64 pk, .bool pg, .bool ps] 36)) = W1 at hx1 hW1 ⊢
          obtain ⟨q0, q1, q2, q3, q4, q5⟩ := hW1.six
          have p0 := (hx1.cell (cell_lt hr0)).trans hr0
          have p1 := (hx1.cell (cell_lt hr1)).trans hr1
          have p2 := (hx1.cell (cell_lt hr2)).trans hr2
          have p3 := (hx1.cell (cell_lt hr3)).trans hr3
          have p4 := (hx1.cell (cell_lt hr4)).trans hr4
          have p5 := (hx1.cell (cell_lt hr5)).trans hr5
          refine wp_region_calm (by kernel_rfl) (by kernel_rfl) (fun W hW _ => ?_)
          have hbW : Below W1.heap.size W1 W := by rw [hW]; exact Below.refl _ _
          have hc0 : ∀ u : Wd W, u.w.cell? ⟨wr.heap.size, 0, none⟩ = some (.int .i64 pf) := fun u => u.cell ((hbW.cell (cell_lt q0)).trans q0)
          have hc1 : ∀ u : Wd W, u.w.cell? ⟨wr.heap.size, 1, none⟩ = some (.int .i64 pt) := fun u => u.cell ((hbW.cell (cell_lt q1)).trans q1)
          have hc2 : ∀ u : Wd W, u.w.cell? ⟨wr.heap.size, 2, none⟩ = some (.int .i64 pr) := fun u => u.cell ((hbW.cell (cell_lt q2)).trans q2)
          have hc3 : ∀ u : Wd W, u.w.cell? ⟨wr.heap.size, 3, none⟩ = some (.int .i64 pk) := fun u => u.cell ((hbW.cell (cell_lt q3)).trans q3)
          have hc4 : ∀ u : Wd W, u.w.cell? ⟨wr.heap.size, 4, none⟩ = some (.bool pg) := fun u => u.cell ((hbW.cell (cell_lt q4)).trans q4)
          have hc5 : ∀ u : Wd W, u.w.cell? ⟨wr.heap.size, 5, none⟩ = some (.bool ps) := fun u => u.cell ((hbW.cell (cell_lt q5)).trans q5)
          have hc6 : ∀ u : Wd W, u.w.cell? ⟨g, q * 6, none⟩ = some (.int .i64 rf) := fun u => u.cell ((hbW.cell (cell_lt p0)).trans p0)
          have hc7 : ∀ u : Wd W, u.w.cell? ⟨g, q * 6 + 1, none⟩ = some (.int .i64 rt) := fun u => u.cell ((hbW.cell (cell_lt p1)).trans p1)
          have hc8 : ∀ u : Wd W, u.w.cell? ⟨g, q * 6 + 2, none⟩ = some (.int .i64 rr) := fun u => u.cell ((hbW.cell (cell_lt p2)).trans p2)
          have hc9 : ∀ u : Wd W, u.w.cell? ⟨g, q * 6 + 3, none⟩ = some (.int .i64 rk) := fun u => u.cell ((hbW.cell (cell_lt p3)).trans p3)
          have hc10 : ∀ u : Wd W, u.w.cell? ⟨g, q * 6 + 4, none⟩ = some (.bool rg) := fun u => u.cell ((hbW.cell (cell_lt p4)).trans p4)
          have hc11 : ∀ u : Wd W, u.w.cell? ⟨g, q * 6 + 5, none⟩ = some (.bool rs) := fun u => u.cell ((hbW.cell (cell_lt p5)).trans p5)
          clear hW
          repeat (go_big_quiet_step (first | (go_at_call 26; exact calm_of (joins_is _ _ _ _ _ _ _ _ _ _ _ _ _ hj))))
          refine wpQuiet_nil ?_
          rintro w2 ⟨⟨_, hw2⟩, rfl⟩
          have hb2 : Below W1.heap.size W1 w2 := hbW.trans (hw2.mono hbW.size)
          have hx2 : Below wr.heap.size wr w2 := hx1.trans (hb2.mono hx1.size)
          obtain ⟨s0, s1, s2, s3, s4, s5⟩ := (hW1.below hb2 hW1.lt).six
          go_wp2_with (at_builtin; go_must (refine wpList_append_fits rfl _ _ 22 rfl 36 i0 6 Try.underlying22 hi0 hz1 g 0 (q + 1) cap rfl ⟨w2.heap.size, 0, none⟩ 1 1 (encR (pf, pt, pr, pk, pg, ps)) rfl rfl (box6 w2 _ rfl pf pt pr pk pg ps _) (shR.one _) (by omega) (hsp.out w2 hx2 _) ?_))
          obtain ⟨xs', a1, a2, a3, a4, a5, a6⟩ := HA.out w2 hx2 (.cells #[.int .i64 pf, .int .i64 pt, .int .i64 pr, .int .i64 pk, .bool pg, .bool ps] 36) hJ.out
          go_roundw
          case rel => exact ⟨k + 1, q + 1 + 1, xs', by omega, rfl, by go_num, a5, by omega, a1, a2, a3, a4, a6⟩
          case measure => simp [intOf]; omega
    · go_wp2
      go_ret
      obtain rfl : k = n := by omega
      have hr' := hr.out
      have hxr' := hxr.out
      rw [hn.out, List.take_length] at hr' hxr'
      refine ⟨_, rfl, ?_, hbel⟩
      have := ownR_of_row (base := base) shR hb hrow.out (l := joinL l) (cap := cap) (by omega) hcap hxl.out (by rw [← hr']; exact hxr')
      rw [← hr'] at this
      exact this

set_option maxHeartbeats 400000 in
theorem join_any (base : Nat) (v : Value) (l : List R6) (w : World) (h : OwnR 36 6 encR base w v l) :
    Calls Try.prog 32 #[v] w fun e w' => ∃ v', e = .returned v' ∧ OwnR 36 6 encR base w' v' (joinL l) ∧ Below base w w' := by
  have h' := h
  obtain ⟨hlen, ⟨rfl, h0⟩ | ⟨g, cap, cur, rfl, hb, hg, h1, h2, h3, h4⟩⟩ := h
  · obtain rfl : l = [] := List.eq_nil_of_length_eq_zero h0
    go_enter Try.func32, Try.ntmps32
    go_wp2_with fail
    go_loopw [3, 11] (fun v i wr => v = .slice none 0 0 ∧ i = .int .i64 0 ∧ wr = w) (fun _ i _ => 0)
    case atStart => exact ⟨rfl, rfl, rfl⟩
    case round =>
      obtain ⟨rfl, rfl, rfl⟩ := hrel
      go_wp2
      go_ret
      exact ⟨_, rfl, ownR_nil _ _ _, Below.refl _ _⟩
  · exact join_row base g cap l w cur.toList hb (by simpa [OwnRow] using hg) (by simpa using h3) h1 h4 h2

end Go.Proofs.Ytgkniljbemkkhaf
