/- The contracts of the document's own answers framewardenref.HRegions and framewardenref.HRight: out of pages the one right list that tells them. -/
import Derived.Test.YtgkniljbemkkhafRegRef2
import Derived.Test.YtgkniljbemkkhafReg5
namespace Go.Proofs.Ytgkniljbemkkhaf
open Go.RowKit
set_option linter.unusedSimpArgs false
set_option linter.unusedVariables false

/-- A span for each of the first n pages that are there. -/
def sg (o : Nat → Option A4) : Nat → List R6
  | 0 => []
  | n + 1 => match o n with
    | none => sg o n
    | some a => sg o n ++ [((n : Int), (n : Int) + 1, a)]

theorem sg_none {o : Nat → Option A4} {n : Nat} (h : o n = none) : sg o (n + 1) = sg o n := by rw [sg, h]
theorem sg_some {o : Nat → Option A4} {n : Nat} {a : A4} (h : o n = some a) : sg o (n + 1) = sg o n ++ [((n : Int), (n : Int) + 1, a)] := by rw [sg, h]

theorem Asc.raise : ∀ {l lo hi hi'}, Asc lo hi l → hi ≤ hi' → Asc lo hi' l
  | [], _, _, _, h, h2 => Int.le_trans h h2
  | x :: r, _, _, _, h, h2 => ⟨h.1, h.2.1, h.2.2.raise h2⟩

theorem asc_sg (o : Nat → Option A4) : ∀ n : Nat, Asc 0 n (sg o n)
  | 0 => Int.le_refl _
  | n + 1 => by
    have ih := asc_sg o n
    cases h : o n with
    | none => rw [sg_none h]; exact ih.raise (by omega)
    | some a => rw [sg_some h]; exact ih.append ⟨Int.le_refl _, by simp only; omega, by show (n : Int) + 1 ≤ _; omega⟩

theorem at_sg (o : Nat → Option A4) (p : Int) : ∀ n : Nat, atR (sg o n) p = if iv 0 n p then o p.toNat else none
  | 0 => by rw [if_neg (by rw [iv_iff]; omega)]; rfl
  | n + 1 => by
    have ih := at_sg o p n
    have hn : iv 0 ((n + 1 : Nat) : Int) p = (iv 0 n p || decide (p = n)) := by
      rw [Bool.eq_iff_iff, Bool.or_eq_true, iv_iff, iv_iff, decide_eq_true_eq]
      omega
    cases h : o n with
    | none =>
      rw [sg_none h, ih, hn]
      by_cases h1 : iv 0 n p = true
      · simp [h1]
      · by_cases h2 : p = n
        · subst h2; simp [h1, h]
        · simp [h1, h2]
    | some a =>
      rw [sg_some h, at_append, ih, hn, atR, atR]
      simp only
      by_cases h1 : iv 0 n p = true
      · have h3 := iv_iff.1 h1
        rw [if_pos h1, if_neg (by rw [iv_iff]; omega)]
        simp [h1]
      · by_cases h2 : p = n
        · subst h2
          rw [if_neg h1, if_pos (by rw [iv_iff]; omega)]
          simp [h]
        · rw [if_neg h1, if_neg (by rw [iv_iff]; omega)]
          simp [h1, h2]

/-- The one right list whose pages are like o. -/
def regs (o : Nat → Option A4) : List R6 := joinL (sg o 64)

theorem regs_good (o : Nat → Option A4) : Good 0 none (regs o) ∧ ∀ p, atR (regs o) p = if iv 0 64 p then o p.toNat else none := by
  have h : Asc 0 64 (sg o 64) := asc_sg o 64
  exact ⟨joinL_good h, fun p => (joinL_at h p).trans (at_sg o p 64)⟩

theorem regs_of {l : List R6} (hl : Good 0 none l) {o : Nat → Option A4} (h : ∀ i : Nat, i < 64 → atR l i = o i) : regs o = l := by
  obtain ⟨g1, g2⟩ := regs_good o
  refine uniq g1 hl (fun p => ?_)
  rw [g2]
  have hA := hl.asc (by decide)
  by_cases hp : iv 0 64 p = true
  · rw [if_pos hp]
    rw [iv_iff] at hp
    rw [← h p.toNat (by omega), Int.toNat_of_nonneg hp.1]
  · rw [if_neg hp]
    rw [iv_iff] at hp
    by_cases h0 : p < 0
    · rw [at_lo hA h0]
    · rw [at_hi hA (by omega)]

/-- HRight's sense. -/
theorem right_regs {l : List R6} (h : Asc 0 64 l) : decide (regs (fun i => atR l i) = l) = rightR l := by
  rw [Bool.eq_iff_iff, decide_eq_true_eq, right_iff_good]
  constructor
  · intro he
    rw [← he]
    exact (regs_good _).1
  · intro hg
    exact regs_of hg (fun _ _ => rfl)

theorem not_right {l : List R6} (h : ¬ Asc 0 64 l) : rightR l = false := by
  rw [Bool.eq_false_iff]
  intro hr
  exact h ((good_of_right hr).asc (by decide))

theorem sg_len (o : Nat → Option A4) : ∀ n, (sg o n).length ≤ n
  | 0 => by simp [sg]
  | n + 1 => by
    have ih := sg_len o n
    cases h : o n with
    | none => rw [sg_none h]; omega
    | some a => rw [sg_some h, List.length_append]; simp; omega

theorem joinL_len' (l : List R6) : (joinL l).length ≤ l.length := by
  have := joinL_len l.length l
  rwa [List.take_length] at this

theorem index_arr (X : Array Value) (p : Nat) (v : Value) (hp : p < 64) (hx : X[p]? = some v) (w : World) : (Instr.index 46 (.agg X) (.int .i64 (p : Int))).run Try.prog w = .ok v w := by
  have a3 := Try.isAgg45
  have z3 := Try.sizeOf45
  have hp' : (0 : Int) ≤ (p : Int) ∧ (p : Int) < 64 := ⟨by omega, by omega⟩
  simp [Instr.index, run_underlying Try.underlying46, asIntOf, hp', z3, a3, part, hx, go_sem]
  omega

set_option maxHeartbeats 3200000 in
theorem hregions_any (A : Nat → Option Addr) (o : Nat → Option A4) (w : World) (hA : Pts w A o) :
    Calls Try.prog 28 #[.agg (ptrsL A).toArray] w fun e w' => ∃ v', e = .returned v' ∧ OwnR 36 6 encR w.heap.size w' v' (regs o) ∧ Below w.heap.size w w' := by
  obtain ⟨i0, hi0, hz0, hz1, hz2⟩ := info_parts info_region
  obtain ⟨X, hX⟩ : ∃ X, Hid (X = (ptrsL A).toArray) := ⟨_, rfl⟩
  have HXg : Hid (∀ p, p < 64 → X[p]? = some (.pointer (A p))) := fun p hp => by rw [hX.out]; simpa using ptrsL_get A p hp
  have HSZ : Hid ((Try.prog.info? 46).map (·.size) = some X.size ∧ X.size = 64) := ⟨by rw [info_arr, hX.out]; simp [ptrsL_len], by rw [hX.out]; simp [ptrsL_len]⟩
  have HNW : Hid (∀ t, (w.alloc (.cells X t)).heap[w.heap.size]? = some (.cells X t (0, 0))) := fun t => heap_alloc_new w _
  have HA : Hid (∀ wr, Below w.heap.size w wr → Pts wr A o) := fun wr hb => hA.below hb
  have hbx : Hid (∀ o, Below w.heap.size w (w.alloc o)) := fun o => (Below.refl _ _).alloc (Nat.le_refl _) _
  rw [← hX.out]
  clear hX hA
  go_enter Try.func28, Try.ntmps28
  go_wp2_with (refine wpList_load_row rfl 46 (.tmp 1) rfl w.heap.size rfl 46 X (0, 0) _ (HNW.out _) Try.underlying46 rfl HSZ.out.1 ?_)
  go_loopw [3, 8] (fun v i wr => ∃ p : Nat, p ≤ 64 ∧ i = .int .i64 p ∧ Hid (OwnR 36 6 encR w.heap.size wr v (joinL (sg o p))) ∧ Below w.heap.size w wr) (fun _ i _ => 64 - (intOf i).toNat)
  case atStart => exact ⟨0, Nat.zero_le _, rfl, ownR_nil _ _ _, hbx.out _⟩
  case round =>
    obtain ⟨p, hp, rfl, hown, hbel⟩ := hrel
    obtain ⟨va, vc, rfl⟩ := hown.out.form
    have hlen : (joinL (sg o p)).length ≤ 64 := Nat.le_trans (joinL_len' _) (Nat.le_trans (sg_len o p) hp)
    by_cases hlt : p < 64
    · have hxp := HXg.out p hlt
      have hap := HA.out wr hbel p hlt
      cases ho : o p with
      | none =>
        rw [ho] at hap
        have hap' : A p = none := hap
        rw [hap'] at hxp
        clear hap hap'
        have HE : Hid (joinL (sg o (p + 1)) = joinL (sg o p)) := by rw [sg_none ho]; rfl
        have hidx := index_arr X p _ hlt hxp
        go_wp2
        go_roundw
        case rel => exact ⟨p + 1, by omega, by go_num, by show OwnR _ _ _ _ _ _ _; rw [HE.out]; exact hown.out, hbel⟩
        case measure => simp [intOf]; omega
      | some a =>
        obtain ⟨ar, ak, ag, as'⟩ := a
        rw [ho] at hap
        obtain ⟨pb, po, hap', hn0, hn1, hn2, hn3⟩ := hap
        rw [hap'] at hxp
        simp only at hn0 hn1 hn2 hn3
        have hidx := index_arr X p _ hlt hxp
        clear hap' hxp
        have HJ : Hid (joinL (sg o (p + 1)) = jn (joinL (sg o p)) ((p : Int), (p : Int) + 1, ar, ak, ag, as')) := by rw [sg_some ho, joinL_snoc]; rfl
        have hbw := hbel.size
        obtain ⟨acc, hacc⟩ : ∃ acc, Hid (acc = joinL (sg o p)) := ⟨_, rfl⟩
        rw [← hacc.out] at hown hlen HJ ⊢
        clear hacc
        obtain ⟨r, hr⟩ : ∃ r, Hid (r = acc.length) := ⟨_, rfl⟩
        rw [← hr.out] at hlen ⊢
        have HL1 : Hid ((acc.length + 1) * 40 ≤ 140737488355328) := by show _ ≤ _; rw [← hr.out]; omega
        have HL2 : Hid (acc.length + 1 ≤ maxLen) := by show _ ≤ _; rw [← hr.out]; unfold maxLen; omega
        have hvr : Hid (OwnR 36 6 encR w.heap.size wr (.slice va r vc) acc) := by rw [hr.out]; exact hown.out
        clear hown
        -- what an append leaves
        by_cases hr0 : r = 0
        · have hJ := jn_nil (x := ((p : Int), (p : Int) + 1, ar, ak, ag, as')) (show acc.length = 0 by rw [← hr.out]; exact hr0)
          have HJ2 : Hid (joinL (sg o (p + 1)) = acc ++ [((p : Int), (p : Int) + 1, ar, ak, ag, as')]) := HJ.out.trans hJ
          clear hJ
          have hd0 : decide (0 < r) = false := by simp; omega
          have HR0 : Hid (r = 0) := hr0
          clear hr0
          go_wp2_with fail
          refine wp_region_calm (by kernel_rfl) (by kernel_rfl) (fun W hW _ => ?_)
          have hbW : Below wr.heap.size wr W := by rw [hW]; exact Below.refl _ _
          clear hW
          repeat (go_big_quiet_step (fail))
          refine wpQuiet_nil ?_
          rintro w2 ⟨⟨_, hw2⟩, rfl⟩
          have hb2 : Below wr.heap.size wr w2 := hbW.trans (hw2.mono hbW.size)
          have hm0 := (hb2.cell (cell_lt hn0)).trans hn0
          have hm1' := (hb2.cell (cell_lt hn1)).trans hn1
          have hm2 := (hb2.cell (cell_lt hn2)).trans hn2
          have hm3 := (hb2.cell (cell_lt hn3)).trans hn3
          have hs2 := hb2.size
          go_wp2_with (at_builtin; go_must (refine wpList_append_rec shR rfl _ _ 22 36 i0 _ 40 rfl Try.underlying22 hi0 hz0 hz1 hz2 rfl w.heap.size _ acc rfl w2 (hvr.out.below hb2) ((Below.refl _ _).alloc (Nat.le_refl _) _) (Nat.le_trans hbw hs2) HL1.out HL2.out ((p : Int), (p : Int) + 1, ar, ak, ag, as') _ 1 rfl (box6 w2 _ rfl _ _ _ _ _ _ _) ?_); intro v' w3 hown3 hbw3)
          go_roundw
          case rel => exact ⟨p + 1, by omega, by go_num, by show OwnR _ _ _ _ _ _ _; rw [HJ2.out]; exact hown3, (((hbel.trans (hb2.mono hbw)).alloc (Nat.le_trans hbw hs2) _).trans hbw3)⟩
          case measure => simp [intOf]; omega
        · obtain ⟨q, rfl⟩ : ∃ q, r = q + 1 := ⟨r - 1, by omega⟩
          have hqa : acc.length = q + 1 := hr.out.symm
          have hrow := hvr.out
          rw [← hqa] at hrow
          obtain ⟨g, cp, xs, hv, hgb, hrw, hcp1, hcp2, hxl, hxt⟩ := hrow.row (by omega)
          simp only [Value.slice.injEq] at hv
          obtain ⟨rfl, -, rfl⟩ := hv
          rw [hqa] at hcp1 hxt
          clear hrow
          have hcq : ∀ t u, (encR (acc.getD q zR))[t]? = some u → t < 6 → wr.cell? ⟨g, q * 6 + t, none⟩ = some u := by
            intro t u hu ht
            rw [hrw.cell]
            rw [← flatL_get shR acc zR q t (by omega) ht, ← hxt, List.getElem?_take_of_lt (by omega)] at hu
            exact hu
          obtain ⟨⟨rf, rt, rr, rk, rg, rs⟩, hpq⟩ : ∃ p, p = acc.getD q zR := ⟨_, rfl⟩
          have HP : Hid (acc.getD q zR = (rf, rt, rr, rk, rg, rs)) := hpq.symm
          rw [← hpq] at hcq
          clear hpq hr0
          have hr1 : wr.cell? ⟨g, q * 6 + 1, none⟩ = some (.int .i64 rt) := hcq 1 _ rfl (by decide)
          have hr2 : wr.cell? ⟨g, q * 6 + 2, none⟩ = some (.int .i64 rr) := hcq 2 _ rfl (by decide)
          have hr3 : wr.cell? ⟨g, q * 6 + 3, none⟩ = some (.int .i64 rk) := hcq 3 _ rfl (by decide)
          have hr4 : wr.cell? ⟨g, q * 6 + 4, none⟩ = some (.bool rg) := hcq 4 _ rfl (by decide)
          have hr5 : wr.cell? ⟨g, q * 6 + 5, none⟩ = some (.bool rs) := hcq 5 _ rfl (by decide)
          clear hcq
          have hgt : decide (((q + 1 : Nat) : Int) > 0) = true := by simp
          have HRW : Hid (OwnRow wr g 36 xs) := hrw
          clear hrw hr
          by_cases h1 : rt = (p : Int)
          · have hqe := eql_attr rr rk rg rs ar ak ag as'
            have hge := eqGuard_attr
            by_cases h2 : (rr, rk, rg, rs) = (ar, ak, ag, as')
            · have HJ2 : Hid (joinL (sg o (p + 1)) = acc.take q ++ [(rf, (p : Int) + 1, rr, rk, rg, rs)]) := by
                have hJ := jn_yes (x := ((p : Int), (p : Int) + 1, ar, ak, ag, as')) hqa (by rw [HP.out]; exact jo_iff.2 ⟨h1, h2⟩)
                rw [HP.out] at hJ
                exact HJ.out.trans hJ
              rw [decide_eq_true h2] at hqe
              clear h2
              subst h1
              go_wp2_with fail
              refine wp_region_calm (by kernel_rfl) (by kernel_rfl) (fun W hW _ => ?_)
              have hbW : Below wr.heap.size wr W := by rw [hW]; exact Below.refl _ _
              have hc0 : ∀ u : Wd W, u.w.cell? ⟨pb, po, none⟩ = some (.int .i64 ar) := fun u => u.cell ((hbW.cell (cell_lt hn0)).trans hn0)
              have hc1 : ∀ u : Wd W, u.w.cell? ⟨pb, po + 1, none⟩ = some (.int .i64 ak) := fun u => u.cell ((hbW.cell (cell_lt hn1)).trans hn1)
              have hc2 : ∀ u : Wd W, u.w.cell? ⟨pb, po + 2, none⟩ = some (.bool ag) := fun u => u.cell ((hbW.cell (cell_lt hn2)).trans hn2)
              have hc3 : ∀ u : Wd W, u.w.cell? ⟨pb, po + 3, none⟩ = some (.bool as') := fun u => u.cell ((hbW.cell (cell_lt hn3)).trans hn3)
              have hc4 : ∀ u : Wd W, u.w.cell? ⟨g, q * 6 + 1, none⟩ = some (.int .i64 (p : Int)) := fun u => u.cell ((hbW.cell (cell_lt hr1)).trans hr1)
              have hc5 : ∀ u : Wd W, u.w.cell? ⟨g, q * 6 + 2, none⟩ = some (.int .i64 rr) := fun u => u.cell ((hbW.cell (cell_lt hr2)).trans hr2)
              have hc6 : ∀ u : Wd W, u.w.cell? ⟨g, q * 6 + 3, none⟩ = some (.int .i64 rk) := fun u => u.cell ((hbW.cell (cell_lt hr3)).trans hr3)
              have hc7 : ∀ u : Wd W, u.w.cell? ⟨g, q * 6 + 4, none⟩ = some (.bool rg) := fun u => u.cell ((hbW.cell (cell_lt hr4)).trans hr4)
              have hc8 : ∀ u : Wd W, u.w.cell? ⟨g, q * 6 + 5, none⟩ = some (.bool rs) := fun u => u.cell ((hbW.cell (cell_lt hr5)).trans hr5)
              clear hW
              repeat (go_big_quiet_step (fail))
              refine wpQuiet_nil ?_
              rintro w2 ⟨⟨_, hw2⟩, rfl⟩
              have hb2 : Below wr.heap.size wr w2 := hbW.trans (hw2.mono hbW.size)
              have hf1 := (HRW.out.below hb2 HRW.out.lt).free (q * 6 + 1)
              have hm1 := (hb2.cell (cell_lt hr1)).trans hr1
              have hgw2 := (HRW.out.below hb2 HRW.out.lt).lt
              go_wp2
              go_roundw
              case rel =>
                refine ⟨p + 1, by omega, by go_num, ?_, (hbel.trans (hb2.mono hbw)).setCell hgb _⟩
                show OwnR _ _ _ _ _ _ _
                rw [HJ2.out]
                have hl2 : (acc.take q ++ [((rf, (p : Int) + 1, rr, rk, rg, rs) : R6)]).length = q + 1 := by rw [List.length_append, List.length_take]; simp; omega
                have := ownR_of_row (base := w.heap.size) shR hgb ((HRW.out.below hb2 HRW.out.lt).set (q * 6 + 1) (.int .i64 ((p : Int) + 1))) (l := acc.take q ++ [(rf, (p : Int) + 1, rr, rk, rg, rs)]) (cap := _) (by rw [hl2]; omega) hcp2 (by rw [List.length_set]; exact hxl) (by rw [hl2]; exact row_to (rf, (p : Int), rr, rk, rg, rs) ((p : Int) + 1) hqa HP.out hxt)
                rw [hl2] at this
                exact this
              case measure => simp [intOf]; omega
            · have HJ2 : Hid (joinL (sg o (p + 1)) = acc ++ [((p : Int), (p : Int) + 1, ar, ak, ag, as')]) := by
                have hJ := jn_no (x := ((p : Int), (p : Int) + 1, ar, ak, ag, as')) hqa (by rw [HP.out, Bool.eq_false_iff, ne_eq, jo_iff]; exact fun h => h2 h.2)
                exact HJ.out.trans hJ
              rw [decide_eq_false h2] at hqe
              clear h2
              subst h1
              go_wp2_with fail
              refine wp_region_calm (by kernel_rfl) (by kernel_rfl) (fun W hW _ => ?_)
              have hbW : Below wr.heap.size wr W := by rw [hW]; exact Below.refl _ _
              have hc0 : ∀ u : Wd W, u.w.cell? ⟨pb, po, none⟩ = some (.int .i64 ar) := fun u => u.cell ((hbW.cell (cell_lt hn0)).trans hn0)
              have hc1 : ∀ u : Wd W, u.w.cell? ⟨pb, po + 1, none⟩ = some (.int .i64 ak) := fun u => u.cell ((hbW.cell (cell_lt hn1)).trans hn1)
              have hc2 : ∀ u : Wd W, u.w.cell? ⟨pb, po + 2, none⟩ = some (.bool ag) := fun u => u.cell ((hbW.cell (cell_lt hn2)).trans hn2)
              have hc3 : ∀ u : Wd W, u.w.cell? ⟨pb, po + 3, none⟩ = some (.bool as') := fun u => u.cell ((hbW.cell (cell_lt hn3)).trans hn3)
              have hc4 : ∀ u : Wd W, u.w.cell? ⟨g, q * 6 + 1, none⟩ = some (.int .i64 (p : Int)) := fun u => u.cell ((hbW.cell (cell_lt hr1)).trans hr1)
              have hc5 : ∀ u : Wd W, u.w.cell? ⟨g, q * 6 + 2, none⟩ = some (.int .i64 rr) := fun u => u.cell ((hbW.cell (cell_lt hr2)).trans hr2)
              have hc6 : ∀ u : Wd W, u.w.cell? ⟨g, q * 6 + 3, none⟩ = some (.int .i64 rk) := fun u => u.cell ((hbW.cell (cell_lt hr3)).trans hr3)
              have hc7 : ∀ u : Wd W, u.w.cell? ⟨g, q * 6 + 4, none⟩ = some (.bool rg) := fun u => u.cell ((hbW.cell (cell_lt hr4)).trans hr4)
              have hc8 : ∀ u : Wd W, u.w.cell? ⟨g, q * 6 + 5, none⟩ = some (.bool rs) := fun u => u.cell ((hbW.cell (cell_lt hr5)).trans hr5)
              clear hW
              repeat (go_big_quiet_step (fail))
              refine wpQuiet_nil ?_
              rintro w2 ⟨⟨_, hw2⟩, rfl⟩
              have hb2 : Below wr.heap.size wr w2 := hbW.trans (hw2.mono hbW.size)
              have hm0 := (hb2.cell (cell_lt hn0)).trans hn0
              have hm1' := (hb2.cell (cell_lt hn1)).trans hn1
              have hm2 := (hb2.cell (cell_lt hn2)).trans hn2
              have hm3 := (hb2.cell (cell_lt hn3)).trans hn3
              have hs2 := hb2.size
              go_wp2_with (at_builtin; go_must (refine wpList_append_rec shR rfl _ _ 22 36 i0 _ 40 rfl Try.underlying22 hi0 hz0 hz1 hz2 rfl w.heap.size _ acc rfl w2 (hvr.out.below hb2) ((Below.refl _ _).alloc (Nat.le_refl _) _) (Nat.le_trans hbw hs2) HL1.out HL2.out ((p : Int), (p : Int) + 1, ar, ak, ag, as') _ 1 rfl (box6 w2 _ rfl _ _ _ _ _ _ _) ?_); intro v' w3 hown3 hbw3)
              go_roundw
              case rel => exact ⟨p + 1, by omega, by go_num, by show OwnR _ _ _ _ _ _ _; rw [HJ2.out]; exact hown3, (((hbel.trans (hb2.mono hbw)).alloc (Nat.le_trans hbw hs2) _).trans hbw3)⟩
              case measure => simp [intOf]; omega
          · have HJ2 : Hid (joinL (sg o (p + 1)) = acc ++ [((p : Int), (p : Int) + 1, ar, ak, ag, as')]) := by
              have hJ := jn_no (x := ((p : Int), (p : Int) + 1, ar, ak, ag, as')) hqa (by rw [HP.out, Bool.eq_false_iff, ne_eq, jo_iff]; exact fun h => h1 h.1)
              exact HJ.out.trans hJ
            have hd1 : (rt == (p : Int)) = false := by simpa using h1
            go_wp2_with fail
            refine wp_region_calm (by kernel_rfl) (by kernel_rfl) (fun W hW _ => ?_)
            have hbW : Below wr.heap.size wr W := by rw [hW]; exact Below.refl _ _
            have hc0 : ∀ u : Wd W, u.w.cell? ⟨pb, po, none⟩ = some (.int .i64 ar) := fun u => u.cell ((hbW.cell (cell_lt hn0)).trans hn0)
            have hc1 : ∀ u : Wd W, u.w.cell? ⟨pb, po + 1, none⟩ = some (.int .i64 ak) := fun u => u.cell ((hbW.cell (cell_lt hn1)).trans hn1)
            have hc2 : ∀ u : Wd W, u.w.cell? ⟨pb, po + 2, none⟩ = some (.bool ag) := fun u => u.cell ((hbW.cell (cell_lt hn2)).trans hn2)
            have hc3 : ∀ u : Wd W, u.w.cell? ⟨pb, po + 3, none⟩ = some (.bool as') := fun u => u.cell ((hbW.cell (cell_lt hn3)).trans hn3)
            have hc4 : ∀ u : Wd W, u.w.cell? ⟨g, q * 6 + 1, none⟩ = some (.int .i64 rt) := fun u => u.cell ((hbW.cell (cell_lt hr1)).trans hr1)
            have hc5 : ∀ u : Wd W, u.w.cell? ⟨g, q * 6 + 2, none⟩ = some (.int .i64 rr) := fun u => u.cell ((hbW.cell (cell_lt hr2)).trans hr2)
            have hc6 : ∀ u : Wd W, u.w.cell? ⟨g, q * 6 + 3, none⟩ = some (.int .i64 rk) := fun u => u.cell ((hbW.cell (cell_lt hr3)).trans hr3)
            have hc7 : ∀ u : Wd W, u.w.cell? ⟨g, q * 6 + 4, none⟩ = some (.bool rg) := fun u => u.cell ((hbW.cell (cell_lt hr4)).trans hr4)
            have hc8 : ∀ u : Wd W, u.w.cell? ⟨g, q * 6 + 5, none⟩ = some (.bool rs) := fun u => u.cell ((hbW.cell (cell_lt hr5)).trans hr5)
            clear hW
            repeat (go_big_quiet_step (fail))
            refine wpQuiet_nil ?_
            rintro w2 ⟨⟨_, hw2⟩, rfl⟩
            have hb2 : Below wr.heap.size wr w2 := hbW.trans (hw2.mono hbW.size)
            have hm0 := (hb2.cell (cell_lt hn0)).trans hn0
            have hm1' := (hb2.cell (cell_lt hn1)).trans hn1
            have hm2 := (hb2.cell (cell_lt hn2)).trans hn2
            have hm3 := (hb2.cell (cell_lt hn3)).trans hn3
            have hs2 := hb2.size
            go_wp2_with (at_builtin; go_must (refine wpList_append_rec shR rfl _ _ 22 36 i0 _ 40 rfl Try.underlying22 hi0 hz0 hz1 hz2 rfl w.heap.size _ acc rfl w2 (hvr.out.below hb2) ((Below.refl _ _).alloc (Nat.le_refl _) _) (Nat.le_trans hbw hs2) HL1.out HL2.out ((p : Int), (p : Int) + 1, ar, ak, ag, as') _ 1 rfl (box6 w2 _ rfl _ _ _ _ _ _ _) ?_); intro v' w3 hown3 hbw3)
            go_roundw
            case rel => exact ⟨p + 1, by omega, by go_num, by show OwnR _ _ _ _ _ _ _; rw [HJ2.out]; exact hown3, (((hbel.trans (hb2.mono hbw)).alloc (Nat.le_trans hbw hs2) _).trans hbw3)⟩
            case measure => simp [intOf]; omega
    · go_wp2
      go_ret
      obtain rfl : p = 64 := by omega
      exact ⟨_, rfl, hown.out, hbel⟩

end Go.Proofs.Ytgkniljbemkkhaf
