/- The contracts of region.count, region.part and slices.Equal at api.Region. -/
import Derived.Test.YtgkniljbemkkhafReg2
namespace Go.Proofs.Ytgkniljbemkkhaf
open Go.RowKit
set_option linter.unusedSimpArgs false
set_option linter.unusedVariables false

theorem take_snoc (l : List R6) (k : Nat) (hk : k < l.length) : l.take (k + 1) = l.take k ++ [l.getD k zR] := by
  rw [List.take_add_one, List.getElem?_eq_getElem hk, List.getD_eq_getElem?_getD, List.getElem?_eq_getElem hk]
  rfl

theorem partL_append (l m : List R6) (x y : Int) : partL (l ++ m) x y = partL l x y ++ partL m x y := by simp [partL]

set_option maxHeartbeats 800000 in
theorem count_any (v : Value) (l : List R6) (x y : Int) (B : Nat) (w : World) (h : IsRecs encR B w v l) (hB : B ≤ 4398046511104) (hx : 0 ≤ x) (hxy : x ≤ y) (hy : y ≤ 64) :
    Calls Try.prog 22 #[v, .int .i64 x, .int .i64 y] w fun e w' => e = .returned (.int .i64 (cnt l x y)) ∧ Below w.heap.size w w' := by
  obtain ⟨a, cap, rfl, h1, hl, hc'⟩ := h
  obtain ⟨n, hn⟩ : ∃ n, Hid (n = l.length) := ⟨_, rfl⟩
  rw [← hn.out] at hl hc' ⊢
  go_enter Try.func22, Try.ntmps22
  go_wp2_with fail
  go_loopw [7, 14] (fun s i wr => ∃ k : Nat, ∃ S : Int, k ≤ n ∧ s = .int .i64 S ∧ i = .int .i64 k ∧ Hid (S = cnt (l.take k) x y) ∧ 0 ≤ S ∧ S ≤ 64 * (k : Int) ∧ Below w.heap.size w wr) (fun _ i _ => n - (intOf i).toNat)
  case atStart => exact ⟨0, 0, Nat.zero_le _, rfl, rfl, rfl, Int.le_refl _, by simp, Below.refl _ _⟩
  case round =>
    obtain ⟨k, S, hk, rfl, rfl, hS, hS0, hS1, hbel⟩ := hrel
    by_cases hlt : k < n
    · obtain ⟨b, off, rfl, hc⟩ := hc' (by omega)
      have HT := cnt_snoc (l.getD k zR) x y (l.take k)
      rw [← take_snoc l k (by rw [← hn.out]; exact hlt), ← hS.out] at HT
      obtain ⟨⟨pf, pt, pr, pk, pg, ps⟩, hp⟩ : ∃ p, p = l.getD k zR := ⟨_, rfl⟩
      obtain ⟨hk0, hk1, hk2, hk3, hk4, hk5⟩ := cell6 hc hbel k (by rw [← hn.out]; exact hlt) hp
      rw [← hp] at HT
      have HH : Hid _ := HT
      clear hp HT
      have hcl := clip_any pf pt pr pk pg ps x y
      obtain ⟨M, hM⟩ : ∃ M, Hid (M = max pf x) := ⟨_, rfl⟩
      obtain ⟨m, hm⟩ : ∃ m, Hid (m = min pt y) := ⟨_, rfl⟩
      rw [← hM.out, ← hm.out] at hcl
      have HC : Hid _ := hcl
      clear hcl
      cases hB2 : clipB (pf, pt, pr, pk, pg, ps) x y with
      | true =>
        have hb : M < m := by have := hM.out; have := hm.out; simp only [clipB, decide_eq_true_eq] at hB2; omega
        have hb1 : 0 ≤ M := by have := hM.out; omega
        have hb2 : m ≤ 64 := by have := hm.out; omega
        go_wp2_with (go_at_call 31; refine (HC.out _).mono ?_; rintro e w1 ⟨rfl, hw1⟩)
        have hx2 := below_one hw1
        go_wp2
        go_roundw
        case rel =>
          refine ⟨k + 1, S + (m - M), by omega, by go_num, by go_num, ?_, by omega, by omega, hbel.trans ((hx2.alloc hx2.size _).mono hbel.size)⟩
          show _ = _
          rw [HH.out, hB2, if_pos rfl]
          have := hM.out; have := hm.out
          simp only [clipR]
          omega
        case measure => simp [intOf]; omega
      | false =>
        go_wp2_with (go_at_call 31; refine (HC.out _).mono ?_; rintro e w1 ⟨rfl, hw1⟩)
        have hx2 := below_one hw1
        go_wp2
        go_roundw
        case rel =>
          refine ⟨k + 1, S, by omega, rfl, by go_num, ?_, by omega, by omega, hbel.trans ((hx2.alloc hx2.size _).mono hbel.size)⟩
          show _ = _
          rw [HH.out, hB2]
          simp
        case measure => simp [intOf]; omega
    · go_wp2
      go_ret
      refine ⟨ret_int ?_, hbel⟩
      have := hS.out
      rw [List.take_of_length_le (by rw [← hn.out]; omega)] at this
      exact this

set_option maxHeartbeats 800000 in
theorem part_any (v : Value) (l : List R6) (x y : Int) (B : Nat) (w : World) (h : IsRecs encR B w v l) (hB : B ≤ 3518437208883) :
    Calls Try.prog 34 #[v, .int .i64 x, .int .i64 y] w fun e w' => ∃ v', e = .returned v' ∧ OwnR 36 6 encR w.heap.size w' v' (partL l x y) ∧ Below w.heap.size w w' := by
  obtain ⟨i0, hi0, hz0, hz1, hz2⟩ := info_parts info_region
  obtain ⟨a, cap, rfl, h1, hl, hc'⟩ := h
  obtain ⟨n, hn⟩ : ∃ n, Hid (n = l.length) := ⟨_, rfl⟩
  rw [← hn.out] at hl hc' ⊢
  go_enter Try.func34, Try.ntmps34
  go_wp2_with fail
  go_loopw [7, 14] (fun s i wr => ∃ k : Nat, k ≤ n ∧ i = .int .i64 k ∧ Hid (OwnR 36 6 encR w.heap.size wr s (partL (l.take k) x y)) ∧ Below w.heap.size w wr) (fun _ i _ => n - (intOf i).toNat)
  case atStart => exact ⟨0, Nat.zero_le _, rfl, ownR_nil _ _ _, Below.refl _ _⟩
  case round =>
    obtain ⟨k, hk, rfl, hS, hbel⟩ := hrel
    by_cases hlt : k < n
    · obtain ⟨b, off, rfl, hc⟩ := hc' (by omega)
      have HT := partL_append (l.take k) [l.getD k zR] x y
      rw [← take_snoc l k (by rw [← hn.out]; exact hlt), partL_cons] at HT
      have hlen : (partL (l.take k) x y).length ≤ k := Nat.le_trans (partL_len _ _ _) (by rw [List.length_take]; omega)
      obtain ⟨⟨pf, pt, pr, pk, pg, ps⟩, hp⟩ : ∃ p, p = l.getD k zR := ⟨_, rfl⟩
      obtain ⟨hk0, hk1, hk2, hk3, hk4, hk5⟩ := cell6 hc hbel k (by rw [← hn.out]; exact hlt) hp
      rw [← hp] at HT
      have HH : Hid _ := HT
      clear hp HT
      have hcl := clip_any pf pt pr pk pg ps x y
      have hR : clipR (pf, pt, pr, pk, pg, ps) x y = (max pf x, min pt y, pr, pk, pg, ps) := rfl
      rw [hR] at HH
      clear hR
      generalize max pf x = M at hcl HH
      generalize min pt y = m at hcl HH
      have HC : Hid _ := hcl
      clear hcl
      obtain ⟨av, cv, rfl⟩ := hS.out.form
      have hbase := hbel.size
      have HL1 : Hid (((partL (l.take k) x y).length + 1) * 40 ≤ 140737488355328) := by show _ ≤ _; omega
      have HL2 : Hid ((partL (l.take k) x y).length + 1 ≤ maxLen) := by show _ ≤ _; unfold maxLen; omega
      cases hB2 : clipB (pf, pt, pr, pk, pg, ps) x y with
      | true =>
        go_wp2_with (first
          | (go_at_call 31; refine (HC.out _).mono ?_; rintro e w1 ⟨rfl, hw1⟩)
          | (at_builtin; go_must (refine wpList_append_rec shR rfl _ _ 22 36 i0 _ 40 rfl Try.underlying22 hi0 hz0 hz1 hz2 rfl w.heap.size _ _ rfl w1 (hS.out.below (below_one hw1)) (((Below.refl _ _).alloc (Nat.le_refl _) _).alloc (by simp) _) (Nat.le_trans hbase (below_one hw1).size) HL1.out HL2.out (M, m, pr, pk, pg, ps) _ 1 rfl (box6 (w1.alloc _) _ (by simp) M m pr pk pg ps _) ?_); intro v' w3 hown3 hbw3))
        have hx2 := below_one hw1
        go_roundw
        case rel =>
          refine ⟨k + 1, by omega, by go_num, ?_, hbel.trans (((hx2.alloc hx2.size _).alloc (by have := hx2.size; simp; omega) _).mono hbel.size |>.trans hbw3)⟩
          show OwnR _ _ _ _ _ _ _
          have h := HH.out
          simp only [hB2, if_true, partL_nil] at h
          rw [h]
          exact hown3
        case measure => simp [intOf]; omega
      | false =>
        go_wp2_with (go_at_call 31; refine (HC.out _).mono ?_; rintro e w1 ⟨rfl, hw1⟩)
        have hx2 := below_one hw1
        go_wp2
        go_roundw
        case rel =>
          refine ⟨k + 1, by omega, by go_num, ?_, hbel.trans ((hx2.alloc hx2.size _).mono hbel.size)⟩
          show OwnR _ _ _ _ _ _ _
          have h := HH.out
          simp only [hB2, Bool.false_eq_true, if_false, partL_nil, List.append_nil] at h
          rw [h]
          exact hS.out.below (hx2.alloc hx2.size _)
        case measure => simp [intOf]; omega
    · go_wp2
      go_ret
      have := hS.out
      rw [List.take_of_length_le (by rw [← hn.out]; omega)] at this
      exact ⟨_, rfl, this, hbel⟩

theorem take_eq_succ' {α : Type} (l m : List α) (d : α) (k : Nat) (h : l.take k = m.take k) (hl : k < l.length) (hm : k < m.length) (hd : l.getD k d = m.getD k d) : l.take (k + 1) = m.take (k + 1) := by
  rw [List.getD_eq_getElem?_getD, List.getD_eq_getElem?_getD, List.getElem?_eq_getElem hl, List.getElem?_eq_getElem hm] at hd
  rw [List.take_add_one, List.take_add_one, h, List.getElem?_eq_getElem hl, List.getElem?_eq_getElem hm]
  simp only [Option.getD_some] at hd
  rw [hd]

set_option maxHeartbeats 1600000 in
theorem requal_any (v u : Value) (l m : List R6) (B : Nat) (w : World) (h : IsRecs encR B w v l) (hu : IsRecs encR B w u m) (hB : B ≤ 4398046511104) :
    Calls Try.prog 27 #[v, u] w fun e w' => e = .returned (.bool (decide (l = m))) ∧ Below w.heap.size w w' := by
  obtain ⟨a, cap, rfl, h1, hl, hc'⟩ := h
  obtain ⟨a', cap', rfl, h1', hl', hm'⟩ := hu
  by_cases hne : l.length = m.length
  · obtain ⟨n, hn⟩ : ∃ n, Hid (n = l.length) := ⟨_, rfl⟩
    have hn2 : Hid (n = m.length) := hn.out.trans hne
    rw [← hn.out] at hl hc' ⊢
    rw [← hn2.out] at hl' hm' ⊢
    clear hne
    go_enter Try.func27, Try.ntmps27
    go_wp2_with fail
    go_loopw [13] (fun i wr => ∃ k : Nat, k ≤ n ∧ i = .int .i64 k ∧ Hid (l.take k = m.take k) ∧ Below w.heap.size w wr) (fun i _ => n - (intOf i).toNat)
    case atStart => exact ⟨0, Nat.zero_le _, rfl, by simp [Hid], Below.refl _ _⟩
    case round =>
      obtain ⟨k, hk, rfl, hok, hbel⟩ := hrel
      by_cases hlt : k < n
      · obtain ⟨b, off, rfl, hc⟩ := hc' (by omega)
        obtain ⟨g, goff, rfl, hm⟩ := hm' (by omega)
        obtain ⟨⟨pf, pt, pr, pk, pg, ps⟩, hp⟩ : ∃ p, p = l.getD k zR := ⟨_, rfl⟩
        obtain ⟨⟨rf, rt, rr, rk, rg, rs⟩, hr⟩ : ∃ p, p = m.getD k zR := ⟨_, rfl⟩
        have HP : Hid ((pf, pt, pr, pk, pg, ps) = l.getD k zR) := hp
        have HR : Hid ((rf, rt, rr, rk, rg, rs) = m.getD k zR) := hr
        obtain ⟨hk0, hk1, hk2, hk3, hk4, hk5⟩ := cell6 hc hbel k (by rw [← hn.out]; exact hlt) hp
        obtain ⟨hr0, hr1, hr2, hr3, hr4, hr5⟩ := cell6 hm hbel k (by rw [← hn2.out]; exact hlt) hr
        clear hp hr
        have hq := neq_region pf pt pr pk pg ps rf rt rr rk rg rs
        have hg := eqGuard_region
        have HT := take_eq_succ' l m zR k hok.out (by rw [← hn.out]; exact hlt) (by rw [← hn2.out]; exact hlt)
        rw [← HP.out, ← HR.out] at HT
        have HH : Hid _ := HT
        clear HT
        obtain ⟨E, hE⟩ : ∃ E, Hid (decide ((pf, pt, pr, pk, pg, ps) = (rf, rt, rr, rk, rg, rs)) = E) := ⟨_, rfl⟩
        rw [hE.out] at hq
        cases E with
        | true =>
          go_wp2_with fail
          refine wp_region_calm (by kernel_rfl) (by kernel_rfl) (fun W hW _ => ?_)
          have hbW : Below wr.heap.size wr W := by rw [hW]; exact Below.refl _ _
          have hc0 : ∀ u : Wd W, u.w.cell? ⟨b, off + k * 6, none⟩ = some (.int .i64 pf) := fun u => u.cell ((hbW.cell (cell_lt hk0)).trans hk0)
          have hc1 : ∀ u : Wd W, u.w.cell? ⟨b, off + k * 6 + 1, none⟩ = some (.int .i64 pt) := fun u => u.cell ((hbW.cell (cell_lt hk1)).trans hk1)
          have hc2 : ∀ u : Wd W, u.w.cell? ⟨b, off + k * 6 + 2, none⟩ = some (.int .i64 pr) := fun u => u.cell ((hbW.cell (cell_lt hk2)).trans hk2)
          have hc3 : ∀ u : Wd W, u.w.cell? ⟨b, off + k * 6 + 3, none⟩ = some (.int .i64 pk) := fun u => u.cell ((hbW.cell (cell_lt hk3)).trans hk3)
          have hc4 : ∀ u : Wd W, u.w.cell? ⟨b, off + k * 6 + 4, none⟩ = some (.bool pg) := fun u => u.cell ((hbW.cell (cell_lt hk4)).trans hk4)
          have hc5 : ∀ u : Wd W, u.w.cell? ⟨b, off + k * 6 + 5, none⟩ = some (.bool ps) := fun u => u.cell ((hbW.cell (cell_lt hk5)).trans hk5)
          have hc6 : ∀ u : Wd W, u.w.cell? ⟨g, goff + k * 6, none⟩ = some (.int .i64 rf) := fun u => u.cell ((hbW.cell (cell_lt hr0)).trans hr0)
          have hc7 : ∀ u : Wd W, u.w.cell? ⟨g, goff + k * 6 + 1, none⟩ = some (.int .i64 rt) := fun u => u.cell ((hbW.cell (cell_lt hr1)).trans hr1)
          have hc8 : ∀ u : Wd W, u.w.cell? ⟨g, goff + k * 6 + 2, none⟩ = some (.int .i64 rr) := fun u => u.cell ((hbW.cell (cell_lt hr2)).trans hr2)
          have hc9 : ∀ u : Wd W, u.w.cell? ⟨g, goff + k * 6 + 3, none⟩ = some (.int .i64 rk) := fun u => u.cell ((hbW.cell (cell_lt hr3)).trans hr3)
          have hc10 : ∀ u : Wd W, u.w.cell? ⟨g, goff + k * 6 + 4, none⟩ = some (.bool rg) := fun u => u.cell ((hbW.cell (cell_lt hr4)).trans hr4)
          have hc11 : ∀ u : Wd W, u.w.cell? ⟨g, goff + k * 6 + 5, none⟩ = some (.bool rs) := fun u => u.cell ((hbW.cell (cell_lt hr5)).trans hr5)
          clear hW
          repeat (go_big_quiet_step (fail))
          refine wpQuiet_nil ?_
          rintro w2 ⟨⟨_, hw2⟩, rfl⟩
          have hb2 : Below wr.heap.size wr w2 := hbW.trans (hw2.mono hbW.size)
          go_wp2
          go_roundw
          case rel => exact ⟨k + 1, by omega, by go_num, HH.out (of_decide_eq_true hE.out), hbel.trans (hb2.mono hbel.size)⟩
          case measure => simp [intOf]; omega
        | false =>
          go_wp2_with fail
          refine wp_region_calm (by kernel_rfl) (by kernel_rfl) (fun W hW _ => ?_)
          have hbW : Below wr.heap.size wr W := by rw [hW]; exact Below.refl _ _
          have hc0 : ∀ u : Wd W, u.w.cell? ⟨b, off + k * 6, none⟩ = some (.int .i64 pf) := fun u => u.cell ((hbW.cell (cell_lt hk0)).trans hk0)
          have hc1 : ∀ u : Wd W, u.w.cell? ⟨b, off + k * 6 + 1, none⟩ = some (.int .i64 pt) := fun u => u.cell ((hbW.cell (cell_lt hk1)).trans hk1)
          have hc2 : ∀ u : Wd W, u.w.cell? ⟨b, off + k * 6 + 2, none⟩ = some (.int .i64 pr) := fun u => u.cell ((hbW.cell (cell_lt hk2)).trans hk2)
          have hc3 : ∀ u : Wd W, u.w.cell? ⟨b, off + k * 6 + 3, none⟩ = some (.int .i64 pk) := fun u => u.cell ((hbW.cell (cell_lt hk3)).trans hk3)
          have hc4 : ∀ u : Wd W, u.w.cell? ⟨b, off + k * 6 + 4, none⟩ = some (.bool pg) := fun u => u.cell ((hbW.cell (cell_lt hk4)).trans hk4)
          have hc5 : ∀ u : Wd W, u.w.cell? ⟨b, off + k * 6 + 5, none⟩ = some (.bool ps) := fun u => u.cell ((hbW.cell (cell_lt hk5)).trans hk5)
          have hc6 : ∀ u : Wd W, u.w.cell? ⟨g, goff + k * 6, none⟩ = some (.int .i64 rf) := fun u => u.cell ((hbW.cell (cell_lt hr0)).trans hr0)
          have hc7 : ∀ u : Wd W, u.w.cell? ⟨g, goff + k * 6 + 1, none⟩ = some (.int .i64 rt) := fun u => u.cell ((hbW.cell (cell_lt hr1)).trans hr1)
          have hc8 : ∀ u : Wd W, u.w.cell? ⟨g, goff + k * 6 + 2, none⟩ = some (.int .i64 rr) := fun u => u.cell ((hbW.cell (cell_lt hr2)).trans hr2)
          have hc9 : ∀ u : Wd W, u.w.cell? ⟨g, goff + k * 6 + 3, none⟩ = some (.int .i64 rk) := fun u => u.cell ((hbW.cell (cell_lt hr3)).trans hr3)
          have hc10 : ∀ u : Wd W, u.w.cell? ⟨g, goff + k * 6 + 4, none⟩ = some (.bool rg) := fun u => u.cell ((hbW.cell (cell_lt hr4)).trans hr4)
          have hc11 : ∀ u : Wd W, u.w.cell? ⟨g, goff + k * 6 + 5, none⟩ = some (.bool rs) := fun u => u.cell ((hbW.cell (cell_lt hr5)).trans hr5)
          clear hW
          repeat (go_big_quiet_step (fail))
          refine wpQuiet_nil ?_
          rintro w2 ⟨⟨_, hw2⟩, rfl⟩
          have hb2 : Below wr.heap.size wr w2 := hbW.trans (hw2.mono hbW.size)
          go_wp2
          go_ret
          refine ⟨ret_bool ?_, hbel.trans (hb2.mono hbel.size)⟩
          symm
          rw [decide_eq_false_iff_not]
          intro h
          subst h
          rw [← HR.out] at HP
          exact of_decide_eq_false hE.out HP.out
      · go_wp2
        go_ret
        refine ⟨ret_bool ?_, hbel⟩
        symm
        rw [decide_eq_true_iff]
        have := hok.out
        rwa [List.take_of_length_le (by rw [← hn.out]; omega), List.take_of_length_le (by rw [← hn2.out]; omega)] at this
  · have hd : ¬ ((l.length : Int) = (m.length : Int)) := by omega
    go_enter Try.func27, Try.ntmps27
    go_wp2
    go_ret
    refine ⟨ret_bool ?_, Below.refl _ _⟩
    symm
    rw [decide_eq_false_iff_not]
    intro h
    exact hne (by rw [h])

theorem requal_is {f : Bool} (v u : Value) (l m : List R6) (B : Nat) (w : World) (h : IsRecs encR B w v l) (hu : IsRecs encR B w u m) (hB : B ≤ 4398046511104) (hf : decide (l = m) = f) :
    Calls Try.prog 27 #[v, u] w fun e w' => e = .returned (.bool f) ∧ Below w.heap.size w w' := hf ▸ requal_any v u l m B w h hu hB

end Go.Proofs.Ytgkniljbemkkhaf
