/- The contracts of region.Right, region.Find, region.count, region.Count and slices.Equal at api.Region. -/
import Derived.Test.YtgkniljbemkkhafReg1
namespace Go.Proofs.Ytgkniljbemkkhaf
open Go.RowKit
set_option linter.unusedSimpArgs false
set_option linter.unusedVariables false

set_option maxHeartbeats 800000 in
theorem right_any (v : Value) (l : List R6) (B : Nat) (w : World) (h : IsRecs encR B w v l) (hB : B ≤ 4398046511104) :
    Calls Try.prog 16 #[v] w fun e w' => e = .returned (.bool (rightR l)) ∧ Below w.heap.size w w' := by
  obtain ⟨a, cap, rfl, h1, hl, hc'⟩ := h
  obtain ⟨n, hn⟩ : ∃ n, Hid (n = l.length) := ⟨_, rfl⟩
  rw [← hn.out] at hl hc' ⊢
  go_enter Try.func16, Try.ntmps16
  go_wp2_with fail
  go_loopw [7] (fun i wr => ∃ k : Nat, k ≤ n ∧ i = .int .i64 k ∧ Hid (∀ i, i < k → okAt l i = true) ∧ Below w.heap.size w wr) (fun i _ => n - (intOf i).toNat)
  case atStart => exact ⟨0, Nat.zero_le _, rfl, fun i hi => by omega, Below.refl _ _⟩
  case round =>
    obtain ⟨k, hk, rfl, hok, hbel⟩ := hrel
    by_cases hlt : k < n
    · obtain ⟨b, off, rfl, hc⟩ := hc' (by omega)
      obtain ⟨⟨pf, pt, pr, pk, pg, ps⟩, hp⟩ : ∃ p, p = l.getD k zR := ⟨_, rfl⟩
      have HP : Hid ((pf, pt, pr, pk, pg, ps) = l.getD k zR) := hp
      obtain ⟨hk0, hk1, hk2, hk3, hk4, hk5⟩ := cell6 hc hbel k (by rw [← hn.out]; exact hlt) hp
      clear hp
      by_cases hS : isSp pf pt = true
      · by_cases hk00 : k = 0
        · have hd0 : decide (0 < k) = false := by simp; omega
          have HK : Hid (k = 0) := hk00
          clear hk00
          go_wp2_with (go_at_call 25; refine (isSpan_is _ _ _ hS).mono ?_; rintro e w1 ⟨rfl, hw1⟩)
          have hx2 := below_one hw1
          refine wp_region_calm (by kernel_rfl) (by kernel_rfl) (fun W hW _ => ?_)
          have hbW : Below w1.heap.size w1 W := by rw [hW]; exact Below.refl _ _
          clear hW
          repeat (go_big_quiet_step (fail))
          refine wpQuiet_nil ?_
          rintro w2 ⟨⟨_, hw2⟩, rfl⟩
          have hb2 : Below w1.heap.size w1 w2 := hbW.trans (hw2.mono hbW.size)
          go_wp2
          go_roundw
          case rel =>
            refine ⟨k + 1, by omega, by go_num, fun i hi => ?_, hbel.trans ((hx2.trans (hb2.mono hx2.size)).mono hbel.size)⟩
            have := HK.out
            obtain rfl : i = k := by omega
            unfold okAt
            rw [← HP.out]
            simp [hS, this]
          case measure => simp [intOf]; omega
        · obtain ⟨j, rfl⟩ : ∃ j, k = j + 1 := ⟨k - 1, by omega⟩
          obtain ⟨⟨rf, rt, rr, rk, rg, rs⟩, hr⟩ : ∃ p, p = l.getD j zR := ⟨_, rfl⟩
          have HR : Hid ((rf, rt, rr, rk, rg, rs) = l.getD j zR) := hr
          obtain ⟨hr0, hr1, hr2, hr3, hr4, hr5⟩ := cell6 hc hbel j (by rw [← hn.out]; omega) hr
          clear hr
          have hgt : decide (((j + 1 : Nat) : Int) > 0) = true := by simp
          have hjn : j < n := by omega
          have HO : Hid (okAt l (j + 1) = (isSp pf pt && !(decide (pf < rt) || jo (rf, rt, rr, rk, rg, rs) (pf, pt, pr, pk, pg, ps)))) := by
            unfold okAt
            rw [show j + 1 - 1 = j from rfl, ← HP.out, ← HR.out]
            simp [Hid]
          have hcase : (decide (pf < rt) = true) ∨ (decide (pf < rt) = false ∧ jo (rf, rt, rr, rk, rg, rs) (pf, pt, pr, pk, pg, ps) = true) ∨ (decide (pf < rt) = false ∧ jo (rf, rt, rr, rk, rg, rs) (pf, pt, pr, pk, pg, ps) = false) := by
            cases decide (pf < rt) <;> cases jo (rf, rt, rr, rk, rg, rs) (pf, pt, pr, pk, pg, ps) <;> simp
          rcases hcase with hd | ⟨hd, hj⟩ | ⟨hd, hj⟩
          · go_wp2_with (go_at_call 25; refine (isSpan_is _ _ _ hS).mono ?_; rintro e w1 ⟨rfl, hw1⟩)
            have hx2 := below_one hw1
            obtain ⟨q0, q1, q2, q3, q4, q5⟩ := (own_one (xs := encR (pf, pt, pr, pk, pg, ps)) hw1).six
            have p0 := (hx2.cell (cell_lt hr0)).trans hr0
            have p1 := (hx2.cell (cell_lt hr1)).trans hr1
            have p2 := (hx2.cell (cell_lt hr2)).trans hr2
            have p3 := (hx2.cell (cell_lt hr3)).trans hr3
            have p4 := (hx2.cell (cell_lt hr4)).trans hr4
            have p5 := (hx2.cell (cell_lt hr5)).trans hr5
            refine wp_region_calm (by kernel_rfl) (by kernel_rfl) (fun W hW _ => ?_)
            have hbW : Below w1.heap.size w1 W := by rw [hW]; exact Below.refl _ _
            have hc0 : ∀ u : Wd W, u.w.cell? ⟨wr.heap.size, 0, none⟩ = some (.int .i64 pf) := fun u => u.cell ((hbW.cell (cell_lt q0)).trans q0)
            have hc1 : ∀ u : Wd W, u.w.cell? ⟨wr.heap.size, 1, none⟩ = some (.int .i64 pt) := fun u => u.cell ((hbW.cell (cell_lt q1)).trans q1)
            have hc2 : ∀ u : Wd W, u.w.cell? ⟨wr.heap.size, 2, none⟩ = some (.int .i64 pr) := fun u => u.cell ((hbW.cell (cell_lt q2)).trans q2)
            have hc3 : ∀ u : Wd W, u.w.cell? ⟨wr.heap.size, 3, none⟩ = some (.int .i64 pk) := fun u => u.cell ((hbW.cell (cell_lt q3)).trans q3)
            have hc4 : ∀ u : Wd W, u.w.cell? ⟨wr.heap.size, 4, none⟩ = some (.bool pg) := fun u => u.cell ((hbW.cell (cell_lt q4)).trans q4)
            have hc5 : ∀ u : Wd W, u.w.cell? ⟨wr.heap.size, 5, none⟩ = some (.bool ps) := fun u => u.cell ((hbW.cell (cell_lt q5)).trans q5)
            have hc6 : ∀ u : Wd W, u.w.cell? ⟨b, off + j * 6, none⟩ = some (.int .i64 rf) := fun u => u.cell ((hbW.cell (cell_lt p0)).trans p0)
            have hc7 : ∀ u : Wd W, u.w.cell? ⟨b, off + j * 6 + 1, none⟩ = some (.int .i64 rt) := fun u => u.cell ((hbW.cell (cell_lt p1)).trans p1)
            have hc8 : ∀ u : Wd W, u.w.cell? ⟨b, off + j * 6 + 2, none⟩ = some (.int .i64 rr) := fun u => u.cell ((hbW.cell (cell_lt p2)).trans p2)
            have hc9 : ∀ u : Wd W, u.w.cell? ⟨b, off + j * 6 + 3, none⟩ = some (.int .i64 rk) := fun u => u.cell ((hbW.cell (cell_lt p3)).trans p3)
            have hc10 : ∀ u : Wd W, u.w.cell? ⟨b, off + j * 6 + 4, none⟩ = some (.bool rg) := fun u => u.cell ((hbW.cell (cell_lt p4)).trans p4)
            have hc11 : ∀ u : Wd W, u.w.cell? ⟨b, off + j * 6 + 5, none⟩ = some (.bool rs) := fun u => u.cell ((hbW.cell (cell_lt p5)).trans p5)
            clear hW
            repeat (go_big_quiet_step (fail))
            refine wpQuiet_nil ?_
            rintro w2 ⟨⟨_, hw2⟩, rfl⟩
            have hb2 : Below w1.heap.size w1 w2 := hbW.trans (hw2.mono hbW.size)
            go_wp2
            go_ret
            refine ⟨ret_bool ?_, hbel.trans ((hx2.trans (hb2.mono hx2.size)).mono hbel.size)⟩
            symm
            rw [Bool.eq_false_iff]
            intro hall
            have := rightR_iff.1 hall (j + 1) (by rw [← hn.out]; exact hlt)
            rw [HO.out] at this
            simp [hd] at this
          · go_wp2_with (go_at_call 25; refine (isSpan_is _ _ _ hS).mono ?_; rintro e w1 ⟨rfl, hw1⟩)
            have hx2 := below_one hw1
            obtain ⟨q0, q1, q2, q3, q4, q5⟩ := (own_one (xs := encR (pf, pt, pr, pk, pg, ps)) hw1).six
            have p0 := (hx2.cell (cell_lt hr0)).trans hr0
            have p1 := (hx2.cell (cell_lt hr1)).trans hr1
            have p2 := (hx2.cell (cell_lt hr2)).trans hr2
            have p3 := (hx2.cell (cell_lt hr3)).trans hr3
            have p4 := (hx2.cell (cell_lt hr4)).trans hr4
            have p5 := (hx2.cell (cell_lt hr5)).trans hr5
            refine wp_region_calm (by kernel_rfl) (by kernel_rfl) (fun W hW _ => ?_)
            have hbW : Below w1.heap.size w1 W := by rw [hW]; exact Below.refl _ _
            have hc0 : ∀ u : Wd W, u.w.cell? ⟨wr.heap.size, 0, none⟩ = some (.int .i64 pf) := fun u => u.cell ((hbW.cell (cell_lt q0)).trans q0)
            have hc1 : ∀ u : Wd W, u.w.cell? ⟨wr.heap.size, 1, none⟩ = some (.int .i64 pt) := fun u => u.cell ((hbW.cell (cell_lt q1)).trans q1)
            have hc2 : ∀ u : Wd W, u.w.cell? ⟨wr.heap.size, 2, none⟩ = some (.int .i64 pr) := fun u => u.cell ((hbW.cell (cell_lt q2)).trans q2)
            have hc3 : ∀ u : Wd W, u.w.cell? ⟨wr.heap.size, 3, none⟩ = some (.int .i64 pk) := fun u => u.cell ((hbW.cell (cell_lt q3)).trans q3)
            have hc4 : ∀ u : Wd W, u.w.cell? ⟨wr.heap.size, 4, none⟩ = some (.bool pg) := fun u => u.cell ((hbW.cell (cell_lt q4)).trans q4)
            have hc5 : ∀ u : Wd W, u.w.cell? ⟨wr.heap.size, 5, none⟩ = some (.bool ps) := fun u => u.cell ((hbW.cell (cell_lt q5)).trans q5)
            have hc6 : ∀ u : Wd W, u.w.cell? ⟨b, off + j * 6, none⟩ = some (.int .i64 rf) := fun u => u.cell ((hbW.cell (cell_lt p0)).trans p0)
            have hc7 : ∀ u : Wd W, u.w.cell? ⟨b, off + j * 6 + 1, none⟩ = some (.int .i64 rt) := fun u => u.cell ((hbW.cell (cell_lt p1)).trans p1)
            have hc8 : ∀ u : Wd W, u.w.cell? ⟨b, off + j * 6 + 2, none⟩ = some (.int .i64 rr) := fun u => u.cell ((hbW.cell (cell_lt p2)).trans p2)
            have hc9 : ∀ u : Wd W, u.w.cell? ⟨b, off + j * 6 + 3, none⟩ = some (.int .i64 rk) := fun u => u.cell ((hbW.cell (cell_lt p3)).trans p3)
            have hc10 : ∀ u : Wd W, u.w.cell? ⟨b, off + j * 6 + 4, none⟩ = some (.bool rg) := fun u => u.cell ((hbW.cell (cell_lt p4)).trans p4)
            have hc11 : ∀ u : Wd W, u.w.cell? ⟨b, off + j * 6 + 5, none⟩ = some (.bool rs) := fun u => u.cell ((hbW.cell (cell_lt p5)).trans p5)
            clear hW
            repeat (go_big_quiet_step (first | (go_at_call 26; exact calm_of (joins_is _ _ _ _ _ _ _ _ _ _ _ _ _ hj))))
            refine wpQuiet_nil ?_
            rintro w2 ⟨⟨_, hw2⟩, rfl⟩
            have hb2 : Below w1.heap.size w1 w2 := hbW.trans (hw2.mono hbW.size)
            go_wp2
            go_ret
            refine ⟨ret_bool ?_, hbel.trans ((hx2.trans (hb2.mono hx2.size)).mono hbel.size)⟩
            symm
            rw [Bool.eq_false_iff]
            intro hall
            have := rightR_iff.1 hall (j + 1) (by rw [← hn.out]; exact hlt)
            rw [HO.out] at this
            simp [hj] at this
          · go_wp2_with (go_at_call 25; refine (isSpan_is _ _ _ hS).mono ?_; rintro e w1 ⟨rfl, hw1⟩)
            have hx2 := below_one hw1
            obtain ⟨q0, q1, q2, q3, q4, q5⟩ := (own_one (xs := encR (pf, pt, pr, pk, pg, ps)) hw1).six
            have p0 := (hx2.cell (cell_lt hr0)).trans hr0
            have p1 := (hx2.cell (cell_lt hr1)).trans hr1
            have p2 := (hx2.cell (cell_lt hr2)).trans hr2
            have p3 := (hx2.cell (cell_lt hr3)).trans hr3
            have p4 := (hx2.cell (cell_lt hr4)).trans hr4
            have p5 := (hx2.cell (cell_lt hr5)).trans hr5
            refine wp_region_calm (by kernel_rfl) (by kernel_rfl) (fun W hW _ => ?_)
            have hbW : Below w1.heap.size w1 W := by rw [hW]; exact Below.refl _ _
            have hc0 : ∀ u : Wd W, u.w.cell? ⟨wr.heap.size, 0, none⟩ = some (.int .i64 pf) := fun u => u.cell ((hbW.cell (cell_lt q0)).trans q0)
            have hc1 : ∀ u : Wd W, u.w.cell? ⟨wr.heap.size, 1, none⟩ = some (.int .i64 pt) := fun u => u.cell ((hbW.cell (cell_lt q1)).trans q1)
            have hc2 : ∀ u : Wd W, u.w.cell? ⟨wr.heap.size, 2, none⟩ = some (.int .i64 pr) := fun u => u.cell ((hbW.cell (cell_lt q2)).trans q2)
            have hc3 : ∀ u : Wd W, u.w.cell? ⟨wr.heap.size, 3, none⟩ = some (.int .i64 pk) := fun u => u.cell ((hbW.cell (cell_lt q3)).trans q3)
            have hc4 : ∀ u : Wd W, u.w.cell? ⟨wr.heap.size, 4, none⟩ = some (.bool pg) := fun u => u.cell ((hbW.cell (cell_lt q4)).trans q4)
            have hc5 : ∀ u : Wd W, u.w.cell? ⟨wr.heap.size, 5, none⟩ = some (.bool ps) := fun u => u.cell ((hbW.cell (cell_lt q5)).trans q5)
            have hc6 : ∀ u : Wd W, u.w.cell? ⟨b, off + j * 6, none⟩ = some (.int .i64 rf) := fun u => u.cell ((hbW.cell (cell_lt p0)).trans p0)
            have hc7 : ∀ u : Wd W, u.w.cell? ⟨b, off + j * 6 + 1, none⟩ = some (.int .i64 rt) := fun u => u.cell ((hbW.cell (cell_lt p1)).trans p1)
            have hc8 : ∀ u : Wd W, u.w.cell? ⟨b, off + j * 6 + 2, none⟩ = some (.int .i64 rr) := fun u => u.cell ((hbW.cell (cell_lt p2)).trans p2)
            have hc9 : ∀ u : Wd W, u.w.cell? ⟨b, off + j * 6 + 3, none⟩ = some (.int .i64 rk) := fun u => u.cell ((hbW.cell (cell_lt p3)).trans p3)
            have hc10 : ∀ u : Wd W, u.w.cell? ⟨b, off + j * 6 + 4, none⟩ = some (.bool rg) := fun u => u.cell ((hbW.cell (cell_lt p4)).trans p4)
            have hc11 : ∀ u : Wd W, u.w.cell? ⟨b, off + j * 6 + 5, none⟩ = some (.bool rs) := fun u => u.cell ((hbW.cell (cell_lt p5)).trans p5)
            clear hW
            repeat (go_big_quiet_step (first | (go_at_call 26; exact calm_of (joins_is _ _ _ _ _ _ _ _ _ _ _ _ _ hj))))
            refine wpQuiet_nil ?_
            rintro w2 ⟨⟨_, hw2⟩, rfl⟩
            have hb2 : Below w1.heap.size w1 w2 := hbW.trans (hw2.mono hbW.size)
            go_wp2
            go_roundw
            case rel =>
              refine ⟨j + 1 + 1, by omega, by go_num, fun i hi => ?_, hbel.trans ((hx2.trans (hb2.mono hx2.size)).mono hbel.size)⟩
              by_cases hij : i = j + 1
              · rw [hij, HO.out, hd, hj, hS]; rfl
              · exact hok.out i (by omega)
            case measure => simp [intOf]; omega
      · have hS' : isSp pf pt = false := by simpa using hS
        go_wp2_with (go_at_call 25; refine (isSpan_is _ _ _ hS').mono ?_; rintro e w1 ⟨rfl, hw1⟩)
        have hx2 := below_one hw1
        go_ret
        refine ⟨ret_bool ?_, hbel.trans (hx2.mono hbel.size)⟩
        symm
        rw [Bool.eq_false_iff]
        intro hall
        have := rightR_iff.1 hall k (by rw [← hn.out]; exact hlt)
        unfold okAt at this
        rw [← HP.out] at this
        simp [hS'] at this
    · go_wp2
      go_ret
      refine ⟨ret_bool ?_, hbel⟩
      symm
      exact rightR_iff.2 (fun i hi => hok.out i (by have := hn.out; omega))

theorem right_is {f : Bool} (v : Value) (l : List R6) (B : Nat) (w : World) (h : IsRecs encR B w v l) (hB : B ≤ 4398046511104) (hf : rightR l = f) :
    Calls Try.prog 16 #[v] w fun e w' => e = .returned (.bool f) ∧ Below w.heap.size w w' := hf ▸ right_any v l B w h hB

/-- Four cells of a row, and that they may be written. -/
theorem OwnRow.quadf {w : World} {g : Nat} {e : TypeId} {a b c d : Value} (h : OwnRow w g e [a, b, c, d]) :
    (w.cell? ⟨g, 0, none⟩ = some a ∧ w.cell? ⟨g, 1, none⟩ = some b ∧ w.cell? ⟨g, 2, none⟩ = some c ∧ w.cell? ⟨g, 3, none⟩ = some d) ∧ w.frozen? ⟨g, 0, none⟩ = false ∧ w.frozen? ⟨g, 1, none⟩ = false ∧ w.frozen? ⟨g, 2, none⟩ = false ∧ w.frozen? ⟨g, 3, none⟩ = false :=
  ⟨h.quad, h.free 0, h.free 1, h.free 2, h.free 3⟩

/-- What Find answers, as it is returned. -/
abbrev attV (a b : Int) (c d B : Bool) : Value := .tuple #[.agg #[.int .i64 a, .int .i64 b, .bool c, .bool d], .bool B]
abbrev attO (o : Option A4) : Value := attV (o.getD zA).1 (o.getD zA).2.1 (o.getD zA).2.2.1 (o.getD zA).2.2.2 o.isSome

theorem at_drop (l : List R6) (p : Int) (k : Nat) (hk : k < l.length) : atR (l.drop k) p = if iv (l.getD k zR).1 (l.getD k zR).2.1 p then some (l.getD k zR).2.2 else atR (l.drop (k + 1)) p := by
  rw [List.drop_eq_getElem_cons hk, atR, List.getD_eq_getElem?_getD, List.getElem?_eq_getElem hk]
  rfl

set_option maxHeartbeats 800000 in
theorem find_any (v : Value) (l : List R6) (p : Int) (B : Nat) (w : World) (h : IsRecs encR B w v l) (hB : B ≤ 4398046511104) :
    Calls Try.prog 13 #[v, .int .i64 p] w fun e w' => e = .returned (attO (atR l p)) ∧ Below w.heap.size w w' := by
  obtain ⟨a, cap, rfl, h1, hl, hc'⟩ := h
  obtain ⟨n, hn⟩ : ∃ n, Hid (n = l.length) := ⟨_, rfl⟩
  rw [← hn.out] at hl hc' ⊢
  obtain ⟨A, hA⟩ : ∃ A, Hid (A = atR l p) := ⟨_, rfl⟩
  rw [← hA.out]
  go_enter Try.func13, Try.ntmps13
  go_wp2_with fail
  go_loopw [10] (fun i wr => ∃ k : Nat, k ≤ n ∧ i = .int .i64 k ∧ Hid (A = atR (l.drop k) p) ∧ Hid (OwnRow wr w.heap.size 31 [.int .i64 0, .int .i64 0, .bool false, .bool false]) ∧ Below w.heap.size w wr) (fun i _ => n - (intOf i).toNat)
  case atStart => exact ⟨0, Nat.zero_le _, rfl, by rw [List.drop_zero]; exact hA, heap_alloc_new w _, (Below.refl _ _).alloc (Nat.le_refl _) _⟩
  case round =>
    obtain ⟨k, hk, rfl, hok, hbox, hbel⟩ := hrel
    obtain ⟨⟨c0, c1, c2, c3⟩, f0, f1, f2, f3⟩ := hbox.out.quadf
    have hz : w.heap.size < wr.heap.size := hbox.out.lt
    by_cases hlt : k < n
    · obtain ⟨b, off, rfl, hc⟩ := hc' (by omega)
      have HD : Hid _ := at_drop l p k (by rw [← hn.out]; exact hlt)
      obtain ⟨⟨pf, pt, pr, pk, pg, ps⟩, hp⟩ : ∃ p, p = l.getD k zR := ⟨_, rfl⟩
      obtain ⟨hk0, hk1, hk2, hk3, hk4, hk5⟩ := cell6 hc hbel k (by rw [← hn.out]; exact hlt) hp
      rw [← hp] at HD
      clear hp
      have hbx : Hid (∀ o, Below wr.heap.size wr (wr.alloc o)) := fun o => (Below.refl _ _).alloc (Nat.le_refl _) _
      by_cases h1 : pf ≤ p
      · by_cases h2 : p < pt
        · go_wp2
          have hO : A = some (pr, pk, pg, ps) := by
            rw [hok.out, HD.out, if_pos (iv_iff.2 ⟨h1, h2⟩)]
          subst hO
          refine bodyPost_ret (v := attO (some (pr, pk, pg, ps))) (by simp [results, Try.results13, go_sem, c0, c1, c2, c3, hz]) rfl ⟨rfl, ?_⟩
          exact ((((hbel.setCell (by simp) _).setCell (by simp) _).setCell (by simp) _).setCell (by simp) _).alloc (by simp; omega) _
        · go_wp2
          go_roundw
          case rel => exact ⟨k + 1, by omega, by go_num, by show _ = _; rw [hok.out, HD.out, if_neg (by rw [iv_iff]; simp only; omega)], hbox.out.below (hbx.out _) hbox.out.lt, hbel.trans ((hbx.out _).mono hbel.size)⟩
          case measure => simp [intOf]; omega
      · go_wp2
        go_roundw
        case rel => exact ⟨k + 1, by omega, by go_num, by show _ = _; rw [hok.out, HD.out, if_neg (by rw [iv_iff]; simp only; omega)], hbox.out.below (hbx.out _) hbox.out.lt, hbel.trans ((hbx.out _).mono hbel.size)⟩
        case measure => simp [intOf]; omega
    · go_wp2
      have hO : A = none := by
        rw [hok.out, List.drop_of_length_le (by rw [← hn.out]; omega)]
        rfl
      subst hO
      refine bodyPost_ret (v := attO none) (by simp [results, Try.results13, go_sem, c0, c1, c2, c3, hz, zA]) rfl ⟨rfl, ?_⟩
      exact (((hbel.setCell (by simp) _).setCell (by simp) _).setCell (by simp) _).setCell (by simp) _

end Go.Proofs.Ytgkniljbemkkhaf
