/- The contracts of slices.Grow at nil and slices.Concat over slices of api.Region. -/
import Derived.Test.YtbiipnojhjhejaaJReg1
namespace Go.Proofs.Ytbiipnojhjhejaa
set_option maxRecDepth 100000
open Go.RowKit
set_option linter.unusedSimpArgs false
set_option linter.unusedVariables false

set_option maxHeartbeats 400000 in
theorem grow_nil (n : Nat) (w : World) (hn : n ≤ 1000000) :
    Calls Try.prog 94 #[.slice none 0 0, .int .i64 n] w fun e w' => ∃ v', e = .returned v' ∧ OwnR 50 6 encR w.heap.size w' v' [] ∧ Below w.heap.size w w' := by
  obtain ⟨i0, hi, hz0, hz1, hz2⟩ := info_parts info_region
  by_cases h0 : 0 < n
  · have hrun : ∀ ty, (Builtin.append_ #[27, 3] ty #[.slice none 0 0, .int .i64 n]).run Try.prog w = _ := fun ty =>
      Lib.run_append_nil_zeros w 27 3 ty 50 i0 _ .i64 .i64 Try.underlying27 Try.underlying3 hi hz0 n h0 (by omega) (by omega) (by rw [hz2]; omega)
    have hge := grownCap_ge w n 0 50
    have hle := grownCap_le_maxLen w n 0 50 (by unfold maxLen; omega)
    obtain ⟨c, hc⟩ : ∃ c, c = grownCap w n 0 50 := ⟨_, rfl⟩
    rw [← hc] at hrun hge hle
    clear hc
    go_enter Try.func94, Try.ntmps94
    go_wp2_with (at_builtin; refine Lib.wpList_append_run _ rfl _ _ _ _ rfl _ _ rfl rfl _ _ (hrun _) ?_)
    go_ret
    refine ⟨_, rfl, ?_, ((Below.refl _ _).drew).alloc (Nat.le_refl _) _⟩
    refine ⟨rfl, Or.inr ⟨w.heap.size, c, _, rfl, Nat.le_refl _, heap_alloc_new w.drew _, Nat.zero_le _, hle, ?_, rfl⟩⟩
    rw [Array.size_append, size_zeroCells, size_zeroCells]
    simp [Value.cells]
    omega
  · obtain rfl : n = 0 := by omega
    go_enter Try.func94, Try.ntmps94
    go_wp2
    go_ret
    exact ⟨_, rfl, ⟨rfl, Or.inl ⟨rfl, rfl⟩⟩, Below.refl _ _⟩

/-- How many there are in the first k lists. -/
def sumLen (ls : List (List R6)) : Nat → Nat
  | 0 => 0
  | k + 1 => sumLen ls k + (ls.getD k []).length

theorem sumLen_flat (ls : List (List R6)) : ∀ k, k ≤ ls.length → sumLen ls k = (ls.take k).flatten.length
  | 0, _ => by simp [sumLen]
  | k + 1, h => by
    rw [sumLen, sumLen_flat ls k (by omega), List.take_add_one, List.getElem?_eq_getElem (by omega), List.getD_eq_getElem?_getD, List.getElem?_eq_getElem (by omega)]
    rw [List.flatten_append, List.length_append]
    simp

theorem sumLen_mono (ls : List (List R6)) (k : Nat) : ∀ j, sumLen ls k ≤ sumLen ls (k + j)
  | 0 => Nat.le_refl _
  | j + 1 => by
    have := sumLen_mono ls k j
    rw [← Nat.add_assoc, sumLen]
    omega

set_option maxHeartbeats 800000 in
theorem concat_any (g off cap : Nat) (vs : List Value) (ls : List (List R6)) (w : World) (hn : ls.length ≤ 1000) (hsum : sumLen ls ls.length ≤ 1000000)
    (hc : ∀ i, i < ls.length → w.cell? ⟨g, off + i, none⟩ = some (vs.getD i undef) ∧ IsRecs encR 1000000 w (vs.getD i undef) (ls.getD i [])) :
    Calls Try.prog 91 #[.slice (some ⟨g, off, none⟩) ls.length cap] w fun e w' => ∃ v', e = .returned v' ∧ OwnR 50 6 encR w.heap.size w' v' ls.flatten ∧ Below w.heap.size w w' := by
  obtain ⟨i0, hi, hz0, hz1, hz2⟩ := info_parts info_region
  obtain ⟨n, hnn⟩ : ∃ n, Hid (n = ls.length) := ⟨_, rfl⟩
  rw [← hnn.out] at hn hc hsum ⊢
  go_enter Try.func91, Try.ntmps91
  go_wp2_with fail
  go_loopw [3, 11] (fun s i wr => ∃ k : Nat, k ≤ n ∧ s = .int .i64 (sumLen ls k : Nat) ∧ i = .int .i64 k ∧ Below w.heap.size w wr) (fun _ i _ => n - (intOf i).toNat)
  case atStart => exact ⟨0, Nat.zero_le _, rfl, rfl, Below.refl _ _⟩
  case round =>
    obtain ⟨k, hk, rfl, rfl, hbel⟩ := hrel
    by_cases hlt : k < n
    · obtain ⟨hck, a, c, hv, h1, h2, -⟩ := hc k hlt
      have hm := sumLen_mono ls (k + 1) (n - (k + 1))
      rw [show k + 1 + (n - (k + 1)) = n by omega] at hm
      have hsk : sumLen ls (k + 1) = sumLen ls k + (ls.getD k []).length := rfl
      rw [hsk] at hm
      have HSK : Hid (sumLen ls (k + 1) = sumLen ls k + (ls.getD k []).length) := hsk
      clear hsk
      rw [hv] at hck
      have hk0 : wr.cell? ⟨g, off + k, none⟩ = some (.slice a (ls.getD k []).length c) := (hbel.cell (cell_lt hck)).trans hck
      obtain ⟨m, hme⟩ : ∃ m, m = (ls.getD k []).length := ⟨_, rfl⟩
      rw [← hme] at hm h1 h2 hk0 HSK
      clear hck hme hv
      go_wp2
      go_roundw
      case rel => exact ⟨k + 1, by omega, by rw [HSK.out]; go_num, by go_num, hbel⟩
      case measure => simp [intOf]; omega
    · obtain rfl : k = n := by omega
      go_wp2_with (go_at_call 94; refine (grow_nil _ _ hsum).mono ?_; rintro e w1 ⟨v1, rfl, hown1, hbel1⟩)
      go_loopw [6, 27] (fun v i wr => ∃ j : Nat, j ≤ k ∧ OwnR 50 6 encR w.heap.size wr v (ls.take j).flatten ∧ i = .int .i64 j ∧ Below w.heap.size w wr) (fun _ i _ => k - (intOf i).toNat)
      case atStart => exact ⟨0, Nat.zero_le _, (hown1.mono hbel.size), rfl, hbel.trans (hbel1.mono hbel.size)⟩
      case round =>
        obtain ⟨j, hj, hown, rfl, hbel2⟩ := hrel
        by_cases hlt2 : j < k
        · obtain ⟨hck, hbs⟩ := hc j hlt2
          have hbs2 := hbs.below hbel2
          have hm := sumLen_mono ls (j + 1) (k - (j + 1))
          rw [show j + 1 + (k - (j + 1)) = k by omega] at hm
          have hsf := sumLen_flat ls j (by rw [← hnn.out]; omega)
          have hsk : sumLen ls (j + 1) = sumLen ls j + (ls.getD j []).length := rfl
          have HF : Hid ((ls.take (j + 1)).flatten = (ls.take j).flatten ++ ls.getD j []) := by
            show _ = _
            rw [List.take_add_one, List.getElem?_eq_getElem (by rw [← hnn.out]; omega), List.getD_eq_getElem?_getD, List.getElem?_eq_getElem (by rw [← hnn.out]; omega), List.flatten_append]
            simp
          have hlen : (ls.take j).flatten.length + (ls.getD j []).length ≤ 1000000 := by omega
          have hk0 : wr.cell? ⟨g, off + j, none⟩ = some (vs.getD j undef) := (hbel2.cell (cell_lt hck)).trans hck
          have hbase := hbel2.size
          obtain ⟨u, hu⟩ : ∃ u, u = vs.getD j undef := ⟨_, rfl⟩
          rw [← hu] at hk0 hbs2
          have HB : Hid (IsRecs encR 1000000 wr u (ls.getD j [])) := hbs2
          obtain ⟨ua, uc, rfl, -⟩ := hbs2
          clear hck hbs hu hm hsf hsk
          go_wp2_with (at_builtin; go_must (refine wpList_append_recs shR rfl _ _ 27 50 i0 _ 40 rfl Try.underlying27 hi hz0 hz1 hz2 rfl w.heap.size _ _ rfl hown _ _ _ rfl HB.out (by omega) (by unfold maxLen; omega) hbase ?_); intro v' w' hown' hbw')
          go_roundw
          case rel => exact ⟨j + 1, by omega, by rw [HF.out]; exact hown', by go_num, hbel2.trans hbw'⟩
          case measure => simp [intOf]; omega
        · obtain rfl : j = k := by omega
          go_wp2
          go_ret
          refine ⟨_, rfl, ?_, hbel2⟩
          rw [List.take_of_length_le (by rw [← hnn.out]; omega)] at hown
          exact hown

theorem concat3 (g cap : Nat) (s0 s1 s2 : Value) (l0 l1 l2 : List R6) (W : World) (hs0 : W.cell? ⟨g, 0, none⟩ = some s0) (hs1 : W.cell? ⟨g, 1, none⟩ = some s1) (hs2 : W.cell? ⟨g, 2, none⟩ = some s2)
    (h0 : IsRecs encR 1000000 W s0 l0) (h1 : IsRecs encR 1000000 W s1 l1) (h2 : IsRecs encR 1000000 W s2 l2) (hsum : l0.length + l1.length + l2.length ≤ 1000000) :
    Calls Try.prog 91 #[.slice (some ⟨g, 0, none⟩) 3 cap] W fun e w' => ∃ v', e = .returned v' ∧ OwnR 50 6 encR W.heap.size w' v' (l0 ++ l1 ++ l2) ∧ Below W.heap.size W w' := by
  have h := concat_any g 0 cap [s0, s1, s2] [l0, l1, l2] W (by simp) (by simpa [sumLen] using hsum) (fun i hi => by
    match i with
    | 0 => exact ⟨by simpa using hs0, by simpa using h0⟩
    | 1 => exact ⟨by simpa using hs1, by simpa using h1⟩
    | 2 => exact ⟨by simpa using hs2, by simpa using h2⟩
    | i + 3 => simp at hi; omega)
  simpa using h

end Go.Proofs.Ytbiipnojhjhejaa

/- The contract of region.join: those that touch and are alike are made one, in place. -/
namespace Go.Proofs.Ytbiipnojhjhejaa
set_option maxRecDepth 100000
open Go.RowKit
set_option linter.unusedSimpArgs false
set_option linter.unusedVariables false

theorem jn_yes {acc : List R6} {x : R6} {q : Nat} (hq : acc.length = q + 1) (h : jo (acc.getD q zR) x = true) : jn acc x = acc.take q ++ [((acc.getD q zR).1, x.2.1, (acc.getD q zR).2.2)] := by
  unfold jn
  rw [show acc.length - 1 = q by omega, if_pos ⟨by omega, h⟩]

theorem jn_no {acc : List R6} {x : R6} {q : Nat} (hq : acc.length = q + 1) (h : jo (acc.getD q zR) x = false) : jn acc x = acc ++ [x] := by
  unfold jn
  rw [show acc.length - 1 = q by omega, if_neg (fun hh => by rw [h] at hh; exact absurd hh.2 (by decide))]

theorem jn_nil {acc : List R6} {x : R6} (hq : acc.length = 0) : jn acc x = acc ++ [x] := by
  unfold jn
  rw [if_neg (fun hh => hh.1 hq)]

/-- The last one's To is written over. -/
theorem row_to {xs : List Value} {acc : List R6} {q : Nat} (y : R6) (pt : Int) (hq : acc.length = q + 1) (hy : acc.getD q zR = y) (hxt : xs.take ((q + 1) * 6) = flatL encR acc) :
    (xs.set (q * 6 + 1) (.int .i64 pt)).take ((q + 1) * 6) = flatL encR (acc.take q ++ [(y.1, pt, y.2.2)]) := by
  have hs : acc = acc.take q ++ [y] := by
    have h : acc.take (q + 1) = acc.take q ++ [acc.getD q zR] := take_snoc acc q (by omega)
    rw [List.take_of_length_le (by omega), hy] at h
    exact h
  have hlen : (flatL encR (acc.take q)).length = q * 6 := by rw [flatL_len shR, List.length_take]; congr 1; omega
  rw [List.take_set, hxt]
  conv => lhs; rw [hs]
  rw [flatL_append, flatL_append, flatL_one, flatL_one, List.set_append_right _ _ (by omega), hlen, show q * 6 + 1 - q * 6 = 1 by omega]
  rfl

set_option maxHeartbeats 4000000 in
theorem join_row (base g cap : Nat) (l : List R6) (w : World) (xs0 : List Value) (hb : base ≤ g) (hrow0 : OwnRow w g 50 xs0) (hx0 : xs0.length = cap * 6) (hlc : l.length ≤ cap) (hxt : xs0.take (l.length * 6) = flatL encR l) (hcap : cap ≤ maxLen) :
    Calls Try.prog 90 #[.slice (some ⟨g, 0, none⟩) l.length cap] w fun e w' => ∃ v', e = .returned v' ∧ OwnR 50 6 encR base w' v' (joinL l) ∧ Below base w w' := by
  obtain ⟨i0, hi0, hz0, hz1, hz2⟩ := info_parts info_region
  have hgw := hrow0.lt
  obtain ⟨n, hn⟩ : ∃ n, Hid (n = l.length) := ⟨_, rfl⟩
  rw [← hn.out] at hlc hxt ⊢
  have hcap' : (cap : Int) ≤ 9223372036854775807 := by unfold maxLen at hcap; omega
  have hncap : (n : Int) ≤ (cap : Int) := by omega
  go_enter Try.func90, Try.ntmps90
  go_wp2_with fail
  go_loopw [3, 11] (fun v i wr => ∃ k r : Nat, ∃ xs, k ≤ n ∧ v = .slice (some ⟨g, 0, none⟩) r cap ∧ i = .int .i64 k ∧ Hid (r = (joinL (l.take k)).length) ∧ r ≤ k ∧ Hid (OwnRow wr g 50 xs) ∧ Hid (xs.length = cap * 6) ∧ Hid (xs.take (r * 6) = flatL encR (joinL (l.take k))) ∧ Hid (xs.drop (k * 6) = xs0.drop (k * 6)) ∧ Below base w wr) (fun _ i _ => n - (intOf i).toNat)
  case atStart => exact ⟨0, 0, xs0, Nat.zero_le _, rfl, rfl, by simp [Hid, joinL], Nat.le_refl _, hrow0, hx0, by simp [Hid, joinL, flatL], rfl, Below.refl _ _⟩
  case round =>
    obtain ⟨k, r, xs, hk, rfl, rfl, hr, hrk, hrow, hxl, hxr, hxd, hbel⟩ := hrel
    by_cases hlt : k < n
    · have hcell : ∀ t u, (encR (l.getD k zR))[t]? = some u → t < 6 → wr.cell? ⟨g, k * 6 + t, none⟩ = some u := by
        intro t u hu ht
        rw [hrow.out.cell, ← List.getElem?_drop, hxd.out, List.getElem?_drop]
        rw [← flatL_get shR l zR k t (by rw [← hn.out]; exact hlt) ht, ← hxt, List.getElem?_take_of_lt (by omega)] at hu
        exact hu
      have HF := joinL_snoc (l.take k) (l.getD k zR)
      rw [← take_snoc l k (by rw [← hn.out]; exact hlt)] at HF
      obtain ⟨⟨pf, pt, pr, pk, pg, ps⟩, hp⟩ : ∃ p, p = l.getD k zR := ⟨_, rfl⟩
      rw [← hp] at hcell HF
      clear hp
      have hk0 : wr.cell? ⟨g, k * 6, none⟩ = some (.int .i64 pf) := hcell 0 _ rfl (by decide)
      have hk1 : wr.cell? ⟨g, k * 6 + 1, none⟩ = some (.int .i64 pt) := hcell 1 _ rfl (by decide)
      have hk2 : wr.cell? ⟨g, k * 6 + 2, none⟩ = some (.int .i64 pr) := hcell 2 _ rfl (by decide)
      have hk3 : wr.cell? ⟨g, k * 6 + 3, none⟩ = some (.int .i64 pk) := hcell 3 _ rfl (by decide)
      have hk4 : wr.cell? ⟨g, k * 6 + 4, none⟩ = some (.bool pg) := hcell 4 _ rfl (by decide)
      have hk5 : wr.cell? ⟨g, k * 6 + 5, none⟩ = some (.bool ps) := hcell 5 _ rfl (by decide)
      clear hcell
      have HG : Hid _ := HF
      clear HF
      obtain ⟨acc, hacc⟩ : ∃ acc, Hid (acc = joinL (l.take k)) := ⟨_, rfl⟩
      rw [← hacc.out] at hr hxr HG
      have hbx : Hid (∀ o, Below wr.heap.size wr (wr.alloc o)) := fun o => (Below.refl _ _).alloc (Nat.le_refl _) _
      -- the end of a round in which x is put behind
      have HA : Hid (∀ w2, Below wr.heap.size wr w2 → ∀ o, jn acc (pf, pt, pr, pk, pg, ps) = acc ++ [(pf, pt, pr, pk, pg, ps)] → ∃ xs', OwnRow ((w2.alloc o).setCells g (r * 6) (encR (pf, pt, pr, pk, pg, ps))) g 50 xs' ∧ xs'.length = cap * 6 ∧ xs'.take ((r + 1) * 6) = flatL encR (joinL (l.take (k + 1))) ∧ xs'.drop ((k + 1) * 6) = xs0.drop ((k + 1) * 6) ∧ r + 1 = (joinL (l.take (k + 1))).length ∧ Below base w ((w2.alloc o).setCells g (r * 6) (encR (pf, pt, pr, pk, pg, ps)))) := by
        intro w2 hb2 o hj
        have hr2 := hrow.out.below hb2 hrow.out.lt
        have hr3 : OwnRow (w2.alloc o) g 50 xs := hr2.below ((Below.refl _ _).alloc (Nat.le_refl _) _) hr2.lt
        have hl6 : (encR (pf, pt, pr, pk, pg, ps)).length = 6 := rfl
        have hxl' := hxl.out
        refine ⟨spl xs (r * 6) (encR (pf, pt, pr, pk, pg, ps)), OwnRow.setCells _ (r * 6) _ _ hr3 (by rw [hl6]; omega), ?_, ?_, ?_, ?_, ?_⟩
        · rw [spl_len (by rw [hl6]; omega)]
          exact hxl'
        · rw [show (r + 1) * 6 = r * 6 + (encR (pf, pt, pr, pk, pg, ps)).length by rw [hl6]; omega, spl_take_hi (by omega), hxr.out, HG.out, hj, flatL_append, flatL_one]
        · rw [spl_drop_hi (by rw [hl6]; omega) (by omega)]
          exact drop_more hxd.out (by omega)
        · rw [HG.out, hj, List.length_append, ← hr.out]
          rfl
        · exact below_setCells hb _ _ w _ ((hbel.trans (hb2.mono (by have := hrow.out.lt; omega))).alloc (by have := hb2.size; have := hrow.out.lt; omega) _)
      have hsp : Hid (∀ w2, Below wr.heap.size wr w2 → ∀ o, ∀ j, j < (encR (pf, pt, pr, pk, pg, ps)).length → ((w2.alloc o).cell? ⟨g, 0 + r * 6 + j, none⟩).isSome = true ∧ (w2.alloc o).frozen? ⟨g, 0 + r * 6 + j, none⟩ = false) := by
        intro w2 hb2 o j hj
        have hr2 : OwnRow (w2.alloc o) g 50 xs := (hrow.out.below hb2 hrow.out.lt).below ((Below.refl _ _).alloc (Nat.le_refl _) _) (hrow.out.below hb2 hrow.out.lt).lt
        have hj' : j < 6 := hj
        exact ⟨xs_cell' hr2 (by have := hxl.out; omega), hr2.free _⟩
      by_cases hr0 : r = 0
      · have hd0 : decide (1 ≤ (r : Int)) = false := by simp; omega
        have hJ : Hid (jn acc (pf, pt, pr, pk, pg, ps) = acc ++ [(pf, pt, pr, pk, pg, ps)]) := jn_nil (by rw [← hr.out]; exact hr0)
        have HR0 : Hid (r = 0) := hr0
        clear hr0
        go_wp2_with fail
        have hx1 := hbx.out (.cells #[.int .i64 pf, .int .i64 pt, .int .i64 pr, .int .i64 pk, .bool pg, .bool ps] 50)
        have hW1 : OwnRow (wr.alloc (.cells #[.int .i64 pf, .int .i64 pt, .int .i64 pr, .int .i64 pk, .bool pg, .bool ps] 50)) wr.heap.size 50 (encR (pf, pt, pr, pk, pg, ps)) := heap_alloc_new wr _
        generalize (wr.alloc (.cells #[.int .i64 pf, .int .i64 pt, .int .i64 pr, .int .i64 pk, .bool pg, .bool ps] 50)) = W1 at hx1 hW1 ⊢
        obtain ⟨q0, q1, q2, q3, q4, q5⟩ := hW1.six
        refine wp_region_calm (by kernel_rfl) (by kernel_rfl) (fun W hW _ => ?_)
        have hbW : Below W1.heap.size W1 W := by rw [hW]; exact Below.refl _ _
        have hc0 : ∀ u : Wd W, u.w.cell? ⟨wr.heap.size, 0, none⟩ = some (.int .i64 pf) := fun u => u.cell ((hbW.cell (cell_lt q0)).trans q0)
        have hc1 : ∀ u : Wd W, u.w.cell? ⟨wr.heap.size, 1, none⟩ = some (.int .i64 pt) := fun u => u.cell ((hbW.cell (cell_lt q1)).trans q1)
        have hc2 : ∀ u : Wd W, u.w.cell? ⟨wr.heap.size, 2, none⟩ = some (.int .i64 pr) := fun u => u.cell ((hbW.cell (cell_lt q2)).trans q2)
        have hc3 : ∀ u : Wd W, u.w.cell? ⟨wr.heap.size, 3, none⟩ = some (.int .i64 pk) := fun u => u.cell ((hbW.cell (cell_lt q3)).trans q3)
        have hc4 : ∀ u : Wd W, u.w.cell? ⟨wr.heap.size, 4, none⟩ = some (.bool pg) := fun u => u.cell ((hbW.cell (cell_lt q4)).trans q4)
        have hc5 : ∀ u : Wd W, u.w.cell? ⟨wr.heap.size, 5, none⟩ = some (.bool ps) := fun u => u.cell ((hbW.cell (cell_lt q5)).trans q5)
        clear hW
        repeat (go_big_quiet_step (fail))
        refine wpQuiet_nil ?_
        rintro w2 ⟨⟨_, hw2⟩, rfl⟩
        have hb2 : Below W1.heap.size W1 w2 := hbW.trans (hw2.mono hbW.size)
        have hx2 : Below wr.heap.size wr w2 := hx1.trans (hb2.mono hx1.size)
        obtain ⟨s0, s1, s2, s3, s4, s5⟩ := (hW1.below hb2 hW1.lt).six
        go_wp2_with (at_builtin; go_must (refine wpList_append_fits rfl _ _ 27 rfl 50 i0 6 Try.underlying27 hi0 hz1 g 0 (r) cap rfl ⟨w2.heap.size, 0, none⟩ 1 1 (encR (pf, pt, pr, pk, pg, ps)) rfl rfl (box6 w2 _ rfl pf pt pr pk pg ps _) (shR.one _) (by omega) (hsp.out w2 hx2 _) ?_))
        obtain ⟨xs', a1, a2, a3, a4, a5, a6⟩ := HA.out w2 hx2 (.cells #[.int .i64 pf, .int .i64 pt, .int .i64 pr, .int .i64 pk, .bool pg, .bool ps] 50) hJ.out
        go_roundw
        case rel => exact ⟨k + 1, r + 1, xs', by omega, rfl, by go_num, a5, by omega, a1, a2, a3, a4, a6⟩
        case measure => simp [intOf]; omega
      · obtain ⟨q, rfl⟩ : ∃ q, r = q + 1 := ⟨r - 1, by omega⟩
        have hcq : ∀ t u, (encR (acc.getD q zR))[t]? = some u → t < 6 → wr.cell? ⟨g, q * 6 + t, none⟩ = some u := by
          intro t u hu ht
          rw [hrow.out.cell]
          rw [← flatL_get shR acc zR q t (by rw [← hr.out]; omega) ht, ← hxr.out, List.getElem?_take_of_lt (by omega)] at hu
          exact hu
        obtain ⟨⟨rf, rt, rr, rk, rg, rs⟩, hp⟩ : ∃ p, p = acc.getD q zR := ⟨_, rfl⟩
        have HP : Hid (acc.getD q zR = (rf, rt, rr, rk, rg, rs)) := hp.symm
        rw [← hp] at hcq
        clear hp
        have hr0' : wr.cell? ⟨g, q * 6, none⟩ = some (.int .i64 rf) := hcq 0 _ rfl (by decide)
        have hr1 : wr.cell? ⟨g, q * 6 + 1, none⟩ = some (.int .i64 rt) := hcq 1 _ rfl (by decide)
        have hr2 : wr.cell? ⟨g, q * 6 + 2, none⟩ = some (.int .i64 rr) := hcq 2 _ rfl (by decide)
        have hr3 : wr.cell? ⟨g, q * 6 + 3, none⟩ = some (.int .i64 rk) := hcq 3 _ rfl (by decide)
        have hr4 : wr.cell? ⟨g, q * 6 + 4, none⟩ = some (.bool rg) := hcq 4 _ rfl (by decide)
        have hr5 : wr.cell? ⟨g, q * 6 + 5, none⟩ = some (.bool rs) := hcq 5 _ rfl (by decide)
        clear hcq hr0
        have hr0 := hr0'
        clear hr0'
        have hqn : q < n := by omega
        have hgt : decide (((q + 1 : Nat) : Int) - 1 ≥ 0) = true := by simp
        cases hj : jo (rf, rt, rr, rk, rg, rs) (pf, pt, pr, pk, pg, ps) with
        | true =>
          go_wp2_with fail
          have hx1 := hbx.out (.cells #[.int .i64 pf, .int .i64 pt, .int .i64 pr, .int .i64 pk, .bool pg, .bool ps] 50)
          have hW1 : OwnRow (wr.alloc (.cells #[.int .i64 pf, .int .i64 pt, .int .i64 pr, .int .i64 pk, .bool pg, .bool ps] 50)) wr.heap.size 50 (encR (pf, pt, pr, pk, pg, ps)) := heap_alloc_new wr _
          generalize (wr.alloc (.cells #[.int .i64 pf, .int .i64 pt, .int .i64 pr, .int .i64 pk, .bool pg, .bool ps] 50)) = W1 at hx1 hW1 ⊢
          obtain ⟨q0, q1, q2, q3, q4, q5⟩ := hW1.six
          have p0 := (hx1.cell (cell_lt hr0)).trans hr0
          have p1 := (hx1.cell (cell_lt hr1)).trans hr1
          have p2 := (hx1.cell (cell_lt hr2)).trans hr2
          have p3 := (hx1.cell (cell_lt hr3)).trans hr3
          have p4 := (hx1.cell (cell_lt hr4)).trans hr4
          have p5 := (hx1.cell (cell_lt hr5)).trans hr5
          refine wp_region_calm (by kernel_rfl) (by kernel_rfl) (fun W hW _ => ?_)
          have hbW : Below W1.heap.size W1 W := by rw [hW]; exact Below.refl _ _
          have hc0 : ∀ u : Wd W, u.w.cell? ⟨wr.heap.size, 0, none⟩ = some (.int .i64 pf) := fun u => u.cell ((hbW.cell (cell_lt q0)).trans q0)
          have hc1 : ∀ u : Wd W, u.w.cell? ⟨wr.heap.size, 1, none⟩ = some (.int .i64 pt) := fun u => u.cell ((hbW.cell (cell_lt q1)).trans q1)
          have hc2 : ∀ u : Wd W, u.w.cell? ⟨wr.heap.size, 2, none⟩ = some (.int .i64 pr) := fun u => u.cell ((hbW.cell (cell_lt q2)).trans q2)
          have hc3 : ∀ u : Wd W, u.w.cell? ⟨wr.heap.size, 3, none⟩ = some (.int .i64 pk) := fun u => u.cell ((hbW.cell (cell_lt q3)).trans q3)
          have hc4 : ∀ u : Wd W, u.w.cell? ⟨wr.heap.size, 4, none⟩ = some (.bool pg) := fun u => u.cell ((hbW.cell (cell_lt q4)).trans q4)
          have hc5 : ∀ u : Wd W, u.w.cell? ⟨wr.heap.size, 5, none⟩ = some (.bool ps) := fun u => u.cell ((hbW.cell (cell_lt q5)).trans q5)
          have hc6 : ∀ u : Wd W, u.w.cell? ⟨g, q * 6, none⟩ = some (.int .i64 rf) := fun u => u.cell ((hbW.cell (cell_lt p0)).trans p0)
          have hc7 : ∀ u : Wd W, u.w.cell? ⟨g, q * 6 + 1, none⟩ = some (.int .i64 rt) := fun u => u.cell ((hbW.cell (cell_lt p1)).trans p1)
          have hc8 : ∀ u : Wd W, u.w.cell? ⟨g, q * 6 + 2, none⟩ = some (.int .i64 rr) := fun u => u.cell ((hbW.cell (cell_lt p2)).trans p2)
          have hc9 : ∀ u : Wd W, u.w.cell? ⟨g, q * 6 + 3, none⟩ = some (.int .i64 rk) := fun u => u.cell ((hbW.cell (cell_lt p3)).trans p3)
          have hc10 : ∀ u : Wd W, u.w.cell? ⟨g, q * 6 + 4, none⟩ = some (.bool rg) := fun u => u.cell ((hbW.cell (cell_lt p4)).trans p4)
          have hc11 : ∀ u : Wd W, u.w.cell? ⟨g, q * 6 + 5, none⟩ = some (.bool rs) := fun u => u.cell ((hbW.cell (cell_lt p5)).trans p5)
          clear hW
          repeat (go_big_quiet_step (first | (go_at_call 29; exact calm_of (joins_is _ _ _ _ _ _ _ _ _ _ _ _ _ hj))))
          refine wpQuiet_nil ?_
          rintro w2 ⟨⟨_, hw2⟩, rfl⟩
          have hb2 : Below W1.heap.size W1 w2 := hbW.trans (hw2.mono hbW.size)
          have hx2 : Below wr.heap.size wr w2 := hx1.trans (hb2.mono hx1.size)
          obtain ⟨s0, s1, s2, s3, s4, s5⟩ := (hW1.below hb2 hW1.lt).six
          have hf1 := (hrow.out.below hx2 hrow.out.lt).free (q * 6 + 1)
          have hm2 := ((hx2.cell (cell_lt hr1)).trans hr1)
          go_wp2
          go_roundw
          case rel =>
            have hG := HG.out
            rw [jn_yes hr.out.symm (by rw [HP.out]; exact hj), HP.out] at hG
            refine ⟨k + 1, q + 1, xs.set (q * 6 + 1) (.int .i64 pt), by omega, rfl, by go_num, ?_, by omega, (hrow.out.below hx2 hrow.out.lt).set _ _, ?_, ?_, ?_, (hbel.trans (hx2.mono (by have := hrow.out.lt; omega))).setCell hb _⟩
            · show _ = _
              rw [hG, List.length_append, List.length_take, ← hr.out]
              simp
            · show _ = _
              rw [List.length_set]
              exact hxl.out
            · show _ = _
              rw [hG]
              exact row_to (rf, rt, rr, rk, rg, rs) pt hr.out.symm HP.out hxr.out
            · show _ = _
              rw [List.drop_set_of_lt (by omega)]
              exact drop_more hxd.out (by omega)
          case measure => simp [intOf]; omega
        | false =>
          have hJ : Hid (jn acc (pf, pt, pr, pk, pg, ps) = acc ++ [(pf, pt, pr, pk, pg, ps)]) := jn_no hr.out.symm (by rw [HP.out]; exact hj)
          go_wp2_with fail
          have hx1 := hbx.out (.cells #[.int .i64 pf, .int .i64 pt, .int .i64 pr, .int .i64 pk, .bool pg, .bool ps] 50)
          have hW1 : OwnRow (wr.alloc (.cells #[.int .i64 pf, .int .i64 pt, .int .i64 pr, .int .i64 pk, .bool pg, .bool ps] 50)) wr.heap.size 50 (encR (pf, pt, pr, pk, pg, ps)) := heap_alloc_new wr _
          generalize (wr.alloc (.cells #[.int .i64 pf, .int .i64 pt, .int .i64 pr, .int .i64 pk, .bool pg, .bool ps] 50)) = W1 at hx1 hW1 ⊢
          obtain ⟨q0, q1, q2, q3, q4, q5⟩ := hW1.six
          have p0 := (hx1.cell (cell_lt hr0)).trans hr0
          have p1 := (hx1.cell (cell_lt hr1)).trans hr1
          have p2 := (hx1.cell (cell_lt hr2)).trans hr2
          have p3 := (hx1.cell (cell_lt hr3)).trans hr3
          have p4 := (hx1.cell (cell_lt hr4)).trans hr4
          have p5 := (hx1.cell (cell_lt hr5)).trans hr5
          refine wp_region_calm (by kernel_rfl) (by kernel_rfl) (fun W hW _ => ?_)
          have hbW : Below W1.heap.size W1 W := by rw [hW]; exact Below.refl _ _
          have hc0 : ∀ u : Wd W, u.w.cell? ⟨wr.heap.size, 0, none⟩ = some (.int .i64 pf) := fun u => u.cell ((hbW.cell (cell_lt q0)).trans q0)
          have hc1 : ∀ u : Wd W, u.w.cell? ⟨wr.heap.size, 1, none⟩ = some (.int .i64 pt) := fun u => u.cell ((hbW.cell (cell_lt q1)).trans q1)
          have hc2 : ∀ u : Wd W, u.w.cell? ⟨wr.heap.size, 2, none⟩ = some (.int .i64 pr) := fun u => u.cell ((hbW.cell (cell_lt q2)).trans q2)
          have hc3 : ∀ u : Wd W, u.w.cell? ⟨wr.heap.size, 3, none⟩ = some (.int .i64 pk) := fun u => u.cell ((hbW.cell (cell_lt q3)).trans q3)
          have hc4 : ∀ u : Wd W, u.w.cell? ⟨wr.heap.size, 4, none⟩ = some (.bool pg) := fun u => u.cell ((hbW.cell (cell_lt q4)).trans q4)
          have hc5 : ∀ u : Wd W, u.w.cell? ⟨wr.heap.size, 5, none⟩ = some (.bool ps) := fun u => u.cell ((hbW.cell (cell_lt q5)).trans q5)
          have hc6 : ∀ u : Wd W, u.w.cell? ⟨g, q * 6, none⟩ = some (.int .i64 rf) := fun u => u.cell ((hbW.cell (cell_lt p0)).trans p0)
          have hc7 : ∀ u : Wd W, u.w.cell? ⟨g, q * 6 + 1, none⟩ = some (.int .i64 rt) := fun u => u.cell ((hbW.cell (cell_lt p1)).trans p1)
          have hc8 : ∀ u : Wd W, u.w.cell? ⟨g, q * 6 + 2, none⟩ = some (.int .i64 rr) := fun u => u.cell ((hbW.cell (cell_lt p2)).trans p2)
          have hc9 : ∀ u : Wd W, u.w.cell? ⟨g, q * 6 + 3, none⟩ = some (.int .i64 rk) := fun u => u.cell ((hbW.cell (cell_lt p3)).trans p3)
          have hc10 : ∀ u : Wd W, u.w.cell? ⟨g, q * 6 + 4, none⟩ = some (.bool rg) := fun u => u.cell ((hbW.cell (cell_lt p4)).trans p4)
          have hc11 : ∀ u : Wd W, u.w.cell? ⟨g, q * 6 + 5, none⟩ = some (.bool rs) := fun u => u.cell ((hbW.cell (cell_lt p5)).trans p5)
          clear hW
          repeat (go_big_quiet_step (first | (go_at_call 29; exact calm_of (joins_is _ _ _ _ _ _ _ _ _ _ _ _ _ hj))))
          refine wpQuiet_nil ?_
          rintro w2 ⟨⟨_, hw2⟩, rfl⟩
          have hb2 : Below W1.heap.size W1 w2 := hbW.trans (hw2.mono hbW.size)
          have hx2 : Below wr.heap.size wr w2 := hx1.trans (hb2.mono hx1.size)
          obtain ⟨s0, s1, s2, s3, s4, s5⟩ := (hW1.below hb2 hW1.lt).six
          go_wp2_with (at_builtin; go_must (refine wpList_append_fits rfl _ _ 27 rfl 50 i0 6 Try.underlying27 hi0 hz1 g 0 (q + 1) cap rfl ⟨w2.heap.size, 0, none⟩ 1 1 (encR (pf, pt, pr, pk, pg, ps)) rfl rfl (box6 w2 _ rfl pf pt pr pk pg ps _) (shR.one _) (by omega) (hsp.out w2 hx2 _) ?_))
          obtain ⟨xs', a1, a2, a3, a4, a5, a6⟩ := HA.out w2 hx2 (.cells #[.int .i64 pf, .int .i64 pt, .int .i64 pr, .int .i64 pk, .bool pg, .bool ps] 50) hJ.out
          go_roundw
          case rel => exact ⟨k + 1, q + 1 + 1, xs', by omega, rfl, by go_num, a5, by omega, a1, a2, a3, a4, a6⟩
          case measure => simp [intOf]; omega
    · go_wp2
      go_ret
      obtain rfl : k = n := by omega
      have hr' := hr.out
      have hxr' := hxr.out
      rw [hn.out, List.take_length] at hr' hxr'
      refine ⟨_, rfl, ?_, hbel⟩
      have := ownR_of_row (base := base) shR hb hrow.out (l := joinL l) (cap := cap) (by omega) hcap hxl.out (by rw [← hr']; exact hxr')
      rw [← hr'] at this
      exact this

set_option maxHeartbeats 400000 in
theorem join_any (base : Nat) (v : Value) (l : List R6) (w : World) (h : OwnR 50 6 encR base w v l) :
    Calls Try.prog 90 #[v] w fun e w' => ∃ v', e = .returned v' ∧ OwnR 50 6 encR base w' v' (joinL l) ∧ Below base w w' := by
  have h' := h
  obtain ⟨hlen, ⟨rfl, h0⟩ | ⟨g, cap, cur, rfl, hb, hg, h1, h2, h3, h4⟩⟩ := h
  · obtain rfl : l = [] := List.eq_nil_of_length_eq_zero h0
    go_enter Try.func90, Try.ntmps90
    go_wp2_with fail
    go_loopw [3, 11] (fun v i wr => v = .slice none 0 0 ∧ i = .int .i64 0 ∧ wr = w) (fun _ i _ => 0)
    case atStart => exact ⟨rfl, rfl, rfl⟩
    case round =>
      obtain ⟨rfl, rfl, rfl⟩ := hrel
      go_wp2
      go_ret
      exact ⟨_, rfl, ownR_nil _ _ _, Below.refl _ _⟩
  · exact join_row base g cap l w cur.toList hb (by simpa [OwnRow] using hg) (by simpa using h3) h1 h4 h2

end Go.Proofs.Ytbiipnojhjhejaa

/- The contracts of region.wrong, region.replace, region.Add and region.Cut. -/
namespace Go.Proofs.Ytbiipnojhjhejaa
set_option maxRecDepth 100000
open Go.RowKit
set_option linter.unusedSimpArgs false
set_option linter.unusedVariables false

set_option maxHeartbeats 400000 in
theorem rwrong_any (v : Value) (l : List R6) (f t : Int) (B : Nat) (w : World) (h : IsRecs encR B w v l) (hB : B ≤ 4398046511104) :
    Calls Try.prog 79 #[v, .int .i64 f, .int .i64 t] w fun e w' => e = .returned (.int .i64 (wrE l f t)) ∧ Below w.heap.size w w' := by
  have HR : Hid (Calls Try.prog 19 #[v] w fun e w' => e = .returned (.bool (rightR l)) ∧ Below w.heap.size w w') := right_any v l B w h hB
  obtain ⟨a, cap, rfl⟩ := h.form
  unfold wrE
  cases hr : rightR l with
  | true =>
    rw [hr] at HR
    cases hs : isSp f t with
    | true =>
      go_enter Try.func79, Try.ntmps79
      go_wp2_with (first
        | (go_at_call 19; refine HR.out.mono ?_; rintro e w1 ⟨rfl, hw1⟩)
        | (go_at_call 28; refine (isSpan_is _ _ _ hs).mono ?_; rintro e w2 ⟨rfl, hw2⟩))
      go_ret
      exact ⟨rfl, hw1.trans (hw2.mono hw1.size)⟩
    | false =>
      go_enter Try.func79, Try.ntmps79
      go_wp2_with (first
        | (go_at_call 19; refine HR.out.mono ?_; rintro e w1 ⟨rfl, hw1⟩)
        | (go_at_call 28; refine (isSpan_is _ _ _ hs).mono ?_; rintro e w2 ⟨rfl, hw2⟩))
      go_ret
      exact ⟨rfl, hw1.trans (hw2.mono hw1.size)⟩
  | false =>
    rw [hr] at HR
    go_enter Try.func79, Try.ntmps79
    go_wp2_with (first
      | (go_at_call 19; refine HR.out.mono ?_; rintro e w1 ⟨rfl, hw1⟩))
    go_ret
    exact ⟨rfl, hw1⟩

theorem IsRecs.up {α : Type} {enc : α → List Value} {B B' : Nat} {w : World} {v : Value} {l : List α} (h : IsRecs enc B w v l) (hB : l.length ≤ B') : IsRecs enc B' w v l := by
  obtain ⟨a, cap, rfl, h1, h2, h3⟩ := h
  exact ⟨a, cap, rfl, h1, hB, h3⟩

set_option maxHeartbeats 400000 in
theorem replace_any (v u : Value) (l m : List R6) (f t : Int) (B : Nat) (w : World) (h : IsRecs encR B w v l) (hm : IsRecs encR B w u m) (hl : l.length ≤ 64) (hml : m.length ≤ 64) :
    Calls Try.prog 80 #[v, .int .i64 f, .int .i64 t, u] w fun e w' => ∃ v', e = .returned v' ∧ OwnR 50 6 encR w.heap.size w' v' (replL l f t m) ∧ Below w.heap.size w w' := by
  have h' : IsRecs encR 1000000 w v l := h.up (by omega)
  have hm' : IsRecs encR 1000000 w u m := hm.up (by omega)
  have HP : Hid (∀ w1 x y, Below w.heap.size w w1 → Calls Try.prog 92 #[v, .int .i64 x, .int .i64 y] w1 fun e w' => ∃ v', e = .returned v' ∧ OwnR 50 6 encR w1.heap.size w' v' (partL l x y) ∧ Below w1.heap.size w1 w') := fun w1 x y hb => part_any v l x y _ w1 (h'.below hb) (by decide)
  have HJ : Hid (∀ w1 v1 l1 base, OwnR 50 6 encR base w1 v1 l1 → Calls Try.prog 90 #[v1] w1 fun e w' => ∃ v', e = .returned v' ∧ OwnR 50 6 encR base w' v' (joinL l1) ∧ Below base w1 w') := fun w1 v1 l1 base ho => join_any base v1 l1 w1 ho
  have hp1 := partL_len l 0 f
  have hp2 := partL_len l t 64
  have HR : Hid (replL l f t m = joinL (partL l 0 f ++ m ++ partL l t 64)) := rfl
  have HM : Hid (∀ w1, Below w.heap.size w w1 → IsRecs encR 1000000 w1 u m) := fun w1 hb => hm'.below hb
  obtain ⟨va, vc, rfl⟩ := h.form
  obtain ⟨ua, uc, rfl⟩ := hm.form
  rw [HR.out]
  clear h h' hm hm' HR
  obtain ⟨L3, hL3⟩ : ∃ L, Hid (L = partL l 0 f ++ m ++ partL l t 64) := ⟨_, rfl⟩
  rw [← hL3.out]
  have HC : Hid (∀ g w1 s0 s1 s2, w1.cell? ⟨g, 0, none⟩ = some s0 → w1.cell? ⟨g, 1, none⟩ = some s1 → w1.cell? ⟨g, 2, none⟩ = some s2 → IsRecs encR 1000000 w1 s0 (partL l 0 f) → IsRecs encR 1000000 w1 s1 m → IsRecs encR 1000000 w1 s2 (partL l t 64) → Calls Try.prog 91 #[.slice (some ⟨g, 0, none⟩) 3 3] w1 fun e w' => ∃ v', e = .returned v' ∧ OwnR 50 6 encR w1.heap.size w' v' L3 ∧ Below w1.heap.size w1 w') :=
    fun g w1 s0 s1 s2 c0 c1 c2 i0 i1 i2 => hL3.out ▸ concat3 g 3 s0 s1 s2 (partL l 0 f) m (partL l t 64) w1 c0 c1 c2 i0 i1 i2 (by omega)
  have hP1 : (partL l 0 f).length ≤ 64 := by omega
  have hP2 : (partL l t 64).length ≤ 64 := by omega
  obtain ⟨n, hn⟩ : ∃ n, Hid (n = l.length) := ⟨_, rfl⟩
  obtain ⟨m', hm'⟩ : ∃ n, Hid (n = m.length) := ⟨_, rfl⟩
  rw [← hn.out] at HP ⊢
  rw [← hm'.out] at HM ⊢
  clear hp1 hp2 hl hml
  go_enter Try.func80, Try.ntmps80
  go_wp2_with fail
  refine (HP.out w 0 f (Below.refl _ _)).mono ?_
  rintro e w1 ⟨v1, rfl, ho1, hb1⟩
  obtain ⟨a1, c1, rfl⟩ := ho1.form
  go_wp2_with fail
  refine (HP.out w1 t 64 hb1).mono ?_
  rintro e w2 ⟨v2, rfl, ho2, hb2⟩
  obtain ⟨a2, c2, rfl⟩ := ho2.form
  go_wp2_with fail
  refine (HC.out w2.heap.size _ _ _ _ (by simp) (by simp) (by simp) (((ho1.recs (by omega)).below hb2).below ((Below.refl _ _).alloc (Nat.le_refl _) _)) (HM.out _ ((hb1.trans (hb2.mono hb1.size)).alloc (Nat.le_trans hb1.size hb2.size) _)) ((ho2.recs (by omega)).below ((Below.refl _ _).alloc (Nat.le_refl _) _))).mono ?_
  rintro e w3 ⟨v3, rfl, ho3, hb3⟩
  obtain ⟨a3, c3, rfl⟩ := ho3.form
  go_wp2_with fail
  refine (HJ.out _ _ _ _ ho3).mono ?_
  rintro e w4 ⟨v4, rfl, ho4, hb4⟩
  go_wp2
  go_ret
  have hs := Nat.le_trans hb1.size hb2.size
  refine ⟨_, rfl, ho4.mono (by simp; omega), ?_⟩
  exact ((hb1.trans (hb2.mono hb1.size)).alloc hs _).trans ((hb3.mono (by simp; omega)).trans (hb4.mono (by simp; omega)))

/-- A slice of one that was just laid. -/
theorem lit_one (W : World) (f t r k : Int) (g s : Bool) (ty : TypeId) : IsRecs encR 1000 (W.alloc (.cells #[.int .i64 f, .int .i64 t, .int .i64 r, .int .i64 k, .bool g, .bool s] ty)) (.slice (some ⟨W.heap.size, 0, none⟩) 1 1) [(f, t, r, k, g, s)] := by
  refine ⟨_, _, rfl, Nat.le_refl _, by simp, fun _ => ⟨W.heap.size, 0, rfl, fun j u hj => ?_⟩⟩
  have h : OwnRow (W.alloc (.cells #[.int .i64 f, .int .i64 t, .int .i64 r, .int .i64 k, .bool g, .bool s] ty)) W.heap.size ty (flatL encR [(f, t, r, k, g, s)]) := heap_alloc_new W _
  rw [Nat.zero_add, h.cell, hj]

/-- A list and an error, as they are returned. -/
abbrev lstV (v : Value) (e : Int) : Value := .tuple #[v, .int .i64 e]

set_option maxHeartbeats 800000 in
theorem cut_any (v : Value) (l : List R6) (f t : Int) (B : Nat) (w : World) (h : IsRecs encR B w v l) (hB : B ≤ 3518437208883) :
    Calls Try.prog 63 #[v, .int .i64 f, .int .i64 t] w fun e w' => ∃ v', e = .returned (lstV v' (wrE l f t)) ∧ OwnR 50 6 encR w.heap.size w' v' (cutL l f t) ∧ Below w.heap.size w w' := by
  have HW : Hid (Calls Try.prog 79 #[v, .int .i64 f, .int .i64 t] w fun e w' => e = .returned (.int .i64 (wrE l f t)) ∧ Below w.heap.size w w') := rwrong_any v l f t B w h (by omega)
  obtain ⟨a, cap, rfl⟩ := h.form
  by_cases h0 : wrE l f t = 0
  · have hg := good_len (good_of_right (wrE_iff.1 h0).1)
    have HR : Hid (∀ w1, Below w.heap.size w w1 → Calls Try.prog 80 #[.slice a l.length cap, .int .i64 f, .int .i64 t, .slice none 0 0] w1 fun e w' => ∃ v', e = .returned v' ∧ OwnR 50 6 encR w1.heap.size w' v' (cutL l f t) ∧ Below w1.heap.size w1 w') := by
      intro w1 hb
      have := replace_any _ _ l [] f t B w1 (h.below hb) (isRecs_nil _ _ 0 none) hg (by decide)
      unfold cutL
      rw [if_pos h0]
      exact this
    rw [h0] at HW ⊢
    go_enter Try.func63, Try.ntmps63
    go_wp2_with (first
      | (go_at_call 79; refine HW.out.mono ?_; rintro e w1 ⟨rfl, hw1⟩)
      | (go_at_call 80; refine (HR.out _ hw1).mono ?_; rintro e w2 ⟨v2, rfl, ho2, hb2⟩))
    go_ret2
    exact ⟨_, rfl, ho2.mono hw1.size, hw1.trans (hb2.mono hw1.size)⟩
  · have HL : Hid (cutL l f t = []) := by unfold cutL; rw [if_neg h0]; rfl
    have hne : (wrE l f t != 0) = true := by rw [bne_iff_ne]; exact h0
    generalize wrE l f t = E at *
    go_enter Try.func63, Try.ntmps63
    go_wp2_with (go_at_call 79; refine HW.out.mono ?_; rintro e w1 ⟨rfl, hw1⟩)
    go_ret2
    exact ⟨_, rfl, by rw [HL.out]; exact ownR_nil _ _ _, hw1⟩

set_option maxHeartbeats 800000 in
theorem add_any (v : Value) (l : List R6) (f t r k : Int) (g s : Bool) (B : Nat) (w : World) (h : IsRecs encR B w v l) (hB : B ≤ 3518437208883) :
    Calls Try.prog 60 #[v, .agg #[.int .i64 f, .int .i64 t, .int .i64 r, .int .i64 k, .bool g, .bool s]] w fun e w' => ∃ v', e = .returned (lstV v' (addE l (f, t, r, k, g, s))) ∧ OwnR 50 6 encR w.heap.size w' v' (addL l (f, t, r, k, g, s)) ∧ Below w.heap.size w w' := by
  have HW : Hid (∀ w1, Below w.heap.size w w1 → Calls Try.prog 79 #[v, .int .i64 f, .int .i64 t] w1 fun e w' => e = .returned (.int .i64 (wrE l f t)) ∧ Below w1.heap.size w1 w') := fun w1 hb => rwrong_any v l f t B w1 (h.below hb) (by omega)
  have hbx : Hid (∀ o, Below w.heap.size w (w.alloc o)) := fun o => (Below.refl _ _).alloc (Nat.le_refl _) _
  by_cases h0 : wrE l f t = 0
  · have hg := good_len (good_of_right (wrE_iff.1 h0).1)
    have hsp := isSp_iff.1 (wrE_iff.1 h0).2
    have HC : Hid (∀ w1, Below w.heap.size w w1 → Calls Try.prog 30 #[v, .int .i64 f, .int .i64 t] w1 fun e w' => e = .returned (.int .i64 (cnt l f t)) ∧ Below w1.heap.size w1 w') := fun w1 hb => count_any v l f t B w1 (h.below hb) (by omega) hsp.1 (by omega) hsp.2.2
    by_cases hc : 0 < cnt l f t
    · have hE : addE l (f, t, r, k, g, s) = 7 := by unfold addE; rw [if_pos h0, if_pos hc]
      have HL : Hid (addL l (f, t, r, k, g, s) = []) := by unfold addL; rw [hE]; rfl
      obtain ⟨a, cap, rfl⟩ := h.form
      rw [hE]
      rw [h0] at HW
      generalize cnt l f t = N at *
      clear h hE hsp
      go_enter Try.func60, Try.ntmps60
      go_wp2_with (first
        | (go_at_call 79; refine (HW.out _ (hbx.out _)).mono ?_; rintro e w1 ⟨rfl, hw1⟩; obtain ⟨q0, q1, q2, q3, q4, q5⟩ := (own_one (xs := encR (f, t, r, k, g, s)) hw1).six)
        | (go_at_call 30; refine (HC.out _ (below_one hw1)).mono ?_; rintro e w2 ⟨rfl, hw2⟩))
      go_ret2
      have hx := below_one hw1
      exact ⟨_, rfl, by rw [HL.out]; exact ownR_nil _ _ _, hx.trans (hw2.mono hx.size)⟩
    · have hE : addE l (f, t, r, k, g, s) = 0 := by unfold addE; rw [if_pos h0, if_neg hc]
      have HR : Hid (∀ w1 u, Below w.heap.size w w1 → IsRecs encR 1000 w1 u [(f, t, r, k, g, s)] → Calls Try.prog 80 #[v, .int .i64 f, .int .i64 t, u] w1 fun e w' => ∃ v', e = .returned v' ∧ OwnR 50 6 encR w1.heap.size w' v' (addL l (f, t, r, k, g, s)) ∧ Below w1.heap.size w1 w') := by
        intro w1 u hb hu
        have := replace_any _ _ l [(f, t, r, k, g, s)] f t 1000 w1 ((h.below hb).up (by omega)) hu hg (by simp)
        unfold addL
        rw [if_pos hE]
        exact this
      obtain ⟨a, cap, rfl⟩ := h.form
      rw [hE]
      rw [h0] at HW
      have hc' : cnt l f t ≤ 0 := by omega
      generalize cnt l f t = N at *
      clear h hE hsp hc
      go_enter Try.func60, Try.ntmps60
      go_wp2_with (first
        | (go_at_call 79; refine (HW.out _ (hbx.out _)).mono ?_; rintro e w1 ⟨rfl, hw1⟩; obtain ⟨q0, q1, q2, q3, q4, q5⟩ := (own_one (xs := encR (f, t, r, k, g, s)) hw1).six)
        | (go_at_call 30; refine (HC.out _ (below_one hw1)).mono ?_; rintro e w2 ⟨rfl, hw2⟩; obtain ⟨z0, z1, z2, z3, z4, z5⟩ := ((own_one (xs := encR (f, t, r, k, g, s)) hw1).below hw2 (own_one (xs := encR (f, t, r, k, g, s)) hw1).lt).six)
        | (go_at_call 80; refine (HR.out _ _ (((below_one hw1).trans (hw2.mono (below_one hw1).size)).alloc (Nat.le_trans (below_one hw1).size hw2.size) _) (lit_one w2 f t r k g s _)).mono ?_; rintro e w3 ⟨v3, rfl, ho3, hb3⟩))
      have hx := below_one hw1
      have hy := hx.trans (hw2.mono hx.size)
      go_ret2
      exact ⟨_, rfl, ho3.mono (by have := hy.size; simp; omega), (hy.alloc hy.size _).trans (hb3.mono (by have := hy.size; simp; omega))⟩
  · have hE : addE l (f, t, r, k, g, s) = wrE l f t := by unfold addE; rw [if_neg h0]
    have HL : Hid (addL l (f, t, r, k, g, s) = []) := by unfold addL; rw [hE, if_neg h0]; rfl
    have hne : (wrE l f t != 0) = true := by rw [bne_iff_ne]; exact h0
    rw [hE]
    obtain ⟨a, cap, rfl⟩ := h.form
    clear h hE
    generalize wrE l f t = E at *
    go_enter Try.func60, Try.ntmps60
    go_wp2_with (go_at_call 79; refine (HW.out _ (hbx.out _)).mono ?_; rintro e w1 ⟨rfl, hw1⟩)
    go_ret2
    exact ⟨_, rfl, by rw [HL.out]; exact ownR_nil _ _ _, below_one hw1⟩

end Go.Proofs.Ytbiipnojhjhejaa

/- The contract of region.change: what a closure makes of what pages are like. -/
namespace Go.Proofs.Ytbiipnojhjhejaa
set_option maxRecDepth 100000
open Go.RowKit
set_option linter.unusedSimpArgs false
set_option linter.unusedVariables false

/-- What an element is like is written over. -/
theorem row_attr {xs : List Value} {L : List R6} {k : Nat} (x : R6) (a : A4) (hk : k < L.length) (hx : L.getD k zR = x) (hxt : xs.take (L.length * 6) = flatL encR L) :
    ((((xs.set (k * 6 + 2) (.int .i64 a.1)).set (k * 6 + 3) (.int .i64 a.2.1)).set (k * 6 + 4) (.bool a.2.2.1)).set (k * 6 + 5) (.bool a.2.2.2)).take (L.length * 6) = flatL encR (L.set k (x.1, x.2.1, a)) := by
  have hg : L[k] = x := by rw [← hx, List.getD_eq_getElem?_getD, List.getElem?_eq_getElem hk]; rfl
  have hs : L = L.take k ++ x :: L.drop (k + 1) := by rw [← hg, ← List.drop_eq_getElem_cons hk, List.take_append_drop]
  have hlen : (flatL encR (L.take k)).length = k * 6 := by rw [flatL_len shR, List.length_take]; congr 1; omega
  have hs2 : L.set k (x.1, x.2.1, a) = L.take k ++ (x.1, x.2.1, a) :: L.drop (k + 1) := by
    conv => lhs; rw [hs]
    rw [List.set_append_right _ _ (by rw [List.length_take]; omega), List.length_take, show k - min k L.length = 0 by omega]
    rfl
  have hf : flatL encR L = flatL encR (L.take k) ++ (encR x ++ flatL encR (L.drop (k + 1))) := by
    conv => lhs; rw [hs]
    rw [flatL_append, flatL_cons]
  rw [List.take_set, List.take_set, List.take_set, List.take_set, hxt, hs2, flatL_append, flatL_cons, hf]
  rw [List.set_append_right _ _ (by omega), List.set_append_right _ _ (by omega), List.set_append_right _ _ (by omega), List.set_append_right _ _ (by omega), hlen]
  rw [show k * 6 + 2 - k * 6 = 2 by omega, show k * 6 + 3 - k * 6 = 3 by omega, show k * 6 + 4 - k * 6 = 4 by omega, show k * 6 + 5 - k * 6 = 5 by omega]
  rfl

end Go.Proofs.Ytbiipnojhjhejaa
