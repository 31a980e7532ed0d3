/- Rows of blocks that the call itself has made, and the contracts of what makes them: buddy.New, buddy.part, slices.Clone. -/
import Derived.Test.YticmloddkngfnahBuddy3
import Derived.Lib.AppendZeros
import Derived.Lib.SliceRun
import Derived.Deep.RegionHeld3
namespace Go.Proofs.Yticmloddkngfnah
open Go.RowKit
set_option linter.unusedSimpArgs false

theorem info_block : (Try.prog.info? 45).map (fun i => (i.zero, i.size, i.bytes)) = some (some (.agg #[.int .i64 0, .int .i64 0]), 2, 16) := by kernel_rfl

/-- The blocks' cells, one behind the other. -/
def flat : List (Int × Int) → List Value
  | [] => []
  | p :: r => .int .i64 p.1 :: .int .i64 p.2 :: flat r

theorem flat_len : ∀ l, (flat l).length = l.length * 2
  | [] => rfl
  | p :: r => by simp [flat, flat_len r]; omega

theorem flat_append : ∀ l m, flat (l ++ m) = flat l ++ flat m
  | [], m => rfl
  | p :: r, m => by simp [flat, flat_append r m]

theorem flat_take : ∀ l k, (flat l).take (k * 2) = flat (l.take k)
  | [], k => by simp [flat]
  | p :: r, 0 => by simp [flat]
  | p :: r, k + 1 => by rw [show (k + 1) * 2 = k * 2 + 1 + 1 by omega]; simp [flat, flat_take r k]

theorem flat_drop : ∀ l k, (flat l).drop (k * 2) = flat (l.drop k)
  | [], k => by simp [flat]
  | p :: r, 0 => by simp [flat]
  | p :: r, k + 1 => by rw [show (k + 1) * 2 = k * 2 + 1 + 1 by omega]; simp [flat, flat_drop r k]

theorem flat_get : ∀ l k, k < l.length → (flat l)[k * 2]? = some (.int .i64 (l.getD k (0, 0)).1) ∧ (flat l)[k * 2 + 1]? = some (.int .i64 (l.getD k (0, 0)).2)
  | [], k, h => by simp at h
  | p :: r, 0, h => by simp [flat]
  | p :: r, k + 1, h => by
    have := flat_get r k (by simpa using h)
    rw [show (k + 1) * 2 = k * 2 + 1 + 1 by omega]
    simpa [flat] using this

theorem flat_one : ∀ l, ∀ v ∈ flat l, v.oneCell' = true
  | [], v, h => by simp [flat] at h
  | p :: r, v, h => by
    simp only [flat, List.mem_cons] at h
    rcases h with rfl | rfl | h
    · rfl
    · rfl
    · exact flat_one r v h

/-- Out of the cells' facts: the flat list, cell by cell. -/
theorem flat_cells {w : World} {b off : Nat} {l : List (Int × Int)} (hc : ∀ i, i < l.length → w.cell? ⟨b, off + i * 2, none⟩ = some (.int .i64 (l.getD i (0, 0)).1) ∧ w.cell? ⟨b, off + i * 2 + 1, none⟩ = some (.int .i64 (l.getD i (0, 0)).2)) :
    ∀ j u, (flat l)[j]? = some u → w.cell? ⟨b, off + j, none⟩ = some u := by
  intro j u hj
  have hlt : j < (flat l).length := (List.getElem?_eq_some_iff.1 hj).1
  rw [flat_len] at hlt
  have hk : j / 2 < l.length := by omega
  have hg := flat_get l (j / 2) hk
  have hcc := hc (j / 2) hk
  rcases (show j = j / 2 * 2 ∨ j = j / 2 * 2 + 1 by omega) with h | h
  · rw [h] at hj ⊢
    rw [hg.1] at hj
    rw [hcc.1, hj]
  · rw [h] at hj ⊢
    rw [hg.2] at hj
    rw [← Nat.add_assoc, hcc.2, hj]

/-- The value v is a slice of the blocks l, nil or a row that was made behind base. -/
def OwnB (base : Nat) (w : World) (v : Value) (l : List (Int × Int)) : Prop := w.ownsRow base 45 2 v l.length (flat l)

theorem OwnB.blocks {base : Nat} {w : World} {v : Value} {l : List (Int × Int)} (h : OwnB base w v l) (hl : l.length ≤ 8796093021952) : IsBlocks w v l := by
  obtain ⟨h1, h2 | ⟨g, cap, cur, rfl, hb, hg, hnc, hcm, hcs, ht⟩⟩ := h
  · obtain ⟨rfl, h0⟩ := h2
    refine ⟨none, 0, by rw [h0], by omega, hl, fun hp => by omega⟩
  · refine ⟨some ⟨g, 0, none⟩, cap, rfl, hnc, hl, fun _ => ⟨g, 0, rfl, fun i hi => ?_⟩⟩
    have hgt := flat_get l i hi
    rw [← ht] at hgt
    rw [cell_of_row w g _ cur _ _ hg, cell_of_row w g _ cur _ _ hg]
    rw [List.getElem?_take_of_lt (by omega), List.getElem?_take_of_lt (by omega)] at hgt
    simpa using hgt

theorem OwnB.below {base : Nat} {w w' : World} {v : Value} {l : List (Int × Int)} (h : OwnB base w v l) (hb : Below w.heap.size w w') : OwnB base w' v l := by
  obtain ⟨h1, h2 | ⟨g, cap, cur, rfl, hbg, hg, hr⟩⟩ := h
  · exact ⟨h1, Or.inl h2⟩
  · exact ⟨h1, Or.inr ⟨g, cap, cur, rfl, hbg, (hb.block g (Array.getElem?_eq_some_iff.1 hg).1).trans hg, hr⟩⟩

theorem OwnB.mono {base base' : Nat} {w : World} {v : Value} {l : List (Int × Int)} (h : OwnB base w v l) (hb : base' ≤ base) : OwnB base' w v l := by
  obtain ⟨h1, h2 | ⟨g, cap, cur, rfl, hbg, hr⟩⟩ := h
  · exact ⟨h1, Or.inl h2⟩
  · exact ⟨h1, Or.inr ⟨g, cap, cur, rfl, Nat.le_trans hb hbg, hr⟩⟩

set_option maxHeartbeats 400000 in
theorem new_any (w : World) :
    Calls Try.prog 23 #[] w fun e w' => ∃ v, e = .returned v ∧ OwnB w.heap.size w' v [(0, 6)] ∧ Below w.heap.size w w' := by
  go_enter Try.func23, Try.ntmps23
  go_wp2
  go_ret
  refine ⟨_, rfl, ?_, (Below.refl _ _).alloc (Nat.le_refl _) _⟩
  exact ⟨rfl, Or.inr ⟨w.heap.size, 1, _, rfl, Nat.le_refl _, heap_alloc_new w _, Nat.le_refl _, by decide, rfl, rfl⟩⟩

set_option maxHeartbeats 400000 in
theorem clone_any (v : Value) (l : List (Int × Int)) (w : World) (h : IsBlocks w v l) :
    Calls Try.prog 33 #[v] w fun e w' => ∃ v', e = .returned v' ∧ OwnB w.heap.size w' v' l ∧ Below w.heap.size w w' := by
  obtain ⟨a, cap, rfl, h1, hl, hc'⟩ := h
  obtain ⟨i0, hi, hz0, hz1, hz2⟩ := info_parts info_block
  have q35 : ∀ (w : World) (a : Option Addr) (n c n' c' : Nat), (binOp .eql 22 (.slice a n c) (.slice none n' c')).run Try.prog w = .ok (.bool a.isNone) w := fun w a n c n' c' => Lib.run_eql_slice_nil w _ _ a n c n' c' Try.underlying22
  cases a with
  | none =>
    by_cases hp : 0 < l.length
    · obtain ⟨b, off, hn, -⟩ := hc' hp
      cases hn
    · obtain rfl : l = [] := List.eq_nil_of_length_eq_zero (by omega)
      go_enter Try.func33, Try.ntmps33
      go_wp2
      go_ret
      exact ⟨_, rfl, ⟨rfl, Or.inl ⟨rfl, rfl⟩⟩, Below.refl _ _⟩
  | some ad =>
    have hnews : Hid (∀ (w' : World), Below w.heap.size w w' → ∀ j u, (flat l)[j]? = some u → w'.cell? (ad.add j) = some u) := by
      intro w' hb j u hj
      have hlt : j < (flat l).length := (List.getElem?_eq_some_iff.1 hj).1
      rw [flat_len] at hlt
      obtain ⟨b, off, hn, hc⟩ := hc' (by omega)
      cases hn
      rw [add_none]
      have := flat_cells hc j u hj
      rw [← this]
      exact hb.cell (cell_lt this)
    clear hc'
    go_enter Try.func33, Try.ntmps33
    go_wp2_with (at_builtin; refine wpList_append_own _ rfl _ _ 22 rfl w.heap.size 45 i0 _ 2 16 Try.underlying22 hi hz0 hz1 hz2 rfl (by decide) _ _ _ rfl (World.ownsRow_made w #[] 0 (Nat.le_refl _) (Nat.zero_le _) (by simp)) ad l.length cap (flat l) rfl (flat_len l) (hnews.out _ ((Below.refl _ _).alloc (Nat.le_refl _) _)) (flat_one l) (by unfold maxLen; omega) (by omega) (by simp) ?_; intro v' w1 hown hgrow hnil)
    go_ret
    refine ⟨v', rfl, by simpa [OwnB] using hown, ?_⟩
    exact ((Below.refl _ w).alloc (Nat.le_refl _) _).grown hgrow (by simp) (by intro k hk; cases hk; exact Nat.le_refl _)

theorem box2_next {w0 w1 w2 : World} {X Y : Value} (hc : Below (w0.heap.size + 1) w1 w2) (hS : w1.cell? ⟨w0.heap.size, 0, none⟩ = some X ∧ w1.cell? ⟨w0.heap.size, 1, none⟩ = some Y ∧ Below w0.heap.size w0 w1) :
    w2.cell? ⟨w0.heap.size, 0, none⟩ = some X ∧ w2.cell? ⟨w0.heap.size, 1, none⟩ = some Y ∧ Below w0.heap.size w0 w2 := by
  obtain ⟨h0, h1, hb⟩ := hS
  refine ⟨?_, ?_, hb.trans (hc.mono (by omega))⟩
  · rw [← h0]; exact hc.cell (by simp)
  · rw [← h1]; exact hc.cell (by simp)

theorem box2_alloc {w0 w1 : World} {X Y : Value} (Z : Obj) (hS : w1.cell? ⟨w0.heap.size, 0, none⟩ = some X ∧ w1.cell? ⟨w0.heap.size, 1, none⟩ = some Y ∧ Below w0.heap.size w0 w1) :
    (w1.alloc Z).cell? ⟨w0.heap.size, 0, none⟩ = some X ∧ (w1.alloc Z).cell? ⟨w0.heap.size, 1, none⟩ = some Y ∧ Below w0.heap.size w0 (w1.alloc Z) := by
  have := cell_lt hS.1
  exact box2_next ((Below.refl _ _).alloc (by simp only at this; omega) _) hS

theorem OwnB.lt {base : Nat} {w : World} {v : Value} {l : List (Int × Int)} (h : OwnB base w v l) : ∀ k, v.ownBlock = some k → base ≤ k ∧ k < w.heap.size := World.ownsRow.lt h

/-- 'out = append(out, b)' at a step of a region that draws: out nil or the call's own, the block b in a new row of its own. -/
theorem step_append_blk {ops : Array Oper} {o : Oper} {a : Act} {W : World} {K : Act → World → Prop} {Q : Exit → Act → World → Prop} {E : Prop}
    (hg : o.guard = none) (s x : Operand) (hop : o.op = Op.call { callee := Callee.builtin Builtin.append, args := #[s, x], argTypes := #[22, 22] })
    (base : Nat) (v : Value) (l : List (Int × Int)) (hs : a.eval s = v) (wr : World) (hown : OwnB base wr v l) (hbW : Below wr.heap.size wr W) (hbase : base ≤ wr.heap.size) (hl : l.length ≤ 1000000)
    (p : Int × Int) (ad : Addr) (c : Nat) (hx : a.eval x = .slice (some ad) 1 c) (hn0 : W.cell? (ad.add 0) = some (.int .i64 p.1)) (hn1 : W.cell? (ad.add 1) = some (.int .i64 p.2))
    (h : ∀ v' w', OwnB base w' v' (l ++ [p]) → Below base W w' → K (a.put o.dst v') w') :
    if Region.wanted o (yielded ops a.tmps) = true then Oper.wp Try.prog o a W K Q else E := by
  obtain ⟨i0, hi, hz0, hz1, hz2⟩ := info_parts info_block
  have hw : Region.wanted o (yielded ops a.tmps) = true := by simp [Region.wanted, hg]
  have hbW2 := hbW.size
  rw [if_pos hw]
  refine wp_append_own W s x 22 hop base 45 i0 _ 2 16 Try.underlying22 hi hz0 hz1 hz2 rfl (by decide) v l.length (flat l) hs (hown.below hbW) ad 1 c (flat [p]) hx rfl ?_ (flat_one _) (by unfold maxLen; omega) (by omega) (by omega) ?_
  · intro j u hj
    match j with
    | 0 => simp [flat] at hj; rw [← hj]; exact hn0
    | 1 => simp [flat] at hj; rw [← hj]; exact hn1
    | j + 2 => simp [flat] at hj
  · intro v' w' hown' hgrow _
    refine h v' w' ?_ ((Below.refl _ _).grown hgrow (by omega) (fun k hk => (hown.lt k hk).1))
    unfold OwnB
    rw [flat_append, List.length_append]
    exact hown'

/-- What stays free of a block at x when its beginning is taken: k halves from order o on. -/
def partL (x o : Int) (k : Nat) : List (Int × Int) := (List.range k).map fun i : Nat => (x + sz (o + (i : Int)), o + (i : Int))

theorem partL_len (x o : Int) (k : Nat) : (partL x o k).length = k := by simp [partL]

theorem partL_succ (x o : Int) (k : Nat) : partL x o (k + 1) = partL x o k ++ [(x + sz (o + k), o + k)] := by
  simp [partL, List.range_succ]

set_option maxHeartbeats 400000 in
theorem part_any (x y o : Int) (w : World) (h0 : 0 ≤ y) (h6 : y ≤ 6) (hx0 : 0 ≤ x) (hx : x ≤ 64) (ho0 : 0 ≤ o) (ho6 : o ≤ 6) :
    Calls Try.prog 31 #[.agg #[.int .i64 x, .int .i64 y], .int .i64 o] w fun e w' => ∃ v', e = .returned v' ∧ OwnB (w.heap.size + 1) w' v' (partL x o (y - o).toNat) ∧ Below w.heap.size w w' := by
  obtain ⟨i0, hi, hz0, hz1, hz2⟩ := info_parts info_block
  go_enter Try.func31, Try.ntmps31
  go_wp2_with fail
  go_loopw [5, 6] (fun v i wr => ∃ k : Nat, (k : Int) ≤ max 0 (y - o) ∧ i = .int .i64 (o + k) ∧ OwnB (w.heap.size + 1) wr v (partL x o k) ∧ wr.cell? ⟨w.heap.size, 0, none⟩ = some (.int .i64 x) ∧ wr.cell? ⟨w.heap.size, 1, none⟩ = some (.int .i64 y) ∧ Below w.heap.size w wr) (fun _ i _ => (y - intOf i).toNat)
  case atStart => exact ⟨0, by omega, by simp, ⟨by simp [partL, flat], Or.inl ⟨rfl, rfl⟩⟩, by simp, by simp, (Below.refl _ _).alloc (Nat.le_refl _) _⟩
  case round =>
    obtain ⟨k, hk, rfl, hown, hb0, hb1, hbel⟩ := hrel
    by_cases hlt : o + k < y
    · have hs : Hid (wrap64 (2 ^ (o + (k : Int)).toNat) = sz (o + k)) := by
        show _ = _
        rcases ord_cases (show 0 ≤ o + (k : Int) by omega) (by omega) with h | h | h | h | h | h | h <;> rw [h] <;> simp [sz, wrap64]
      have hs2 := sz_bd (show 0 ≤ o + (k : Int) by omega) (by omega)
      have HS := partL_succ x o k
      have hq : Hid (∃ q, q = o + (k : Int)) := ⟨_, rfl⟩
      obtain ⟨q, hq⟩ := hq.out
      rw [← hq] at hs hs2 HS hlt ⊢
      have hq0 : 0 ≤ q := by omega
      have hq6 : q ≤ 6 := by omega
      have HQ : Hid (q = o + (k : Int)) := hq
      have HS' : Hid (partL x o (k + 1) = partL x o k ++ [(x + sz q, q)]) := HS
      have hlen : (partL x o k).length ≤ 1000000 := by rw [partL_len]; omega
      have hgt := cell_lt hb0
      clear hq HS
      have hv : Hid (IntKind.i64.wrap (x + IntKind.i64.wrap (2 ^ q.toNat)) = x + sz q) := by
        show _ = _
        have e : IntKind.i64.wrap (2 ^ q.toNat) = sz q := by
          rw [IntKind.wrap_i64]
          rcases ord_cases hq0 hq6 with rfl | rfl | rfl | rfl | rfl | rfl | rfl <;> simp [sz]
        rw [e, IntKind.wrap_i64]
        omega
      go_wp2_with fail
      go_region_held3 (fun w' => w'.cell? ⟨w.heap.size, 0, none⟩ = some (.int .i64 x) ∧ w'.cell? ⟨w.heap.size, 1, none⟩ = some (.int .i64 y) ∧ Below w.heap.size w w') (first | exact ⟨hb0, hb1, hbel.drew⟩ | exact box2_next (w1 := wr) (((Below.refl _ _).alloc (by exact hgt) _).drew) ⟨hb0, hb1, hbel⟩ | (refine box2_next (by assumption) ?_; assumption))
        ((refine step_append_blk (by rfl) _ _ (by rfl) (w.heap.size + 1) _ (partL x o k) (by rfl) wr hown (by exact ((Below.refl _ _).alloc (Nat.le_refl _) _).drew) (by exact hgt) hlen (x + sz q, q) _ _ (by rfl) (by rw [← hv.out]; simp [Addr.add]) (by simp [Addr.add]) ?_; intro v' w' hown' hbw'))
      rename_i hH
      go_wp2
      go_roundw
      case rel =>
        refine ⟨k + 1, by have := HQ.out; omega, ?_, ?_, hH⟩
        · have := HQ.out
          subst this
          congr 1
          omega
        · rw [HS'.out]; exact hown'
      case measure => simp [intOf]; omega
    · go_wp2
      go_ret
      refine ⟨_, rfl, ?_, hbel⟩
      obtain rfl : k = (y - o).toNat := by omega
      exact hown

end Go.Proofs.Yticmloddkngfnah
