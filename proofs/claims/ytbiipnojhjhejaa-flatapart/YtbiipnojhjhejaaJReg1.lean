/- What two api.Attr, or two api.Region, compared answer; the contracts of region.isSpan, region.joins and region.clip. -/
import Derived.Test.YtbiipnojhjhejaaJRecs
import Derived.Laws.StructEq
import Derived.Lib.MinMax
namespace Go.Proofs.Ytbiipnojhjhejaa
set_option maxRecDepth 100000
open Go.RowKit
set_option linter.unusedSimpArgs false
set_option linter.unusedVariables false

theorem eqGuard_attr (op : BinOp) (a b : Operand) (xs ys : Array Value) (w : World) : (eqGuard op 48 a b (.agg xs) (.agg ys)).run Try.prog w = .ok () w := by
  exact run_eqGuard_agg w op 48 a b xs ys (by kernel_rfl)

theorem eqIn_attr (D : Nat) (a b : Int) (c d : Bool) (x y : Int) (z u : Bool) (w : World) : (Op.equalIn (D + 1 + 1) 48 (.agg #[.int .i64 a, .int .i64 b, .bool c, .bool d]) (.agg #[.int .i64 x, .int .i64 y, .bool z, .bool u])).run Try.prog w = .ok (decide ((a, b, c, d) = (x, y, z, u))) w := by
  have u3 := Try.underlying3
  have a3 := Try.isAgg3
  have z3 := Try.sizeOf3
  have u4 := Try.underlying4
  have a4 := Try.isAgg4
  have z4 := Try.sizeOf4
  have hS : Try.prog.underlying 48 = some (.struct (Try.prog.fieldsOf 48)) := by kernel_rfl
  have hp : Try.prog.stoodInHeld 48 = false := by kernel_rfl
  rw [run_equalIn_agg w (D + 1) 48 _ _ hS hp]
  clear hS
  simp only [Program.fieldsOf, Try.underlying48]
  go_simp
  by_cases h1 : a = x <;> by_cases h2 : b = y <;> cases c <;> cases z <;> cases d <;> cases u <;> simp [h1, h2]

theorem eql_attr (a b : Int) (c d : Bool) (x y : Int) (z u : Bool) (w : World) : (binOp .eql 48 (.agg #[.int .i64 a, .int .i64 b, .bool c, .bool d]) (.agg #[.int .i64 x, .int .i64 y, .bool z, .bool u])).run Try.prog w = .ok (.bool (decide ((a, b, c, d) = (x, y, z, u)))) w := by
  rw [run_eql_struct, show (10000 : Nat) = 9998 + 1 + 1 from rfl, eqIn_attr]
  rfl

theorem eqGuard_region (op : BinOp) (a b : Operand) (xs ys : Array Value) (w : World) : (eqGuard op 50 a b (.agg xs) (.agg ys)).run Try.prog w = .ok () w := by
  exact run_eqGuard_agg w op 50 a b xs ys (by kernel_rfl)

theorem eqIn_region (D : Nat) (f t a b : Int) (c d : Bool) (f' t' x y : Int) (z u : Bool) (w : World) : (Op.equalIn (D + 1 + 1 + 1) 50 (.agg #[.int .i64 f, .int .i64 t, .int .i64 a, .int .i64 b, .bool c, .bool d]) (.agg #[.int .i64 f', .int .i64 t', .int .i64 x, .int .i64 y, .bool z, .bool u])).run Try.prog w = .ok (decide ((f, t, a, b, c, d) = (f', t', x, y, z, u))) w := by
  have u3 := Try.underlying3
  have a3 := Try.isAgg3
  have z3 := Try.sizeOf3
  have a4 := Try.isAgg48
  have z4 := Try.sizeOf48
  have hS : Try.prog.underlying 50 = some (.struct (Try.prog.fieldsOf 50)) := by kernel_rfl
  have hp : Try.prog.stoodInHeld 50 = false := by kernel_rfl
  have hin := eqIn_attr D
  rw [run_equalIn_agg w (D + 1 + 1) 50 _ _ hS hp]
  clear hS
  simp only [Program.fieldsOf, Try.underlying50]
  go_simp
  by_cases h1 : f = f' <;> by_cases h2 : t = t' <;> simp [h1, h2]
  by_cases h3 : a = x <;> by_cases h4 : b = y <;> cases c <;> cases z <;> cases d <;> cases u <;> simp [h3, h4]

theorem neq_region (f t a b : Int) (c d : Bool) (f' t' x y : Int) (z u : Bool) (w : World) : (binOp .neq 50 (.agg #[.int .i64 f, .int .i64 t, .int .i64 a, .int .i64 b, .bool c, .bool d]) (.agg #[.int .i64 f', .int .i64 t', .int .i64 x, .int .i64 y, .bool z, .bool u])).run Try.prog w = .ok (.bool (!decide ((f, t, a, b, c, d) = (f', t', x, y, z, u)))) w := by
  rw [run_neq_struct, show (10000 : Nat) = 9997 + 1 + 1 + 1 from rfl, eqIn_region]
  rfl

set_option maxHeartbeats 400000 in
theorem isSpan_any (f t : Int) (w : World) :
    Calls Try.prog 28 #[.int .i64 f, .int .i64 t] w fun e w' => e = .returned (.bool (isSp f t)) ∧ Below w.heap.size w w' := by
  by_cases h1 : 0 ≤ f
  · by_cases h2 : f < t
    · by_cases h3 : t ≤ 64
      · go_enter Try.func28, Try.ntmps28
        go_wp2
        go_ret
        exact ⟨ret_bool (by simp [isSp, h1, h2, h3]), Below.refl _ _⟩
      · go_enter Try.func28, Try.ntmps28
        go_wp2
        go_ret
        exact ⟨ret_bool (by have h3' : ¬ t ≤ 64 := by omega
                            simp [isSp, h3']), Below.refl _ _⟩
    · go_enter Try.func28, Try.ntmps28
      go_wp2
      go_ret
      exact ⟨ret_bool (by have h2' : ¬ f < t := by omega
                          simp [isSp, h2']), Below.refl _ _⟩
  · go_enter Try.func28, Try.ntmps28
    go_wp2
    go_ret
    exact ⟨ret_bool (by have h1' : ¬ 0 ≤ f := by omega
                        simp [isSp, h1']), Below.refl _ _⟩

theorem isSpan_is {b : Bool} (f t : Int) (w : World) (h : isSp f t = b) :
    Calls Try.prog 28 #[.int .i64 f, .int .i64 t] w fun e w' => e = .returned (.bool b) ∧ Below w.heap.size w w' := h ▸ isSpan_any f t w

set_option maxHeartbeats 400000 in
theorem joins_any (f t a b : Int) (c d : Bool) (f' t' x y : Int) (z u : Bool) (w : World) :
    Calls Try.prog 29 #[.agg #[.int .i64 f, .int .i64 t, .int .i64 a, .int .i64 b, .bool c, .bool d], .agg #[.int .i64 f', .int .i64 t', .int .i64 x, .int .i64 y, .bool z, .bool u]] w fun e w' => e = .returned (.bool (jo (f, t, a, b, c, d) (f', t', x, y, z, u))) ∧ Below w.heap.size w w' := by
  have hbe : Hid (∀ o1 o2, Below w.heap.size w ((w.alloc o1).alloc o2)) := fun o1 o2 => ((Below.refl _ _).alloc (Nat.le_refl _) _).alloc (by simp) _
  have hq := eql_attr a b c d x y z u
  have hg := eqGuard_attr
  obtain ⟨E, hE⟩ : ∃ E, Hid (decide ((a, b, c, d) = (x, y, z, u)) = E) := ⟨_, rfl⟩
  rw [hE.out] at hq
  by_cases h1 : t = f'
  · go_enter Try.func29, Try.ntmps29
    go_wp2
    go_ret
    exact ⟨ret_bool (by rw [← hE.out]; simp [jo, h1]), hbe.out _ _⟩
  · go_enter Try.func29, Try.ntmps29
    go_wp2
    go_ret
    exact ⟨ret_bool (by simp [jo, h1]), hbe.out _ _⟩

theorem joins_is {q : Bool} (f t a b : Int) (c d : Bool) (f' t' x y : Int) (z u : Bool) (w : World) (h : jo (f, t, a, b, c, d) (f', t', x, y, z, u) = q) :
    Calls Try.prog 29 #[.agg #[.int .i64 f, .int .i64 t, .int .i64 a, .int .i64 b, .bool c, .bool d], .agg #[.int .i64 f', .int .i64 t', .int .i64 x, .int .i64 y, .bool z, .bool u]] w fun e w' => e = .returned (.bool q) ∧ Below w.heap.size w w' := h ▸ joins_any f t a b c d f' t' x y z u w

/-- What clip returns. -/
abbrev clipV (f t a b : Int) (c d : Bool) (B : Bool) : Value := .tuple #[.agg #[.int .i64 f, .int .i64 t, .int .i64 a, .int .i64 b, .bool c, .bool d], .bool B]

set_option maxHeartbeats 400000 in
theorem clip_any (f t a b : Int) (c d : Bool) (x y : Int) (w : World) :
    Calls Try.prog 35 #[.agg #[.int .i64 f, .int .i64 t, .int .i64 a, .int .i64 b, .bool c, .bool d], .int .i64 x, .int .i64 y] w fun e w' => e = .returned (clipV (max f x) (min t y) a b c d (clipB (f, t, a, b, c, d) x y)) ∧ Below w.heap.size w w' := by
  obtain ⟨M, hM⟩ : ∃ M, Hid (M = max f x) := ⟨_, rfl⟩
  obtain ⟨m, hm⟩ : ∃ m, Hid (m = min t y) := ⟨_, rfl⟩
  unfold clipB
  simp only
  go_enter Try.func35, Try.ntmps35
  go_wp2
  go_region
  all_goals (try go_wp2)
  all_goals exact bodyPost_ret (v := clipV (max f x) (min t y) a b c d (decide (max f x < min t y))) (by simp [results, Try.results35, go_sem]) rfl ⟨rfl, (((Below.refl _ _).alloc (Nat.le_refl _) _).alloc (by simp) _).drew⟩

end Go.Proofs.Ytbiipnojhjhejaa

/- The contracts of region.Right, region.Find, region.count, region.Count and slices.Equal at api.Region. -/
namespace Go.Proofs.Ytbiipnojhjhejaa
set_option maxRecDepth 100000
open Go.RowKit
set_option linter.unusedSimpArgs false
set_option linter.unusedVariables false

set_option maxHeartbeats 800000 in
theorem right_any (v : Value) (l : List R6) (B : Nat) (w : World) (h : IsRecs encR B w v l) (hB : B ≤ 4398046511104) :
    Calls Try.prog 19 #[v] w fun e w' => e = .returned (.bool (rightR l)) ∧ Below w.heap.size w w' := by
  obtain ⟨a, cap, rfl, h1, hl, hc'⟩ := h
  obtain ⟨n, hn⟩ : ∃ n, Hid (n = l.length) := ⟨_, rfl⟩
  rw [← hn.out] at hl hc' ⊢
  go_enter Try.func19, Try.ntmps19
  go_wp2_with fail
  go_loopw [7] (fun i wr => ∃ k : Nat, k ≤ n ∧ i = .int .i64 k ∧ Hid (∀ i, i < k → okAt l i = true) ∧ Below w.heap.size w wr) (fun i _ => n - (intOf i).toNat)
  case atStart => exact ⟨0, Nat.zero_le _, rfl, fun i hi => by omega, Below.refl _ _⟩
  case round =>
    obtain ⟨k, hk, rfl, hok, hbel⟩ := hrel
    by_cases hlt : k < n
    · obtain ⟨b, off, rfl, hc⟩ := hc' (by omega)
      obtain ⟨⟨pf, pt, pr, pk, pg, ps⟩, hp⟩ : ∃ p, p = l.getD k zR := ⟨_, rfl⟩
      have HP : Hid ((pf, pt, pr, pk, pg, ps) = l.getD k zR) := hp
      obtain ⟨hk0, hk1, hk2, hk3, hk4, hk5⟩ := cell6 hc hbel k (by rw [← hn.out]; exact hlt) hp
      clear hp
      by_cases hS : isSp pf pt = true
      · by_cases hk00 : k = 0
        · have hd0 : decide (0 < k) = false := by simp; omega
          have HK : Hid (k = 0) := hk00
          clear hk00
          go_wp2_with (go_at_call 28; refine (isSpan_is _ _ _ hS).mono ?_; rintro e w1 ⟨rfl, hw1⟩)
          have hx2 := below_one hw1
          refine wp_region_calm (by kernel_rfl) (by kernel_rfl) (fun W hW _ => ?_)
          have hbW : Below w1.heap.size w1 W := by rw [hW]; exact Below.refl _ _
          clear hW
          repeat (go_big_quiet_step (fail))
          refine wpQuiet_nil ?_
          rintro w2 ⟨⟨_, hw2⟩, rfl⟩
          have hb2 : Below w1.heap.size w1 w2 := hbW.trans (hw2.mono hbW.size)
          go_wp2
          go_roundw
          case rel =>
            refine ⟨k + 1, by omega, by go_num, fun i hi => ?_, hbel.trans ((hx2.trans (hb2.mono hx2.size)).mono hbel.size)⟩
            have := HK.out
            obtain rfl : i = k := by omega
            unfold okAt
            rw [← HP.out]
            simp [hS, this]
          case measure => simp [intOf]; omega
        · obtain ⟨j, rfl⟩ : ∃ j, k = j + 1 := ⟨k - 1, by omega⟩
          obtain ⟨⟨rf, rt, rr, rk, rg, rs⟩, hr⟩ : ∃ p, p = l.getD j zR := ⟨_, rfl⟩
          have HR : Hid ((rf, rt, rr, rk, rg, rs) = l.getD j zR) := hr
          obtain ⟨hr0, hr1, hr2, hr3, hr4, hr5⟩ := cell6 hc hbel j (by rw [← hn.out]; omega) hr
          clear hr
          have hgt : decide (((j + 1 : Nat) : Int) > 0) = true := by simp
          have hjn : j < n := by omega
          have HO : Hid (okAt l (j + 1) = (isSp pf pt && !(decide (pf < rt) || jo (rf, rt, rr, rk, rg, rs) (pf, pt, pr, pk, pg, ps)))) := by
            unfold okAt
            rw [show j + 1 - 1 = j from rfl, ← HP.out, ← HR.out]
            simp [Hid]
          have hcase : (decide (pf < rt) = true) ∨ (decide (pf < rt) = false ∧ jo (rf, rt, rr, rk, rg, rs) (pf, pt, pr, pk, pg, ps) = true) ∨ (decide (pf < rt) = false ∧ jo (rf, rt, rr, rk, rg, rs) (pf, pt, pr, pk, pg, ps) = false) := by
            cases decide (pf < rt) <;> cases jo (rf, rt, rr, rk, rg, rs) (pf, pt, pr, pk, pg, ps) <;> simp
          rcases hcase with hd | ⟨hd, hj⟩ | ⟨hd, hj⟩
          · go_wp2_with (go_at_call 28; refine (isSpan_is _ _ _ hS).mono ?_; rintro e w1 ⟨rfl, hw1⟩)
            have hx2 := below_one hw1
            obtain ⟨q0, q1, q2, q3, q4, q5⟩ := (own_one (xs := encR (pf, pt, pr, pk, pg, ps)) hw1).six
            have p0 := (hx2.cell (cell_lt hr0)).trans hr0
            have p1 := (hx2.cell (cell_lt hr1)).trans hr1
            have p2 := (hx2.cell (cell_lt hr2)).trans hr2
            have p3 := (hx2.cell (cell_lt hr3)).trans hr3
            have p4 := (hx2.cell (cell_lt hr4)).trans hr4
            have p5 := (hx2.cell (cell_lt hr5)).trans hr5
            refine wp_region_calm (by kernel_rfl) (by kernel_rfl) (fun W hW _ => ?_)
            have hbW : Below w1.heap.size w1 W := by rw [hW]; exact Below.refl _ _
            have hc0 : ∀ u : Wd W, u.w.cell? ⟨wr.heap.size, 0, none⟩ = some (.int .i64 pf) := fun u => u.cell ((hbW.cell (cell_lt q0)).trans q0)
            have hc1 : ∀ u : Wd W, u.w.cell? ⟨wr.heap.size, 1, none⟩ = some (.int .i64 pt) := fun u => u.cell ((hbW.cell (cell_lt q1)).trans q1)
            have hc2 : ∀ u : Wd W, u.w.cell? ⟨wr.heap.size, 2, none⟩ = some (.int .i64 pr) := fun u => u.cell ((hbW.cell (cell_lt q2)).trans q2)
            have hc3 : ∀ u : Wd W, u.w.cell? ⟨wr.heap.size, 3, none⟩ = some (.int .i64 pk) := fun u => u.cell ((hbW.cell (cell_lt q3)).trans q3)
            have hc4 : ∀ u : Wd W, u.w.cell? ⟨wr.heap.size, 4, none⟩ = some (.bool pg) := fun u => u.cell ((hbW.cell (cell_lt q4)).trans q4)
            have hc5 : ∀ u : Wd W, u.w.cell? ⟨wr.heap.size, 5, none⟩ = some (.bool ps) := fun u => u.cell ((hbW.cell (cell_lt q5)).trans q5)
            have hc6 : ∀ u : Wd W, u.w.cell? ⟨b, off + j * 6, none⟩ = some (.int .i64 rf) := fun u => u.cell ((hbW.cell (cell_lt p0)).trans p0)
            have hc7 : ∀ u : Wd W, u.w.cell? ⟨b, off + j * 6 + 1, none⟩ = some (.int .i64 rt) := fun u => u.cell ((hbW.cell (cell_lt p1)).trans p1)
            have hc8 : ∀ u : Wd W, u.w.cell? ⟨b, off + j * 6 + 2, none⟩ = some (.int .i64 rr) := fun u => u.cell ((hbW.cell (cell_lt p2)).trans p2)
            have hc9 : ∀ u : Wd W, u.w.cell? ⟨b, off + j * 6 + 3, none⟩ = some (.int .i64 rk) := fun u => u.cell ((hbW.cell (cell_lt p3)).trans p3)
            have hc10 : ∀ u : Wd W, u.w.cell? ⟨b, off + j * 6 + 4, none⟩ = some (.bool rg) := fun u => u.cell ((hbW.cell (cell_lt p4)).trans p4)
            have hc11 : ∀ u : Wd W, u.w.cell? ⟨b, off + j * 6 + 5, none⟩ = some (.bool rs) := fun u => u.cell ((hbW.cell (cell_lt p5)).trans p5)
            clear hW
            repeat (go_big_quiet_step (fail))
            refine wpQuiet_nil ?_
            rintro w2 ⟨⟨_, hw2⟩, rfl⟩
            have hb2 : Below w1.heap.size w1 w2 := hbW.trans (hw2.mono hbW.size)
            go_wp2
            go_ret
            refine ⟨ret_bool ?_, hbel.trans ((hx2.trans (hb2.mono hx2.size)).mono hbel.size)⟩
            symm
            rw [Bool.eq_false_iff]
            intro hall
            have := rightR_iff.1 hall (j + 1) (by rw [← hn.out]; exact hlt)
            rw [HO.out] at this
            simp [hd] at this
          · go_wp2_with (go_at_call 28; refine (isSpan_is _ _ _ hS).mono ?_; rintro e w1 ⟨rfl, hw1⟩)
            have hx2 := below_one hw1
            obtain ⟨q0, q1, q2, q3, q4, q5⟩ := (own_one (xs := encR (pf, pt, pr, pk, pg, ps)) hw1).six
            have p0 := (hx2.cell (cell_lt hr0)).trans hr0
            have p1 := (hx2.cell (cell_lt hr1)).trans hr1
            have p2 := (hx2.cell (cell_lt hr2)).trans hr2
            have p3 := (hx2.cell (cell_lt hr3)).trans hr3
            have p4 := (hx2.cell (cell_lt hr4)).trans hr4
            have p5 := (hx2.cell (cell_lt hr5)).trans hr5
            refine wp_region_calm (by kernel_rfl) (by kernel_rfl) (fun W hW _ => ?_)
            have hbW : Below w1.heap.size w1 W := by rw [hW]; exact Below.refl _ _
            have hc0 : ∀ u : Wd W, u.w.cell? ⟨wr.heap.size, 0, none⟩ = some (.int .i64 pf) := fun u => u.cell ((hbW.cell (cell_lt q0)).trans q0)
            have hc1 : ∀ u : Wd W, u.w.cell? ⟨wr.heap.size, 1, none⟩ = some (.int .i64 pt) := fun u => u.cell ((hbW.cell (cell_lt q1)).trans q1)
            have hc2 : ∀ u : Wd W, u.w.cell? ⟨wr.heap.size, 2, none⟩ = some (.int .i64 pr) := fun u => u.cell ((hbW.cell (cell_lt q2)).trans q2)
            have hc3 : ∀ u : Wd W, u.w.cell? ⟨wr.heap.size, 3, none⟩ = some (.int .i64 pk) := fun u => u.cell ((hbW.cell (cell_lt q3)).trans q3)
            have hc4 : ∀ u : Wd W, u.w.cell? ⟨wr.heap.size, 4, none⟩ = some (.bool pg) := fun u => u.cell ((hbW.cell (cell_lt q4)).trans q4)
            have hc5 : ∀ u : Wd W, u.w.cell? ⟨wr.heap.size, 5, none⟩ = some (.bool ps) := fun u => u.cell ((hbW.cell (cell_lt q5)).trans q5)
            have hc6 : ∀ u : Wd W, u.w.cell? ⟨b, off + j * 6, none⟩ = some (.int .i64 rf) := fun u => u.cell ((hbW.cell (cell_lt p0)).trans p0)
            have hc7 : ∀ u : Wd W, u.w.cell? ⟨b, off + j * 6 + 1, none⟩ = some (.int .i64 rt) := fun u => u.cell ((hbW.cell (cell_lt p1)).trans p1)
            have hc8 : ∀ u : Wd W, u.w.cell? ⟨b, off + j * 6 + 2, none⟩ = some (.int .i64 rr) := fun u => u.cell ((hbW.cell (cell_lt p2)).trans p2)
            have hc9 : ∀ u : Wd W, u.w.cell? ⟨b, off + j * 6 + 3, none⟩ = some (.int .i64 rk) := fun u => u.cell ((hbW.cell (cell_lt p3)).trans p3)
            have hc10 : ∀ u : Wd W, u.w.cell? ⟨b, off + j * 6 + 4, none⟩ = some (.bool rg) := fun u => u.cell ((hbW.cell (cell_lt p4)).trans p4)
            have hc11 : ∀ u : Wd W, u.w.cell? ⟨b, off + j * 6 + 5, none⟩ = some (.bool rs) := fun u => u.cell ((hbW.cell (cell_lt p5)).trans p5)
            clear hW
            repeat (go_big_quiet_step (first | (go_at_call 29; exact calm_of (joins_is _ _ _ _ _ _ _ _ _ _ _ _ _ hj))))
            refine wpQuiet_nil ?_
            rintro w2 ⟨⟨_, hw2⟩, rfl⟩
            have hb2 : Below w1.heap.size w1 w2 := hbW.trans (hw2.mono hbW.size)
            go_wp2
            go_ret
            refine ⟨ret_bool ?_, hbel.trans ((hx2.trans (hb2.mono hx2.size)).mono hbel.size)⟩
            symm
            rw [Bool.eq_false_iff]
            intro hall
            have := rightR_iff.1 hall (j + 1) (by rw [← hn.out]; exact hlt)
            rw [HO.out] at this
            simp [hj] at this
          · go_wp2_with (go_at_call 28; refine (isSpan_is _ _ _ hS).mono ?_; rintro e w1 ⟨rfl, hw1⟩)
            have hx2 := below_one hw1
            obtain ⟨q0, q1, q2, q3, q4, q5⟩ := (own_one (xs := encR (pf, pt, pr, pk, pg, ps)) hw1).six
            have p0 := (hx2.cell (cell_lt hr0)).trans hr0
            have p1 := (hx2.cell (cell_lt hr1)).trans hr1
            have p2 := (hx2.cell (cell_lt hr2)).trans hr2
            have p3 := (hx2.cell (cell_lt hr3)).trans hr3
            have p4 := (hx2.cell (cell_lt hr4)).trans hr4
            have p5 := (hx2.cell (cell_lt hr5)).trans hr5
            refine wp_region_calm (by kernel_rfl) (by kernel_rfl) (fun W hW _ => ?_)
            have hbW : Below w1.heap.size w1 W := by rw [hW]; exact Below.refl _ _
            have hc0 : ∀ u : Wd W, u.w.cell? ⟨wr.heap.size, 0, none⟩ = some (.int .i64 pf) := fun u => u.cell ((hbW.cell (cell_lt q0)).trans q0)
            have hc1 : ∀ u : Wd W, u.w.cell? ⟨wr.heap.size, 1, none⟩ = some (.int .i64 pt) := fun u => u.cell ((hbW.cell (cell_lt q1)).trans q1)
            have hc2 : ∀ u : Wd W, u.w.cell? ⟨wr.heap.size, 2, none⟩ = some (.int .i64 pr) := fun u => u.cell ((hbW.cell (cell_lt q2)).trans q2)
            have hc3 : ∀ u : Wd W, u.w.cell? ⟨wr.heap.size, 3, none⟩ = some (.int .i64 pk) := fun u => u.cell ((hbW.cell (cell_lt q3)).trans q3)
            have hc4 : ∀ u : Wd W, u.w.cell? ⟨wr.heap.size, 4, none⟩ = some (.bool pg) := fun u => u.cell ((hbW.cell (cell_lt q4)).trans q4)
            have hc5 : ∀ u : Wd W, u.w.cell? ⟨wr.heap.size, 5, none⟩ = some (.bool ps) := fun u => u.cell ((hbW.cell (cell_lt q5)).trans q5)
            have hc6 : ∀ u : Wd W, u.w.cell? ⟨b, off + j * 6, none⟩ = some (.int .i64 rf) := fun u => u.cell ((hbW.cell (cell_lt p0)).trans p0)
            have hc7 : ∀ u : Wd W, u.w.cell? ⟨b, off + j * 6 + 1, none⟩ = some (.int .i64 rt) := fun u => u.cell ((hbW.cell (cell_lt p1)).trans p1)
            have hc8 : ∀ u : Wd W, u.w.cell? ⟨b, off + j * 6 + 2, none⟩ = some (.int .i64 rr) := fun u => u.cell ((hbW.cell (cell_lt p2)).trans p2)
            have hc9 : ∀ u : Wd W, u.w.cell? ⟨b, off + j * 6 + 3, none⟩ = some (.int .i64 rk) := fun u => u.cell ((hbW.cell (cell_lt p3)).trans p3)
            have hc10 : ∀ u : Wd W, u.w.cell? ⟨b, off + j * 6 + 4, none⟩ = some (.bool rg) := fun u => u.cell ((hbW.cell (cell_lt p4)).trans p4)
            have hc11 : ∀ u : Wd W, u.w.cell? ⟨b, off + j * 6 + 5, none⟩ = some (.bool rs) := fun u => u.cell ((hbW.cell (cell_lt p5)).trans p5)
            clear hW
            repeat (go_big_quiet_step (first | (go_at_call 29; exact calm_of (joins_is _ _ _ _ _ _ _ _ _ _ _ _ _ hj))))
            refine wpQuiet_nil ?_
            rintro w2 ⟨⟨_, hw2⟩, rfl⟩
            have hb2 : Below w1.heap.size w1 w2 := hbW.trans (hw2.mono hbW.size)
            go_wp2
            go_roundw
            case rel =>
              refine ⟨j + 1 + 1, by omega, by go_num, fun i hi => ?_, hbel.trans ((hx2.trans (hb2.mono hx2.size)).mono hbel.size)⟩
              by_cases hij : i = j + 1
              · rw [hij, HO.out, hd, hj, hS]; rfl
              · exact hok.out i (by omega)
            case measure => simp [intOf]; omega
      · have hS' : isSp pf pt = false := by simpa using hS
        go_wp2_with (go_at_call 28; refine (isSpan_is _ _ _ hS').mono ?_; rintro e w1 ⟨rfl, hw1⟩)
        have hx2 := below_one hw1
        go_ret
        refine ⟨ret_bool ?_, hbel.trans (hx2.mono hbel.size)⟩
        symm
        rw [Bool.eq_false_iff]
        intro hall
        have := rightR_iff.1 hall k (by rw [← hn.out]; exact hlt)
        unfold okAt at this
        rw [← HP.out] at this
        simp [hS'] at this
    · go_wp2
      go_ret
      refine ⟨ret_bool ?_, hbel⟩
      symm
      exact rightR_iff.2 (fun i hi => hok.out i (by have := hn.out; omega))

theorem right_is {f : Bool} (v : Value) (l : List R6) (B : Nat) (w : World) (h : IsRecs encR B w v l) (hB : B ≤ 4398046511104) (hf : rightR l = f) :
    Calls Try.prog 19 #[v] w fun e w' => e = .returned (.bool f) ∧ Below w.heap.size w w' := hf ▸ right_any v l B w h hB

/-- Four cells of a row, and that they may be written. -/
theorem OwnRow.quadf {w : World} {g : Nat} {e : TypeId} {a b c d : Value} (h : OwnRow w g e [a, b, c, d]) :
    (w.cell? ⟨g, 0, none⟩ = some a ∧ w.cell? ⟨g, 1, none⟩ = some b ∧ w.cell? ⟨g, 2, none⟩ = some c ∧ w.cell? ⟨g, 3, none⟩ = some d) ∧ w.frozen? ⟨g, 0, none⟩ = false ∧ w.frozen? ⟨g, 1, none⟩ = false ∧ w.frozen? ⟨g, 2, none⟩ = false ∧ w.frozen? ⟨g, 3, none⟩ = false :=
  ⟨h.quad, h.free 0, h.free 1, h.free 2, h.free 3⟩

/-- What Find answers, as it is returned. -/
abbrev attV (a b : Int) (c d B : Bool) : Value := .tuple #[.agg #[.int .i64 a, .int .i64 b, .bool c, .bool d], .bool B]
abbrev attO (o : Option A4) : Value := attV (o.getD zA).1 (o.getD zA).2.1 (o.getD zA).2.2.1 (o.getD zA).2.2.2 o.isSome

theorem at_drop (l : List R6) (p : Int) (k : Nat) (hk : k < l.length) : atR (l.drop k) p = if iv (l.getD k zR).1 (l.getD k zR).2.1 p then some (l.getD k zR).2.2 else atR (l.drop (k + 1)) p := by
  rw [List.drop_eq_getElem_cons hk, atR, List.getD_eq_getElem?_getD, List.getElem?_eq_getElem hk]
  rfl

set_option maxHeartbeats 800000 in
theorem find_any (v : Value) (l : List R6) (p : Int) (B : Nat) (w : World) (h : IsRecs encR B w v l) (hB : B ≤ 4398046511104) :
    Calls Try.prog 18 #[v, .int .i64 p] w fun e w' => e = .returned (attO (atR l p)) ∧ Below w.heap.size w w' := by
  obtain ⟨a, cap, rfl, h1, hl, hc'⟩ := h
  obtain ⟨n, hn⟩ : ∃ n, Hid (n = l.length) := ⟨_, rfl⟩
  rw [← hn.out] at hl hc' ⊢
  obtain ⟨A, hA⟩ : ∃ A, Hid (A = atR l p) := ⟨_, rfl⟩
  rw [← hA.out]
  go_enter Try.func18, Try.ntmps18
  go_wp2_with fail
  go_loopw [10] (fun i wr => ∃ k : Nat, k ≤ n ∧ i = .int .i64 k ∧ Hid (A = atR (l.drop k) p) ∧ Hid (OwnRow wr w.heap.size 48 [.int .i64 0, .int .i64 0, .bool false, .bool false]) ∧ Below w.heap.size w wr) (fun i _ => n - (intOf i).toNat)
  case atStart => exact ⟨0, Nat.zero_le _, rfl, by rw [List.drop_zero]; exact hA, heap_alloc_new w _, (Below.refl _ _).alloc (Nat.le_refl _) _⟩
  case round =>
    obtain ⟨k, hk, rfl, hok, hbox, hbel⟩ := hrel
    obtain ⟨⟨c0, c1, c2, c3⟩, f0, f1, f2, f3⟩ := hbox.out.quadf
    have hz : w.heap.size < wr.heap.size := hbox.out.lt
    by_cases hlt : k < n
    · obtain ⟨b, off, rfl, hc⟩ := hc' (by omega)
      have HD : Hid _ := at_drop l p k (by rw [← hn.out]; exact hlt)
      obtain ⟨⟨pf, pt, pr, pk, pg, ps⟩, hp⟩ : ∃ p, p = l.getD k zR := ⟨_, rfl⟩
      obtain ⟨hk0, hk1, hk2, hk3, hk4, hk5⟩ := cell6 hc hbel k (by rw [← hn.out]; exact hlt) hp
      rw [← hp] at HD
      clear hp
      have hbx : Hid (∀ o, Below wr.heap.size wr (wr.alloc o)) := fun o => (Below.refl _ _).alloc (Nat.le_refl _) _
      by_cases h1 : pf ≤ p
      · by_cases h2 : p < pt
        · go_wp2
          have hO : A = some (pr, pk, pg, ps) := by
            rw [hok.out, HD.out, if_pos (iv_iff.2 ⟨h1, h2⟩)]
          subst hO
          refine bodyPost_ret (v := attO (some (pr, pk, pg, ps))) (by simp [results, Try.results18, go_sem, c0, c1, c2, c3, hz]) rfl ⟨rfl, ?_⟩
          exact ((((hbel.setCell (by simp) _).setCell (by simp) _).setCell (by simp) _).setCell (by simp) _).alloc (by simp; omega) _
        · go_wp2
          go_roundw
          case rel => exact ⟨k + 1, by omega, by go_num, by show _ = _; rw [hok.out, HD.out, if_neg (by rw [iv_iff]; simp only; omega)], hbox.out.below (hbx.out _) hbox.out.lt, hbel.trans ((hbx.out _).mono hbel.size)⟩
          case measure => simp [intOf]; omega
      · go_wp2
        go_roundw
        case rel => exact ⟨k + 1, by omega, by go_num, by show _ = _; rw [hok.out, HD.out, if_neg (by rw [iv_iff]; simp only; omega)], hbox.out.below (hbx.out _) hbox.out.lt, hbel.trans ((hbx.out _).mono hbel.size)⟩
        case measure => simp [intOf]; omega
    · go_wp2
      have hO : A = none := by
        rw [hok.out, List.drop_of_length_le (by rw [← hn.out]; omega)]
        rfl
      subst hO
      refine bodyPost_ret (v := attO none) (by simp [results, Try.results18, go_sem, c0, c1, c2, c3, hz, zA]) rfl ⟨rfl, ?_⟩
      exact (((hbel.setCell (by simp) _).setCell (by simp) _).setCell (by simp) _).setCell (by simp) _

end Go.Proofs.Ytbiipnojhjhejaa

/- The contracts of region.count, region.part and slices.Equal at api.Region. -/
namespace Go.Proofs.Ytbiipnojhjhejaa
set_option maxRecDepth 100000
open Go.RowKit
set_option linter.unusedSimpArgs false
set_option linter.unusedVariables false

theorem take_snoc (l : List R6) (k : Nat) (hk : k < l.length) : l.take (k + 1) = l.take k ++ [l.getD k zR] := by
  rw [List.take_add_one, List.getElem?_eq_getElem hk, List.getD_eq_getElem?_getD, List.getElem?_eq_getElem hk]
  rfl

theorem partL_append (l m : List R6) (x y : Int) : partL (l ++ m) x y = partL l x y ++ partL m x y := by simp [partL]

set_option maxHeartbeats 800000 in
theorem count_any (v : Value) (l : List R6) (x y : Int) (B : Nat) (w : World) (h : IsRecs encR B w v l) (hB : B ≤ 4398046511104) (hx : 0 ≤ x) (hxy : x ≤ y) (hy : y ≤ 64) :
    Calls Try.prog 30 #[v, .int .i64 x, .int .i64 y] w fun e w' => e = .returned (.int .i64 (cnt l x y)) ∧ Below w.heap.size w w' := by
  obtain ⟨a, cap, rfl, h1, hl, hc'⟩ := h
  obtain ⟨n, hn⟩ : ∃ n, Hid (n = l.length) := ⟨_, rfl⟩
  rw [← hn.out] at hl hc' ⊢
  go_enter Try.func30, Try.ntmps30
  go_wp2_with fail
  go_loopw [7, 14] (fun s i wr => ∃ k : Nat, ∃ S : Int, k ≤ n ∧ s = .int .i64 S ∧ i = .int .i64 k ∧ Hid (S = cnt (l.take k) x y) ∧ 0 ≤ S ∧ S ≤ 64 * (k : Int) ∧ Below w.heap.size w wr) (fun _ i _ => n - (intOf i).toNat)
  case atStart => exact ⟨0, 0, Nat.zero_le _, rfl, rfl, rfl, Int.le_refl _, by simp, Below.refl _ _⟩
  case round =>
    obtain ⟨k, S, hk, rfl, rfl, hS, hS0, hS1, hbel⟩ := hrel
    by_cases hlt : k < n
    · obtain ⟨b, off, rfl, hc⟩ := hc' (by omega)
      have HT := cnt_snoc (l.getD k zR) x y (l.take k)
      rw [← take_snoc l k (by rw [← hn.out]; exact hlt), ← hS.out] at HT
      obtain ⟨⟨pf, pt, pr, pk, pg, ps⟩, hp⟩ : ∃ p, p = l.getD k zR := ⟨_, rfl⟩
      obtain ⟨hk0, hk1, hk2, hk3, hk4, hk5⟩ := cell6 hc hbel k (by rw [← hn.out]; exact hlt) hp
      rw [← hp] at HT
      have HH : Hid _ := HT
      clear hp HT
      have hcl := clip_any pf pt pr pk pg ps x y
      obtain ⟨M, hM⟩ : ∃ M, Hid (M = max pf x) := ⟨_, rfl⟩
      obtain ⟨m, hm⟩ : ∃ m, Hid (m = min pt y) := ⟨_, rfl⟩
      rw [← hM.out, ← hm.out] at hcl
      have HC : Hid _ := hcl
      clear hcl
      cases hB2 : clipB (pf, pt, pr, pk, pg, ps) x y with
      | true =>
        have hb : M < m := by have := hM.out; have := hm.out; simp only [clipB, decide_eq_true_eq] at hB2; omega
        have hb1 : 0 ≤ M := by have := hM.out; omega
        have hb2 : m ≤ 64 := by have := hm.out; omega
        go_wp2_with (go_at_call 35; refine (HC.out _).mono ?_; rintro e w1 ⟨rfl, hw1⟩)
        have hx2 := below_one hw1
        go_wp2
        go_roundw
        case rel =>
          refine ⟨k + 1, S + (m - M), by omega, by go_num, by go_num, ?_, by omega, by omega, hbel.trans ((hx2.alloc hx2.size _).mono hbel.size)⟩
          show _ = _
          rw [HH.out, hB2, if_pos rfl]
          have := hM.out; have := hm.out
          simp only [clipR]
          omega
        case measure => simp [intOf]; omega
      | false =>
        go_wp2_with (go_at_call 35; refine (HC.out _).mono ?_; rintro e w1 ⟨rfl, hw1⟩)
        have hx2 := below_one hw1
        go_wp2
        go_roundw
        case rel =>
          refine ⟨k + 1, S, by omega, rfl, by go_num, ?_, by omega, by omega, hbel.trans ((hx2.alloc hx2.size _).mono hbel.size)⟩
          show _ = _
          rw [HH.out, hB2]
          simp
        case measure => simp [intOf]; omega
    · go_wp2
      go_ret
      refine ⟨ret_int ?_, hbel⟩
      have := hS.out
      rw [List.take_of_length_le (by rw [← hn.out]; omega)] at this
      exact this

set_option maxHeartbeats 800000 in
theorem part_any (v : Value) (l : List R6) (x y : Int) (B : Nat) (w : World) (h : IsRecs encR B w v l) (hB : B ≤ 3518437208883) :
    Calls Try.prog 92 #[v, .int .i64 x, .int .i64 y] w fun e w' => ∃ v', e = .returned v' ∧ OwnR 50 6 encR w.heap.size w' v' (partL l x y) ∧ Below w.heap.size w w' := by
  obtain ⟨i0, hi0, hz0, hz1, hz2⟩ := info_parts info_region
  obtain ⟨a, cap, rfl, h1, hl, hc'⟩ := h
  obtain ⟨n, hn⟩ : ∃ n, Hid (n = l.length) := ⟨_, rfl⟩
  rw [← hn.out] at hl hc' ⊢
  go_enter Try.func92, Try.ntmps92
  go_wp2_with fail
  go_loopw [7, 14] (fun s i wr => ∃ k : Nat, k ≤ n ∧ i = .int .i64 k ∧ Hid (OwnR 50 6 encR w.heap.size wr s (partL (l.take k) x y)) ∧ Below w.heap.size w wr) (fun _ i _ => n - (intOf i).toNat)
  case atStart => exact ⟨0, Nat.zero_le _, rfl, ownR_nil _ _ _, Below.refl _ _⟩
  case round =>
    obtain ⟨k, hk, rfl, hS, hbel⟩ := hrel
    by_cases hlt : k < n
    · obtain ⟨b, off, rfl, hc⟩ := hc' (by omega)
      have HT := partL_append (l.take k) [l.getD k zR] x y
      rw [← take_snoc l k (by rw [← hn.out]; exact hlt), partL_cons] at HT
      have hlen : (partL (l.take k) x y).length ≤ k := Nat.le_trans (partL_len _ _ _) (by rw [List.length_take]; omega)
      obtain ⟨⟨pf, pt, pr, pk, pg, ps⟩, hp⟩ : ∃ p, p = l.getD k zR := ⟨_, rfl⟩
      obtain ⟨hk0, hk1, hk2, hk3, hk4, hk5⟩ := cell6 hc hbel k (by rw [← hn.out]; exact hlt) hp
      rw [← hp] at HT
      have HH : Hid _ := HT
      clear hp HT
      have hcl := clip_any pf pt pr pk pg ps x y
      have hR : clipR (pf, pt, pr, pk, pg, ps) x y = (max pf x, min pt y, pr, pk, pg, ps) := rfl
      rw [hR] at HH
      clear hR
      generalize max pf x = M at hcl HH
      generalize min pt y = m at hcl HH
      have HC : Hid _ := hcl
      clear hcl
      obtain ⟨av, cv, rfl⟩ := hS.out.form
      have hbase := hbel.size
      have HL1 : Hid (((partL (l.take k) x y).length + 1) * 40 ≤ 140737488355328) := by show _ ≤ _; omega
      have HL2 : Hid ((partL (l.take k) x y).length + 1 ≤ maxLen) := by show _ ≤ _; unfold maxLen; omega
      cases hB2 : clipB (pf, pt, pr, pk, pg, ps) x y with
      | true =>
        go_wp2_with (first
          | (go_at_call 35; refine (HC.out _).mono ?_; rintro e w1 ⟨rfl, hw1⟩)
          | (at_builtin; go_must (refine wpList_append_rec shR rfl _ _ 27 50 i0 _ 40 rfl Try.underlying27 hi0 hz0 hz1 hz2 rfl w.heap.size _ _ rfl w1 (hS.out.below (below_one hw1)) (((Below.refl _ _).alloc (Nat.le_refl _) _).alloc (by simp) _) (Nat.le_trans hbase (below_one hw1).size) HL1.out HL2.out (M, m, pr, pk, pg, ps) _ 1 rfl (box6 (w1.alloc _) _ (by simp) M m pr pk pg ps _) ?_); intro v' w3 hown3 hbw3))
        have hx2 := below_one hw1
        go_roundw
        case rel =>
          refine ⟨k + 1, by omega, by go_num, ?_, hbel.trans (((hx2.alloc hx2.size _).alloc (by have := hx2.size; simp; omega) _).mono hbel.size |>.trans hbw3)⟩
          show OwnR _ _ _ _ _ _ _
          have h := HH.out
          simp only [hB2, if_true, partL_nil] at h
          rw [h]
          exact hown3
        case measure => simp [intOf]; omega
      | false =>
        go_wp2_with (go_at_call 35; refine (HC.out _).mono ?_; rintro e w1 ⟨rfl, hw1⟩)
        have hx2 := below_one hw1
        go_wp2
        go_roundw
        case rel =>
          refine ⟨k + 1, by omega, by go_num, ?_, hbel.trans ((hx2.alloc hx2.size _).mono hbel.size)⟩
          show OwnR _ _ _ _ _ _ _
          have h := HH.out
          simp only [hB2, Bool.false_eq_true, if_false, partL_nil, List.append_nil] at h
          rw [h]
          exact hS.out.below (hx2.alloc hx2.size _)
        case measure => simp [intOf]; omega
    · go_wp2
      go_ret
      have := hS.out
      rw [List.take_of_length_le (by rw [← hn.out]; omega)] at this
      exact ⟨_, rfl, this, hbel⟩

theorem take_eq_succ' {α : Type} (l m : List α) (d : α) (k : Nat) (h : l.take k = m.take k) (hl : k < l.length) (hm : k < m.length) (hd : l.getD k d = m.getD k d) : l.take (k + 1) = m.take (k + 1) := by
  rw [List.getD_eq_getElem?_getD, List.getD_eq_getElem?_getD, List.getElem?_eq_getElem hl, List.getElem?_eq_getElem hm] at hd
  rw [List.take_add_one, List.take_add_one, h, List.getElem?_eq_getElem hl, List.getElem?_eq_getElem hm]
  simp only [Option.getD_some] at hd
  rw [hd]

set_option maxHeartbeats 1600000 in
theorem requal_any (v u : Value) (l m : List R6) (B : Nat) (w : World) (h : IsRecs encR B w v l) (hu : IsRecs encR B w u m) (hB : B ≤ 4398046511104) :
    Calls Try.prog 13 #[v, u] w fun e w' => e = .returned (.bool (decide (l = m))) ∧ Below w.heap.size w w' := by
  obtain ⟨a, cap, rfl, h1, hl, hc'⟩ := h
  obtain ⟨a', cap', rfl, h1', hl', hm'⟩ := hu
  by_cases hne : l.length = m.length
  · obtain ⟨n, hn⟩ : ∃ n, Hid (n = l.length) := ⟨_, rfl⟩
    have hn2 : Hid (n = m.length) := hn.out.trans hne
    rw [← hn.out] at hl hc' ⊢
    rw [← hn2.out] at hl' hm' ⊢
    clear hne
    go_enter Try.func13, Try.ntmps13
    go_wp2_with fail
    go_loopw [13] (fun i wr => ∃ k : Nat, k ≤ n ∧ i = .int .i64 k ∧ Hid (l.take k = m.take k) ∧ Below w.heap.size w wr) (fun i _ => n - (intOf i).toNat)
    case atStart => exact ⟨0, Nat.zero_le _, rfl, by simp [Hid], Below.refl _ _⟩
    case round =>
      obtain ⟨k, hk, rfl, hok, hbel⟩ := hrel
      by_cases hlt : k < n
      · obtain ⟨b, off, rfl, hc⟩ := hc' (by omega)
        obtain ⟨g, goff, rfl, hm⟩ := hm' (by omega)
        obtain ⟨⟨pf, pt, pr, pk, pg, ps⟩, hp⟩ : ∃ p, p = l.getD k zR := ⟨_, rfl⟩
        obtain ⟨⟨rf, rt, rr, rk, rg, rs⟩, hr⟩ : ∃ p, p = m.getD k zR := ⟨_, rfl⟩
        have HP : Hid ((pf, pt, pr, pk, pg, ps) = l.getD k zR) := hp
        have HR : Hid ((rf, rt, rr, rk, rg, rs) = m.getD k zR) := hr
        obtain ⟨hk0, hk1, hk2, hk3, hk4, hk5⟩ := cell6 hc hbel k (by rw [← hn.out]; exact hlt) hp
        obtain ⟨hr0, hr1, hr2, hr3, hr4, hr5⟩ := cell6 hm hbel k (by rw [← hn2.out]; exact hlt) hr
        clear hp hr
        have hq := neq_region pf pt pr pk pg ps rf rt rr rk rg rs
        have hg := eqGuard_region
        have HT := take_eq_succ' l m zR k hok.out (by rw [← hn.out]; exact hlt) (by rw [← hn2.out]; exact hlt)
        rw [← HP.out, ← HR.out] at HT
        have HH : Hid _ := HT
        clear HT
        obtain ⟨E, hE⟩ : ∃ E, Hid (decide ((pf, pt, pr, pk, pg, ps) = (rf, rt, rr, rk, rg, rs)) = E) := ⟨_, rfl⟩
        rw [hE.out] at hq
        cases E with
        | true =>
          go_wp2_with fail
          refine wp_region_calm (by kernel_rfl) (by kernel_rfl) (fun W hW _ => ?_)
          have hbW : Below wr.heap.size wr W := by rw [hW]; exact Below.refl _ _
          have hc0 : ∀ u : Wd W, u.w.cell? ⟨b, off + k * 6, none⟩ = some (.int .i64 pf) := fun u => u.cell ((hbW.cell (cell_lt hk0)).trans hk0)
          have hc1 : ∀ u : Wd W, u.w.cell? ⟨b, off + k * 6 + 1, none⟩ = some (.int .i64 pt) := fun u => u.cell ((hbW.cell (cell_lt hk1)).trans hk1)
          have hc2 : ∀ u : Wd W, u.w.cell? ⟨b, off + k * 6 + 2, none⟩ = some (.int .i64 pr) := fun u => u.cell ((hbW.cell (cell_lt hk2)).trans hk2)
          have hc3 : ∀ u : Wd W, u.w.cell? ⟨b, off + k * 6 + 3, none⟩ = some (.int .i64 pk) := fun u => u.cell ((hbW.cell (cell_lt hk3)).trans hk3)
          have hc4 : ∀ u : Wd W, u.w.cell? ⟨b, off + k * 6 + 4, none⟩ = some (.bool pg) := fun u => u.cell ((hbW.cell (cell_lt hk4)).trans hk4)
          have hc5 : ∀ u : Wd W, u.w.cell? ⟨b, off + k * 6 + 5, none⟩ = some (.bool ps) := fun u => u.cell ((hbW.cell (cell_lt hk5)).trans hk5)
          have hc6 : ∀ u : Wd W, u.w.cell? ⟨g, goff + k * 6, none⟩ = some (.int .i64 rf) := fun u => u.cell ((hbW.cell (cell_lt hr0)).trans hr0)
          have hc7 : ∀ u : Wd W, u.w.cell? ⟨g, goff + k * 6 + 1, none⟩ = some (.int .i64 rt) := fun u => u.cell ((hbW.cell (cell_lt hr1)).trans hr1)
          have hc8 : ∀ u : Wd W, u.w.cell? ⟨g, goff + k * 6 + 2, none⟩ = some (.int .i64 rr) := fun u => u.cell ((hbW.cell (cell_lt hr2)).trans hr2)
          have hc9 : ∀ u : Wd W, u.w.cell? ⟨g, goff + k * 6 + 3, none⟩ = some (.int .i64 rk) := fun u => u.cell ((hbW.cell (cell_lt hr3)).trans hr3)
          have hc10 : ∀ u : Wd W, u.w.cell? ⟨g, goff + k * 6 + 4, none⟩ = some (.bool rg) := fun u => u.cell ((hbW.cell (cell_lt hr4)).trans hr4)
          have hc11 : ∀ u : Wd W, u.w.cell? ⟨g, goff + k * 6 + 5, none⟩ = some (.bool rs) := fun u => u.cell ((hbW.cell (cell_lt hr5)).trans hr5)
          clear hW
          repeat (go_big_quiet_step (fail))
          refine wpQuiet_nil ?_
          rintro w2 ⟨⟨_, hw2⟩, rfl⟩
          have hb2 : Below wr.heap.size wr w2 := hbW.trans (hw2.mono hbW.size)
          go_wp2
          go_roundw
          case rel => exact ⟨k + 1, by omega, by go_num, HH.out (of_decide_eq_true hE.out), hbel.trans (hb2.mono hbel.size)⟩
          case measure => simp [intOf]; omega
        | false =>
          go_wp2_with fail
          refine wp_region_calm (by kernel_rfl) (by kernel_rfl) (fun W hW _ => ?_)
          have hbW : Below wr.heap.size wr W := by rw [hW]; exact Below.refl _ _
          have hc0 : ∀ u : Wd W, u.w.cell? ⟨b, off + k * 6, none⟩ = some (.int .i64 pf) := fun u => u.cell ((hbW.cell (cell_lt hk0)).trans hk0)
          have hc1 : ∀ u : Wd W, u.w.cell? ⟨b, off + k * 6 + 1, none⟩ = some (.int .i64 pt) := fun u => u.cell ((hbW.cell (cell_lt hk1)).trans hk1)
          have hc2 : ∀ u : Wd W, u.w.cell? ⟨b, off + k * 6 + 2, none⟩ = some (.int .i64 pr) := fun u => u.cell ((hbW.cell (cell_lt hk2)).trans hk2)
          have hc3 : ∀ u : Wd W, u.w.cell? ⟨b, off + k * 6 + 3, none⟩ = some (.int .i64 pk) := fun u => u.cell ((hbW.cell (cell_lt hk3)).trans hk3)
          have hc4 : ∀ u : Wd W, u.w.cell? ⟨b, off + k * 6 + 4, none⟩ = some (.bool pg) := fun u => u.cell ((hbW.cell (cell_lt hk4)).trans hk4)
          have hc5 : ∀ u : Wd W, u.w.cell? ⟨b, off + k * 6 + 5, none⟩ = some (.bool ps) := fun u => u.cell ((hbW.cell (cell_lt hk5)).trans hk5)
          have hc6 : ∀ u : Wd W, u.w.cell? ⟨g, goff + k * 6, none⟩ = some (.int .i64 rf) := fun u => u.cell ((hbW.cell (cell_lt hr0)).trans hr0)
          have hc7 : ∀ u : Wd W, u.w.cell? ⟨g, goff + k * 6 + 1, none⟩ = some (.int .i64 rt) := fun u => u.cell ((hbW.cell (cell_lt hr1)).trans hr1)
          have hc8 : ∀ u : Wd W, u.w.cell? ⟨g, goff + k * 6 + 2, none⟩ = some (.int .i64 rr) := fun u => u.cell ((hbW.cell (cell_lt hr2)).trans hr2)
          have hc9 : ∀ u : Wd W, u.w.cell? ⟨g, goff + k * 6 + 3, none⟩ = some (.int .i64 rk) := fun u => u.cell ((hbW.cell (cell_lt hr3)).trans hr3)
          have hc10 : ∀ u : Wd W, u.w.cell? ⟨g, goff + k * 6 + 4, none⟩ = some (.bool rg) := fun u => u.cell ((hbW.cell (cell_lt hr4)).trans hr4)
          have hc11 : ∀ u : Wd W, u.w.cell? ⟨g, goff + k * 6 + 5, none⟩ = some (.bool rs) := fun u => u.cell ((hbW.cell (cell_lt hr5)).trans hr5)
          clear hW
          repeat (go_big_quiet_step (fail))
          refine wpQuiet_nil ?_
          rintro w2 ⟨⟨_, hw2⟩, rfl⟩
          have hb2 : Below wr.heap.size wr w2 := hbW.trans (hw2.mono hbW.size)
          go_wp2
          go_ret
          refine ⟨ret_bool ?_, hbel.trans (hb2.mono hbel.size)⟩
          symm
          rw [decide_eq_false_iff_not]
          intro h
          subst h
          rw [← HR.out] at HP
          exact of_decide_eq_false hE.out HP.out
      · go_wp2
        go_ret
        refine ⟨ret_bool ?_, hbel⟩
        symm
        rw [decide_eq_true_iff]
        have := hok.out
        rwa [List.take_of_length_le (by rw [← hn.out]; omega), List.take_of_length_le (by rw [← hn2.out]; omega)] at this
  · have hd : ¬ ((l.length : Int) = (m.length : Int)) := by omega
    go_enter Try.func13, Try.ntmps13
    go_wp2
    go_ret
    refine ⟨ret_bool ?_, Below.refl _ _⟩
    symm
    rw [decide_eq_false_iff_not]
    intro h
    exact hne (by rw [h])

theorem requal_is {f : Bool} (v u : Value) (l m : List R6) (B : Nat) (w : World) (h : IsRecs encR B w v l) (hu : IsRecs encR B w u m) (hB : B ≤ 4398046511104) (hf : decide (l = m) = f) :
    Calls Try.prog 13 #[v, u] w fun e w' => e = .returned (.bool f) ∧ Below w.heap.size w w' := hf ▸ requal_any v u l m B w h hu hB

end Go.Proofs.Ytbiipnojhjhejaa

/- The contract of region.Count. -/
namespace Go.Proofs.Ytbiipnojhjhejaa
set_option maxRecDepth 100000
open Go.RowKit
set_option linter.unusedSimpArgs false
set_option linter.unusedVariables false

set_option maxHeartbeats 400000 in
theorem countAll_any (v : Value) (l : List R6) (B : Nat) (w : World) (h : IsRecs encR B w v l) (hB : B ≤ 4398046511104) :
    Calls Try.prog 20 #[v] w fun e w' => e = .returned (.int .i64 (cnt l 0 64)) ∧ Below w.heap.size w w' := by
  obtain ⟨a, cap, rfl⟩ := h.form
  have HC : Hid (Calls Try.prog 30 #[.slice a l.length cap, .int .i64 0, .int .i64 64] w fun e w' => e = .returned (.int .i64 (cnt l 0 64)) ∧ Below w.heap.size w w') := count_any _ l 0 64 B w h hB (by decide) (by decide) (by decide)
  go_enter Try.func20, Try.ntmps20
  go_wp2_with (go_at_call 30; refine HC.out.mono ?_; rintro e w1 ⟨rfl, hw1⟩)
  go_ret
  exact ⟨rfl, hw1⟩

end Go.Proofs.Ytbiipnojhjhejaa
