/- What two api.Attr, or two api.Region, compared answer; the contracts of region.isSpan, region.joins and region.clip. -/
import Derived.Test.YtgkniljbemkkhafReg0
import Derived.Laws.StructEq
import Derived.Lib.MinMax
namespace Go.Proofs.Ytgkniljbemkkhaf
open Go.RowKit
set_option linter.unusedSimpArgs false
set_option linter.unusedVariables false

theorem eqGuard_attr (op : BinOp) (a b : Operand) (xs ys : Array Value) (w : World) : (eqGuard op 31 a b (.agg xs) (.agg ys)).run Try.prog w = .ok () w := by
  exact run_eqGuard_agg w op 31 a b xs ys (by kernel_rfl)

theorem eqIn_attr (D : Nat) (a b : Int) (c d : Bool) (x y : Int) (z u : Bool) (w : World) : (Op.equalIn (D + 1 + 1) 31 (.agg #[.int .i64 a, .int .i64 b, .bool c, .bool d]) (.agg #[.int .i64 x, .int .i64 y, .bool z, .bool u])).run Try.prog w = .ok (decide ((a, b, c, d) = (x, y, z, u))) w := by
  have u3 := Try.underlying3
  have a3 := Try.isAgg3
  have z3 := Try.sizeOf3
  have u4 := Try.underlying4
  have a4 := Try.isAgg4
  have z4 := Try.sizeOf4
  have hS : Try.prog.underlying 31 = some (.struct (Try.prog.fieldsOf 31)) := by kernel_rfl
  have hp : Try.prog.stoodInHeld 31 = false := by kernel_rfl
  rw [run_equalIn_agg w (D + 1) 31 _ _ hS hp]
  clear hS
  simp only [Program.fieldsOf, Try.underlying31]
  go_simp
  by_cases h1 : a = x <;> by_cases h2 : b = y <;> cases c <;> cases z <;> cases d <;> cases u <;> simp [h1, h2]

theorem eql_attr (a b : Int) (c d : Bool) (x y : Int) (z u : Bool) (w : World) : (binOp .eql 31 (.agg #[.int .i64 a, .int .i64 b, .bool c, .bool d]) (.agg #[.int .i64 x, .int .i64 y, .bool z, .bool u])).run Try.prog w = .ok (.bool (decide ((a, b, c, d) = (x, y, z, u)))) w := by
  rw [run_eql_struct, show (10000 : Nat) = 9998 + 1 + 1 from rfl, eqIn_attr]
  rfl

theorem eqGuard_region (op : BinOp) (a b : Operand) (xs ys : Array Value) (w : World) : (eqGuard op 36 a b (.agg xs) (.agg ys)).run Try.prog w = .ok () w := by
  exact run_eqGuard_agg w op 36 a b xs ys (by kernel_rfl)

theorem eqIn_region (D : Nat) (f t a b : Int) (c d : Bool) (f' t' x y : Int) (z u : Bool) (w : World) : (Op.equalIn (D + 1 + 1 + 1) 36 (.agg #[.int .i64 f, .int .i64 t, .int .i64 a, .int .i64 b, .bool c, .bool d]) (.agg #[.int .i64 f', .int .i64 t', .int .i64 x, .int .i64 y, .bool z, .bool u])).run Try.prog w = .ok (decide ((f, t, a, b, c, d) = (f', t', x, y, z, u))) w := by
  have u3 := Try.underlying3
  have a3 := Try.isAgg3
  have z3 := Try.sizeOf3
  have a4 := Try.isAgg31
  have z4 := Try.sizeOf31
  have hS : Try.prog.underlying 36 = some (.struct (Try.prog.fieldsOf 36)) := by kernel_rfl
  have hp : Try.prog.stoodInHeld 36 = false := by kernel_rfl
  have hin := eqIn_attr D
  rw [run_equalIn_agg w (D + 1 + 1) 36 _ _ hS hp]
  clear hS
  simp only [Program.fieldsOf, Try.underlying36]
  go_simp
  by_cases h1 : f = f' <;> by_cases h2 : t = t' <;> simp [h1, h2]
  by_cases h3 : a = x <;> by_cases h4 : b = y <;> cases c <;> cases z <;> cases d <;> cases u <;> simp [h3, h4]

theorem neq_region (f t a b : Int) (c d : Bool) (f' t' x y : Int) (z u : Bool) (w : World) : (binOp .neq 36 (.agg #[.int .i64 f, .int .i64 t, .int .i64 a, .int .i64 b, .bool c, .bool d]) (.agg #[.int .i64 f', .int .i64 t', .int .i64 x, .int .i64 y, .bool z, .bool u])).run Try.prog w = .ok (.bool (!decide ((f, t, a, b, c, d) = (f', t', x, y, z, u)))) w := by
  rw [run_neq_struct, show (10000 : Nat) = 9997 + 1 + 1 + 1 from rfl, eqIn_region]
  rfl

set_option maxHeartbeats 400000 in
theorem isSpan_any (f t : Int) (w : World) :
    Calls Try.prog 25 #[.int .i64 f, .int .i64 t] w fun e w' => e = .returned (.bool (isSp f t)) ∧ Below w.heap.size w w' := by
  by_cases h1 : 0 ≤ f
  · by_cases h2 : f < t
    · by_cases h3 : t ≤ 64
      · go_enter Try.func25, Try.ntmps25
        go_wp2
        go_ret
        exact ⟨ret_bool (by simp [isSp, h1, h2, h3]), Below.refl _ _⟩
      · go_enter Try.func25, Try.ntmps25
        go_wp2
        go_ret
        exact ⟨ret_bool (by have h3' : ¬ t ≤ 64 := by omega
                            simp [isSp, h3']), Below.refl _ _⟩
    · go_enter Try.func25, Try.ntmps25
      go_wp2
      go_ret
      exact ⟨ret_bool (by have h2' : ¬ f < t := by omega
                          simp [isSp, h2']), Below.refl _ _⟩
  · go_enter Try.func25, Try.ntmps25
    go_wp2
    go_ret
    exact ⟨ret_bool (by have h1' : ¬ 0 ≤ f := by omega
                        simp [isSp, h1']), Below.refl _ _⟩

theorem isSpan_is {b : Bool} (f t : Int) (w : World) (h : isSp f t = b) :
    Calls Try.prog 25 #[.int .i64 f, .int .i64 t] w fun e w' => e = .returned (.bool b) ∧ Below w.heap.size w w' := h ▸ isSpan_any f t w

set_option maxHeartbeats 400000 in
theorem joins_any (f t a b : Int) (c d : Bool) (f' t' x y : Int) (z u : Bool) (w : World) :
    Calls Try.prog 26 #[.agg #[.int .i64 f, .int .i64 t, .int .i64 a, .int .i64 b, .bool c, .bool d], .agg #[.int .i64 f', .int .i64 t', .int .i64 x, .int .i64 y, .bool z, .bool u]] w fun e w' => e = .returned (.bool (jo (f, t, a, b, c, d) (f', t', x, y, z, u))) ∧ Below w.heap.size w w' := by
  have hbe : Hid (∀ o1 o2, Below w.heap.size w ((w.alloc o1).alloc o2)) := fun o1 o2 => ((Below.refl _ _).alloc (Nat.le_refl _) _).alloc (by simp) _
  have hq := eql_attr a b c d x y z u
  have hg := eqGuard_attr
  obtain ⟨E, hE⟩ : ∃ E, Hid (decide ((a, b, c, d) = (x, y, z, u)) = E) := ⟨_, rfl⟩
  rw [hE.out] at hq
  by_cases h1 : t = f'
  · go_enter Try.func26, Try.ntmps26
    go_wp2
    go_ret
    exact ⟨ret_bool (by rw [← hE.out]; simp [jo, h1]), hbe.out _ _⟩
  · go_enter Try.func26, Try.ntmps26
    go_wp2
    go_ret
    exact ⟨ret_bool (by simp [jo, h1]), hbe.out _ _⟩

theorem joins_is {q : Bool} (f t a b : Int) (c d : Bool) (f' t' x y : Int) (z u : Bool) (w : World) (h : jo (f, t, a, b, c, d) (f', t', x, y, z, u) = q) :
    Calls Try.prog 26 #[.agg #[.int .i64 f, .int .i64 t, .int .i64 a, .int .i64 b, .bool c, .bool d], .agg #[.int .i64 f', .int .i64 t', .int .i64 x, .int .i64 y, .bool z, .bool u]] w fun e w' => e = .returned (.bool q) ∧ Below w.heap.size w w' := h ▸ joins_any f t a b c d f' t' x y z u w

/-- What clip returns. -/
abbrev clipV (f t a b : Int) (c d : Bool) (B : Bool) : Value := .tuple #[.agg #[.int .i64 f, .int .i64 t, .int .i64 a, .int .i64 b, .bool c, .bool d], .bool B]

set_option maxHeartbeats 400000 in
theorem clip_any (f t a b : Int) (c d : Bool) (x y : Int) (w : World) :
    Calls Try.prog 31 #[.agg #[.int .i64 f, .int .i64 t, .int .i64 a, .int .i64 b, .bool c, .bool d], .int .i64 x, .int .i64 y] w fun e w' => e = .returned (clipV (max f x) (min t y) a b c d (clipB (f, t, a, b, c, d) x y)) ∧ Below w.heap.size w w' := by
  obtain ⟨M, hM⟩ : ∃ M, Hid (M = max f x) := ⟨_, rfl⟩
  obtain ⟨m, hm⟩ : ∃ m, Hid (m = min t y) := ⟨_, rfl⟩
  unfold clipB
  simp only
  go_enter Try.func31, Try.ntmps31
  go_wp2
  go_region
  all_goals (try go_wp2)
  all_goals exact bodyPost_ret (v := clipV (max f x) (min t y) a b c d (decide (max f x < min t y))) (by simp [results, Try.results31, go_sem]) rfl ⟨rfl, (((Below.refl _ _).alloc (Nat.le_refl _) _).alloc (by simp) _).drew⟩

end Go.Proofs.Ytgkniljbemkkhaf
