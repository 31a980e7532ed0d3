/- Four keys compared with four keys; the contract of framewardenkeep.alive10. -/
import Derived.Test.YtbiipnojhjhejaaJKeys
import Derived.Laws.StructEq
import Derived.ChangeKeysEq
namespace Go.Proofs.Ytbiipnojhjhejaa
set_option maxRecDepth 100000
open Go.RowKit
set_option linter.unusedSimpArgs false
set_option linter.unusedVariables false

theorem eqGuard_key (op : BinOp) (a b : Operand) (xs ys : Array Value) (w : World) : (eqGuard op 29 a b (.agg xs) (.agg ys)).run Try.prog w = .ok () w := by
  exact run_eqGuard_agg w op 29 a b xs ys (by kernel_rfl)

theorem eqGuard_keys (op : BinOp) (a b : Operand) (xs ys : Array Value) (w : World) : (eqGuard op 30 a b (.agg xs) (.agg ys)).run Try.prog w = .ok () w := by
  exact run_eqGuard_agg w op 30 a b xs ys (by kernel_rfl)

theorem eqIn_key (D : Nat) (a : Bool) (b : Int) (x : Bool) (y : Int) (w : World) : (Op.equalIn (D + 1 + 1) 29 (.agg #[.bool a, .int .i64 b]) (.agg #[.bool x, .int .i64 y])).run Try.prog w = .ok (decide ((a, b) = (x, y))) w := by
  have u3 := Try.underlying3
  have a3 := Try.isAgg3
  have z3 := Try.sizeOf3
  have u4 := Try.underlying4
  have a4 := Try.isAgg4
  have z4 := Try.sizeOf4
  have hS : Try.prog.underlying 29 = some (.struct (Try.prog.fieldsOf 29)) := by kernel_rfl
  have hp : Try.prog.stoodInHeld 29 = false := by kernel_rfl
  rw [run_equalIn_agg w (D + 1) 29 _ _ hS hp]
  clear hS
  simp only [Program.fieldsOf, Try.underlying29]
  go_simp
  by_cases h2 : b = y <;> cases a <;> cases x <;> simp [h2]

theorem eql_key (a : Bool) (b : Int) (x : Bool) (y : Int) (w : World) : (binOp .eql 29 (.agg #[.bool a, .int .i64 b]) (.agg #[.bool x, .int .i64 y])).run Try.prog w = .ok (.bool (decide ((a, b) = (x, y)))) w := by
  rw [run_eql_struct, show (10000 : Nat) = 9998 + 1 + 1 from rfl, eqIn_key]
  rfl

theorem part_keys (l : K8) (w : World) :
    (part 29 #[.bool l.1, .int .i64 l.2.1, .bool l.2.2.1, .int .i64 l.2.2.2.1, .bool l.2.2.2.2.1, .int .i64 l.2.2.2.2.2.1, .bool l.2.2.2.2.2.2.1, .int .i64 l.2.2.2.2.2.2.2] 0).run Try.prog w = .ok (.agg #[.bool l.1, .int .i64 l.2.1]) w ∧
    (part 29 #[.bool l.1, .int .i64 l.2.1, .bool l.2.2.1, .int .i64 l.2.2.2.1, .bool l.2.2.2.2.1, .int .i64 l.2.2.2.2.2.1, .bool l.2.2.2.2.2.2.1, .int .i64 l.2.2.2.2.2.2.2] 2).run Try.prog w = .ok (.agg #[.bool l.2.2.1, .int .i64 l.2.2.2.1]) w ∧
    (part 29 #[.bool l.1, .int .i64 l.2.1, .bool l.2.2.1, .int .i64 l.2.2.2.1, .bool l.2.2.2.2.1, .int .i64 l.2.2.2.2.2.1, .bool l.2.2.2.2.2.2.1, .int .i64 l.2.2.2.2.2.2.2] 4).run Try.prog w = .ok (.agg #[.bool l.2.2.2.2.1, .int .i64 l.2.2.2.2.2.1]) w ∧
    (part 29 #[.bool l.1, .int .i64 l.2.1, .bool l.2.2.1, .int .i64 l.2.2.2.1, .bool l.2.2.2.2.1, .int .i64 l.2.2.2.2.2.1, .bool l.2.2.2.2.2.2.1, .int .i64 l.2.2.2.2.2.2.2] 6).run Try.prog w = .ok (.agg #[.bool l.2.2.2.2.2.2.1, .int .i64 l.2.2.2.2.2.2.2]) w := by
  refine ⟨?_, ?_, ?_, ?_⟩ <;> kernel_rfl

/-- Keys are what they are. -/
theorem eql_keys (t0 : Bool) (d0 : Int) (t1 : Bool) (d1 : Int) (t2 : Bool) (d2 : Int) (t3 : Bool) (d3 : Int) (w : World) : (binOp .eql 30 (.agg #[.bool t0, .int .i64 d0, .bool t1, .int .i64 d1, .bool t2, .int .i64 d2, .bool t3, .int .i64 d3]) (.agg #[.bool t0, .int .i64 d0, .bool t1, .int .i64 d1, .bool t2, .int .i64 d2, .bool t3, .int .i64 d3])).run Try.prog w = .ok (.bool true) w := by
  obtain ⟨i, hi⟩ : ∃ i, Try.prog.info? 29 = some i := ⟨_, rfl⟩
  rw [run_eql_struct, show (10000 : Nat) = 9997 + 1 + 1 + 1 from rfl, run_equalIn_array w (9997 + 1 + 1) _ _ Try.underlying30 hi, cells_key]
  obtain ⟨h0, h1, h2, h3⟩ := part_keys (t0, d0, t1, d1, t2, d2, t3, d3) w
  simp only at h0 h1 h2 h3
  have e0 := eqIn_key 9997 t0 d0 t0 d0 w
  have e1 := eqIn_key 9997 t1 d1 t1 d1 w
  have e2 := eqIn_key 9997 t2 d2 t2 d2 w
  have e3 := eqIn_key 9997 t3 d3 t3 d3 w
  simp only [decide_true] at e0 e1 e2 e3
  simp only [show List.range 4 = [0, 1, 2, 3] from rfl, Op.eqItems, Sem.run_bind, Sem.run_ite, Sem.run_pure, Nat.reduceMul, h0, h1, h2, h3, e0, e1, e2, e3, Result.andThen_ok, Bool.not_true, Bool.false_eq_true, if_false]

end Go.Proofs.Ytbiipnojhjhejaa
