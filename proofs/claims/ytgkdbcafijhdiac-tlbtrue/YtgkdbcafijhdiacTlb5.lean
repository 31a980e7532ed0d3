/- The contracts of slices.Equal and slices.Clone at api.Cached. -/
import Derived.Test.YtgkdbcafijhdiacTlb4
import Derived.Laws.StructEq
namespace Go.Proofs.Ytgkdbcafijhdiac
open Go.RowKit
set_option linter.unusedSimpArgs false
set_option linter.unusedVariables false

theorem eqGuard_cached (op : BinOp) (a b : Operand) (xs ys : Array Value) (w : World) : (eqGuard op 40 a b (.agg xs) (.agg ys)).run Try.prog w = .ok () w := by
  exact run_eqGuard_agg w op 40 a b xs ys (by kernel_rfl)

theorem eqIn_centry (D : Nat) (c d z u : Int) (w : World) : (Op.equalIn (D + 1 + 1) 27 (.agg #[.int .i64 c, .int .i64 d]) (.agg #[.int .i64 z, .int .i64 u])).run Try.prog w = .ok (c == z && d == u) w := by
  have u3 := Try.underlying3
  have a3 := Try.isAgg3
  have z3 := Try.sizeOf3
  have hS : Try.prog.underlying 27 = some (.struct (Try.prog.fieldsOf 27)) := by kernel_rfl
  have hp : Try.prog.stoodInHeld 27 = false := by kernel_rfl
  rw [run_equalIn_agg w (D + 1) 27 _ _ hS hp]
  clear hS
  simp only [Program.fieldsOf, Try.underlying27]
  go_simp
  by_cases h1 : c = z <;> by_cases h2 : d = u <;> simp [h1, h2]

theorem eqIn_cached (D : Nat) (a b c d x y z u : Int) (w : World) : (Op.equalIn (D + 1 + 1 + 1) 40 (.agg #[.int .i64 a, .int .i64 b, .int .i64 c, .int .i64 d]) (.agg #[.int .i64 x, .int .i64 y, .int .i64 z, .int .i64 u])).run Try.prog w = .ok (decide ((a, b, c, d) = (x, y, z, u))) w := by
  have u3 := Try.underlying3
  have a3 := Try.isAgg3
  have z3 := Try.sizeOf3
  have a4 := Try.isAgg27
  have z4 := Try.sizeOf27
  have hS : Try.prog.underlying 40 = some (.struct (Try.prog.fieldsOf 40)) := by kernel_rfl
  have hp : Try.prog.stoodInHeld 40 = false := by kernel_rfl
  have hin := eqIn_centry D
  rw [run_equalIn_agg w (D + 1 + 1) 40 _ _ hS hp]
  clear hS
  simp only [Program.fieldsOf, Try.underlying40]
  go_simp
  by_cases h1 : a = x <;> by_cases h2 : b = y <;> by_cases h3 : c = z <;> by_cases h4 : d = u <;> simp [h1, h2, h3, h4]

theorem neq_cached (a b c d x y z u : Int) (w : World) : (binOp .neq 40 (.agg #[.int .i64 a, .int .i64 b, .int .i64 c, .int .i64 d]) (.agg #[.int .i64 x, .int .i64 y, .int .i64 z, .int .i64 u])).run Try.prog w = .ok (.bool (!decide ((a, b, c, d) = (x, y, z, u)))) w := by
  rw [run_neq_struct, show (10000 : Nat) = 9997 + 1 + 1 + 1 from rfl, eqIn_cached]
  rfl

theorem eql_cached (a b c d x y z u : Int) (w : World) : (binOp .eql 40 (.agg #[.int .i64 a, .int .i64 b, .int .i64 c, .int .i64 d]) (.agg #[.int .i64 x, .int .i64 y, .int .i64 z, .int .i64 u])).run Try.prog w = .ok (.bool (decide ((a, b, c, d) = (x, y, z, u)))) w := by
  rw [run_eql_struct, show (10000 : Nat) = 9997 + 1 + 1 + 1 from rfl, eqIn_cached]
  rfl

end Go.Proofs.Ytgkdbcafijhdiac
