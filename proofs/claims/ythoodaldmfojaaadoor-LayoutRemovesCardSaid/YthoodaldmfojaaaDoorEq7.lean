/- Two ends compared. No condition. -/
import Derived.Test.YthoodaldmfojaaaDoorKit7
import Derived.Laws.StructEq
namespace Go.Proofs.YthoodaldmfojaaaDoor
open Go.ChangeShapes Go.WideShapes Go.ChangeAt Go.RowKit
theorem equal_end (a b c d : Int) (w : World) : (Op.equalIn 10000 37 (.agg #[.int .i64 a, .int .i64 b]) (.agg #[.int .i64 c, .int .i64 d])).run Tryd.prog w = .ok (((a, b) : EndD) == (c, d)) w := by
  rw [run_equalIn_struct w 9999 37 _ _ (by kernel_rfl) (by kernel_rfl)]
  have e : (((a, b) : EndD) == (c, d)) = ((a == c) && (b == d)) := rfl
  rw [e]
  cases h1 : (a == c) <;> cases h2 : (b == d) <;> simp [Program.fieldsOf, Tryd.underlying37, Op.eqFields, part, Sem.run_bind, Sem.run_ite, run_equalIn_int w _ 3 _ _ _ _ Tryd.underlying3, h1, h2]
theorem eql_end (a b c d : Int) (w : World) : (binOp .eql 37 (.agg #[.int .i64 a, .int .i64 b]) (.agg #[.int .i64 c, .int .i64 d])).run Tryd.prog w = .ok (.bool (((a, b) : EndD) == (c, d))) w := by
  rw [run_eql_struct, equal_end]; rfl
theorem neq_end (a b c d : Int) (w : World) : (binOp .neq 37 (.agg #[.int .i64 a, .int .i64 b]) (.agg #[.int .i64 c, .int .i64 d])).run Tryd.prog w = .ok (.bool (!(((a, b) : EndD) == (c, d)))) w := by
  rw [run_neq_struct, equal_end]; rfl
end Go.Proofs.YthoodaldmfojaaaDoor
