/-
  '==' and '!=' at [2]int: what the model answers.
-/
import Derived.Test.YtimjepakdldacaaPairs
import Derived.Laws.StructEq
namespace Go.Proofs.Ytimjepakdldacaa
open Go.RowKit Fm
set_option linter.unusedVariables false

theorem pairIn (x1 x2 y1 y2 : Int) (w : World) : (Op.equalIn 10000 34 (.agg #[.int .i64 x1, .int .i64 x2]) (.agg #[.int .i64 y1, .int .i64 y2])).run Try.prog w = .ok (x1 == y1 && x2 == y2) w := by
  have u3 := Try.underlying3
  have a3 := Try.isAgg3
  have z3 := Try.sizeOf3
  rw [show (10000 : Nat) = 9998 + 1 + 1 from rfl, Op.equalIn]
  simp only [Sem.run_bind, run_underlying Try.underlying34, Result.andThen_ok]
  go_simp
  rw [show List.range' 0 2 = [0, 1] from rfl]
  simp only [List.forIn_cons, List.forIn_nil, Sem.run_bind, a3, Result.andThen_ok, Bool.false_eq_true, if_false]
  simp only [List.getElem?_cons_zero, List.getElem?_cons_succ, Sem.run_pure, Result.andThen_ok]
  rw [show (9999 : Nat) = 9998 + 1 from rfl]
  simp only [run_equalIn_int w 9998 3 .i64 .i64 _ _ u3, Result.andThen_ok]
  by_cases h1 : x1 = y1
  · subst h1
    by_cases h2 : x2 = y2
    · subst h2
      simp [Sem.run_bind, run_equalIn_int w 9998 3 .i64 .i64 _ _ u3]
    · simp [Sem.run_bind, run_equalIn_int w 9998 3 .i64 .i64 _ _ u3, h2]
  · simp [h1]
theorem pairGuard : Try.prog.eqGuardType Try.prog.depth 34 = false := by kernel_rfl
theorem pair_eql (x1 x2 y1 y2 : Int) (w : World) : (Go.binOp .eql 34 (.agg #[.int .i64 x1, .int .i64 x2]) (.agg #[.int .i64 y1, .int .i64 y2])).run Try.prog w = .ok (.bool (x1 == y1 && x2 == y2)) w := by
  rw [run_eql_struct, pairIn]; rfl
theorem pair_neq (x1 x2 y1 y2 : Int) (w : World) : (Go.binOp .neq 34 (.agg #[.int .i64 x1, .int .i64 x2]) (.agg #[.int .i64 y1, .int .i64 y2])).run Try.prog w = .ok (.bool (!(x1 == y1 && x2 == y2))) w := by
  rw [run_neq_struct, pairIn]; rfl
end Go.Proofs.Ytimjepakdldacaa
