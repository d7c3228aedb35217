/- How the program compares two pairs of whole numbers. No condition. -/
import Derived.Test.YtbdadckedhcibaaKit
import Derived.ChangeKeysEq
import Derived.Laws.StructEq
namespace Go.Proofs.Ytbdadckedhcibaa
open Go.RowKit

theorem guard44 : Try.prog.eqGuardType Try.prog.depth 44 = false := by kernel_rfl
theorem elem44 : (Try.prog.info? 3).isSome = true := by kernel_rfl

theorem part0 (x y : Int) (w : World) : (part 3 #[.int .i64 x, .int .i64 y] (0 * 1)).run Try.prog w = .ok (.int .i64 x) w := by kernel_rfl
theorem part1 (x y : Int) (w : World) : (part 3 #[.int .i64 x, .int .i64 y] (1 * 1)).run Try.prog w = .ok (.int .i64 y) w := by kernel_rfl

theorem equal44 (x y u v : Int) (w : World) : (Op.equalIn 10000 44 (.agg #[.int .i64 x, .int .i64 y]) (.agg #[.int .i64 u, .int .i64 v])).run Try.prog w = .ok (x == u && y == v) w := by
  obtain ⟨i, hi⟩ := Option.isSome_iff_exists.1 elem44
  rw [run_equalIn_array w 9999 _ _ Try.underlying44 hi, cells3]
  have e3 : ∀ (a b : Int) (w : World), (Op.equalIn 9999 3 (.int .i64 a) (.int .i64 b)).run Try.prog w = .ok (a == b) w := fun a b w => run_equalIn_int w 9998 3 .i64 .i64 a b Try.underlying3
  rw [show List.range 2 = [0, 1] from rfl]
  simp only [Op.eqItems, Sem.run_bind, part0, part1, e3, Result.andThen_ok, Sem.run_ite, Sem.run_pure]
  cases h1 : (x == u) <;> cases h2 : (y == v) <;> simp

theorem neq44 (x y u v : Int) (w : World) : (binOp .neq 44 (.agg #[.int .i64 x, .int .i64 y]) (.agg #[.int .i64 u, .int .i64 v])).run Try.prog w = .ok (.bool (!(x == u && y == v))) w := by
  rw [run_neq_struct, equal44]; rfl
theorem eql44 (x y u v : Int) (w : World) : (binOp .eql 44 (.agg #[.int .i64 x, .int .i64 y]) (.agg #[.int .i64 u, .int .i64 v])).run Try.prog w = .ok (.bool (x == u && y == v)) w := by
  rw [run_eql_struct, equal44]; rfl
end Go.Proofs.Ytbdadckedhcibaa
