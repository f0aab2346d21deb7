import Derived.Test.YtibaindlbpfecaaSpares
import Derived.ChangeKeysEq

namespace Go.Proofs.Ytibaindlbpfecaa
open Go.RowKit

theorem int_cells : Try.prog.cellsOf 3 = 1 := by kernel_rfl
theorem int_part (xs : Array Value) (k : Nat) (v : Int) (h : xs[k]? = some (.int .i64 v)) (w : World) : (part 3 xs (k * 1)).run Try.prog w = .ok (.int .i64 v) w := by
  simp [part, h]
set_option linter.unusedSimpArgs false in
theorem eqIn_pair (x y i m : Int) (w : World) : (Op.equalIn 10000 93 (.agg #[.int .i64 x, .int .i64 y]) (.agg #[.int .i64 i, .int .i64 m])).run Try.prog w = .ok (x == i && y == m) w := by
  obtain ⟨i0, hi0, hz0, hz1, hz2⟩ := info_parts infoI
  have he0 : ∀ (d : Nat) (a b : Int) (w : World), (Op.equalIn (d + 1) 3 (.int .i64 a) (.int .i64 b)).run Try.prog w = .ok (a == b) w := fun d a b w => by simp [Op.equalIn]
  have he := fun a b w => he0 9998 a b w
  rw [show (10000 : Nat) = 9999 + 1 from rfl, run_equalIn_array w 9999 _ _ Try.underlying93 hi0, int_cells]
  have p0 := fun w => int_part #[.int .i64 x, .int .i64 y] 0 x rfl w
  have p1 := fun w => int_part #[.int .i64 x, .int .i64 y] 1 y rfl w
  have p2 := fun w => int_part #[.int .i64 i, .int .i64 m] 0 i rfl w
  have p3 := fun w => int_part #[.int .i64 i, .int .i64 m] 1 m rfl w
  simp only [Nat.reduceAdd] at he
  rw [show List.range 2 = [0, 1] from rfl]
  cases h1 : (x == i) <;> cases h2 : (y == m)
  all_goals
    simp only [Op.eqItems, Sem.run_bind, p0, p1, p2, p3, he, h1, h2, Result.andThen_ok, if_true, if_false, Bool.false_eq_true, Sem.run_pure, Bool.not_true, Bool.not_false, Bool.and_true, Bool.and_false, Bool.true_and, Bool.false_and]
theorem eq_pair (x y i m : Int) (w : World) : (binOp .eql 93 (.agg #[.int .i64 x, .int .i64 y]) (.agg #[.int .i64 i, .int .i64 m])).run Try.prog w = .ok (.bool (x == i && y == m)) w := by
  rw [run_eql_struct, eqIn_pair]; rfl
end Go.Proofs.Ytibaindlbpfecaa
