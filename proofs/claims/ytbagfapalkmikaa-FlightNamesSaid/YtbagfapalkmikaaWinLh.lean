import Derived.Test.YtbagfapalkmikaaLawW
import Derived.Test.YtbagfapalkmikaaConvF
import Derived.Laws.StructEq

/- The windows of any ticks, and the widest one, are as the document says. -/
namespace Go.Proofs.Ytbagfapalkmikaa
open Go.RowKit Go.Shelf
set_option linter.unusedSimpArgs false in
theorem eqInW (n : Nat) (a b c d : Int) (w : World) : (Op.equalIn (n + 2) 92 (.agg #[.int .i64 a, .int .i64 b]) (.agg #[.int .i64 c, .int .i64 d])).run Try.prog w = .ok (a == c && b == d) w := by
  have hS : Try.prog.underlying 92 = some (.struct (Try.prog.fieldsOf 92)) := by kernel_rfl
  have hp : Try.prog.stoodInHeld 92 = false := by kernel_rfl
  have he := fun a b w => eqInI n a b w
  rw [show n + 2 = (n + 1) + 1 from rfl, run_equalIn_agg w (n + 1) _ _ _ hS hp]
  simp only [Program.fieldsOf, Try.underlying92]
  go_simp
  by_cases h1 : a = c <;> by_cases h2 : b = d <;> simp [h1, h2]
theorem eqW (a b c d : Int) (w : World) : (binOp .eql 92 (.agg #[.int .i64 a, .int .i64 b]) (.agg #[.int .i64 c, .int .i64 d])).run Try.prog w = .ok (.bool (a == c && b == d)) w := by
  rw [run_eql_struct, show (10000 : Nat) = 9998 + 2 from rfl, eqInW]; rfl
theorem winB_in {a b : Int} : winB a b = (inB a 0 6000 && inB b a 6000) := by
  unfold winB
  rw [Bool.eq_iff_iff]
  simp [inB_true]
  omega
theorem widest_take {x : Int × Int} {l : List (Int × Int)} : (x :: l).foldl stepW x = widest (x :: l) := by
  show l.foldl stepW (stepW x x) = l.foldl stepW x
  rw [show stepW x x = x from if_neg (by omega)]
end Go.Proofs.Ytbagfapalkmikaa
