import Derived.Test.YtnileccnalpknaaRigSt

/- Piece 2 of RiggingNames. -/
namespace Go.Proofs.Ytnileccnalpknaa
open Go Go.Ev
set_option maxRecDepth 1000000
theorem p2 : Go.Ev.ranTo keep2 (Go.Ev.evF Try.prog known 600 none (Go.Ev.cutC 2 (Go.Ev.tailC 4 (bodyC))) st1 hp1) = some (st2, hp2) := by kernel_rfl
end Go.Proofs.Ytnileccnalpknaa
