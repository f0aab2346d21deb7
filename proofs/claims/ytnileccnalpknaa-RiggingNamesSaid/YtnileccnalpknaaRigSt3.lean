import Derived.Test.YtnileccnalpknaaRigSt

/- Piece 3 of RiggingNames. -/
namespace Go.Proofs.Ytnileccnalpknaa
open Go Go.Ev
set_option maxRecDepth 1000000
theorem p3 : Go.Ev.ranTo keep3 (Go.Ev.evF Try.prog known 600 none (Go.Ev.cutC 1 (Go.Ev.tailC 2 (Go.Ev.tailC 4 (bodyC)))) st2 hp2) = some (st3, hp3) := by kernel_rfl
end Go.Proofs.Ytnileccnalpknaa
