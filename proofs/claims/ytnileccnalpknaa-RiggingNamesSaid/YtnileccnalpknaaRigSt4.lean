import Derived.Test.YtnileccnalpknaaRigSt

/- Piece 4 of RiggingNames. -/
namespace Go.Proofs.Ytnileccnalpknaa
open Go Go.Ev
set_option maxRecDepth 1000000
theorem p4 : Go.Ev.ranTo keep4 (Go.Ev.evF Try.prog known 600 none (Go.Ev.cutC 1 (Go.Ev.tailC 1 (Go.Ev.tailC 2 (Go.Ev.tailC 4 (bodyC))))) st3 hp3) = some (st4, hp4) := by kernel_rfl
end Go.Proofs.Ytnileccnalpknaa
