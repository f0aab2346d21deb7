import Derived.Test.YtnileccnalpknaaRigSt

/- Piece 5 of RiggingNames. -/
namespace Go.Proofs.Ytnileccnalpknaa
open Go Go.Ev
set_option maxRecDepth 1000000
theorem p5 : Go.Ev.ranTo keep5 (Go.Ev.evF Try.prog known 600 none (Go.Ev.cutC 2 (Go.Ev.tailC 1 (Go.Ev.tailC 1 (Go.Ev.tailC 2 (Go.Ev.tailC 4 (bodyC)))))) st4 hp4) = some (st5, hp5) := by kernel_rfl
end Go.Proofs.Ytnileccnalpknaa
