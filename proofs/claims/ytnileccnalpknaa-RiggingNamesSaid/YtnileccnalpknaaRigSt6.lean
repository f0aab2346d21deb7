import Derived.Test.YtnileccnalpknaaRigSt

/- Piece 6 of RiggingNames. -/
namespace Go.Proofs.Ytnileccnalpknaa
open Go Go.Ev
set_option maxRecDepth 1000000
theorem p6 : Go.Ev.ranTo keep6 (Go.Ev.evF Try.prog known 600 none (Go.Ev.cutC 1 (Go.Ev.tailC 2 (Go.Ev.tailC 1 (Go.Ev.tailC 1 (Go.Ev.tailC 2 (Go.Ev.tailC 4 (bodyC))))))) st5 hp5) = some (st6, hp6) := by kernel_rfl
end Go.Proofs.Ytnileccnalpknaa
