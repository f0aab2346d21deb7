import Derived.Test.YtnileccnalpknaaRigSt

/- Piece 7 of RiggingNames. -/
namespace Go.Proofs.Ytnileccnalpknaa
open Go Go.Ev
set_option maxRecDepth 1000000
theorem p7 : Go.Ev.ranTo keep7 (Go.Ev.evF Try.prog known 600 none (Go.Ev.cutC 2 (Go.Ev.tailC 1 (Go.Ev.tailC 2 (Go.Ev.tailC 1 (Go.Ev.tailC 1 (Go.Ev.tailC 2 (Go.Ev.tailC 4 (bodyC)))))))) st6 hp6) = some (st7, hp7) := by kernel_rfl
end Go.Proofs.Ytnileccnalpknaa
