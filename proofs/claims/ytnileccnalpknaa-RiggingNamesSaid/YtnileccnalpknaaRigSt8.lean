import Derived.Test.YtnileccnalpknaaRigSt

/- Piece 8 of RiggingNames. -/
namespace Go.Proofs.Ytnileccnalpknaa
open Go Go.Ev
set_option maxRecDepth 1000000
theorem p8 : Go.Ev.ranTo keep8 (Go.Ev.evF Try.prog known 600 none (Go.Ev.cutC 3 (Go.Ev.tailC 2 (Go.Ev.tailC 1 (Go.Ev.tailC 2 (Go.Ev.tailC 1 (Go.Ev.tailC 1 (Go.Ev.tailC 2 (Go.Ev.tailC 4 (bodyC))))))))) st7 hp7) = some (st8, hp8) := by kernel_rfl
end Go.Proofs.Ytnileccnalpknaa
