import Derived.Test.YtnileccnalpknaaRigSt

/- Piece 1 of RiggingNames. -/
namespace Go.Proofs.Ytnileccnalpknaa
open Go Go.Ev
set_option maxRecDepth 1000000
theorem p1 : Go.Ev.ranTo keep1 (Go.Ev.evF Try.prog known 600 none (Go.Ev.cutC 4 (bodyC)) ⟨⟨.leaf, Try.f3.ntmps⟩, []⟩ Go.Ev.H0) = some (st1, hp1) := by kernel_rfl
end Go.Proofs.Ytnileccnalpknaa
