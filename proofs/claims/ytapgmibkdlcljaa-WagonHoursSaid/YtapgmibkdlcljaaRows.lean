/-
  No cell of these rows narrows 'for every input' (looked for: loops, veiled, ifaces, maps, wideKeys, modest, calm, conditions, laid).
  DERIVED. THE GIVEN ROWS OF THIS SEAT. 7 by the template 'for every input the law returns true; each argument reads behind the call as it read before'; 0 by the template 'total and deterministic' (their statements: YtapgmibkdlcljaaTotals.lean).
  GIVEN WITH THE SEED: the statements are not yours to turn. If you find one false, say at which input.
  Laid BY PROGRAM, IN A SANDBOX (cutbox-rows.mjs): the forced cells as the released guide's own fill.sh prints them over the translation e1aad9d55e8f3be7… (all of the seat's roots in one cut). By AI agents, Wed Nov 11 2026. No macro, syntax, notation, axiom, sorry.
-/
import Derived.Test.YtapgmibkdlcljaaChecked
import GoSem.Claim
import GoSem.ClaimJoined
import GoSem.ClaimMapViews
import Derived.JoinedTies
import Derived.KernelRfl
namespace Go.Proofs.Ytapgmibkdlcljaa
/- THE CELL 'sum', in the pinned program and in every row, IS THE sha256 OF THE DUMP (.gsa) THAT YtapgmibkdlcljaaProg.lean LOADS. Nothing in Lean hashes anything: it is a label: what it is worth is what the hold of that sum in a sandbox is worth. -/
noncomputable def Try.pinned : Pinned := { name := "ytapgmibkdlcljaa", sum := "e1aad9d55e8f3be7dbc113fb9fcf2a8bd0d5e0053645ba5758646ad2471c4f54", checked := Try.checked }
namespace Rows
def none {H : Type} : Left H := { results := [], args := [] }

/-- 'bigtoplaw05.WagonTrips': WHATEVER THE INPUT: true; the input reads as it did. -/
def wagonTripsSpec : ChangeSpec := { name := "wagonTrips", fn := fun _ => fun
  | [d1, d2] => { results := [.lit (.bool true)], args := [d1, d2] }
  | _ => none }
def wagonTripsRow : OpenClaim := { program := "ytapgmibkdlcljaa", sum := "e1aad9d55e8f3be7dbc113fb9fcf2a8bd0d5e0053645ba5758646ad2471c4f54", func := "bigtop/bigtoplaw05.WagonTrips", spec := "wagonTrips", unfollowed := true, recurses := true, plainKeys := false, apart := false }
def WagonTripsSaid : Prop := wagonTripsRow.holds Try.pinned (OpenSpec.ofChange wagonTripsSpec)

/-- ITS FALSE NEIGHBOUR: 'it returns false'. Refute it at one input. -/
def wagonTripsWrong : ChangeSpec := { name := "wagonTrips", fn := fun _ => fun
  | [d1, d2] => { results := [.lit (.bool false)], args := [d1, d2] }
  | _ => none }
def WagonTripsWrongFalsely : Prop := wagonTripsRow.holds Try.pinned (OpenSpec.ofChange wagonTripsWrong)

/-- 'bigtoplaw05.WagonHours': WHATEVER THE INPUT: true; the input reads as it did. -/
def wagonHoursSpec : ChangeSpec := { name := "wagonHours", fn := fun _ => fun
  | [d1, d2, d3, d4] => { results := [.lit (.bool true)], args := [d1, d2, d3, d4] }
  | _ => none }
def wagonHoursRow : OpenClaim := { program := "ytapgmibkdlcljaa", sum := "e1aad9d55e8f3be7dbc113fb9fcf2a8bd0d5e0053645ba5758646ad2471c4f54", func := "bigtop/bigtoplaw05.WagonHours", spec := "wagonHours", unfollowed := true, recurses := true, plainKeys := false, apart := false }
def WagonHoursSaid : Prop := wagonHoursRow.holds Try.pinned (OpenSpec.ofChange wagonHoursSpec)

/-- ITS FALSE NEIGHBOUR: 'it returns false'. Refute it at one input. -/
def wagonHoursWrong : ChangeSpec := { name := "wagonHours", fn := fun _ => fun
  | [d1, d2, d3, d4] => { results := [.lit (.bool false)], args := [d1, d2, d3, d4] }
  | _ => none }
def WagonHoursWrongFalsely : Prop := wagonHoursRow.holds Try.pinned (OpenSpec.ofChange wagonHoursWrong)

/-- 'bigtoplaw05.WagonAxles': WHATEVER THE INPUT: true; the input reads as it did. -/
def wagonAxlesSpec : ChangeSpec := { name := "wagonAxles", fn := fun _ => fun
  | [d1, d2, d3, d4] => { results := [.lit (.bool true)], args := [d1, d2, d3, d4] }
  | _ => none }
def wagonAxlesRow : OpenClaim := { program := "ytapgmibkdlcljaa", sum := "e1aad9d55e8f3be7dbc113fb9fcf2a8bd0d5e0053645ba5758646ad2471c4f54", func := "bigtop/bigtoplaw05.WagonAxles", spec := "wagonAxles", unfollowed := true, recurses := true, plainKeys := false, apart := false }
def WagonAxlesSaid : Prop := wagonAxlesRow.holds Try.pinned (OpenSpec.ofChange wagonAxlesSpec)

/-- ITS FALSE NEIGHBOUR: 'it returns false'. Refute it at one input. -/
def wagonAxlesWrong : ChangeSpec := { name := "wagonAxles", fn := fun _ => fun
  | [d1, d2, d3, d4] => { results := [.lit (.bool false)], args := [d1, d2, d3, d4] }
  | _ => none }
def WagonAxlesWrongFalsely : Prop := wagonAxlesRow.holds Try.pinned (OpenSpec.ofChange wagonAxlesWrong)

/-- 'bigtoplaw05.WagonRight': WHATEVER THE INPUT: true; the input reads as it did. -/
def wagonRightSpec : ChangeSpec := { name := "wagonRight", fn := fun _ => fun
  | [d1, d2, d3] => { results := [.lit (.bool true)], args := [d1, d2, d3] }
  | _ => none }
def wagonRightRow : OpenClaim := { program := "ytapgmibkdlcljaa", sum := "e1aad9d55e8f3be7dbc113fb9fcf2a8bd0d5e0053645ba5758646ad2471c4f54", func := "bigtop/bigtoplaw05.WagonRight", spec := "wagonRight", unfollowed := true, recurses := true, plainKeys := false, apart := false }
def WagonRightSaid : Prop := wagonRightRow.holds Try.pinned (OpenSpec.ofChange wagonRightSpec)

/-- ITS FALSE NEIGHBOUR: 'it returns false'. Refute it at one input. -/
def wagonRightWrong : ChangeSpec := { name := "wagonRight", fn := fun _ => fun
  | [d1, d2, d3] => { results := [.lit (.bool false)], args := [d1, d2, d3] }
  | _ => none }
def WagonRightWrongFalsely : Prop := wagonRightRow.holds Try.pinned (OpenSpec.ofChange wagonRightWrong)

/-- 'bigtoplaw05.WagonBears': WHATEVER THE INPUT: true; the input reads as it did. -/
def wagonBearsSpec : ChangeSpec := { name := "wagonBears", fn := fun _ => fun
  | [d1, d2, d3, d4, d5] => { results := [.lit (.bool true)], args := [d1, d2, d3, d4, d5] }
  | _ => none }
def wagonBearsRow : OpenClaim := { program := "ytapgmibkdlcljaa", sum := "e1aad9d55e8f3be7dbc113fb9fcf2a8bd0d5e0053645ba5758646ad2471c4f54", func := "bigtop/bigtoplaw05.WagonBears", spec := "wagonBears", unfollowed := true, recurses := true, plainKeys := false, apart := false }
def WagonBearsSaid : Prop := wagonBearsRow.holds Try.pinned (OpenSpec.ofChange wagonBearsSpec)

/-- ITS FALSE NEIGHBOUR: 'it returns false'. Refute it at one input. -/
def wagonBearsWrong : ChangeSpec := { name := "wagonBears", fn := fun _ => fun
  | [d1, d2, d3, d4, d5] => { results := [.lit (.bool false)], args := [d1, d2, d3, d4, d5] }
  | _ => none }
def WagonBearsWrongFalsely : Prop := wagonBearsRow.holds Try.pinned (OpenSpec.ofChange wagonBearsWrong)

/-- 'bigtoplaw05.WagonBridges': WHATEVER THE INPUT: true; the input reads as it did. -/
def wagonBridgesSpec : ChangeSpec := { name := "wagonBridges", fn := fun _ => fun
  | [d1, d2, d3, d4, d5, d6, d7] => { results := [.lit (.bool true)], args := [d1, d2, d3, d4, d5, d6, d7] }
  | _ => none }
def wagonBridgesRow : OpenClaim := { program := "ytapgmibkdlcljaa", sum := "e1aad9d55e8f3be7dbc113fb9fcf2a8bd0d5e0053645ba5758646ad2471c4f54", func := "bigtop/bigtoplaw05.WagonBridges", spec := "wagonBridges", unfollowed := true, recurses := true, plainKeys := false, apart := false }
def WagonBridgesSaid : Prop := wagonBridgesRow.holds Try.pinned (OpenSpec.ofChange wagonBridgesSpec)

/-- ITS FALSE NEIGHBOUR: 'it returns false'. Refute it at one input. -/
def wagonBridgesWrong : ChangeSpec := { name := "wagonBridges", fn := fun _ => fun
  | [d1, d2, d3, d4, d5, d6, d7] => { results := [.lit (.bool false)], args := [d1, d2, d3, d4, d5, d6, d7] }
  | _ => none }
def WagonBridgesWrongFalsely : Prop := wagonBridgesRow.holds Try.pinned (OpenSpec.ofChange wagonBridgesWrong)

/-- 'bigtoplaw05.WagonClimbs': WHATEVER THE INPUT: true; the input reads as it did. -/
def wagonClimbsSpec : ChangeSpec := { name := "wagonClimbs", fn := fun _ => fun
  | [d1, d2, d3, d4] => { results := [.lit (.bool true)], args := [d1, d2, d3, d4] }
  | _ => none }
def wagonClimbsRow : OpenClaim := { program := "ytapgmibkdlcljaa", sum := "e1aad9d55e8f3be7dbc113fb9fcf2a8bd0d5e0053645ba5758646ad2471c4f54", func := "bigtop/bigtoplaw05.WagonClimbs", spec := "wagonClimbs", unfollowed := true, recurses := true, plainKeys := false, apart := false }
def WagonClimbsSaid : Prop := wagonClimbsRow.holds Try.pinned (OpenSpec.ofChange wagonClimbsSpec)

/-- ITS FALSE NEIGHBOUR: 'it returns false'. Refute it at one input. -/
def wagonClimbsWrong : ChangeSpec := { name := "wagonClimbs", fn := fun _ => fun
  | [d1, d2, d3, d4] => { results := [.lit (.bool false)], args := [d1, d2, d3, d4] }
  | _ => none }
def WagonClimbsWrongFalsely : Prop := wagonClimbsRow.holds Try.pinned (OpenSpec.ofChange wagonClimbsWrong)

/- THE SECOND FORM. 'bulk': how many values and letters a reading holds, each counted each time it is reached (what is shared counts as often as it is met; a slice's spare places count too). A statement '..UptoSaid' is the law's where the arguments, and the package variables that the reading takes, are together of bulk at most 1048576: NARROWER than '..Said'. Prove '..Said' where nothing that the law and all that it calls make is longer than what came in: it says more and counts as full. Else prove '..UptoSaid'. A law counts once. -/
mutual
def uptoBulk {H : Type} : DataW H → Nat
  | .lit (.string bytes) => bytes.length + 1
  | .lit _ => 1
  | .nil => 1
  | .ptr d => uptoBulk d + 1
  | .slice elems spare => uptoBulkAll elems + uptoBulkAll spare + 1
  | .agg parts => uptoBulkAll parts + 1
  | .iface _ d => uptoBulk d + 1
  | .map entries => uptoBulkEntries entries + 1
  | .held _ => 1
def uptoBulkAll {H : Type} : List (DataW H) → Nat
  | [] => 0
  | d :: r => uptoBulk d + uptoBulkAll r
def uptoBulkEntries {H : Type} : List (Lit × DataW H) → Nat
  | [] => 0
  | x :: r => uptoBulkEntry x + uptoBulkEntries r
def uptoBulkEntry {H : Type} : Lit × DataW H → Nat
  | (.string bytes, d) => bytes.length + uptoBulk d + 1
  | (_, d) => uptoBulk d + 1
 end
def uptoSmall : (H : Type) → List (DataW H) → Bool := fun _ ds => decide (uptoBulkAll ds ≤ 1048576)
def OpenSpec.upto (s : _root_.Go.ChangeSpec) : _root_.Go.OpenSpec := { _root_.Go.OpenSpec.ofChange s with cond := some uptoSmall }

/-- 'bigtoplaw05.WagonTrips', WHERE WHAT IT READS IS OF BULK AT MOST 1048576: true; the input reads as it did. -/
def wagonTripsUptoRow : OpenClaim := { program := "ytapgmibkdlcljaa", sum := "e1aad9d55e8f3be7dbc113fb9fcf2a8bd0d5e0053645ba5758646ad2471c4f54", func := "bigtop/bigtoplaw05.WagonTrips", spec := "wagonTrips", unfollowed := true, recurses := true, plainKeys := false, apart := false, narrowed := true }
def WagonTripsUptoSaid : Prop := wagonTripsUptoRow.holds Try.pinned (OpenSpec.upto wagonTripsSpec)

/-- 'bigtoplaw05.WagonHours', WHERE WHAT IT READS IS OF BULK AT MOST 1048576: true; the input reads as it did. -/
def wagonHoursUptoRow : OpenClaim := { program := "ytapgmibkdlcljaa", sum := "e1aad9d55e8f3be7dbc113fb9fcf2a8bd0d5e0053645ba5758646ad2471c4f54", func := "bigtop/bigtoplaw05.WagonHours", spec := "wagonHours", unfollowed := true, recurses := true, plainKeys := false, apart := false, narrowed := true }
def WagonHoursUptoSaid : Prop := wagonHoursUptoRow.holds Try.pinned (OpenSpec.upto wagonHoursSpec)

/-- 'bigtoplaw05.WagonAxles', WHERE WHAT IT READS IS OF BULK AT MOST 1048576: true; the input reads as it did. -/
def wagonAxlesUptoRow : OpenClaim := { program := "ytapgmibkdlcljaa", sum := "e1aad9d55e8f3be7dbc113fb9fcf2a8bd0d5e0053645ba5758646ad2471c4f54", func := "bigtop/bigtoplaw05.WagonAxles", spec := "wagonAxles", unfollowed := true, recurses := true, plainKeys := false, apart := false, narrowed := true }
def WagonAxlesUptoSaid : Prop := wagonAxlesUptoRow.holds Try.pinned (OpenSpec.upto wagonAxlesSpec)

/-- 'bigtoplaw05.WagonRight', WHERE WHAT IT READS IS OF BULK AT MOST 1048576: true; the input reads as it did. -/
def wagonRightUptoRow : OpenClaim := { program := "ytapgmibkdlcljaa", sum := "e1aad9d55e8f3be7dbc113fb9fcf2a8bd0d5e0053645ba5758646ad2471c4f54", func := "bigtop/bigtoplaw05.WagonRight", spec := "wagonRight", unfollowed := true, recurses := true, plainKeys := false, apart := false, narrowed := true }
def WagonRightUptoSaid : Prop := wagonRightUptoRow.holds Try.pinned (OpenSpec.upto wagonRightSpec)

/-- 'bigtoplaw05.WagonBears', WHERE WHAT IT READS IS OF BULK AT MOST 1048576: true; the input reads as it did. -/
def wagonBearsUptoRow : OpenClaim := { program := "ytapgmibkdlcljaa", sum := "e1aad9d55e8f3be7dbc113fb9fcf2a8bd0d5e0053645ba5758646ad2471c4f54", func := "bigtop/bigtoplaw05.WagonBears", spec := "wagonBears", unfollowed := true, recurses := true, plainKeys := false, apart := false, narrowed := true }
def WagonBearsUptoSaid : Prop := wagonBearsUptoRow.holds Try.pinned (OpenSpec.upto wagonBearsSpec)

/-- 'bigtoplaw05.WagonBridges', WHERE WHAT IT READS IS OF BULK AT MOST 1048576: true; the input reads as it did. -/
def wagonBridgesUptoRow : OpenClaim := { program := "ytapgmibkdlcljaa", sum := "e1aad9d55e8f3be7dbc113fb9fcf2a8bd0d5e0053645ba5758646ad2471c4f54", func := "bigtop/bigtoplaw05.WagonBridges", spec := "wagonBridges", unfollowed := true, recurses := true, plainKeys := false, apart := false, narrowed := true }
def WagonBridgesUptoSaid : Prop := wagonBridgesUptoRow.holds Try.pinned (OpenSpec.upto wagonBridgesSpec)

/-- 'bigtoplaw05.WagonClimbs', WHERE WHAT IT READS IS OF BULK AT MOST 1048576: true; the input reads as it did. -/
def wagonClimbsUptoRow : OpenClaim := { program := "ytapgmibkdlcljaa", sum := "e1aad9d55e8f3be7dbc113fb9fcf2a8bd0d5e0053645ba5758646ad2471c4f54", func := "bigtop/bigtoplaw05.WagonClimbs", spec := "wagonClimbs", unfollowed := true, recurses := true, plainKeys := false, apart := false, narrowed := true }
def WagonClimbsUptoSaid : Prop := wagonClimbsUptoRow.holds Try.pinned (OpenSpec.upto wagonClimbsSpec)

end Rows
end Go.Proofs.Ytapgmibkdlcljaa
