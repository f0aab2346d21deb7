import Derived.Test.YtapgmibkdlcljaaGreatEvFrame

/- awake() is true. -/
namespace Go.Proofs.YtapgmibkdlcljaaGreat
open Go.RowKit
set_option maxRecDepth 1000000 in
theorem awake_run : Go.Ev.isTrueF (Go.Ev.fCallee Tryz.prog (Go.Ev.evF Tryz.prog (Go.Ev.nothingKnown Tryz.prog) 300) 15 [] Go.Ev.H0) = true := by decide +kernel
theorem awake_any (W : World) : Calls Tryz.prog 15 #[] W fun e W' => e = .returned (.bool true) ∧ Below W.heap.size W W' := Go.Ev.run_trueF (Go.Ev.nothingKnown Tryz.prog) plain follows 300 _ awake_run rfl W

/-- What is known of awake. -/
@[reducible] def known : Go.Ev.Known Tryz.prog := ⟨fun f => match Nat.beq f 15 with
  | true => some true
  | false => none, fun f b h W => by
    cases hf : Nat.beq f 15 with
    | true =>
      simp only [hf, Option.some.injEq] at h
      subst h
      have e : f = 15 := Nat.eq_of_beq_eq_true hf
      subst e
      exact awake_any W
    | false =>
      simp only [hf] at h
      cases h⟩
end Go.Proofs.YtapgmibkdlcljaaGreat
