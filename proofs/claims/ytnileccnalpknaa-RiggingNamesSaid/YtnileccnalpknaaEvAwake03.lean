import Derived.Test.YtnileccnalpknaaEvFrame

/- awake() is true. -/
namespace Go.Proofs.Ytnileccnalpknaa
open Go.RowKit
set_option maxRecDepth 1000000 in
theorem awake_run : Go.Ev.isTrueF (Go.Ev.fCallee Try.prog (Go.Ev.evF Try.prog (Go.Ev.nothingKnown Try.prog) 400) 16 [] Go.Ev.H0) = true := by decide +kernel
theorem awake_any (W : World) : Calls Try.prog 16 #[] W fun e W' => e = .returned (.bool true) ∧ Below W.heap.size W W' := Go.Ev.run_trueF (Go.Ev.nothingKnown Try.prog) plain follows 400 _ awake_run rfl W

/-- What is known of awake. -/
@[reducible] def known : Go.Ev.Known Try.prog := ⟨fun f => match Nat.beq f 16 with
  | true => some true
  | false => none, fun f b h W => by
    cases hf : Nat.beq f 16 with
    | true =>
      simp only [hf, Option.some.injEq] at h
      subst h
      have e : f = 16 := Nat.eq_of_beq_eq_true hf
      subst e
      exact awake_any W
    | false =>
      simp only [hf] at h
      cases h⟩
end Go.Proofs.Ytnileccnalpknaa
