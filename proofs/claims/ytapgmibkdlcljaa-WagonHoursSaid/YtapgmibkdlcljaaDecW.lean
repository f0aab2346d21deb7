import Derived.Test.YtapgmibkdlcljaaDecG
import Derived.Test.YtapgmibkdlcljaaTripM

/- Rules as an argument. -/
namespace Go.Proofs.Ytapgmibkdlcljaa
open Go.RowKit Go.ChangeShapes Go.WideShapes Go.ChangeAt Go.Deep
section
variable {H : Type} {enc : TypeId × Value → H} {W : World} {base : Nat} {sp : Nat → Bool} {hd : Bool}
theorem cellsRules : Try.prog.cellsOf 23 = 4 := by kernel_rfl
set_option maxRecDepth 100000 in
theorem open_rules {v : Value} {d : DataW H} {p : List MemPlace} (hv : Value.okWide Try.prog W .any base 23 v) (h : DataW.Trod enc Try.prog W 0 (fun _ => true) true 23 v d p) :
    ∃ r : Rul, v = .agg #[.int .i64 r.drive, .int .i64 r.stint, .int .i64 r.brk, .int .i64 r.rest] := by
  obtain ⟨cs, rfl, _⟩ := okWide_struct Try.underlying23 hv
  obtain ⟨fuel, hf⟩ := h
  simp only [Value.cells] at hf
  obtain ⟨xs, m, _, _, hlen, hxl, hf⟩ := DataW.trod_struct Try.underlying23 hf
  rw [cellsRules] at hlen
  rw [show cs = cs.toList.toArray from by simp]
  generalize cs.toList = l at *
  match l, hlen with
  | [c0, c1, c2, c3], _ =>
    obtain ⟨y0, hy0⟩ := some_of_lt (i := 0) hxl (by decide)
    obtain ⟨y1, hy1⟩ := some_of_lt (i := 1) hxl (by decide)
    obtain ⟨y2, hy2⟩ := some_of_lt (i := 2) hxl (by decide)
    obtain ⟨y3, hy3⟩ := some_of_lt (i := 3) hxl (by decide)
    obtain ⟨z0, e0⟩ := one_int Try.underlying3 (one_field (o := 0) (t := 3) rfl cells_int ((hf 0 _ rfl).trans hy0))
    obtain ⟨z1, e1⟩ := one_int Try.underlying3 (one_field (o := 1) (t := 3) rfl cells_int ((hf 1 _ rfl).trans hy1))
    obtain ⟨z2, e2⟩ := one_int Try.underlying3 (one_field (o := 2) (t := 3) rfl cells_int ((hf 2 _ rfl).trans hy2))
    obtain ⟨z3, e3⟩ := one_int Try.underlying3 (one_field (o := 3) (t := 3) rfl cells_int ((hf 3 _ rfl).trans hy3))
    cases e0
    cases e1
    cases e2
    cases e3
    exact ⟨⟨z0, z1, z2, z3⟩, rfl⟩
end
end Go.Proofs.Ytapgmibkdlcljaa
