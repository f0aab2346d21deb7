import Derived.Test.YtkeicglphmnilaaDec2

namespace Go.Proofs.Ytkeicglphmnilaa
open Go.RowKit Go.ChangeShapes Go.WideShapes Go.ChangeAt Go.Deep
section
variable {H : Type} {enc : TypeId × Value → H} {W : World} {base : Nat}
theorem cellsRB : Try.prog.cellsOf 52 = 2 := by kernel_rfl
theorem cellsSI : Try.prog.cellsOf 50 = 1 := by kernel_rfl
set_option maxRecDepth 100000 in
theorem dec_bal (n : Nat) (cs : List Value) (x : DataW H × List MemPlace) (h : DataW.trod enc Try.prog W 0 (fun _ => true) true n 52 cs = some x) :
    ∃ (whole : Int) (A : Option Addr) (c : Nat) (ps : List Int), cs = [.int .i64 whole, .slice A ps.length c] ∧ RS encI 1 W W.heap.size A ps ∧ ps.length ≤ c ∧ c ≤ maxLen := by
  obtain ⟨xs, m, _, _, hlen, hxl, hf⟩ := DataW.trod_struct Try.underlying52 h
  rw [cellsRB] at hlen
  match cs, hlen with
  | [c0, c1], _ =>
    obtain ⟨y0, hy0⟩ := some_of_lt (i := 0) hxl (by decide)
    obtain ⟨y1, hy1⟩ := some_of_lt (i := 1) hxl (by decide)
    obtain ⟨z0, e0⟩ := one_int Try.underlying3 (one_field (o := 0) (t := 3) rfl cells_int ((hf 0 _ rfl).trans hy0))
    obtain ⟨A, c, l, rfl, h1, h2, h3⟩ := cell_rows encI (by decide) (fun _ => rfl) Try.underlying50 cells_int (one_field (o := 1) (t := 50) rfl cellsSI ((hf 1 _ rfl).trans hy1)) (fun n cs x h => one_int Try.underlying3 h)
    cases e0
    exact ⟨z0, A, c, l, rfl, h1, h2, h3⟩
set_option maxRecDepth 100000 in
theorem open_bal {v : Value} {d : DataW H} {p : List MemPlace} (hv : Value.okWide Try.prog W .any base 52 v) (h : DataW.Trod enc Try.prog W 0 (fun _ => true) true 52 v d p) :
    ∃ (whole : Int) (A : Option Addr) (c : Nat) (ps : List Int), v = .agg #[.int .i64 whole, .slice A ps.length c] ∧ RS encI 1 W W.heap.size A ps ∧ ps.length ≤ c ∧ c ≤ maxLen := by
  obtain ⟨cs, rfl, _⟩ := okWide_struct Try.underlying52 hv
  obtain ⟨fuel, hf⟩ := h
  obtain ⟨z, A, c, l, hu, h1, h2, h3⟩ := dec_bal _ _ _ hf
  refine ⟨z, A, c, l, ?_, h1, h2, h3⟩
  simp only [Value.cells] at hu
  rw [show cs = cs.toList.toArray from by simp, hu]
end
end Go.Proofs.Ytkeicglphmnilaa
