/- How the law's arguments are read: tests. -/
import Derived.Test.YthelogdgfhfdcaaFrame
import Derived.Test.YthelogdgfhfdcaaRef1
namespace Go.Proofs.Ythelogdgfhfdcaa
open Go.RowKit Go.ChangeShapes Go.WideShapes Go.ChangeAt Go.Deep
section
variable {H : Type} {enc : TypeId × Value → H} {W : World} {base : Nat} {sp : Nat → Bool} {hd : Bool}
theorem cellsRT : Try.prog.cellsOf 108 = 4 := by kernel_rfl
theorem one_int {n : Nat} {t : TypeId} (ht : Try.prog.underlying t = some (.int .i64)) {cs : List Value} {x : DataW H × List MemPlace} (h : DataW.trod enc Try.prog W base sp hd n t cs = some x) : ∃ z : Int, cs = [.int .i64 z] := by
  obtain ⟨z, hz, _⟩ := DataW.trod_int ht h
  exact ⟨z, hz⟩
theorem one_bool {n : Nat} {t : TypeId} (ht : Try.prog.underlying t = some .bool) {cs : List Value} {x : DataW H × List MemPlace} (h : DataW.trod enc Try.prog W base sp hd n t cs = some x) : ∃ z : Bool, cs = [.bool z] := by
  obtain ⟨z, hz, _⟩ := DataW.trod_bool ht h
  exact ⟨z, hz⟩
theorem one_field {cs : List Value} {o : Nat} {c : Value} {t : TypeId} {n : Nat} {y : DataW H × List MemPlace} (hc : cs[o]? = some c) (hk : Try.prog.cellsOf t = 1)
    (h : DataW.trod enc Try.prog W base sp hd n t ((cs.drop o).take (Try.prog.cellsOf t)) = some y) : DataW.trod enc Try.prog W base sp hd n t [c] = some y := by
  rw [hk, drop_of_get hc] at h
  exact h
theorem cells_int : Try.prog.cellsOf 3 = 1 := by kernel_rfl
theorem cells_bool : Try.prog.cellsOf 4 = 1 := by kernel_rfl
theorem some_of_lt {α : Type} {l : List α} {i n : Nat} (hl : l.length = n) (hi : i < n) : ∃ x, l[i]? = some x := getElem?_lt (by omega)
set_option maxRecDepth 100000 in
theorem dec_test (n : Nat) (cs : List Value) (x : DataW H × List MemPlace) (h : DataW.trod enc Try.prog W base sp hd n 108 cs = some x) : ∃ t : Tst, cs = encT t := by
  obtain ⟨xs, m, _, _, hlen, hxl, hf⟩ := DataW.trod_struct Try.underlying108 h
  rw [cellsRT] at hlen
  match cs, hlen with
  | [c0, c1, c2, c3], _ =>
    obtain ⟨y0, hy0⟩ := some_of_lt (i := 0) hxl (by decide)
    obtain ⟨y1, hy1⟩ := some_of_lt (i := 1) hxl (by decide)
    obtain ⟨y2, hy2⟩ := some_of_lt (i := 2) hxl (by decide)
    obtain ⟨y3, hy3⟩ := some_of_lt (i := 3) hxl (by decide)
    obtain ⟨z0, e0⟩ := one_int Try.underlying3 (one_field (o := 0) (t := 3) rfl cells_int ((hf 0 _ rfl).trans hy0))
    obtain ⟨z1, e1⟩ := one_int Try.underlying3 (one_field (o := 1) (t := 3) rfl cells_int ((hf 1 _ rfl).trans hy1))
    obtain ⟨z2, e2⟩ := one_int Try.underlying3 (one_field (o := 2) (t := 3) rfl cells_int ((hf 2 _ rfl).trans hy2))
    obtain ⟨z3, e3⟩ := one_bool Try.underlying4 (one_field (o := 3) (t := 4) rfl cells_bool ((hf 3 _ rfl).trans hy3))
    cases e0
    cases e1
    cases e2
    cases e3
    exact ⟨⟨z0, z1, z2, z3⟩, rfl⟩
end
end Go.Proofs.Ythelogdgfhfdcaa
