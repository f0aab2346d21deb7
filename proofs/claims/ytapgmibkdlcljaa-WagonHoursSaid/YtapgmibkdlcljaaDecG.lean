import Derived.Test.YtapgmibkdlcljaaEvFrame
import Derived.Test.YtapgmibkdlcljaaBase

/- Arguments taken apart. -/
namespace Go.Proofs.Ytapgmibkdlcljaa
open Go.RowKit Go.ChangeShapes Go.WideShapes Go.ChangeAt Go.Deep
section
variable {H : Type} {enc : TypeId × Value → H} {W : World} {base : Nat} {sp : Nat → Bool} {hd : Bool}
theorem one_int {n : Nat} {t : TypeId} (ht : Try.prog.underlying t = some (.int .i64)) {cs : List Value} {x : DataW H × List MemPlace} (h : DataW.trod enc Try.prog W base sp hd n t cs = some x) : ∃ z : Int, cs = [.int .i64 z] := by
  obtain ⟨z, hz, _⟩ := DataW.trod_int ht h
  exact ⟨z, hz⟩
theorem one_bool {n : Nat} {t : TypeId} (ht : Try.prog.underlying t = some .bool) {cs : List Value} {x : DataW H × List MemPlace} (h : DataW.trod enc Try.prog W base sp hd n t cs = some x) : ∃ z : Bool, cs = [.bool z] := by
  obtain ⟨z, hz, _⟩ := DataW.trod_bool ht h
  exact ⟨z, hz⟩
theorem one_field {cs : List Value} {o : Nat} {c : Value} {t : TypeId} {n : Nat} {y : DataW H × List MemPlace} (hc : cs[o]? = some c) (hk : Try.prog.cellsOf t = 1)
    (h : DataW.trod enc Try.prog W base sp hd n t ((cs.drop o).take (Try.prog.cellsOf t)) = some y) : DataW.trod enc Try.prog W base sp hd n t [c] = some y := by
  rw [hk, drop_of_get hc] at h
  exact h
theorem cells_int : Try.prog.cellsOf 3 = 1 := by kernel_rfl
theorem cells_bool : Try.prog.cellsOf 4 = 1 := by kernel_rfl
theorem some_of_lt {α : Type} {l : List α} {i n : Nat} (hl : l.length = n) (hi : i < n) : ∃ x, l[i]? = some x := ⟨l[i]'(by omega), List.getElem?_eq_getElem (by omega)⟩
theorem u8_bounds {n : Int} (h : (Lit.int .u8 n).wf = true) : 0 ≤ n ∧ n ≤ 255 := by
  simpa [Lit.wf, IntKind.min, IntKind.max, IntKind.signed, IntKind.bits] using h
theorem u16_bounds {n : Int} (h : (Lit.int .u16 n).wf = true) : 0 ≤ n ∧ n ≤ 65535 := by
  simpa [Lit.wf, IntKind.min, IntKind.max, IntKind.signed, IntKind.bits] using h
end
end Go.Proofs.Ytapgmibkdlcljaa
