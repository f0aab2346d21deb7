import Derived.Test.YtibaindlbpfecaaSaferL
import Derived.Test.YtibaindlbpfecaaDec2

/- The law CanvasSafer, of whatever comes in. -/
namespace Go.Proofs.Ytibaindlbpfecaa
open Go.RowKit Go.ChangeShapes Go.WideShapes Go.ChangeAt Go.Deep
theorem safer_any (A : Option Addr) (c : Nat) (l : List Tst) (A' : Option Addr) (c' : Nat) (t : List Head) (A2 : Option Addr) (c2 : Nat) (wind : List Vec) (hd gy less deep : Int) (more : Guy) (h8 : 0 ≤ hd ∧ hd ≤ 255) (g8 : 0 ≤ gy ∧ gy ≤ 255) (l16 : 0 ≤ less ∧ less ≤ 65535) (d16 : 0 ≤ deep ∧ deep ≤ 65535) (w : World) (hr : RS encT 4 w w.heap.size A l) (ht : RH w w.heap.size A' t) (hw : RS encV 2 w w.heap.size A2 wind) (hl : l.length ≤ maxLen) (htl : t.length ≤ maxLen) :
    Calls Try.prog 3 #[.slice A l.length c, .slice A' t.length c', .slice A2 wind.length c2, .int .u8 hd, .int .u8 gy, .int .u16 less, .int .u16 deep, .agg #[.int .i64 more.x, .int .i64 more.y, .int .i64 more.down, .int .i64 more.soil, .int .i64 more.depth]] w fun e w' => e = .returned (.bool true) ∧ Below w.heap.size w w' := by
  cases hf : fewB l t with
  | false => exact safer_many A c l A' c' t A2 c2 wind hd gy less deep more w ht hl htl hf
  | true =>
    by_cases h12 : wind.length ≤ 12
    · by_cases hE : windyE l t wind = 0
      · cases hs : standsB l t wind with
        | false => exact safer_falls A c l A' c' t A2 c2 wind hd gy less deep more w hr ht hw hf h12 hE hs
        | true => exact safer_main A c l A' c' t A2 c2 wind hd gy less deep more h8 g8 l16 d16 w hr ht hw hf h12 hE hs
      · exact safer_blown A c l A' c' t A2 c2 wind hd gy less deep more w hr ht hw hl htl hf h12 hE
    · exact safer_long A c l A' c' t A2 c2 wind hd gy less deep more w ht hl htl hf (by omega)
section
variable {H : Type} {enc : TypeId × Value → H} {W : World} {base : Nat} {sp : Nat → Bool}
set_option maxRecDepth 100000 in
theorem open_guy {v : Value} {d : DataW H} {p : List MemPlace} (hv : Value.okWide Try.prog W .any base 28 v) (h : DataW.Trod enc Try.prog W 0 (fun _ => true) true 28 v d p) : ∃ u : Guy, v = .agg #[.int .i64 u.x, .int .i64 u.y, .int .i64 u.down, .int .i64 u.soil, .int .i64 u.depth] := by
  obtain ⟨cs, rfl, _⟩ := okWide_struct Try.underlying28 hv
  obtain ⟨fuel, hf⟩ := h
  obtain ⟨u, hu⟩ := dec_guy _ _ _ hf
  refine ⟨u, ?_⟩
  simp only [Value.cells] at hu
  rw [show cs = cs.toList.toArray from by simp, hu]
  rfl
end
end Go.Proofs.Ytibaindlbpfecaa
