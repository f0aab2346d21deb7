import Derived.Test.YtmhnbchfmddhcaaDecFl

/- How the law's arguments are read: words. -/
namespace Go.Proofs.Ytmhnbchfmddhcaa
open Go.RowKit Go.ChangeShapes Go.WideShapes Go.ChangeAt Go.Deep
section
variable {H : Type} {enc : TypeId × Value → H} {W : World} {base : Nat}
set_option maxRecDepth 100000 in
theorem open_words {n : Nat} {k : IntKind} {t e : TypeId} (ht : Try.prog.underlying t = some (.array n e)) (he : Try.prog.underlying e = some (.int k)) (hct : Try.prog.cellsOf t = n) (hce : Try.prog.cellsOf e = 1) {v : Value} {d : DataW H} {p : List MemPlace}
    (hv : Value.okWide Try.prog W .any base t v) (h : DataW.Trod enc Try.prog W 0 (fun _ => true) true t v d p) :
    ∃ l : List Int, l.length = n ∧ (∀ x ∈ l, (Lit.int k x).wf = true) ∧ v = .agg (l.map (fun x => Value.int k x)).toArray := by
  obtain ⟨cs, rfl, hcs⟩ : ∃ cs, v = .agg cs ∧ cs.size = Try.prog.cellsOf t := by
    simp only [Value.okWide, ht] at hv
    obtain ⟨cs, h1, h2, _⟩ := hv
    exact ⟨cs, h1, h2⟩
  obtain ⟨fuel, hf⟩ := h
  simp only [Value.cells] at hf
  obtain ⟨xs, m, _, _, hlen, hxl, hel⟩ := DataW.trod_array ht hf
  rw [hct] at hlen
  rw [hce] at hel
  obtain ⟨l, hl, hq⟩ := list_of (Q := fun i (a : Int) => cs.toList[i]? = some (.int k a) ∧ (Lit.int k a).wf = true) (n := n) (fun i hi => by
    obtain ⟨y, hy⟩ := some_of_lt (i := i) hxl hi
    have hi' := (hel i hi).trans hy
    rw [Nat.mul_one] at hi'
    obtain ⟨c, hc⟩ : ∃ c, cs.toList[i]? = some c := getElem?_lt (by omega)
    rw [drop_of_get hc] at hi'
    obtain ⟨z, hz, _, hw⟩ := DataW.trod_int he hi'
    refine ⟨z, ?_, hw⟩
    rw [hc]
    simpa using hz)
  refine ⟨l, hl, fun x hx => ?_, ?_⟩
  · obtain ⟨i, hi⟩ := List.getElem?_of_mem hx
    exact (hq i x hi).2
  · congr 1
    rw [show cs = cs.toList.toArray from by simp]
    congr 1
    refine List.ext_getElem? fun i => ?_
    rw [List.getElem?_map]
    by_cases hi : i < n
    · obtain ⟨x, hx⟩ := some_of_lt (i := i) hl hi
      rw [hx, (hq i x hx).1]; rfl
    · rw [List.getElem?_eq_none (by omega), List.getElem?_eq_none (by omega)]; rfl
end
end Go.Proofs.Ytmhnbchfmddhcaa
