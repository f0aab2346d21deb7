import Derived.Test.YtbagfapalkmikaaCatches

/- Of a list of sure catches: its length, its numbers, and that of a cycle later. -/
namespace Go.Proofs.Ytbagfapalkmikaa
open Go.RowKit Go.Shelf
theorem sure_mem {f : Flt} {r x : Nat} (h : x ∈ sureL f r) : x ≤ r + 300 := by
  unfold sureL sureTo at h
  obtain ⟨t, _, rfl⟩ := List.mem_map.1 h
  have := t.2
  omega
theorem sure_cycle {f : Flt} {r : Nat} : sureL f (r + f.cycle.length) = (sureL f r).map (· + f.cycle.length) := by
  have hh : ∀ t, f.hitB (r + f.cycle.length) t = f.hitB r t := by
    intro t
    unfold Flt.hitB Flt.hands
    rw [show r + f.cycle.length + t = (r + t) + f.cycle.length by omega, Nat.add_mod_right]
  unfold sureL sureTo
  rw [List.map_map]
  simp only [hh]
  congr 1
  funext t
  simp only [Function.comp]
  omega
theorem sureL_len {f : Flt} {r : Nat} (hm : f.most ≤ 300) : (sureL f r).length ≤ 301 := Nat.le_trans sureTo_len (borneL_len hm)
theorem ints_get {l : List Nat} {k x : Nat} (h : l[k]? = some x) : (ints l)[k]? = some (x : Int) := by unfold ints; rw [List.getElem?_map, h]; rfl
end Go.Proofs.Ytbagfapalkmikaa
