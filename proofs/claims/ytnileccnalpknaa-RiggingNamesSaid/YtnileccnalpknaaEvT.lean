import Derived.Test.YtnileccnalpknaaEvS
import Derived.Below

/- A call without arguments, in whatever world. -/
namespace Go.Ev
set_option linter.unusedSimpArgs false
set_option linter.unusedVariables false
noncomputable section
set_option linter.unusedSectionVars false
open Go Go.RowKit
variable {P : Program} [Known P]

def H0 : AH := ⟨.leaf, 0, 0, 0⟩
theorem wf_H0 : WF H0 := ⟨fun n _ => by simp [H0, AH.get, T.get], by simp [H0, top]⟩

theorem run_closed (hP : Plain P) {D : EvCode → EvDraw} (hD : DrawOk P D) {n : Nat} {f : FuncId} {b : Bool} {H1 : AH} (h : evCall P (ev P D n) f [] H0 = some (.bool b, H1)) (w : World) :
    Calls P f #[] w fun e w' => e = .returned (.bool b) ∧ Below w.heap.size w w' := by
  obtain ⟨_, k⟩ := evCall_ok (ev_ok' hP hD n) h
  have hp : Pre P (fun _ => True) (fun _ => none) H0 H1 w := by
    refine ⟨⟨fun n m t u h => (by cases h), fun n t h => (by cases h), fun n o _ h => ?_⟩, fun _ _ => trivial, fun _ _ => trivial, fun _ _ _ => rfl, wf_H0⟩
    rw [wf_H0.none_ n (Nat.zero_le _)] at h
    cases h
  refine Calls.mono (callsIn_wide.1 (k (fun _ => True) (fun _ => none) w #[] hp (LR.nil.row))) fun e w' hb => ?_
  obtain ⟨ρ1, v', rfl, h1, h2⟩ := hb
  cases h1
  exact ⟨rfl, h2.os, h2.tape, h2.output, h2.size, fun k hk => h2.frame k hk fun n t hn _ => by cases hn⟩

def isTrue : Option (Value × AH) → Bool
  | some (.bool b, _) => b
  | _ => false

theorem run_true (hP : Plain P) {D : EvCode → EvDraw} (hD : DrawOk P D) (n : Nat) (f : FuncId) (h : isTrue (evCall P (ev P D n) f [] H0) = true) (w : World) :
    Calls P f #[] w fun e w' => e = .returned (.bool true) ∧ Below w.heap.size w w' := by
  generalize hr : evCall P (ev P D n) f [] H0 = r at h
  match r, h with
  | some (.bool true, _), _ => exact run_closed hP hD hr w

omit [Known P] in
/-- Asked of all functions at once. -/
theorem plain_of (h : (P.funcs.toList.all fun fn => !fn.body.isSome || !(fn.name == "runtime.NumGoroutine")) = true) : Plain P := by
  intro f fn hf hb
  have := List.all_eq_true.1 h fn (by
    rw [Array.mem_toList_iff]
    exact Array.mem_of_getElem? hf)
  simpa [hb] using this
end
end Go.Ev
