/- The law RiggingNames answers true. Conditions: none. -/
import Derived.Test.YtnileccnalpknaaRigSt
import Derived.Test.YtnileccnalpknaaRigSt1
import Derived.Test.YtnileccnalpknaaRigSt2
import Derived.Test.YtnileccnalpknaaRigSt3
import Derived.Test.YtnileccnalpknaaRigSt4
import Derived.Test.YtnileccnalpknaaRigSt5
import Derived.Test.YtnileccnalpknaaRigSt6
import Derived.Test.YtnileccnalpknaaRigSt7
import Derived.Test.YtnileccnalpknaaRigSt8
namespace Go.Proofs.Ytnileccnalpknaa.riggingNames
open Go.RowKit Go.ChangeShapes Go.WideShapes Go.ChangeAt Go.Deep

set_option maxRecDepth 1000000
theorem pl : Go.Ev.isTrueA (Go.Ev.obn (Go.Ev.evF Try.prog known 600 none (Go.Ev.tailC 3 (Go.Ev.tailC 2 (Go.Ev.tailC 1 (Go.Ev.tailC 2 (Go.Ev.tailC 1 (Go.Ev.tailC 1 (Go.Ev.tailC 2 (Go.Ev.tailC 4 (bodyC))))))))) st8 hp8) fun r => Go.Ev.fAnswer Try.prog Try.f3 r) = true := by decide +kernel
theorem names_any (W : World) : Calls Try.prog 3 #[] W fun e W' => e = .returned (.bool true) ∧ Below W.heap.size W W' := by
  obtain ⟨x, aF, HF, hd, ha⟩ := Go.Ev.does_last known plain follows pl
  exact Go.Ev.run_does (c := bodyC) Try.func3 rfl (by decide +kernel) (Go.Ev.does_piece known plain follows keep1 (by decide +kernel) 4 600 p1 (Go.Ev.does_piece known plain follows keep2 (by decide +kernel) 2 600 p2 (Go.Ev.does_piece known plain follows keep3 (by decide +kernel) 1 600 p3 (Go.Ev.does_piece known plain follows keep4 (by decide +kernel) 1 600 p4 (Go.Ev.does_piece known plain follows keep5 (by decide +kernel) 2 600 p5 (Go.Ev.does_piece known plain follows keep6 (by decide +kernel) 1 600 p6 (Go.Ev.does_piece known plain follows keep7 (by decide +kernel) 2 600 p7 (Go.Ev.does_piece known plain follows keep8 (by decide +kernel) 3 600 p8 hd)))))))) ha W

theorem isLaw : IsLaw Rows.riggingNamesSpec 0 := ⟨rfl, fun H ds hd => by
  match ds, hd with
  | [], _ => exact ⟨rfl, rfl, rfl⟩⟩
set_option maxRecDepth 100000 in
theorem contract (H : Type) (enc : TypeId × Value → H) (W : World) (base : Nat) (args : Array Value) (ds gs : List (DataW H)) (before : List MemPlace)
    (hval : ∀ (j : Nat) t v, Try.f3.params[j]? = some t → args[j]? = some v → Value.okWide Try.prog W .any base t v)
    (hW : DataW.Whole enc Try.prog Try.f3.params.toList Rows.riggingNamesSpec.vars false W args.toList ds gs before) :
    Calls Try.prog 3 args W fun e W' => ∃ v, e = .returned v ∧ Rows.riggingNamesSpec.post enc Try.prog Try.f3 false true false false W args v W' := by
  have hW' := hW
  obtain ⟨p, q, hA0, hV, rfl, hfz, hnd⟩ := hW
  have hA : DataW.TrodAll enc Try.prog W 0 (fun _ => true) true Try.f3.params.toList args.toList ds p := hA0
  rw [Try.params3] at hA hval
  obtain ⟨hv0, rfl, rfl⟩ := trodAll_nil hA
  obtain rfl : args = #[] := by cases args; simp_all
  refine (names_any W).mono fun e W' ⟨he, hb⟩ => ?_
  subst he
  exact ⟨_, rfl, law_post isLaw rfl (by kernel_rfl) (by kernel_rfl) hW' hb⟩

set_option maxRecDepth 100000 in
theorem lifted (os : Os) (started : os.Started) (H : Type) (enc : TypeId × Value → H) :
    ReturnsInHanded {} Try.checked os 3 .any (Rows.riggingNamesSpec.pre6 enc Try.prog Try.f3 Rows.riggingNamesRow.domain false) (Rows.riggingNamesSpec.post enc Try.prog Try.f3 false true false false) := by
  refine returnsInHanded_of_change (C := Try.checked) own started (by kernel_rfl) Try.func3
    (ChangeSpec.witness6 (enc := enc) (C := Try.checked) false ⟨#[], #[], []⟩ 8 (by kernel_rfl) (by kernel_rfl) (by kernel_rfl) (by kernel_rfl)) ?_
  intro W base args ds gs before hval hW _ _
  exact contract H enc W base args ds gs before hval hW

theorem proved : Rows.RiggingNamesSaid :=
  OpenClaim.holds_of_wide 3 Try.f3 rfl rfl rfl rfl rfl rfl rfl ⟨rfl, rfl, rfl, rfl, rfl⟩ rfl rfl rfl rfl rfl (by kernel_rfl) Try.func3 (by kernel_rfl)
    (of_decide_eq_true (by kernel_rfl)) (by unfold Func.isWrapper; first | (rw [if_pos (by decide +kernel)]; kernel_rfl) | (rw [if_neg (by decide +kernel)]; exact ⟨rfl, rfl⟩))
    (fun os started H enc _ => lifted os started H enc)
end Go.Proofs.Ytnileccnalpknaa.riggingNames
