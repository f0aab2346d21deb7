/- The law FlightSteady answers true for every flight, every release and any words, and leaves what came in as it was. Conditions: none. -/
import Derived.Test.YtmhnbchfmddhcaaDecFl
import Derived.Test.YtmhnbchfmddhcaaSteadyA
namespace Go.Proofs.Ytmhnbchfmddhcaa.flightSteady
open Go.RowKit Go.ChangeShapes Go.WideShapes Go.ChangeAt Go.Deep

theorem isLaw : IsLaw Rows.flightSteadySpec 5 := ⟨rfl, fun H ds hd => by
  match ds, hd with
  | [_, _, _, _, _], _ => exact ⟨rfl, rfl, rfl⟩⟩
set_option maxRecDepth 100000 in
theorem contract (H : Type) (enc : TypeId × Value → H) (W : World) (base : Nat) (args : Array Value) (ds gs : List (DataW H)) (before : List MemPlace)
    (hval : ∀ (j : Nat) t v, Try.f7.params[j]? = some t → args[j]? = some v → Value.okWide Try.prog W .any base t v)
    (hW : DataW.Whole enc Try.prog Try.f7.params.toList Rows.flightSteadySpec.vars false W args.toList ds gs before) :
    Calls Try.prog 7 args W fun e W' => ∃ v, e = .returned v ∧ Rows.flightSteadySpec.post enc Try.prog Try.f7 false true false false W args v W' := by
  have hW' := hW
  obtain ⟨p, q, hA0, hV, rfl, hfz, hnd⟩ := hW
  have hA : DataW.TrodAll enc Try.prog W 0 (fun _ => true) true Try.f7.params.toList args.toList ds p := hA0
  rw [Try.params7] at hA hval
  obtain ⟨v0, vs0, d0, ds0, p0, q0, hv0, rfl, rfl, h0, hA1⟩ := trodAll_cons hA
  obtain ⟨v1, vs1, d1, ds1, p1, q1, rfl, rfl, rfl, h1, hA2⟩ := trodAll_cons hA1
  obtain ⟨v2, vs2, d2, ds2, p2, q2, rfl, rfl, rfl, h2, hA3⟩ := trodAll_cons hA2
  obtain ⟨v3, vs3, d3, ds3, p3, q3, rfl, rfl, rfl, h3, hA4⟩ := trodAll_cons hA3
  obtain ⟨v4, vs4, d4, ds4, p4, q4, rfl, rfl, rfl, h4, hA5⟩ := trodAll_cons hA4
  obtain ⟨rfl, rfl, rfl⟩ := trodAll_nil hA5
  obtain rfl : args = #[v0, v1, v2, v3, v4] := by cases args; simp_all
  obtain ⟨f, A, c, rfl, hr, hl, hc⟩ := open_flight (hval 0 _ v0 rfl rfl) h0
  obtain ⟨rel, rfl, rfl, rfl, hrw⟩ := open_int Try.underlying73 (hval 1 _ v1 rfl rfl) h1
  obtain ⟨r1, rfl, rfl, rfl, hr1w⟩ := open_int Try.underlying73 (hval 2 _ v2 rfl rfl) h2
  obtain ⟨r2, rfl, rfl, rfl, hr2w⟩ := open_int Try.underlying73 (hval 3 _ v3 rfl rfl) h3
  obtain ⟨ws, wsl, wsb, rfl⟩ := open_words (n := 8) (k := .u8) (e := 5) Try.underlying83 Try.underlying5 (by kernel_rfl) (by kernel_rfl) (hval 4 _ v4 rfl rfl) h4
  match ws, wsl, wsb with
  | [a0, a1, a2, a3, a4, a5, a6, a7], _, wsb =>
  have g0 := u8_bounds (wsb a0 (by simp))
  have g1 := u8_bounds (wsb a1 (by simp))
  have g2 := u8_bounds (wsb a2 (by simp))
  have g3 := u8_bounds (wsb a3 (by simp))
  have g4 := u8_bounds (wsb a4 (by simp))
  have g5 := u8_bounds (wsb a5 (by simp))
  have g6 := u8_bounds (wsb a6 (by simp))
  have g7 := u8_bounds (wsb a7 (by simp))
  refine (steady_any f A c rel r1 r2 a0 a1 a2 a3 a4 a5 a6 a7 W hr (u16_bounds hrw) (u16_bounds hr1w) (u16_bounds hr2w) g0 g1 g2 g3 g4 g5 g6 g7).mono fun e W' ⟨he, hb⟩ => ?_
  subst he
  exact ⟨_, rfl, law_post isLaw rfl (by kernel_rfl) (by kernel_rfl) hW' hb⟩

set_option maxRecDepth 100000 in
theorem lifted (os : Os) (started : os.Started) (H : Type) (enc : TypeId × Value → H) :
    ReturnsInHanded {} Try.checked os 7 .any (Rows.flightSteadySpec.pre6 enc Try.prog Try.f7 Rows.flightSteadyRow.domain false) (Rows.flightSteadySpec.post enc Try.prog Try.f7 false true false false) := by
  refine returnsInHanded_of_change (C := Try.checked) own started (by kernel_rfl) Try.func7
    (ChangeSpec.witness6 (enc := enc) (C := Try.checked) false ⟨#[], #[.agg #[.int .i64 0, .int .i64 0, .int .i64 0, .int .i64 0, .int .i64 0, .int .i64 0, .int .i64 0, .int .i64 0, .int .i64 0, .slice none 0 0, .int .i64 0, .int .i64 0, .int .i64 0, .int .i64 0, .int .i64 0], .int .u16 0, .int .u16 0, .int .u16 0, .agg #[.int .u8 0, .int .u8 0, .int .u8 0, .int .u8 0, .int .u8 0, .int .u8 0, .int .u8 0, .int .u8 0]], []⟩ 8 (by kernel_rfl) (by kernel_rfl) (by kernel_rfl) (by kernel_rfl)) ?_
  intro W base args ds gs before hval hW _ _
  exact contract H enc W base args ds gs before hval hW

theorem proved : Rows.FlightSteadySaid :=
  OpenClaim.holds_of_wide 7 Try.f7 rfl rfl rfl rfl rfl rfl rfl ⟨rfl, rfl, rfl, rfl, rfl⟩ rfl rfl rfl rfl rfl (by kernel_rfl) Try.func7 (by kernel_rfl)
    (of_decide_eq_true (by kernel_rfl)) (by unfold Func.isWrapper; first | (rw [if_pos (by decide +kernel)]; kernel_rfl) | (rw [if_neg (by decide +kernel)]; exact ⟨rfl, rfl⟩))
    (fun os started H enc _ => lifted os started H enc)
end Go.Proofs.Ytmhnbchfmddhcaa.flightSteady
