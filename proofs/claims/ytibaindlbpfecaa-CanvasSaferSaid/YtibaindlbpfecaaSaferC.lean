/- The law CanvasSafer answers true for every list of tests, tent and wind, any guy and any choice of its other arguments, and leaves what came in as it was. Conditions: none. -/
import Derived.Test.YtibaindlbpfecaaDec2
import Derived.Test.YtibaindlbpfecaaSaferE
namespace Go.Proofs.Ytibaindlbpfecaa.canvasSafer
open Go.RowKit Go.ChangeShapes Go.WideShapes Go.ChangeAt Go.Deep

theorem isLaw : IsLaw Rows.canvasSaferSpec 8 := ⟨rfl, fun H ds hd => by
  match ds, hd with
  | [_, _, _, _, _, _, _, _], _ => exact ⟨rfl, rfl, rfl⟩⟩
set_option maxRecDepth 100000 in
theorem contract (H : Type) (enc : TypeId × Value → H) (W : World) (base : Nat) (args : Array Value) (ds gs : List (DataW H)) (before : List MemPlace)
    (hval : ∀ (j : Nat) t v, Try.f3.params[j]? = some t → args[j]? = some v → Value.okWide Try.prog W .any base t v)
    (hW : DataW.Whole enc Try.prog Try.f3.params.toList Rows.canvasSaferSpec.vars false W args.toList ds gs before) :
    Calls Try.prog 3 args W fun e W' => ∃ v, e = .returned v ∧ Rows.canvasSaferSpec.post enc Try.prog Try.f3 false true false false W args v W' := by
  have hW' := hW
  obtain ⟨p, q, hA0, hV, rfl, hfz, hnd⟩ := hW
  have hA : DataW.TrodAll enc Try.prog W 0 (fun _ => true) true Try.f3.params.toList args.toList ds p := hA0
  rw [Try.params3] at hA hval
  obtain ⟨v0, vs0, d0, ds0, p0, q0, hv0, rfl, rfl, h0, hA1⟩ := trodAll_cons hA
  obtain ⟨v1, vs1, d1, ds1, p1, q1, rfl, rfl, rfl, h1, hA2⟩ := trodAll_cons hA1
  obtain ⟨v2, vs2, d2, ds2, p2, q2, rfl, rfl, rfl, h2, hA3⟩ := trodAll_cons hA2
  obtain ⟨v3, vs3, d3, ds3, p3, q3, rfl, rfl, rfl, h3, hA4⟩ := trodAll_cons hA3
  obtain ⟨v4, vs4, d4, ds4, p4, q4, rfl, rfl, rfl, h4, hA5⟩ := trodAll_cons hA4
  obtain ⟨v5, vs5, d5, ds5, p5, q5, rfl, rfl, rfl, h5, hA6⟩ := trodAll_cons hA5
  obtain ⟨v6, vs6, d6, ds6, p6, q6, rfl, rfl, rfl, h6, hA7⟩ := trodAll_cons hA6
  obtain ⟨v7, vs7, d7, ds7, p7, q7, rfl, rfl, rfl, h7, hA8⟩ := trodAll_cons hA7
  obtain ⟨rfl, rfl, rfl⟩ := trodAll_nil hA8
  obtain rfl : args = #[v0, v1, v2, v3, v4, v5, v6, v7] := by cases args; simp_all
  obtain ⟨A, c, l, rfl, hr, hl, hc⟩ := open_rows (sz := 4) encT (by decide) (fun _ => rfl) Try.underlying22 cellsRT (hval 0 _ v0 rfl rfl) h0 (fun n cs x h => dec_test n cs x h)
  obtain ⟨A', c', t, rfl, ht, htl, htc⟩ := open_tent (hval 1 _ v1 rfl rfl) h1
  obtain ⟨A2, c2, wind, rfl, hw, hwl, hwc⟩ := open_rows (sz := 2) encV (by decide) (fun _ => rfl) Try.underlying25 cellsRV (hval 2 _ v2 rfl rfl) h2 (fun n cs x h => dec_vec n cs x h)
  obtain ⟨hd, rfl, rfl, rfl, w1⟩ := open_int Try.underlying5 (hval 3 _ v3 rfl rfl) h3
  obtain ⟨gy, rfl, rfl, rfl, w2⟩ := open_int Try.underlying5 (hval 4 _ v4 rfl rfl) h4
  obtain ⟨less, rfl, rfl, rfl, w3⟩ := open_int Try.underlying26 (hval 5 _ v5 rfl rfl) h5
  obtain ⟨deep, rfl, rfl, rfl, w4⟩ := open_int Try.underlying26 (hval 6 _ v6 rfl rfl) h6
  obtain ⟨more, rfl⟩ := open_guy (hval 7 _ v7 rfl rfl) h7
  refine (safer_any A c l A' c' t A2 c2 wind hd gy less deep more (u8_bounds w1) (u8_bounds w2) (u16_bounds w3) (u16_bounds w4) W hr ht hw (Nat.le_trans hl hc) (Nat.le_trans htl htc)).mono fun e W' ⟨he, hb⟩ => ?_
  subst he
  exact ⟨_, rfl, law_post isLaw rfl (by kernel_rfl) (by kernel_rfl) hW' hb⟩

set_option maxRecDepth 100000 in
theorem lifted (os : Os) (started : os.Started) (H : Type) (enc : TypeId × Value → H) :
    ReturnsInHanded {} Try.checked os 3 .any (Rows.canvasSaferSpec.pre6 enc Try.prog Try.f3 Rows.canvasSaferRow.domain false) (Rows.canvasSaferSpec.post enc Try.prog Try.f3 false true false false) := by
  refine returnsInHanded_of_change (C := Try.checked) own started (by kernel_rfl) Try.func3
    (ChangeSpec.witness6 (enc := enc) (C := Try.checked) false ⟨#[], #[.slice none 0 0, .slice none 0 0, .slice none 0 0, .int .u8 0, .int .u8 0, .int .u16 0, .int .u16 0, .agg #[.int .i64 0, .int .i64 0, .int .i64 0, .int .i64 0, .int .i64 0]], []⟩ 8 (by kernel_rfl) (by kernel_rfl) (by kernel_rfl) (by kernel_rfl)) ?_
  intro W base args ds gs before hval hW _ _
  exact contract H enc W base args ds gs before hval hW

theorem proved : Rows.CanvasSaferSaid :=
  OpenClaim.holds_of_wide 3 Try.f3 rfl rfl rfl rfl rfl rfl rfl ⟨rfl, rfl, rfl, rfl, rfl⟩ rfl rfl rfl rfl rfl (by kernel_rfl) Try.func3 (by kernel_rfl)
    (of_decide_eq_true (by kernel_rfl)) (by unfold Func.isWrapper; first | (rw [if_pos (by decide +kernel)]; kernel_rfl) | (rw [if_neg (by decide +kernel)]; exact ⟨rfl, rfl⟩))
    (fun os started H enc _ => lifted os started H enc)
end Go.Proofs.Ytibaindlbpfecaa.canvasSafer
