import Derived.Test.YtnileccnalpknaaEvK

/- Every operation is as the evaluator says. -/
namespace Go.Ev
set_option linter.unusedSimpArgs false
set_option linter.unusedVariables false
noncomputable section
open Go
variable {ρ ρ' ρ1 ρ2 : Ren} {F : Nat → Prop} {H H1 H2 : AH} {w w1 w2 : World} {P : Program}

theorem aeql_bin {t : TypeId} {x y x' y' : Value} {b : Bool} (h : aeql P t x y = some b) (hx : VR ρ x x') (hy : VR ρ y y') (w : World) :
    (binOp .eql t x' y').run P w = .ok (.bool b) w ∧ (binOp .neq t x' y').run P w = .ok (.bool (!b)) w := by
  have heq := aeql_ok h hx hy w
  unfold aeql at h
  split at h <;> first | (cases h; done) | skip
  all_goals
    cases h
    cases hx <;> cases hy <;> (constructor <;> simp only [binOp] <;> simp [heq])

theorem good_bin {a : AT} {o : Oper} {op : BinOp} {t yt : TypeId} {x y : Operand} {v : Value} (ho : o.op = .binOp op t x y yt) (h : abin P a o op t x y = some v) : Good P a H H o (.val v) := by
  unfold abin at h
  simp only [Option.bind_eq_some_iff] at h
  obtain ⟨u, hu, v', hv, h⟩ := h
  have calm_of : ∀ {ρ : Ren} {act : Act}, calm u = true → TT ρ a act.tmps → calm (act.eval x) = true := fun hc ht => by
    have h1 := ev_ok ht hu
    generalize Act.eval _ x = z at h1
    cases h1 <;> first | rfl | cases hc
  split at h
  · exact good_quiet h
  · split at h
    · rename_i hc
      rw [Option.bind_eq_some_iff] at h
      obtain ⟨b, hb, h⟩ := h
      cases h
      refine ⟨fun _ => Le.refl _, fun F ρ w act hp ht => ⟨ρ, w, .bool b, .value (.bool b), ?_, .inl rfl, .bool b, Sim.refl hp.wr⟩⟩
      have hg := eqGuard_ok (P := P) (op := .eql) (t := t) (x := x) (y := y) (b := act.eval y) (calm_of hc ht)
      unfold execOp
      rw [ho]
      simp [hg, (aeql_bin hb (ev_ok ht hu) (ev_ok ht hv) w).1]
    · rename_i hc
      rw [Option.bind_eq_some_iff] at h
      obtain ⟨b, hb, h⟩ := h
      cases h
      refine ⟨fun _ => Le.refl _, fun F ρ w act hp ht => ⟨ρ, w, .bool (!b), .value (.bool (!b)), ?_, .inl rfl, .bool _, Sim.refl hp.wr⟩⟩
      have hg := eqGuard_ok (P := P) (op := .neq) (t := t) (x := x) (y := y) (b := act.eval y) (calm_of hc ht)
      unfold execOp
      rw [ho]
      simp [hg, (aeql_bin hb (ev_ok ht hu) (ev_ok ht hv) w).2]
    · cases h

theorem aop_ok {a : AT} {o : Oper} {r : Res} (h : aop P a H o = some (r, H1)) : Good P a H H1 o r := by
  unfold aop at h
  split at h
  · rename_i x ho
    obtain ⟨u, hu, rfl, rfl⟩ := ret_ok h
    exact ⟨fun _ => Le.refl _, fun F ρ w act hp ht => opr_pure hp.wr (by unfold execOp; rw [ho]) (ev_ok ht hu)⟩
  · rename_i x ho
    obtain ⟨u, hu, rfl, rfl⟩ := ret_ok h
    exact ⟨fun _ => Le.refl _, fun F ρ w act hp ht => opr_pure hp.wr (by unfold execOp; rw [ho]) (ev_ok ht hu)⟩
  · rename_i c x y ho
    rw [Option.bind_eq_some_iff] at h
    obtain ⟨cv, hc, h⟩ := h
    split at h
    · obtain ⟨u, hu, rfl, rfl⟩ := ret_ok h
      refine ⟨fun _ => Le.refl _, fun F ρ w act hp ht => ⟨ρ, w, act.eval x, .value (act.eval x), ?_, .inl rfl, ev_ok ht hu, Sim.refl hp.wr⟩⟩
      have h1 := ev_ok ht hc
      generalize hg : act.eval c = z at h1
      cases h1
      unfold execOp
      rw [ho]
      simp [hg, asBool]
    · obtain ⟨u, hu, rfl, rfl⟩ := ret_ok h
      refine ⟨fun _ => Le.refl _, fun F ρ w act hp ht => ⟨ρ, w, act.eval y, .value (act.eval y), ?_, .inl rfl, ev_ok ht hu, Sim.refl hp.wr⟩⟩
      have h1 := ev_ok ht hc
      generalize hg : act.eval c = z at h1
      cases h1
      unfold execOp
      rw [ho]
      simp [hg, asBool]
    · cases h
  · rename_i e ho
    rw [Option.bind_eq_some_iff] at h
    obtain ⟨z, hz, h⟩ := h
    obtain ⟨u, hu, rfl⟩ := retH_ok h
    unfold abox at hu
    split at hu
    case h_2 => cases hu
    rename_i htop
    cases hu
    have htop := blt_lt htop
    refine ⟨fun _ => Le.new H _ htop, fun F ρ w act hp ht => ?_⟩
    obtain ⟨ρ1, _, h1, h2⟩ := anew (e := e) htop F ρ w z.cells hp (zero_row hz)
    refine ⟨ρ1, _, .pointer (some ⟨w.heap.size, 0, none⟩), .value (.pointer (some ⟨w.heap.size, 0, none⟩)), ?_, .inl rfl, .ptr h1, h2⟩
    unfold execOp
    rw [ho]
    simp [Instr.alloc, run_zero hz, newVar, newRow, newObj, Sem.run]
  · rename_i e x ho
    rw [Option.bind_eq_some_iff] at h
    obtain ⟨z, hz, h⟩ := h
    obtain ⟨u, hu, rfl⟩ := retH_ok h
    obtain ⟨h1, h2⟩ := abox_ok (P := P) hu
    exact ⟨fun _ => h1, fun F ρ w act hp ht => opr_gives (by unfold execOp; rw [ho]) (h2 F ρ w _ hp (ev_ok ht hz))⟩
  · rename_i t parts ho
    rw [Option.bind_eq_some_iff] at h
    obtain ⟨ps, hps, h⟩ := h
    obtain ⟨u, hu, rfl, rfl⟩ := ret_ok h
    exact ⟨fun _ => Le.refl _, fun F ρ w act hp ht => opr_yields hp.wr (by unfold execOp; rw [ho]) (abuild_ok hu (by rw [map_pair]; exact evp_ok ht hps))⟩
  · rename_i t n parts ho
    rw [Option.bind_eq_some_iff] at h
    obtain ⟨ps, hps, h⟩ := h
    obtain ⟨u, hu, rfl⟩ := retH_ok h
    obtain ⟨h1, h2⟩ := abuildSlice_ok hu
    exact ⟨fun _ => h1, fun F ρ w act hp ht => opr_gives (by unfold execOp; rw [ho]) (h2 F ρ w _ hp (by rw [map_pair]; exact evp_ok ht hps))⟩
  · rename_i t x ho
    rw [Option.bind_eq_some_iff] at h
    obtain ⟨z, hz, h⟩ := h
    obtain ⟨u, hu, rfl⟩ := retH_ok h
    obtain ⟨h1, h2⟩ := aload_ok hu
    exact ⟨fun _ => h1, fun F ρ w act hp ht => opr_gives (by unfold execOp; rw [ho]) (h2 F ρ w _ hp (ev_ok ht hz))⟩
  · rename_i t x v ho
    simp only [Option.bind_eq_some_iff] at h
    obtain ⟨z, hz, y, hy, h⟩ := h
    obtain ⟨hu, rfl⟩ := retU_ok h
    obtain ⟨h1, h2⟩ := astore_ok hu
    exact ⟨h1, fun F ρ w act hp ht => opr_unit (by unfold execOp; rw [ho]) (h2 F ρ w _ _ hp (ev_ok ht hz) (ev_ok ht hy))⟩
  · rename_i x ho
    rw [Option.bind_eq_some_iff] at h
    obtain ⟨z, hz, h⟩ := h
    split at h
    · cases h
      refine ⟨fun _ => Le.refl _, fun F ρ w act hp ht => ?_⟩
      have h1 := ev_ok ht hz
      refine opr_pure hp.wr (v' := act.eval x) ?_ h1
      generalize hg : act.eval x = z at h1
      cases h1
      unfold execOp
      rw [ho]
      simp [hg]
    · cases h
      refine ⟨fun _ => Le.refl _, fun F ρ w act hp ht => ?_⟩
      have h1 := ev_ok ht hz
      refine opr_pure hp.wr (v' := act.eval x) ?_ h1
      generalize hg : act.eval x = z at h1
      cases h1 with
      | func hff =>
        cases hff
        unfold execOp
        rw [ho]
        simp [hg]
    · cases h
  · rename_i op t x y yt ho
    obtain ⟨u, hu, rfl, rfl⟩ := ret_ok h
    exact good_bin ho hu
  · obtain ⟨u, hu, rfl, rfl⟩ := ret_ok h
    exact good_quiet hu
  · obtain ⟨u, hu, rfl, rfl⟩ := ret_ok h
    exact good_quiet hu
  · obtain ⟨u, hu, rfl, rfl⟩ := ret_ok h
    exact good_quiet hu
  · obtain ⟨u, hu, rfl, rfl⟩ := ret_ok h
    exact good_quiet hu
  · rename_i fn first captured ho
    simp only [Option.bind_eq_some_iff] at h
    obtain ⟨xs, hxs, ys, hys, h⟩ := h
    split at h
    case h_2 => cases h
    rename_i hfn
    cases h
    refine ⟨fun _ => Le.refl _, fun F ρ w act hp ht => ?_⟩
    have h1 := (evs_ok ht hxs).row
    have h2 := (evs_ok ht hys).row
    have e1 : (first.toList.map act.eval).toArray = first.map act.eval := by apply Array.ext'; simp
    have e2 : (captured.toList.map act.eval).toArray = captured.map act.eval := by apply Array.ext'; simp
    rw [e1] at h1
    rw [e2] at h2
    refine opr_pure hp.wr (v' := .func fn (first.map act.eval) (captured.map act.eval)) ?_ (.func ?_ h1.1 h1.2 h2.1 h2.2)
    · unfold execOp
      rw [ho]
      rfl
    · cases fn <;> first | exact .func _ | cases hfn
  · rename_i t ho
    obtain ⟨u, hu, rfl⟩ := retH_ok h
    obtain ⟨h1, h2⟩ := amakeMap_ok (P := P) (t := t) hu
    exact ⟨fun _ => h1, fun F ρ w act hp ht => opr_gives (by unfold execOp; rw [ho]; rfl) (h2 F ρ w hp)⟩
  · rename_i t l c ho
    simp only [Option.bind_eq_some_iff] at h
    obtain ⟨z, hz, y, hy, h⟩ := h
    obtain ⟨u, hu, rfl⟩ := retH_ok h
    obtain ⟨h1, h2⟩ := amake_ok hu
    exact ⟨fun _ => h1, fun F ρ w act hp ht => opr_gives (by unfold execOp; rw [ho]) (h2 F ρ w _ _ hp (ev_ok ht hz) (ev_ok ht hy))⟩
  · rename_i t x lo hi mx ho
    simp only [Option.bind_eq_some_iff] at h
    obtain ⟨z, hz, y1, hy1, y2, hy2, y3, hy3, h⟩ := h
    obtain ⟨u, hu, rfl⟩ := retH_ok h
    obtain ⟨h1, h2⟩ := asliceH_ok (P := P) hu
    exact ⟨fun _ => h1, fun F ρ w act hp ht => opr_gives (by unfold execOp; rw [ho]) (h2 F ρ w _ _ _ _ hp (ev_ok ht hz) (evo_ok ht hy1) (evo_ok ht hy2) (evo_ok ht hy3))⟩
  · rename_i s x f ho
    rw [Option.bind_eq_some_iff] at h
    obtain ⟨z, hz, h⟩ := h
    obtain ⟨u, hu, rfl, rfl⟩ := ret_ok h
    exact ⟨fun _ => Le.refl _, fun F ρ w act hp ht => opr_yields hp.wr (by unfold execOp; rw [ho]) (afield_ok hu (ev_ok ht hz))⟩
  · rename_i t x f ho
    rw [Option.bind_eq_some_iff] at h
    obtain ⟨z, hz, h⟩ := h
    obtain ⟨u, hu, rfl, rfl⟩ := ret_ok h
    exact ⟨fun _ => Le.refl _, fun F ρ w act hp ht => opr_yields hp.wr (by unfold execOp; rw [ho]) (afieldV_ok hu (ev_ok ht hz))⟩
  · rename_i t x i ho
    simp only [Option.bind_eq_some_iff] at h
    obtain ⟨z, hz, y, hy, h⟩ := h
    obtain ⟨u, hu, rfl, rfl⟩ := ret_ok h
    exact ⟨fun _ => Le.refl _, fun F ρ w act hp ht => opr_yields hp.wr (by unfold execOp; rw [ho]) (aindex_ok hu (ev_ok ht hz) (ev_ok ht hy))⟩
  · rename_i t x i ho
    simp only [Option.bind_eq_some_iff] at h
    obtain ⟨z, hz, y, hy, h⟩ := h
    split at h
    · obtain ⟨u, hu, rfl, rfl⟩ := ret_ok h
      exact good_quiet hu
    · obtain ⟨u, hu, rfl, rfl⟩ := ret_ok h
      exact ⟨fun _ => Le.refl _, fun F ρ w act hp ht => opr_yields hp.wr (by unfold execOp; rw [ho]) (aindexV_ok hu (ev_ok ht hz) (ev_ok ht hy))⟩
  · rename_i t x k ok ho
    simp only [Option.bind_eq_some_iff] at h
    obtain ⟨z, hz, y, hy, h⟩ := h
    obtain ⟨u, hu, rfl⟩ := retH_ok h
    obtain ⟨h1, h2⟩ := alookup_ok hu
    exact ⟨fun _ => h1, fun F ρ w act hp ht => opr_gives (by unfold execOp; rw [ho]) (h2 F ρ w _ _ hp (ev_ok ht hz) (ev_ok ht hy))⟩
  · rename_i t m k v ho
    simp only [Option.bind_eq_some_iff] at h
    obtain ⟨z, hz, y, hy, y2, hy2, h⟩ := h
    obtain ⟨hu, rfl⟩ := retU_ok h
    obtain ⟨h1, h2⟩ := amapUpdate_ok hu
    exact ⟨h1, fun F ρ w act hp ht => opr_unit (by unfold execOp; rw [ho]) (h2 F ρ w _ _ _ hp (ev_ok ht hz) (ev_ok ht hy) (ev_ok ht hy2))⟩
  · rename_i t m k v ho
    simp only [Option.bind_eq_some_iff] at h
    obtain ⟨z, hz, y, hy, y2, hy2, h⟩ := h
    obtain ⟨hu, rfl⟩ := retU_ok h
    obtain ⟨h1, h2⟩ := amapUpdate_ok hu
    exact ⟨h1, fun F ρ w act hp ht => opr_unit (by unfold execOp; rw [ho]) (h2 F ρ w _ _ _ hp (ev_ok ht hz) (ev_ok ht hy) (ev_ok ht hy2))⟩
  · rename_i x i ho
    rw [Option.bind_eq_some_iff] at h
    obtain ⟨z, hz, h⟩ := h
    split at h
    case h_2 => cases h
    rename_i vs
    obtain ⟨u, hu, rfl, rfl⟩ := ret_ok h
    refine ⟨fun _ => Le.refl _, fun F ρ w act hp ht => ?_⟩
    have h1 := ev_ok ht hz
    generalize hg : act.eval x = z at h1
    cases h1 with
    | @tuple _ xs' hs hv =>
      have hu' : vs[i]? = some u := by simpa using hu
      have hlt : i < vs.size := by
        rcases Nat.lt_or_ge i vs.size with h6 | h6
        · exact h6
        · rw [Array.getElem?_eq_none h6] at hu'; cases hu'
      have hlt' : i < xs'.size := by omega
      have hx' : xs'[i]? = some xs'[i] := Array.getElem?_eq_getElem hlt'
      refine opr_pure hp.wr (v' := xs'[i]) ?_ (hv i _ _ hu' hx')
      unfold execOp
      rw [ho]
      simp [hg, Instr.extract, hx']
  · rename_i c ho
    exact good_call ho h
  · cases h
end
end Go.Ev
