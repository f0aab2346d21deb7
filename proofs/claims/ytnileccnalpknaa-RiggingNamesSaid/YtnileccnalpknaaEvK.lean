import Derived.Test.YtnileccnalpknaaEvJ

/- One operation is as the evaluator says. -/
namespace Go.Ev
set_option linter.unusedSimpArgs false
set_option linter.unusedVariables false
noncomputable section
open Go
variable {ρ ρ' ρ1 ρ2 : Ren} {F : Nat → Prop} {H H1 H2 : AH} {w w1 w2 : World} {P : Program}

theorem ret_ok {v : Option Value} {r : Res} (h : ret H v = some (r, H1)) : ∃ u, v = some u ∧ r = .val u ∧ H1 = H := by
  unfold ret at h
  rw [Option.bind_eq_some_iff] at h
  obtain ⟨u, hu, h⟩ := h
  cases h
  exact ⟨u, hu, rfl, rfl⟩
theorem retH_ok {v : Option (Value × AH)} {r : Res} (h : retH v = some (r, H1)) : ∃ u, v = some (u, H1) ∧ r = .val u := by
  unfold retH at h
  rw [Option.bind_eq_some_iff] at h
  obtain ⟨⟨u, H2⟩, hu, h⟩ := h
  cases h
  exact ⟨u, hu, rfl⟩
theorem retU_ok {v : Option AH} {r : Res} (h : retU v = some (r, H1)) : v = some H1 ∧ r = .val undef := by
  unfold retU at h
  rw [Option.bind_eq_some_iff] at h
  obtain ⟨H2, hu, h⟩ := h
  cases h
  exact ⟨hu, rfl⟩

def Good (P : Program) (a : AT) (H H1 : AH) (o : Oper) (r : Res) : Prop :=
  (WF H → Le H H1) ∧ ∀ F ρ w act, Pre P F ρ H H1 w → TT ρ a act.tmps → OpR P F ρ H H1 w o act r

theorem good_quiet {a : AT} {o : Oper} {v : Value} (h : aquiet P a o = some v) : Good P a H H o (.val v) := by
  refine ⟨fun _ => Le.refl _, fun F ρ w act hp ht => ?_⟩
  obtain ⟨h1, h2⟩ := aquiet_ok h ht
  exact ⟨ρ, w, v, .value v, h1 w, .inl rfl, h2, Sim.refl hp.wr⟩

theorem map_pair (act : Act) (parts : Array (Nat × Operand)) : (parts.map fun (i, x) => (i, act.eval x)).toList = parts.toList.map fun p => (p.1, act.eval p.2) := by
  rw [Array.toList_map]

theorem good_call {a : AT} {o : Oper} {c : Call} {r : Res} (ho : o.op = .call c) (h : acall P a H o c = some (r, H1)) : Good P a H H1 o r := by
  obtain ⟨callee, args, argTypes⟩ := c
  have two : ∀ {x y : Operand}, args.toList = [x, y] → args = #[x, y] := fun h => by apply Array.ext'; simpa using h
  have one_ : ∀ {x : Operand}, args.toList = [x] → args = #[x] := fun h => by apply Array.ext'; simpa using h
  have two' : ∀ {x y : TypeId}, argTypes.toList = [x, y] → argTypes = #[x, y] := fun h => by apply Array.ext'; simpa using h
  have one' : ∀ {x : TypeId}, argTypes.toList = [x] → argTypes = #[x] := fun h => by apply Array.ext'; simpa using h
  unfold acall at h
  simp only at h
  split at h
  · split at h
    case h_2 => cases h
    rename_i s x t tx ha ht
    obtain rfl := two ha
    obtain rfl := two' ht
    simp only [Option.bind_eq_some_iff] at h
    obtain ⟨sv, hs, xv, hx, h⟩ := h
    have run : ∀ act : Act, execOp act.eval o = (do pure (.value (← Builtin.append_ #[t, tx] o.type #[act.eval s, act.eval x])) : Sem Next) := fun act => by
      unfold execOp
      rw [ho]
      simp [resolve, invoke, builtin]
    split at h
    · obtain ⟨u, hu, rfl⟩ := retH_ok h
      obtain ⟨h1, h2⟩ := aappendZ_ok (ty := o.type) hu
      exact ⟨fun _ => h1, fun F ρ w act hp htt => opr_gives (run act) (h2 F ρ w _ _ hp (ev_ok htt hs) (ev_ok htt hx))⟩
    · obtain ⟨u, hu, rfl⟩ := retH_ok h
      obtain ⟨h1, h2⟩ := aappend_ok (ty := o.type) hu
      exact ⟨h1, fun F ρ w act hp htt => opr_gives (run act) (h2 F ρ w _ _ hp (ev_ok htt hs) (ev_ok htt hx))⟩
  · split at h
    case h_2 => cases h
    rename_i x t ha ht
    obtain rfl := one_ ha
    obtain rfl := one' ht
    simp only [Option.bind_eq_some_iff] at h
    obtain ⟨xv, hx, h⟩ := h
    obtain ⟨u, hu, rfl, rfl⟩ := ret_ok h
    refine ⟨fun _ => Le.refl _, fun F ρ w act hp htt => opr_yields hp.wr (s := Builtin.len_ #[t] o.type #[act.eval x]) ?_ (alen_ok rfl hu (ev_ok htt hx))⟩
    unfold execOp
    rw [ho]
    simp [resolve, invoke, builtin]
  · split at h
    case h_2 => cases h
    rename_i x t ha ht
    obtain rfl := one_ ha
    obtain rfl := one' ht
    simp only [Option.bind_eq_some_iff] at h
    obtain ⟨xv, hx, h⟩ := h
    obtain ⟨u, hu, rfl, rfl⟩ := ret_ok h
    refine ⟨fun _ => Le.refl _, fun F ρ w act hp htt => opr_yields hp.wr (s := Builtin.cap_ #[t] o.type #[act.eval x]) ?_ (acap_ok rfl hu (ev_ok htt hx))⟩
    unfold execOp
    rw [ho]
    simp [resolve, invoke, builtin]
  · obtain ⟨u, hu, rfl, rfl⟩ := ret_ok h
    exact good_quiet hu
  · obtain ⟨u, hu, rfl, rfl⟩ := ret_ok h
    exact good_quiet hu
  · rename_i f
    simp only [Option.bind_eq_some_iff] at h
    obtain ⟨fv, hf, vs, hvs, h⟩ := h
    split at h
    · rename_i g first captured
      split at h
      case h_2 => cases h
      rename_i fn hfn
      split at h
      case h_2 => cases h
      rename_i code hb
      cases h
      refine ⟨fun _ => Le.refl _, fun F ρ w act hp htt => ?_⟩
      have hfv := ev_ok htt hf
      have hargs := evs_ok htt hvs
      refine ⟨rfl, ?_⟩
      generalize hg : act.eval f = fv' at hfv
      cases hfv with
      | @func _ f' _ xs' _ ys' hff hx h1 hy h2 =>
        cases hff with
        | func =>
          refine ⟨xs' ++ args.map act.eval ++ ys', ?_, ⟨fn, code, hfn, hb⟩, ?_⟩
          · unfold execOp
            rw [ho]
            simp [resolve, invoke, hg, Deferred.ofValue]
          · have := (((RR.list ⟨hx, h1⟩).append hargs).append (RR.list ⟨hy, h2⟩)).row
            have e : (xs'.toList ++ args.toList.map act.eval ++ ys'.toList).toArray = xs' ++ args.map act.eval ++ ys' := by apply Array.ext'; simp
            rw [e] at this
            exact this
    · rename_i l first captured
      cases h
      refine ⟨fun _ => Le.refl _, fun F ρ w act hp htt => ?_⟩
      have hfv := ev_ok htt hf
      have hargs := evs_ok htt hvs
      refine ⟨rfl, ?_⟩
      generalize hg : act.eval f = fv' at hfv
      cases hfv with
      | @func _ f' _ xs' _ ys' hff hx h1 hy h2 =>
        cases hff with
        | @yield _ l' hl =>
          refine ⟨l', xs' ++ args.map act.eval, ?_, hl, ?_⟩
          · unfold execOp
            rw [ho]
            simp [resolve, invoke, hg, Deferred.ofValue]
          · have := ((RR.list ⟨hx, h1⟩).append hargs).row
            have e : (xs'.toList ++ args.toList.map act.eval).toArray = xs' ++ args.map act.eval := by apply Array.ext'; simp
            rw [e] at this
            exact this
    · cases h
  · cases h
end
end Go.Ev
