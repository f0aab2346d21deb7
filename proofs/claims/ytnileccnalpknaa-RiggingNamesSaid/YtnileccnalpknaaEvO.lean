import Derived.Test.YtnileccnalpknaaEvN

/- Calls, rounds, operations. -/
namespace Go.Ev
set_option linter.unusedSimpArgs false
set_option linter.unusedVariables false
noncomputable section
open Go
variable {ρ ρ' ρ1 ρ2 : Ren} {F : Nat → Prop} {H H1 H2 : AH} {w w1 w2 : World} {P : Program}

/-- No function with a body is taken for another one. -/
def Plain (P : Program) : Prop := ∀ (f : Nat) (fn : Func), P.funcs[f]? = some fn → fn.body.isSome = true → (fn.name == "runtime.NumGoroutine") = false

def resRun (tmps : Array Value) : ResultVar → Sem Value
  | .tmp t => pure (tmps.getD t undef)
  | .cell a t => do loadVar t (← asAddr (tmps.getD a undef))

theorem aresult_ok {a : AT} {r : ResultVar} {v : Value} (h : aresult P a H r = some (v, H1)) : Le H H1 ∧ ∀ F ρ w tmps, Pre P F ρ H H1 w → TT ρ a tmps →
    ∃ v', (resRun tmps r).run P w = .ok v' w ∧ VR ρ v v' ∧ Sim P F ρ ρ H H1 w w := by
  cases r with
  | tmp t =>
    simp only [aresult] at h
    split at h
    · rename_i hb
      cases h
      exact ⟨Le.refl _, fun F ρ w tmps hp ht => ⟨_, rfl, ht.2.2 t (blt_lt hb), Sim.refl hp.wr⟩⟩
    · cases h
  | cell x t =>
    simp only [aresult] at h
    split at h
    · rename_i hb
      obtain ⟨h1, h2⟩ := aload_reads h
      refine ⟨h1, fun F ρ w tmps hp ht => ?_⟩
      have hx := ht.2.2 x (blt_lt hb)
      have hptr : ∃ p, a.get x = .pointer (some p) := by
        generalize a.get x = z at h
        unfold aload at h
        split at h
        case h_2 => cases h
        exact ⟨_, rfl⟩
      obtain ⟨p, hp'⟩ := hptr
      obtain ⟨v', h3, h4, h5⟩ := h2 F ρ w _ hp hx
      rw [hp'] at hx
      generalize hz : tmps.getD x undef = z at hx h3
      cases hx with
      | @ptr _ a' ha =>
        refine ⟨v', ?_, h4, h5⟩
        have hrun : (Instr.loadAt t (.pointer (some a'))).run P w = (loadVar t a').run P w := by simp [Instr.loadAt, Instr.sureAddr]
        rw [hrun] at h3
        simp [resRun, hz, asAddr, h3]
    · cases h

theorem aresults_ok {a : AT} : ∀ {rs : List ResultVar} {H H1 : AH} {vs : List Value}, aresults P a rs H = some (vs, H1) → Le H H1 ∧ ∀ F ρ w tmps, Pre P F ρ H H1 w → TT ρ a tmps →
    ∃ vs', (rs.mapM (resRun tmps)).run P w = .ok vs' w ∧ LR ρ vs vs' ∧ Sim P F ρ ρ H H1 w w := by
  intro rs
  induction rs with
  | nil => intro H H1 vs h; cases h; exact ⟨Le.refl _, fun F ρ w tmps hp _ => ⟨[], rfl, .nil, Sim.refl hp.wr⟩⟩
  | cons r rs ih =>
    intro H H1 vs h
    simp only [aresults, Option.bind_eq_some_iff] at h
    obtain ⟨⟨v, HA⟩, h1, ⟨us, HB⟩, h2, h⟩ := h
    cases h
    obtain ⟨l1, k1⟩ := aresult_ok h1
    obtain ⟨l2, k2⟩ := ih h2
    refine ⟨l1.trans l2, fun F ρ w tmps hp ht => ?_⟩
    obtain ⟨v', e1, e2, e3⟩ := k1 F ρ w tmps (hp.first l2) ht
    obtain ⟨vs', f1, f2, f3⟩ := k2 F ρ w tmps (hp.next l1 e3) ht
    exact ⟨v' :: vs', by simp [List.mapM_cons, e1, f1], .cons e2 f2, e3.trans l1 f3 l2⟩

theorem results_run {fn : Func} {tmps : Array Value} {vs' : List Value} (h : (fn.results.toList.mapM (resRun tmps)).run P w = .ok vs' w) : (results fn tmps).run P w = .ok (pack vs') w := by
  have e : results fn tmps = (do
    let vs ← fn.results.mapM (resRun tmps)
    pure (if h : vs.size = 1 then vs[0] else .tuple vs) : Sem Value) := rfl
  rw [e, Array.mapM_eq_mapM_toList]
  simp only [Sem.run_bind, Sem.run_map, h, Result.andThen_ok, Sem.run_pure, Result.ok.injEq, and_true]
  unfold pack
  match vs' with
  | [] => simp
  | [v] => simp
  | v :: u :: vs => simp
theorem pack_ok {vs vs' : List Value} (h : LR ρ vs vs') : VR ρ (pack vs) (pack vs') := by
  cases h with
  | nil => exact undef_ok
  | cons h1 h2 =>
    cases h2 with
    | nil => exact h1
    | cons h3 h4 => have := LR.row (LR.cons h1 (LR.cons h3 h4)); exact .tuple this.1 this.2

/-- What a call gives back. -/
def Back (P : Program) (F : Nat → Prop) (H H1 : AH) (v : Value) (ρ : Ren) (w : World) (e : Ending) (w1 : World) : Prop := ∃ ρ1 v', e = .returned v' ∧ VR ρ1 v v' ∧ Sim P F ρ ρ1 H H1 w w1

theorem evCallee_ok {E : EvCode} (hE : CodeOk P E) {f : FuncId} {args : List Value} {v : Value} (h : evCallee P E f args H = some (v, H1)) :
    (WF H → Le H H1) ∧ ∀ F ρ w args', Pre P F ρ H H1 w → RR ρ args.toArray args' → CallsIn Fence.wide 0 P f args' w (Back P F H H1 v ρ w) := by
  unfold evCallee at h
  split at h
  case h_2 => cases h
  rename_i fn hf
  split at h
  case h_2 => cases h
  rename_i c hb
  split at h
  case h_2 => cases h
  rename_i hsz
  have hsz : args.length + fn.ntmps ≤ 1000000 := by simpa using hsz
  have main : ∀ x a HA, (x = .normal ∨ x = .ret) → E none c ⟨⟨fillT 0 args .leaf, args.length + (fn.ntmps - args.length)⟩, []⟩ H = some (x, a, HA) →
      ((atake a.d HA).bind fun H2 => (aresults P a.s fn.results.toList H2).bind fun q => some (pack q.1, q.2)) = some (v, H1) →
      (WF H → Le H H1) ∧ ∀ F ρ w args', Pre P F ρ H H1 w → RR ρ args.toArray args' → CallsIn Fence.wide 0 P f args' w (Back P F H H1 v ρ w) := by
    intro x a HA hx hc h
    simp only [Option.bind_eq_some_iff] at h
    obtain ⟨HB, hB, ⟨vs, HC⟩, hC, h⟩ := h
    simp only [Option.some.injEq, Prod.mk.injEq] at h
    obtain ⟨rfl, rfl⟩ := h
    obtain ⟨l1, k1⟩ := hE _ _ _ _ _ _ _ hc
    obtain ⟨l2, k2⟩ := atake_ok (P := P) (fn := fn) (tmps := #[]) hB
    obtain ⟨l3, k3⟩ := aresults_ok hC
    refine ⟨fun hw => (l1 hw).trans ((l2 ((l1 hw).wf hw)).trans l3), fun F ρ w args' hp ha => ?_⟩
    have L1 := l1 hp.wf
    have L2 := l2 (L1.wf hp.wf)
    refine callsIn_of_wp_marks hf hb trivial ?_
    have hcode := k1 F ρ w { tmps := args' ++ Array.replicate (fn.ntmps - args'.size) undef, defers := [] } none (hp.first (L2.trans l3)) ⟨enter_ok ha hsz, .nil⟩ .none
    refine wpIn_mono hcode fun x2 act2 w2 hq => ?_
    obtain ⟨rfl, ρ1, hac, hs⟩ := hq
    have hpB := (hp.next L1 hs)
    have hleave : LeavesInM Fence.wide 0 P fn act2.tmps (Back P F H HC (pack vs) ρ w) act2.defers .returning w2 := by
      refine (atake_ok (P := P) (fn := fn) (tmps := act2.tmps) hB).2 F ρ1 w2 act2.defers _ (hpB.first l3) hac.d fun w3 hs3 => ?_
      obtain ⟨vs', e1, e2, e3⟩ := k3 F ρ1 w3 act2.tmps (hpB.next L2 hs3) hac.s
      exact ⟨_, results_run e1, ρ1, _, rfl, pack_ok e2, hs.trans L1 (hs3.trans L2 e3 l3) (L2.trans l3)⟩
    rcases hx with rfl | rfl <;> exact hleave
  split at h
  · rename_i a HA hc
    exact main _ a HA (.inl rfl) hc h
  · rename_i a HA hc
    exact main _ a HA (.inr rfl) hc h
  · cases h

theorem evCall_ok [Known P] {E : EvCode} (hE : CodeOk P E) {f : FuncId} {args : List Value} {v : Value} (h : evCall P E f args H = some (v, H1)) :
    (WF H → Le H H1) ∧ ∀ F ρ w args', Pre P F ρ H H1 w → RR ρ args.toArray args' → CallsIn Fence.wide 0 P f args' w (Back P F H H1 v ρ w) := by
  unfold evCall at h
  split at h
  · rename_i b he hk
    simp only [Option.some.injEq, Prod.mk.injEq] at h
    obtain ⟨rfl, rfl⟩ := h
    refine ⟨fun _ => Le.refl _, fun F ρ w args' hp ha => ?_⟩
    have h0 : args = [] := List.isEmpty_iff.1 he
    subst h0
    obtain rfl : args' = #[] := Array.eq_empty_of_size_eq_zero (by have := ha.1; simpa using this.symm)
    refine callsIn_wide.2 (Calls.mono (Known.ok f b hk w) fun e w' hq => ?_)
    obtain ⟨rfl, hb⟩ := hq
    refine ⟨ρ, _, rfl, .bool _, ⟨Ext.refl _, fun n h0 h1 => absurd h0 h1, fun n b h0 h1 => (by rw [h0] at h1; cases h1), fun n b h0 h1 => (by rw [h0] at h1; cases h1), ⟨hp.wr.inj, fun n t hn => Nat.lt_of_lt_of_le (hp.wr.bound n t hn) hb.size, fun n o hf hg => ?_⟩, fun b hb2 _ => hb.block b hb2, hb.size, hb.os, hb.tape, hb.output⟩⟩
    obtain ⟨t, o', h1, h2, h3, h4⟩ := hp.wr.obj n o hf hg
    exact ⟨t, o', h1, (hb.block t.b (hp.wr.bound n t h1)).trans h2, h3, h4⟩
  · exact evCallee_ok hE h
end
end Go.Ev
