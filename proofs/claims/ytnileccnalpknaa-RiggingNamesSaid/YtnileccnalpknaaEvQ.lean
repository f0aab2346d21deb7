import Derived.Test.YtnileccnalpknaaEvP

/- Operations and lists of operations. -/
namespace Go.Ev
set_option linter.unusedSimpArgs false
set_option linter.unusedVariables false
noncomputable section
set_option linter.unusedSectionVars false
open Go
variable {ρ ρ' ρ1 ρ2 : Ren} {F : Nat → Prop} {H H1 H2 : AH} {w w1 w2 : World} {P : Program} [Known P]

theorem callsIn_fen {r : Option Nat} {f : FuncId} {args : Array Value} {R : Ending → World → Prop} (h : CallsIn Fence.wide 0 P f args w R) : CallsIn (fen r) 0 P f args w R := by cases r <;> exact h

theorem run_callFunc (hP : Plain P) {f : FuncId} {fn : Func} {c : Code} (hf : P.funcs[f]? = some fn) (hb : fn.body = some c) (args : Array Value) (w : World) : (callFunc f args).run P w = .ok (.enter f args) w := by
  have hn := hP f fn hf (by rw [hb]; rfl)
  simp only [callFunc, program, Sem.run_bind, Sem.run, Result.andThen_ok, hf]
  rw [if_neg (by rw [hn]; simp)]
  rw [if_neg (by rw [hb]; simp)]
  rfl

theorem acall_same {a : AT} {o : Oper} {c : Call} {r : Res} (h : acall P a H o c = some (r, H1)) (hr : ∀ v, r ≠ .val v) : H1 = H := by
  unfold acall at h
  split at h
  · split at h
    case h_2 => cases h
    simp only [Option.bind_eq_some_iff] at h
    obtain ⟨_, _, _, _, h⟩ := h
    split at h <;> (obtain ⟨u, _, rfl⟩ := retH_ok h; exact absurd rfl (hr u))
  · split at h
    case h_2 => cases h
    simp only [Option.bind_eq_some_iff] at h
    obtain ⟨_, _, h⟩ := h
    obtain ⟨u, _, rfl, _⟩ := ret_ok h
    exact absurd rfl (hr u)
  · split at h
    case h_2 => cases h
    simp only [Option.bind_eq_some_iff] at h
    obtain ⟨_, _, h⟩ := h
    obtain ⟨u, _, rfl, _⟩ := ret_ok h
    exact absurd rfl (hr u)
  · obtain ⟨u, _, rfl, _⟩ := ret_ok h
    exact absurd rfl (hr u)
  · obtain ⟨u, _, rfl, _⟩ := ret_ok h
    exact absurd rfl (hr u)
  · simp only [Option.bind_eq_some_iff] at h
    obtain ⟨_, _, _, _, h⟩ := h
    split at h
    · split at h
      case h_2 => cases h
      split at h
      case h_2 => cases h
      cases h
      rfl
    · cases h
      rfl
    · cases h
  · cases h

theorem aop_same {a : AT} {o : Oper} {r : Res} (h : aop P a H o = some (r, H1)) (hr : ∀ v, r ≠ .val v) : H1 = H := by
  unfold aop at h
  split at h
  all_goals (try simp only [Option.bind_eq_some_iff] at h)
  all_goals first
    | (exact acall_same h hr)
    | (cases h; done)
    | (obtain ⟨u, _, rfl, _⟩ := ret_ok h; exact absurd rfl (hr u))
    | (obtain ⟨u, _, rfl⟩ := retH_ok h; exact absurd rfl (hr u))
    | (obtain ⟨_, _, h⟩ := h; first | (obtain ⟨u, _, rfl, _⟩ := ret_ok h; exact absurd rfl (hr u)) | (obtain ⟨u, _, rfl⟩ := retH_ok h; exact absurd rfl (hr u)) | (split at h <;> first | (cases h; done) | (obtain ⟨u, _, rfl, _⟩ := ret_ok h; exact absurd rfl (hr u)) | (cases h; exact absurd rfl (hr _))))
    | (obtain ⟨_, _, _, _, h⟩ := h; first | (obtain ⟨u, _, rfl, _⟩ := ret_ok h; exact absurd rfl (hr u)) | (obtain ⟨u, _, rfl⟩ := retH_ok h; exact absurd rfl (hr u)) | (obtain ⟨_, rfl⟩ := retU_ok h; exact absurd rfl (hr _)) | (split at h <;> first | (cases h; done) | (obtain ⟨u, _, rfl, _⟩ := ret_ok h; exact absurd rfl (hr u)) | (cases h; exact absurd rfl (hr _))))
    | (obtain ⟨_, _, _, _, _, _, h⟩ := h; first | (obtain ⟨_, rfl⟩ := retU_ok h; exact absurd rfl (hr _)))
    | (obtain ⟨_, _, _, _, _, _, _, _, h⟩ := h; first | (obtain ⟨u, _, rfl, _⟩ := ret_ok h; exact absurd rfl (hr u)) | (obtain ⟨u, _, rfl⟩ := retH_ok h; exact absurd rfl (hr u)))

theorem evOp_ok (hP : Plain P) {E : EvCode} (hE : CodeOk P E) {a : AT} {o : Oper} {v : Value} (h : evOp P E a H o = some (v, H1)) :
    (WF H → Le H H1) ∧ ∀ F ρ w (act act0 : Act) rd' (K : Act → World → Prop) (Q : Exit → Act → World → Prop), Pre P F ρ H H1 w → TT ρ a act0.tmps → execOp act0.eval o = execOp act.eval o →
      (∀ ρ1 w1 v', VR ρ1 v v' → Sim P F ρ ρ1 H H1 w w1 → K (act.put o.dst v') w1) → o.wpIn (fen rd') 0 P act w K Q := by
  have hnd : ∀ c, o.op ≠ .defer c := by
    intro c hc
    unfold evOp aop at h
    rw [hc] at h
    cases h
  have key : ∀ {rd' : Option Nat} {act act0 : Act} {w : World} {K : Act → World → Prop} {Q : Exit → Act → World → Prop}, execOp act0.eval o = execOp act.eval o → o.uponIn (fen rd') 0 P act K Q ((execOp act0.eval o).run P w) → o.wpIn (fen rd') 0 P act w K Q := by
    intro rd' act act0 w K Q he hu
    refine ⟨fun f _ => fen_fn _ _, ?_⟩
    rw [Oper.semAt_eq _ _ _ hnd, ← he]
    exact hu
  unfold evOp at h
  split at h
  · rename_i u HA hr
    simp only [Option.some.injEq, Prod.mk.injEq] at h
    obtain ⟨rfl, rfl⟩ := h
    obtain ⟨l1, k1⟩ := aop_ok hr
    refine ⟨l1, fun F ρ w act act0 rd' K Q hp ht he hk => key he ?_⟩
    obtain ⟨ρ1, w1, v', nx, e1, e2, e3, e4⟩ := k1 F ρ w act0 hp ht
    rw [e1]
    rcases e2 with rfl | ⟨rfl, rfl⟩
    · exact hk ρ1 w1 v' e3 e4
    · exact hk ρ1 w1 undef e3 e4
  · rename_i f args HA hr
    have hHA := aop_same hr (fun v e => by cases e)
    subst hHA
    obtain ⟨_, k1⟩ := aop_ok hr
    obtain ⟨l2, k2⟩ := evCall_ok hE h
    refine ⟨l2, fun F ρ w act act0 rd' K Q hp ht he hk => key he ?_⟩
    obtain ⟨_, args', e1, ⟨fn, c, e2, e3⟩, e4⟩ := k1 F ρ w act0 (hp.first (l2 hp.wf)) ht
    rw [← e1, run_callFunc hP e2 e3]
    refine ⟨fun hd => (by rw [fen_depth] at hd; cases hd), ?_⟩
    refine CallsIn.mono (callsIn_fen (k2 F ρ w args' hp e4)) fun e w1 hb => ?_
    obtain ⟨ρ1, v', rfl, b1, b2⟩ := hb
    exact hk ρ1 w1 v' b1 b2
  · rename_i l args HA hr
    have hHA := aop_same hr (fun v e => by cases e)
    subst hHA
    obtain ⟨_, k1⟩ := aop_ok hr
    obtain ⟨l2, k2⟩ := evRound_ok hE h
    refine ⟨l2, fun F ρ w act act0 rd' K Q hp ht he hk => key he ?_⟩
    obtain ⟨_, l', args', e1, e2, e4⟩ := k1 F ρ w act0 (hp.first (l2 hp.wf)) ht
    obtain ⟨f, tmps, assign, body, e5, e6⟩ := k2 F ρ w l' args' rd' hp e4 e2
    rw [← e1, e5]
    refine ⟨fun hd => (by rw [fen_depth] at hd; cases hd), ?_⟩
    refine RoundIn.mono e6 fun e w1 hb => ?_
    obtain ⟨ρ1, v', rfl, b1, b2⟩ := hb
    exact hk ρ1 w1 v' b1 b2
  · cases h

theorem about_fen (o : Oper) (rd' : Option Nat) (w : World) (act : Act) : ∀ f, o.about P w act.eval = some f → (fen rd').fn f := fun f _ => fen_fn _ _

theorem evOps_ok (hP : Plain P) {E : EvCode} (hE : CodeOk P E) {ops : Array Oper} : ∀ {l : List Oper} {a a1 : AT} {H H1 : AH}, evOps P E ops l a H = some (a1, H1) →
    (WF H → Le H H1) ∧ ∀ F ρ w act rd' (Q : Exit → Act → World → Prop), Pre P F ρ H H1 w → TT ρ a act.tmps →
      (∀ ρ1 w1 act1, TT ρ1 a1 act1.tmps → act1.defers = act.defers → Sim P F ρ ρ1 H H1 w w1 → Q .normal act1 w1) → wpListIn (fen rd') 0 P ops Q l act w := by
  intro l
  induction l with
  | nil =>
    intro a a1 H H1 h
    cases h
    exact ⟨fun _ => Le.refl _, fun F ρ w act rd' Q hp ht hk => hk ρ w act ht rfl (Sim.refl hp.wr)⟩
  | cons o l ih =>
    intro a a1 H H1 h
    unfold evOps at h
    split at h
    · rename_i hw
      simp only [Option.bind_eq_some_iff] at h
      obtain ⟨⟨v, HA⟩, h1, a2, h2, h3⟩ := h
      obtain ⟨l1, k1⟩ := evOp_ok hP hE h1
      obtain ⟨l2, k2⟩ := ih h3
      refine ⟨fun hwf => (l1 hwf).trans (l2 ((l1 hwf).wf hwf)), fun F ρ w act rd' Q hp ht hk => ?_⟩
      have L1 := l1 hp.wf
      have L2 := l2 (L1.wf hp.wf)
      simp only [wpListIn, awanted_ok ht hw, if_true]
      refine k1 F ρ w act act rd' _ Q (hp.first L2) ht rfl fun ρ1 w1 v' hv hs => ?_
      refine k2 F ρ1 w1 (act.put o.dst v') rd' Q (hp.next L1 hs) (aput_ok (ht.mono hs.ext) hv h2) fun ρ2 w2 act2 ht2 hd2 hs2 => ?_
      exact hk ρ2 w2 act2 ht2 (by rw [hd2, put_defers]) (hs.trans L1 hs2 L2)
    · rename_i hw
      simp only [Option.bind_eq_some_iff] at h
      obtain ⟨a2, h2, h3⟩ := h
      obtain ⟨l2, k2⟩ := ih h3
      refine ⟨l2, fun F ρ w act rd' Q hp ht hk => ?_⟩
      simp only [wpListIn, awanted_ok ht hw, Bool.false_eq_true, if_false]
      refine ⟨about_fen o rd' w act, ?_⟩
      refine k2 F ρ w (act.put o.dst undef) rd' Q hp (aput_ok ht undef_ok h2) fun ρ2 w2 act2 ht2 hd2 hs2 => ?_
      exact hk ρ2 w2 act2 ht2 (by rw [hd2, put_defers]) hs2
    · cases h
end
end Go.Ev
