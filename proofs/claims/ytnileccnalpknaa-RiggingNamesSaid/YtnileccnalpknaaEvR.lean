import Derived.Test.YtnileccnalpknaaEvQ

/- Ranges over functions; all code. -/
namespace Go.Ev
set_option linter.unusedSimpArgs false
set_option linter.unusedVariables false
noncomputable section
set_option linter.unusedSectionVars false
open Go
variable {ρ ρ' ρ1 ρ2 : Ren} {F : Nat → Prop} {H H1 H2 : AH} {w w1 w2 : World} {P : Program} [Known P]

/-- The region that draws its order does what the evaluator says. -/
def DrawOk (P : Program) (D : EvCode → EvDraw) : Prop :=
  ∀ E, CodeOk P E → ∀ id ops a H a1 H1, D E ops a H = some (a1, H1) → (WF H → Le H H1) ∧ ∀ F ρ w act rd', Pre P F ρ H H1 w → TT ρ a act.tmps →
    (Code.region id ops true).wpIn (fen rd') 0 P (fun x2 act2 w2 => x2 = .normal ∧ act2.defers = act.defers ∧ ∃ ρ1, TT ρ1 a1 act2.tmps ∧ Sim P F ρ ρ1 H H1 w w2) act w

/-- What stands when a loop has been entered. -/
structure Entered (P : Program) (F : Nat → Prop) (ρ : Ren) (H HL : AH) (w : World) (rd' : Option Nat) (act : Act) (n : Nat) (marks : List Nat) (ps : Array Tmp) (assign body : Code) (fn : FuncId) : Prop where
  ex : ∃ l mark w1 ρ1, (Instr.enterLoop fn act.tmps ps assign body rd').run P w = .ok (l, mark) w1 ∧ Sim P F ρ ρ1 H HL w w1 ∧ DR ρ1 marks mark ∧ ∃ t, ρ1 n = some (some t) ∧ t.b = l

theorem alloc_loop {n : Nat} {L : AL} {L' : Loop} (htop : H.next < top) (hn : n = H.next) (hp : Pre P F ρ H (H.new (.loop L)) w) (hs : L'.state = L.state) (hpend : L'.pending = L.pending) (ht : TT ρ L.tmps L'.tmps) (hq : L'.params = L.params) (ha : L'.assign = L.assign) (hb : L'.body = L.body) (hd : NR ρ L.defers L'.defers) :
    ∃ ρ1, Sim P F ρ ρ1 H (H.new (.loop L)) w { w with heap := w.heap.push (.loop L') } ∧ ∃ t, ρ1 n = some (some t) ∧ t.b = w.heap.size := by
  have hf : ρ H.next = none := hp.fresh _ (Nat.le_refl _) (Nat.lt_succ_self _)
  have he := Ext.ren_new hf (some ⟨w.heap.size, 0, 0⟩)
  exact ⟨_, Sim.alloc (t := ⟨w.heap.size, 0, 0⟩) hp htop rfl (.loop hs hpend (ht.mono he) hq ha hb (hd.mono he)) trivial, ⟨w.heap.size, 0, 0⟩, by simp [ren, hn], rfl⟩

theorem endLoop_ok {l : Nat} {L : AL} (hg : H.get l = some (.loop L)) (hbusy : L.state ≠ .busy) {t : Tgt} (hp : Pre P F ρ H (H.put l (some (.loop { L with state := .exhausted }))) w) (ht : ρ l = some (some t)) :
    ∃ w1, (Instr.endLoop t.b).run P w = .ok L.pending w1 ∧ Sim P F ρ ρ H (H.put l (some (.loop { L with state := .exhausted }))) w w1 := by
  obtain ⟨t', L', h1, h2, h3, h4, h5, h6, h7, h8, h9⟩ := hp.wr.loop (hp.foot l foot_put) hg
  rw [ht] at h1
  cases h1
  refine ⟨_, ?_, Sim.change hp.wr hp.wf hg ht (.loop (l' := { L' with state := .exhausted }) rfl h4 h5 h6 h7 h8 h9) trivial⟩
  have hb : (L'.state == LoopState.busy) = false := by
    rw [h3]
    cases hs : L.state <;> first | rfl | exact absurd hs hbusy
  simp only [Instr.endLoop, Sem.run_bind, run_getLoop h2, Result.andThen_ok, hb, Bool.false_eq_true, if_false, Sem.run_pure, run_setLoop h2, h4]

theorem evRange_ok (hP : Plain P) {E : EvCode} (hE : CodeOk P E) {rd : Option Nat} {f : Operand} {params : Array Tmp} {assign body : Code} {a a1 : AA} {x : Exit} (h : evRange P E rd f params assign body a H = some (x, a1, H1)) :
    (WF H → Le H H1) ∧ ∀ F ρ w act rd', Pre P F ρ H H1 w → AcR ρ a act → RdR ρ rd rd' →
      (Code.rangeFunc f params assign body).wpIn (fen rd') 0 P (fun x2 act2 w2 => x2 = x ∧ ∃ ρ1, AcR ρ1 a1 act2 ∧ Sim P F ρ ρ1 H H1 w w2) act w := by
  unfold evRange at h
  split at h
  case h_2 => cases h
  rename_i g first captured hf
  rw [Option.bind_eq_some_iff] at h
  obtain ⟨⟨dn, HD, marks⟩, hent, h⟩ := h
  simp only at h
  split at h
  case h_2 => cases h
  rename_i htop
  have htop := blt_lt htop
  rw [Option.bind_eq_some_iff] at h
  obtain ⟨⟨rv, HC⟩, hcall, h⟩ := h
  simp only at h
  split at h
  case h_2 => cases h
  rename_i L hg
  obtain ⟨lC, kC⟩ := evCall_ok hE hcall
  -- the entering
  have hD : (WF H → Le H HD) ∧ ∀ F ρ w act rd' (HX : AH), Pre P F ρ H HX w → (Le (HD.new (.loop ⟨.ready, none, a.s, params, assign, body, dn⟩)) HX) → TT ρ a.s act.tmps → RdR ρ rd rd' → ∀ fn, Entered P F ρ H (HD.new (.loop ⟨.ready, none, a.s, params, assign, body, dn⟩)) w rd' act HD.next marks params assign body fn := by
    split at hent
    · split at hent
      case h_2 => cases hent
      rename_i ht0
      have ht0 := blt_lt ht0
      simp only [Option.some.injEq, Prod.mk.injEq] at hent
      obtain ⟨rfl, rfl, rfl⟩ := hent
      have lD := Le.new H (.deferred true) ht0
      refine ⟨fun _ => lD, fun F ρ w act rd' HX hp lX ht hr fn => ?_⟩
      cases hr
      have lL := Le.new (H.new (.deferred true)) (.loop ⟨.ready, none, a.s, params, assign, body, H.next⟩) htop
      have hs1 : Sim P F ρ (ren ρ H.next (some ⟨w.heap.size, 0, 0⟩)) H (H.new (.deferred true)) w { w with heap := w.heap.push (.deferred (some [])) } := Sim.alloc (hp.first (lL.trans lX)) ht0 rfl .deferred trivial
      have hp1 := (hp.first lX).next lD hs1
      obtain ⟨ρ2, hs2, t, e1, e2⟩ := alloc_loop (n := (H.new (.deferred true)).next) (L' := { state := .ready, pending := none, fn, tmps := act.tmps, params, assign, body, defers := w.heap.size }) htop rfl hp1 rfl rfl (ht.mono hs1.ext) rfl rfl rfl (.inr ⟨⟨w.heap.size, 0, 0⟩, by simp [ren], rfl⟩)
      refine ⟨⟨(w.heap.push (Obj.deferred (some []))).size, [{ target := .collected w.heap.size, args := #[] }], _, ρ2, ?_, hs1.trans lD hs2 lL, .cons ?_ .nil, t, e1, ?_⟩⟩
      · rfl
      · exact NR.mono (.inr ⟨⟨w.heap.size, 0, 0⟩, by simp [ren], rfl⟩) hs2.ext
      · exact e2
    · rename_i l0
      split at hent
      case h_2 => cases hent
      rename_i L0 hg0
      simp only [Option.some.injEq, Prod.mk.injEq] at hent
      obtain ⟨rfl, rfl, rfl⟩ := hent
      have lD := Le.touch H l0
      refine ⟨fun _ => lD, fun F ρ w act rd' HX hp lX ht hr fn => ?_⟩
      cases hr with
      | @some _ l' hl =>
        have lL := Le.new (H.touch l0) (.loop ⟨.ready, none, a.s, params, assign, body, L0.defers⟩) htop
        obtain ⟨t0, L', h1, h2, h3, h4, h5, h6, h7, h8, h9⟩ := hp.wr.loop (hp.foot l0 (lX.fp l0 (lL.fp l0 foot_touch))) hg0
        have := hl.to h1
        subst this
        have hs1 := Sim.touch (P := P) hp.wr l0
        have hp1 := (hp.first lX).next lD hs1
        obtain ⟨ρ2, hs2, t, e1, e2⟩ := alloc_loop (n := (H.touch l0).next) (L' := { state := .ready, pending := none, fn, tmps := act.tmps, params, assign, body, defers := L'.defers }) htop rfl hp1 rfl rfl ht rfl rfl rfl h9
        refine ⟨⟨w.heap.size, [], _, ρ2, ?_, hs1.trans lD hs2 lL, .nil, t, e1, e2⟩⟩
        simp only [Instr.enterLoop, Sem.run_bind, run_getLoop h2, Result.andThen_ok, Sem.run_pure]
        rfl
  obtain ⟨lD, kD⟩ := hD
  have lL := Le.new HD (.loop ⟨.ready, none, a.s, params, assign, body, dn⟩) htop
  have chain : WF H → WF HD ∧ WF (HD.new (.loop ⟨.ready, none, a.s, params, assign, body, dn⟩)) ∧ WF HC := fun hw => by
    have w1 := (lD hw).wf hw
    have w2 := lL.wf w1
    exact ⟨w1, w2, (lC w2).wf w2⟩
  have lE : WF HC → Le HC (HC.put HD.next (some (.loop { L with state := .exhausted }))) := fun hw => Le.put HC _ (get_lt hw hg) hw
  have main : L.state ≠ .busy → ∀ {HE : AH}, (WF HC → Le (HC.put HD.next (some (.loop { L with state := .exhausted }))) HE) →
      (∀ F ρ1 w4 act2 rd', Pre P F ρ1 (HC.put HD.next (some (.loop { L with state := .exhausted }))) HE w4 → AcR ρ1 ⟨a.s, marks ++ a.d⟩ act2 → RdR ρ1 rd rd' → ∀ o, L.pending = o →
        (match o with | none => (Exit.normal = x ∧ ∃ ρ2, AcR ρ2 a1 act2 ∧ Sim P F ρ1 ρ2 (HC.put HD.next (some (.loop { L with state := .exhausted }))) HE w4 w4) | some c => c.wpIn (fen rd') 0 P (fun x2 act3 w5 => x2 = x ∧ ∃ ρ2, AcR ρ2 a1 act3 ∧ Sim P F ρ1 ρ2 (HC.put HD.next (some (.loop { L with state := .exhausted }))) HE w4 w5) act2 w4)) →
      (WF H → Le H HE) ∧ ∀ F ρ w act rd', Pre P F ρ H HE w → AcR ρ a act → RdR ρ rd rd' →
      (Code.rangeFunc f params assign body).wpIn (fen rd') 0 P (fun x2 act2 w2 => x2 = x ∧ ∃ ρ1, AcR ρ1 a1 act2 ∧ Sim P F ρ ρ1 H HE w w2) act w := by
    intro hbusy HE lX kX
    refine ⟨fun hw => ?_, fun F ρ w act rd' hp hac hr => ?_⟩
    · obtain ⟨w1, w2, w3⟩ := chain hw
      exact (lD hw).trans (lL.trans ((lC w2).trans ((lE w3).trans (lX w3))))
    · obtain ⟨w1, w2, w3⟩ := chain hp.wf
      have LD := lD hp.wf
      have LC := lC w2
      have LE' := lE w3
      have LX := lX w3
      refine wpIn_rangeFunc fun fn _ => ?_
      have hround : (fen rd').round = rd' := fen_round rd'
      obtain ⟨⟨l, mark, wL, ρ1, e1, e2, e3, t, e4, e5⟩⟩ := kD F ρ w act rd' HE hp (LC.trans (LE'.trans LX)) hac.s hr fn
      subst e5
      have lDL := LD.trans lL
      have hpL := hp.next lDL e2
      have hfv := ev_ok (act := act) (hac.s.mono e2.ext) hf
      generalize hg' : act.eval f = fv' at hfv
      cases hfv with
      | @func _ f' _ xs' _ ys' hff hx h1 hy h2 =>
        cases hff with
        | func =>
          have hargs : RR ρ1 (first.toList ++ [Value.func (.yield HD.next) #[] #[]] ++ captured.toList).toArray (xs' ++ #[Value.func (.yield t.b) #[] #[]] ++ ys') := by
            have hy1 : VR ρ1 (Value.func (.yield HD.next) #[] #[]) (Value.func (.yield t.b) #[] #[]) := .func (.yield (.inr ⟨t, e4, rfl⟩)) rfl (fun i x x' hx => by simp at hx) rfl (fun i x x' hx => by simp at hx)
            have := (((RR.list ⟨hx, h1⟩).append (.cons hy1 .nil)).append (RR.list ⟨hy, h2⟩)).row
            have e : (xs'.toList ++ [Value.func (.yield t.b) #[] #[]] ++ ys'.toList).toArray = xs' ++ #[Value.func (.yield t.b) #[] #[]] ++ ys' := by apply Array.ext'; simp
            rw [e] at this
            exact this
          obtain ⟨fn2, c2, hfn2, hc2⟩ : ∃ fn2 c2, P.funcs[g]? = some fn2 ∧ fn2.body = some c2 := by
            unfold evCall at hcall
            split at hcall
            · rename_i he _
              simp at he
            unfold evCallee at hcall
            split at hcall
            case h_2 => cases hcall
            rename_i fn2 hfn2
            split at hcall
            case h_2 => cases hcall
            rename_i c2 hc2
            exact ⟨fn2, c2, hfn2, hc2⟩
          refine ⟨t.b, mark, wL, { target := .fn (.func g) ys', args := xs' ++ #[Value.func (.yield t.b) #[] #[]] }, wL, g, xs' ++ #[Value.func (.yield t.b) #[] #[]] ++ ys', wL, ?_, ?_, fun f' _ => fen_fn _ _, ?_, fun hd => (by rw [fen_depth] at hd; cases hd), ?_⟩
          · rw [hround]; exact e1
          · simp only [resolve, rangeCall, hg', Deferred.ofValue]
            simp [Act.eval]
          · show (callFunc g (xs' ++ #[Value.func (.yield t.b) #[] #[]] ++ ys')).run P wL = _
            exact run_callFunc hP hfn2 hc2 _ _
          · refine CallsIn.mono (callsIn_fen (kC F ρ1 wL _ (hpL.first (LE'.trans LX)) hargs)) fun e w3 hb => ?_
            obtain ⟨ρ2, v', rfl, b1, b2⟩ := hb
            have hpC := hpL.next LC b2
            have ht2 : ρ2 HD.next = some (some t) := by
              obtain ⟨t2, _, g2, _⟩ := hpC.wr.loop (hpC.foot _ (LX.fp _ foot_put)) hg
              rcases b2.ext.old _ _ e4 with q | q
              · exact q
              · rw [g2] at q; cases q
            obtain ⟨w4, r1, r2⟩ := endLoop_ok hg hbusy (hpC.first LX) ht2
            obtain ⟨o, ho⟩ : ∃ o, L.pending = o := ⟨_, rfl⟩
            refine ⟨o, w4, (by rw [ho] at r1; exact r1), ?_⟩
            have hpE := hpC.next LE' r2
            have hac2 : AcR ρ2 ⟨a.s, marks ++ a.d⟩ { act with defers := mark ++ act.defers } := ⟨(hac.s.mono e2.ext).mono b2.ext, (e3.mono b2.ext).append ((hac.d.mono e2.ext).mono b2.ext)⟩
            have hk := kX F ρ2 w4 { act with defers := mark ++ act.defers } rd' hpE hac2 ((hr.mono e2.ext).mono b2.ext) o ho
            have glue : ∀ {ρ3 : Ren} {w5 : World}, Sim P F ρ2 ρ3 (HC.put HD.next (some (.loop { L with state := .exhausted }))) HE w4 w5 → Sim P F ρ ρ3 H HE w w5 := fun hs => e2.trans lDL (b2.trans LC (r2.trans LE' hs LX) (LE'.trans LX)) (LC.trans (LE'.trans LX))
            cases o with
            | none =>
              obtain ⟨rfl, ρ3, q1, q2⟩ := hk
              exact ⟨rfl, ρ3, q1, glue q2⟩
            | some c =>
              exact wpIn_mono hk fun x2 act3 w5 hq => ⟨hq.1, hq.2.choose, hq.2.choose_spec.1, glue hq.2.choose_spec.2⟩
  split at h
  · cases h
  · rename_i hbusy
    have hbusy' : L.state ≠ .busy := fun e => hbusy e
    split at h
    · rename_i hpd
      simp only [Option.some.injEq, Prod.mk.injEq] at h
      obtain ⟨rfl, rfl, rfl⟩ := h
      refine main hbusy' (fun _ => Le.refl _) fun F ρ1 w4 act2 rd' hp hac hr o ho => ?_
      obtain rfl : o = none := ho.symm.trans hpd
      exact ⟨rfl, ρ1, hac, Sim.refl hp.wr⟩
    · rename_i c hpd
      obtain ⟨lX, kX⟩ := hE _ _ _ _ _ _ _ h
      refine main hbusy' (fun hw => lX ((lE hw).wf hw)) fun F ρ1 w4 act2 rd' hp hac hr o ho => ?_
      obtain rfl : o = some c := ho.symm.trans hpd
      exact kX F ρ1 w4 act2 rd' hp hac hr
end
end Go.Ev
