import Derived.Test.YtnileccnalpknaaEvR
import Derived.LoopNIn

/- All code. -/
namespace Go.Ev
set_option linter.unusedSimpArgs false
set_option linter.unusedVariables false
noncomputable section
set_option linter.unusedSectionVars false
open Go
variable {ρ ρ' ρ1 ρ2 : Ren} {F : Nat → Prop} {H H1 H2 : AH} {w w1 w2 : World} {P : Program} [Known P]

theorem stepR_scope {b : Frame} {a : Act} {k : List Item} {cs : List Frame} {w : World} {c : Code} : step P (lone (b.atR a (.code (.scope c) :: k)) cs w) = .next (lone (b.atR a (.code c :: .inScope c :: k)) cs w) :=
  step_lone_go (by simp [stepG, stepG.exec, Frame.atR])
theorem stepR_inScope {b : Frame} {a : Act} {k : List Item} {cs : List Frame} {w : World} {c : Code} : step P (lone (b.atR a (.inScope c :: k)) cs w) = .next (lone (b.atR a k) cs w) :=
  step_lone_go (by simp [stepG, stepG.exec, Frame.atR])

def NoGo : Exit → Prop
  | .goto _ => False
  | .exit _ => True
  | .normal => True
  | .ret => True
  | .panic _ => True
  | .outgrown => True

theorem wpIn_scope_one {F : Fence} {n : Nat} {c : Code} {Q : Exit → Act → World → Prop} {a : Act} {w : World} {x : Exit} (hx : NoGo x) (h : c.wpIn F n P (fun e a w => e = x ∧ Q e a w) a w) : (Code.scope c).wpIn F n P Q a w := by
  intro b k cs hro hb hr
  have h0 : (lone (b.atR a (.code (.scope c) :: k)) cs w).fenced P F := fenced_calm hb hr rfl
  obtain ⟨e, a₁, w₁, ⟨he, hq⟩, harr⟩ := h b (.inScope c :: k) cs hro hb hr
  subst he
  cases e with
  | normal => exact ⟨.normal, a₁, w₁, hq, .head h0 stepR_scope (StepsIn.trans harr (.one (fenced_calm hb hr rfl) stepR_inScope))⟩
  | exit id =>
    have hx : exitTo id (.inScope c :: k) = exitTo id k := by simp [exitTo]
    exact ⟨_, a₁, w₁, hq, fun k' hk => .head h0 stepR_scope (harr.1 k' (by rw [hx]; exact hk)),
      fun hr' hk => let ⟨k₁, h1, h2⟩ := harr.2 hr' (by rw [hx]; exact hk); ⟨k₁, h1, .head h0 stepR_scope h2⟩⟩
  | goto l => exact hx.elim
  | ret => exact ⟨_, a₁, w₁, hq, .of_steps (.one h0 stepR_scope) harr⟩
  | panic ch => exact ⟨_, a₁, w₁, hq, .of_steps (.one h0 stepR_scope) harr⟩
  | outgrown => exact ⟨_, a₁, w₁, hq, .of_steps (.one h0 stepR_scope) harr⟩

theorem post_mono {c : Code} {rd' : Option Nat} {act : Act} {x : Exit} {a1 : AA} {Q : Exit → Act → World → Prop} (hk : c.wpIn (fen rd') 0 P (fun x2 act2 w2 => x2 = x ∧ ∃ ρ1, AcR ρ1 a1 act2 ∧ Sim P F ρ ρ1 H H1 w w2) act w) (h : ∀ ρ1 act2 w2, AcR ρ1 a1 act2 → Sim P F ρ ρ1 H H1 w w2 → Q x act2 w2) : c.wpIn (fen rd') 0 P Q act w :=
  wpIn_mono hk (by rintro e a w ⟨rfl, ρ1, h1, h2⟩; exact h ρ1 a w h1 h2)

def LoopOk (P : Program) [Known P] (D : EvCode → EvDraw) (n : Nat) : Prop :=
  ∀ rd c a H x a1 H1, ev P D n rd (.loop c) a H = some (x, a1, H1) → (WF H → Le H H1) ∧ ∀ F ρ w act rd' (Q : Exit → Act → World → Prop), Pre P F ρ H H1 w → AcR ρ a act → RdR ρ rd rd' →
    (∀ ρ1 act2 w2, AcR ρ1 a1 act2 → Sim P F ρ ρ1 H H1 w w2 → Q x act2 w2) → Code.roundsIn (fen rd') 0 P c Q n act w

theorem AcR.mono {a : AA} {act : Act} (h : AcR ρ a act) (e : Ext ρ ρ') : AcR ρ' a act := ⟨h.s.mono e, h.d.mono e⟩

theorem not_norm {x : Exit} {K : Act → World → Prop} {Q : Exit → Act → World → Prop} {a : Act} {w : World} (hx : x ≠ .normal) (h : Q x a w) : Exit.then K Q x a w := by
  cases x <;> first | exact absurd rfl hx | exact h

theorem loop_ok {D : EvCode → EvDraw} {n : Nat} (ihC : CodeOk P (ev P D n)) (ihL : LoopOk P D n) : LoopOk P D (n + 1) := by
  intro rd c a H x a1 H1 h
  simp only [ev] at h
  split at h
  · rename_i aM HM hM
    obtain ⟨l1, k1⟩ := ihC _ _ _ _ _ _ _ hM
    obtain ⟨l2, k2⟩ := ihL _ _ _ _ _ _ _ h
    refine ⟨fun hw => (l1 hw).trans (l2 ((l1 hw).wf hw)), fun F ρ w act rd' Q hp hac hr hq => ?_⟩
    have L1 := l1 hp.wf
    have L2 := l2 (L1.wf hp.wf)
    rw [roundsIn_succ]
    refine post_mono (k1 F ρ w act rd' (hp.first L2) hac hr) fun ρ1 act2 w2 h1 h2 => ?_
    exact k2 F ρ1 w2 act2 rd' Q (hp.next L1 h2) h1 (hr.mono h2.ext) fun ρ2 act3 w3 h3 h4 => hq ρ2 act3 w3 h3 (h2.trans L1 h4 L2)
  · rename_i hn
    obtain ⟨l1, k1⟩ := ihC _ _ _ _ _ _ _ h
    refine ⟨l1, fun F ρ w act rd' Q hp hac hr hq => ?_⟩
    rw [roundsIn_succ]
    refine post_mono (k1 F ρ w act rd' hp hac hr) fun ρ1 act2 w2 h1 h2 => not_norm (fun e => ?_) (hq ρ1 act2 w2 h1 h2)
    subst e
    exact hn _ _ h

theorem code_ok (hP : Plain P) {D : EvCode → EvDraw} (hD : DrawOk P D) {n : Nat} (ihC : CodeOk P (ev P D n)) (ihL : LoopOk P D n) : CodeOk P (ev P D (n + 1)) := by
  intro rd c a H x a1 H1 h
  cases c with
  | skip =>
    simp only [ev, Option.some.injEq, Prod.mk.injEq] at h
    obtain ⟨rfl, rfl, rfl⟩ := h
    exact ⟨fun _ => Le.refl _, fun F ρ w act rd' hp hac hr => wpIn_skip ⟨rfl, ρ, hac, Sim.refl hp.wr⟩⟩
  | label l =>
    simp only [ev, Option.some.injEq, Prod.mk.injEq] at h
    obtain ⟨rfl, rfl, rfl⟩ := h
    exact ⟨fun _ => Le.refl _, fun F ρ w act rd' hp hac hr => wpIn_label ⟨rfl, ρ, hac, Sim.refl hp.wr⟩⟩
  | exit id =>
    simp only [ev, Option.some.injEq, Prod.mk.injEq] at h
    obtain ⟨rfl, rfl, rfl⟩ := h
    exact ⟨fun _ => Le.refl _, fun F ρ w act rd' hp hac hr => wpIn_exit ⟨rfl, ρ, hac, Sim.refl hp.wr⟩⟩
  | goto l =>
    simp only [ev, Option.some.injEq, Prod.mk.injEq] at h
    obtain ⟨rfl, rfl, rfl⟩ := h
    exact ⟨fun _ => Le.refl _, fun F ρ w act rd' hp hac hr => wpIn_goto ⟨rfl, ρ, hac, Sim.refl hp.wr⟩⟩
  | ret =>
    simp only [ev, Option.some.injEq, Prod.mk.injEq] at h
    obtain ⟨rfl, rfl, rfl⟩ := h
    exact ⟨fun _ => Le.refl _, fun F ρ w act rd' hp hac hr => wpIn_ret ⟨rfl, ρ, hac, Sim.refl hp.wr⟩⟩
  | seq y z =>
    simp only [ev] at h
    split at h
    · rename_i aM HM hM
      obtain ⟨l1, k1⟩ := ihC _ _ _ _ _ _ _ hM
      obtain ⟨l2, k2⟩ := ihC _ _ _ _ _ _ _ h
      refine ⟨fun hw => (l1 hw).trans (l2 ((l1 hw).wf hw)), fun F ρ w act rd' hp hac hr => ?_⟩
      have L1 := l1 hp.wf
      have L2 := l2 (L1.wf hp.wf)
      refine wpIn_seq (post_mono (k1 F ρ w act rd' (hp.first L2) hac hr) fun ρ1 act2 w2 h1 h2 => ?_)
      exact post_mono (k2 F ρ1 w2 act2 rd' (hp.next L1 h2) h1 (hr.mono h2.ext)) fun ρ2 act3 w3 h3 h4 => ⟨rfl, ρ2, h3, h2.trans L1 h4 L2⟩
    · rename_i hn
      obtain ⟨l1, k1⟩ := ihC _ _ _ _ _ _ _ h
      refine ⟨l1, fun F ρ w act rd' hp hac hr => ?_⟩
      refine wpIn_seq (post_mono (k1 F ρ w act rd' hp hac hr) fun ρ1 act2 w2 h1 h2 => not_norm (fun e => ?_) ⟨rfl, ρ1, h1, h2⟩)
      subst e
      exact hn _ _ h
  | cond c y z =>
    simp only [ev] at h
    split at h
    · rename_i hc
      obtain ⟨l1, k1⟩ := ihC _ _ _ _ _ _ _ h
      refine ⟨l1, fun F ρ w act rd' hp hac hr => wpIn_cond_true ?_ (k1 F ρ w act rd' hp hac hr)⟩
      have := ev_ok (act := act) hac.s hc
      generalize act.eval c = v at this
      cases this
      rfl
    · rename_i hc
      obtain ⟨l1, k1⟩ := ihC _ _ _ _ _ _ _ h
      refine ⟨l1, fun F ρ w act rd' hp hac hr => wpIn_cond_false ?_ (k1 F ρ w act rd' hp hac hr)⟩
      have := ev_ok (act := act) hac.s hc
      generalize act.eval c = v at this
      cases this
      rfl
    · cases h
  | block id y =>
    simp only [ev] at h
    split at h
    · rename_i id' aM HM hM
      obtain ⟨l1, k1⟩ := ihC _ _ _ _ _ _ _ hM
      split at h
      · rename_i hid
        simp only [Option.some.injEq, Prod.mk.injEq] at h
        obtain ⟨rfl, rfl, rfl⟩ := h
        refine ⟨l1, fun F ρ w act rd' hp hac hr => wpIn_block (post_mono (k1 F ρ w act rd' hp hac hr) fun ρ1 act2 w2 h1 h2 => ?_)⟩
        simp only [Exit.inBlock, Nat.eq_of_beq_eq_true hid, if_true]
        exact ⟨trivial, ρ1, h1, h2⟩
      · rename_i hid
        simp only [Option.some.injEq, Prod.mk.injEq] at h
        obtain ⟨rfl, rfl, rfl⟩ := h
        refine ⟨l1, fun F ρ w act rd' hp hac hr => wpIn_block (post_mono (k1 F ρ w act rd' hp hac hr) fun ρ1 act2 w2 h1 h2 => ?_)⟩
        simp only [Exit.inBlock, Nat.ne_of_beq_eq_false hid, if_false]
        exact ⟨trivial, ρ1, h1, h2⟩
    · rename_i hn
      obtain ⟨l1, k1⟩ := ihC _ _ _ _ _ _ _ h
      refine ⟨l1, fun F ρ w act rd' hp hac hr => wpIn_block (post_mono (k1 F ρ w act rd' hp hac hr) fun ρ1 act2 w2 h1 h2 => ?_)⟩
      cases x with
      | exit id' => exact (hn _ _ _ h).elim
      | normal => exact ⟨rfl, ρ1, h1, h2⟩
      | goto l => exact ⟨rfl, ρ1, h1, h2⟩
      | ret => exact ⟨rfl, ρ1, h1, h2⟩
      | panic ch => exact ⟨rfl, ρ1, h1, h2⟩
      | outgrown => exact ⟨rfl, ρ1, h1, h2⟩
  | loop y =>
    obtain ⟨l1, k1⟩ := loop_ok ihC ihL _ _ _ _ _ _ _ h
    exact ⟨l1, fun F ρ w act rd' hp hac hr => wpIn_loop_rounds (n + 1) (k1 F ρ w act rd' _ hp hac hr fun ρ1 act2 w2 h1 h2 => ⟨rfl, ρ1, h1, h2⟩)⟩
  | scope y =>
    simp only [ev] at h
    split at h
    · cases h
    · rename_i hn
      obtain ⟨l1, k1⟩ := ihC _ _ _ _ _ _ _ h
      refine ⟨l1, fun F ρ w act rd' hp hac hr => wpIn_scope_one (x := x) ?_ (post_mono (k1 F ρ w act rd' hp hac hr) fun ρ1 act2 w2 h1 h2 => ⟨rfl, rfl, ρ1, h1, h2⟩)⟩
      cases x <;> first | exact trivial | exact (hn _ _ _ h).elim
  | rangeFunc f params assign body =>
    simp only [ev] at h
    exact evRange_ok hP ihC h
  | region id ops draw =>
    simp only [ev] at h
    split at h
    · simp only [Option.bind_eq_some_iff, Option.some.injEq, Prod.mk.injEq] at h
      obtain ⟨⟨aM, HM⟩, hM, rfl, rfl, rfl⟩ := h
      obtain ⟨l1, k1⟩ := evOps_ok hP ihC hM
      refine ⟨l1, fun F ρ w act rd' hp hac hr => wpIn_region_list (k1 F ρ w act rd' _ hp hac.s fun ρ1 w1 act1 h1 h2 h3 => ⟨rfl, ρ1, ⟨h1, ?_⟩, h3⟩)⟩
      rw [h2]
      exact hac.d.mono h3.ext
    · simp only [Option.bind_eq_some_iff, Option.some.injEq, Prod.mk.injEq] at h
      obtain ⟨⟨aM, HM⟩, hM, rfl, rfl, rfl⟩ := h
      obtain ⟨l1, k1⟩ := hD _ ihC id _ _ _ _ _ hM
      refine ⟨l1, fun F ρ w act rd' hp hac hr => wpIn_mono (k1 F ρ w act rd' hp hac.s) ?_⟩
      rintro e act1 w1 ⟨rfl, h2, ρ1, h1, h3⟩
      refine ⟨rfl, ρ1, ⟨h1, ?_⟩, h3⟩
      rw [h2]
      exact hac.d.mono h3.ext
  | refuse s => simp only [ev] at h; cases h

theorem ev_both (hP : Plain P) {D : EvCode → EvDraw} (hD : DrawOk P D) : ∀ n, CodeOk P (ev P D n) ∧ LoopOk P D n
  | 0 => ⟨fun rd c a H x a1 H1 h => (by cases h), fun rd c a H x a1 H1 h => (by cases h)⟩
  | n + 1 => ⟨code_ok hP hD (ev_both hP hD n).1 (ev_both hP hD n).2, loop_ok (ev_both hP hD n).1 (ev_both hP hD n).2⟩

theorem ev_ok' (hP : Plain P) {D : EvCode → EvDraw} (hD : DrawOk P D) (n : Nat) : CodeOk P (ev P D n) := (ev_both hP hD n).1
end
end Go.Ev
