import Derived.Test.YtnileccnalpknaaEvO

/- Rounds, operations, lists of operations. -/
namespace Go.Ev
set_option linter.unusedSimpArgs false
set_option linter.unusedVariables false
noncomputable section
set_option linter.unusedSectionVars false
open Go
variable {ρ ρ' ρ1 ρ2 : Ren} {F : Nat → Prop} {H H1 H2 : AH} {w w1 w2 : World} {P : Program} [Known P]

theorem WR.loop {n : Nat} {L : AL} (h : WR P ρ F H w) (hF : F n) (hx : H.get n = some (.loop L)) : ∃ t L', ρ n = some (some t) ∧ w.heap[t.b]? = some (.loop L') ∧ L'.state = L.state ∧ L'.pending = L.pending ∧ TT ρ L.tmps L'.tmps ∧ L'.params = L.params ∧ L'.assign = L.assign ∧ L'.body = L.body ∧ NR ρ L.defers L'.defers := by
  obtain ⟨t, o', h1, h2, h3, _⟩ := h.obj n _ hF hx
  cases h3 with
  | loop a b c d e f g => exact ⟨t, _, h1, h2, a, b, c, d, e, f, g⟩
theorem run_getLoop {b : Nat} {L : Loop} (h : w.heap[b]? = some (.loop L)) : (Instr.getLoop b).run P w = .ok L w := by
  simp [Instr.getLoop, run_getObj (P := P) h (fun _ _ _ e => by cases e)]
theorem run_setLoop {b : Nat} {L L2 : Loop} (h : w.heap[b]? = some (.loop L)) : (setObj b (.loop L2)).run P w = .ok () { w with heap := w.heap.setIfInBounds b (.loop L2) } :=
  run_setObj (P := P) h (fun _ _ _ e => by cases e)

theorem foot_put {n : Nat} {o : Option AO} : (H.put n o).fp.testBit n = true := by simp only [AH.put_eq]; rw [bit_or]; simp
theorem foot_touch {n : Nat} : (H.touch n).fp.testBit n = true := by simp only [AH.touch_eq]; rw [bit_or]; simp

theorem endRound_ok {l : Nat} {L : AL} {j : Option Code} (hg : H.get l = some (.loop L)) {t : Tgt} (hp : Pre P F ρ H (H.put l (some (.loop (ended L j)))) w) (ht : ρ l = some (some t)) :
    ∃ w1, (Instr.endRound t.b j).run P w = .ok (.bool j.isNone) w1 ∧ Sim P F ρ ρ H (H.put l (some (.loop (ended L j)))) w w1 := by
  obtain ⟨t', L', h1, h2, h3, h4, h5, h6, h7, h8, h9⟩ := hp.wr.loop (hp.foot l foot_put) hg
  rw [ht] at h1
  cases h1
  refine ⟨_, ?_, Sim.change hp.wr hp.wf hg ht (.loop (l' := { L' with state := endState j, pending := j }) rfl rfl h5 h6 h7 h8 h9) trivial⟩
  simp only [Instr.endRound, Sem.run_bind, run_getLoop h2, Result.andThen_ok, run_setLoop h2, Sem.run_pure]
  cases j <;> rfl

theorem evRound_ok {E : EvCode} (hE : CodeOk P E) {l : Nat} {args : List Value} {v : Value} (h : evRound E l args H = some (v, H1)) :
    (WF H → Le H H1) ∧ ∀ F ρ w l' args' rd', Pre P F ρ H H1 w → RR ρ args.toArray args' → NR ρ l l' →
      ∃ f tmps assign body, (Instr.yield l' args').run P w = .ok (.round l' f tmps assign body) w ∧ RoundIn (fen rd') 0 P l' f tmps assign body w (Back P F H H1 v ρ w) := by
  unfold evRound at h
  split at h
  case h_2 => cases h
  rename_i L hg
  split at h
  case h_2 => cases h
  rename_i hlen
  have hlen := Nat.eq_of_beq_eq_true hlen
  rw [Option.bind_eq_some_iff] at h
  obtain ⟨s, hs, h⟩ := h
  split at h
  case h_2 => cases h
  rename_i a1 HA hA
  split at h
  case h_2 => cases h
  rename_i L1 hg1
  split at h
  case h_2 => cases h
  rename_i hready
  split at h
  case h_2 => cases h
  rename_i x a2 HB hB
  split at h
  case h_2 => cases h
  rename_i j L2 hj hg2
  simp only [Option.some.injEq, Prod.mk.injEq] at h
  obtain ⟨rfl, rfl⟩ := h
  obtain ⟨l1, k1⟩ := hE _ _ _ _ _ _ _ hA
  obtain ⟨l2, k2⟩ := hE _ _ _ _ _ _ _ hB
  have wT : WF H → WF (H.touch l) := (Le.touch H l).wf
  have lP : WF HA → Le HA (HA.put l (some (.loop { L1 with state := .busy }))) := fun hw => Le.put HA _ (get_lt hw hg1) hw
  have lE : WF HB → Le HB (HB.put l (some (.loop (ended L2 j)))) := fun hw => Le.put HB _ (get_lt hw hg2) hw
  have all : WF H → WF HA ∧ WF (HA.put l (some (.loop { L1 with state := .busy }))) ∧ WF HB := fun hw => by
    have w1 := (l1 (wT hw)).wf (wT hw)
    have w2 := (lP w1).wf w1
    exact ⟨w1, w2, (l2 w2).wf w2⟩
  refine ⟨fun hw => ?_, fun F ρ w l' args' rd' hp ha hl => ?_⟩
  · obtain ⟨w1, w2, w3⟩ := all hw
    exact (Le.touch H l).trans ((l1 (wT hw)).trans ((lP w1).trans ((l2 w2).trans (lE w3))))
  · obtain ⟨w1, w2, w3⟩ := all hp.wf
    have L1' := l1 (wT hp.wf)
    have LP' := lP w1
    have L2' := l2 w2
    have LE' := lE w3
    have hfoot : F l := hp.foot l (LE'.fp l (L2'.fp l (LP'.fp l (L1'.fp l foot_touch))))
    obtain ⟨t, L', h1, h2, h3, h4, h5, h6, h7, h8, h9⟩ := hp.wr.loop hfoot hg
    have hlt := hl.to h1
    subst hlt
    refine ⟨L'.fn, (L'.params.zip args').foldl (fun tmps (p : Tmp × Value) => tmps.setIfInBounds p.1 p.2) L'.tmps, L'.assign, L'.body, ?_, ?_⟩
    · have hsz : args'.size = L'.params.size := by rw [h6]; have := ha.1; simp at this hlen; omega
      simp only [Instr.yield, Sem.run_bind, run_getLoop h2, Result.andThen_ok]
      rw [if_neg (by simpa using hsz)]
      rfl
    · have hround : RoundIn Fence.wide 0 P t.b L'.fn ((L'.params.zip args').foldl (fun tmps (p : Tmp × Value) => tmps.setIfInBounds p.1 p.2) L'.tmps) L'.assign L'.body w (Back P F H (HB.put l (some (.loop (ended L2 j)))) (.bool j.isNone) ρ w) := by
        refine roundIn_of_wpIn trivial ?_
        have hsT := Sim.touch (P := P) hp.wr l
        have hpT := hp.next (Le.touch H l) hsT
        have htt : TT ρ s ((L'.params.zip args').foldl (fun tmps (p : Tmp × Value) => tmps.setIfInBounds p.1 p.2) L'.tmps) := by
          rw [← Array.foldl_toList, Array.toList_zip]
          refine ainto_ok (l := L.params.toList.zip args) (l' := L'.params.toList.zip args'.toList) hs h5 ?_ ?_
          · have := ha.1
            simp at this
            rw [h6]
            simp [this]
          · intro i p p' hp1 hp2
            rw [h6] at hp2
            rw [List.getElem?_zip_eq_some] at hp1 hp2
            refine ⟨by rw [hp1.1] at hp2; have := hp2.1; simpa using this.symm, ha.2 i _ _ (by simpa using hp1.2) (by simpa using hp2.2)⟩
        rw [h7, h8]
        have hNR : RdR ρ (some l) (some t.b) := .some (.inr ⟨t, h1, rfl⟩)
        have hcode := k1 F ρ w { tmps := (L'.params.zip args').foldl (fun tmps (p : Tmp × Value) => tmps.setIfInBounds p.1 p.2) L'.tmps, defers := [] } (some t.b) (hpT.first (LP'.trans (L2'.trans LE'))) ⟨htt, .nil⟩ hNR
        refine wpIn_mono hcode fun x2 act2 w4 hq => ?_
        obtain ⟨rfl, ρ1, hac, hs1⟩ := hq
        have hpA := hpT.next L1' hs1
        obtain ⟨t1, L1c, g1, g2, g3, g4, g5, g6, g7, g8, g9⟩ := hpA.wr.loop hfoot hg1
        have ht1 : t1 = t := by
          rcases hs1.ext.old l _ h1 with e | e
          · rw [g1] at e; cases e; rfl
          · rw [g1] at e; cases e
        subst ht1
        have hsP : Sim P F ρ1 ρ1 HA (HA.put l (some (.loop { L1 with state := .busy }))) w4 { w4 with heap := w4.heap.setIfInBounds t1.b (.loop { L1c with state := .busy }) } := Sim.change hpA.wr hpA.wf hg1 g1 (.loop rfl g4 g5 g6 g7 g8 g9) trivial
        refine ⟨{ w4 with heap := w4.heap.setIfInBounds t1.b (.loop { L1c with state := .busy }) }, ?_, ?_⟩
        · simp only [Instr.beginRound, Sem.run_bind, run_getLoop g2, Result.andThen_ok, run_setLoop g2]
          rw [g3, hready]
          rfl
        · have hpP := hpA.next LP' hsP
          have hcode2 := k2 F ρ1 _ act2 (some t1.b) (hpP.first LE') hac (hNR.mono hs1.ext)
          refine wpIn_mono hcode2 fun x3 act3 w6 hq => ?_
          obtain ⟨rfl, ρ2, hac2, hs2⟩ := hq
          have hpB := hpP.next L2' hs2
          have ht2 : ρ2 l = some (some t1) := by
            obtain ⟨t2, _, e2, _⟩ := hpB.wr.loop hfoot hg2
            rcases hs2.ext.old l _ g1 with e | e
            · exact e
            · rw [e2] at e; cases e
          obtain ⟨w7, hr, hs3⟩ := endRound_ok hg2 hpB ht2
          have hall := hsT.trans (Le.touch H l) (hs1.trans L1' (hsP.trans LP' (hs2.trans L2' hs3 LE') (L2'.trans LE')) (LP'.trans (L2'.trans LE'))) (L1'.trans (LP'.trans (L2'.trans LE')))
          cases x3 <;> simp only [jumpOf, Option.some.injEq] at hj <;> first | (cases hj; done) | subst hj
          all_goals exact ⟨_, _, hr, ρ2, _, rfl, .bool _, hall⟩
      exact (by cases rd' <;> exact hround)
end
end Go.Ev
