import Derived.Test.YtnileccnalpknaaEvY

/- Drawn regions are as the evaluator says. -/
namespace Go.Ev
set_option linter.unusedSimpArgs false
set_option linter.unusedVariables false
noncomputable section
set_option linter.unusedSectionVars false
open Go
variable {ρ ρ' ρ1 ρ2 : Ren} {F : Nat → Prop} {H H1 H2 : AH} {w w1 w2 : World} {P : Program} [Known P]
section
variable {E : EvCode} {ops : Array Oper} {S : Nat → St} {R : Nat → Rec}

def cnt (l : Array Bool) : Nat := l.toList.countP fun b => !b
theorem cnt_set {l : Array Bool} {i : Nat} (hi : i < l.size) (h : l.getD i false = false) : cnt (l.setIfInBounds i true) < cnt l := by
  have hg : l.toList[i]? = some false := by
    simp [Array.getD, hi] at h
    simp [hi, h]
  unfold cnt
  rw [Array.toList_setIfInBounds]
  generalize l.toList = m at hg
  clear h hi
  induction m generalizing i with
  | nil => simp at hg
  | cons x m ih =>
    cases i with
    | zero =>
      simp only [List.getElem?_cons_zero, Option.some.injEq] at hg
      subst hg
      simp
    | succ i =>
      simp only [List.getElem?_cons_succ] at hg
      have := ih hg
      simp only [List.set_cons_succ, List.countP_cons]
      omega
theorem cnt_zero {l : Array Bool} (h : cnt l = 0) {i : Nat} (hi : i < l.size) : l.getD i false = true := by
  unfold cnt at h
  rw [List.countP_eq_zero] at h
  have := h l[i] (by simp)
  simpa [Array.getD, hi] using this
theorem getD_set {l : Array Bool} {i : Nat} (hi : i < l.size) : (fun j => (l.setIfInBounds i true).getD j false) = addTo (fun j => l.getD j false) i := by
  funext j
  by_cases e : j = i
  · subst e
    rw [addTo_self]
    simp [hi]
  · rw [addTo_ne e]
    simp only [Array.getD_eq_getD_getElem?]
    rw [Array.getElem?_setIfInBounds_ne (fun x => e x.symm)]

theorem mem_ready {l : Array Bool} (hl : l.size = ops.size) {i : Nat} : i ∈ Region.ready .any ops l ↔ ∃ o, ops[i]? = some o ∧ i < ops.size ∧ l.getD i false = false ∧ ∀ k, k ∈ directs o → l.getD k false = true := by
  unfold Region.ready
  rw [List.mem_filter, List.mem_range]
  constructor
  · rintro ⟨h1, h2⟩
    have ho : ops[i]? = some ops[i] := by simp
    rw [ho] at h2
    simp only [Option.map_some, Option.getD_some, Bool.and_eq_true, Bool.not_eq_true'] at h2
    refine ⟨_, ho, h1, ?_, fun k hk => ?_⟩
    · have := h2.1
      have hi : i < l.size := by omega
      simpa [Array.getD, hi] using this
    · simp only [directs, List.mem_map, List.mem_filter] at hk
      obtain ⟨e, ⟨h3, h4⟩, rfl⟩ := hk
      have := Array.all_eq_true'.1 h2.2 e (by simpa using h3)
      simpa [h4] using this
  · rintro ⟨o, ho, h1, h2, h3⟩
    refine ⟨h1, ?_⟩
    rw [ho]
    simp only [Option.map_some, Option.getD_some, Bool.and_eq_true, Bool.not_eq_true']
    refine ⟨?_, Array.all_eq_true'.2 fun e he => ?_⟩
    · have hi : i < l.size := by omega
      simpa [Array.getD, hi] using h2
    · by_cases hb : Region.binds .any e = true
      · have := h3 e.on (List.mem_map.2 ⟨e, List.mem_filter.2 ⟨by simpa using he, hb⟩, rfl⟩)
        simp [this]
      · simp [hb]

theorem ready_nil (T : Tr P E ops S R) {l : Array Bool} (hl : l.size = ops.size) (h : Region.ready .any ops l = []) : ∀ i, i < ops.size → l.getD i false = true := by
  intro i
  induction i using Nat.strongRecOn with
  | _ i ih =>
    intro hi
    cases hg : l.getD i false with
    | true => rfl
    | false =>
      obtain ⟨o, v, H', ho, hs⟩ := T.op hi
      have : i ∈ Region.ready .any ops l := (mem_ready hl).2 ⟨o, ho, hi, hg, fun k hk => by
        have h1 := allBelow_ok hs.dir k hk
        rw [(T.recs i (by omega)).1] at h1
        exact ih k h1 (by omega)⟩
      rw [h] at this
      simp at this

theorem any_ok (hP : Plain P) (hE : CodeOk P E) (T : Tr P E ops S R) (hw0 : WF (S 0).H) (hn : (S 0).a.n ≤ 1000000) (hF : ∀ n, (S ops.size).H.fp.testBit n = true → F n) (hup : ∀ n, (S 0).H.next ≤ n → F n)
    {ρ0 : Ren} {w0 : World} {act0 : Act} {rd' : Option Nat} {Q : Exit → Act → World → Prop} (hq : ∀ ρ1 w1 act1 D, (∀ i, i < ops.size → D i = true) → Inv P F S R ops.size ρ0 w0 act0 D ρ1 w1 act1 → Q .normal act1 w1) :
    ∀ (fuel : Nat) (l : Array Bool) (ρ : Ren) (w : World) (act : Act), l.size = ops.size → cnt l ≤ fuel → Inv P F S R ops.size ρ0 w0 act0 (fun j => l.getD j false) ρ w act → wpAnyIn (fen rd') 0 P .any ops Q fuel l act w
  | 0, l, ρ, w, act, hl, hc, I => by
    have hall : ∀ i, i < ops.size → l.getD i false = true := fun i hi => cnt_zero (by omega) (by omega)
    refine ⟨?_, hq ρ w act _ hall I⟩
    cases hr : Region.ready .any ops l with
    | nil => rfl
    | cons x xs =>
      have : x ∈ Region.ready .any ops l := by rw [hr]; simp
      obtain ⟨o, _, h1, h2, _⟩ := (mem_ready hl).1 this
      rw [hall x h1] at h2
      cases h2
  | fuel + 1, l, ρ, w, act, hl, hc, I => by
    refine ⟨fun hr => hq ρ w act _ (ready_nil T hl hr) I, fun i hi => ?_⟩
    obtain ⟨o, ho, h1, h2, h3⟩ := (mem_ready hl).1 hi
    refine I.step hP hE T hw0 hn hF hup h1 ho h2 h3 fun ρ1 w1 act1 I1 => ?_
    refine any_ok hP hE T hw0 hn hF hup hq fuel _ ρ1 w1 act1 (by simpa using hl) ?_ ?_
    · have := cnt_set (l := l) (i := i) (by omega) h2
      omega
    · rw [getD_set (by omega)]
      exact I1

theorem last_none {Tc : Nat → Bool} {n : Nat} : last Tc (fun _ => false) n = none := by
  induction n with
  | zero => rfl
  | succ n ih => simp [last, ih]
end

theorem evDraw_ok (hP : Plain P) (hm : P.follows .mixedOrders = true) : DrawOk P (evDraw P) := by
  intro E hE id ops a H a1 H1 h
  unfold evDraw at h
  simp only [Option.bind_eq_some_iff, Option.some.injEq, Prod.mk.injEq] at h
  obtain ⟨s', h, rfl, rfl⟩ := h
  obtain ⟨S, R, e0, eN, T⟩ := tr_of rfl h
  subst eN
  have hH : (S 0).H = H := by rw [e0]
  have ha : (S 0).a = a := by rw [e0]
  subst hH ha
  refine ⟨fun hw => T.le hP hE hw (i := 0) _ (Nat.zero_le _) (Nat.le_refl _), fun F ρ w act rd' hp ht => wpIn_region_any hm ?_⟩
  have hw0 := hp.wf
  refine any_ok (S := S) (R := R) (F := F) (ρ0 := ρ) (w0 := w) (act0 := act) hP hE T hw0 ht.2.1 hp.foot hp.up ?_ _ _ ρ _ act (by simp) ?_ ?_
  · intro ρ1 w1 act1 D hD I
    have hname : ∀ n, hc S R ops.size D n = (S ops.size).H.get n := fun n => by
      unfold hc
      rw [last_pre (i := ops.size) fun j hj _ => ⟨fun _ => hj, fun _ => hD j hj⟩, Nat.min_self]
      exact (T.name hP hE hw0 n _ (Nat.le_refl _)).symm
    have hslot : ∀ d, sc S R ops.size D d = (S ops.size).a.get d := fun d => by
      unfold sc
      rw [last_pre (i := ops.size) fun j hj _ => ⟨fun _ => hj, fun _ => hD j hj⟩, Nat.min_self]
      exact (T.slot ht.2.1 d _ (Nat.le_refl _)).symm
    have hnn := T.n ops.size (Nat.le_refl _)
    refine ⟨rfl, I.defers, ρ1, ⟨I.size.trans hnn.symm, by rw [hnn]; exact ht.2.1, fun d hd => ?_⟩, ?_⟩
    · rw [← hslot d]
      exact I.slots d (by rw [← hnn]; exact hd)
    · exact ⟨I.sim.ext, I.sim.new, I.sim.kill, I.sim.far, ⟨I.inj, I.bound, fun n o hf hg => I.obj n o hf ((hname n).trans hg)⟩, I.sim.frame, I.sim.size, I.sim.os, I.sim.tape, I.sim.output⟩
  · unfold cnt
    refine Nat.le_trans (List.countP_le_length) ?_
    simp
  · have e : (fun j => (Array.replicate ops.size false).getD j false) = fun _ => false := by
      funext j
      by_cases hj : j < ops.size
      · simp [Array.getD, hj]
      · simp [Array.getD, hj]
    rw [e]
    refine ⟨fun i _ hd => (by cases hd), ht.1, fun d hd => ?_, rfl, hp.wr.inj, hp.wr.bound, fun n o hf hg => ?_, fun j hj _ n h1 h2 => hp.fresh n ?_ ?_, ⟨Ext.refl _, fun n h0 h1 => absurd h0 h1, fun n b h0 h1 => (by rw [h0] at h1; cases h1), fun n b h0 h1 => (by rw [h0] at h1; cases h1), fun _ _ _ => rfl, Nat.le_refl _, rfl, rfl, rfl⟩⟩
    · unfold sc
      rw [last_none]
      exact ht.2.2 d hd
    · unfold hc at hg
      rw [last_none] at hg
      exact hp.wr.obj n o hf hg
    · have := (T.le hP hE hw0 (i := 0) j (Nat.zero_le _) (by omega)).next
      omega
    · have := (T.le hP hE hw0 (i := j + 1) ops.size (by omega) (Nat.le_refl _)).next
      omega
end
end Go.Ev
