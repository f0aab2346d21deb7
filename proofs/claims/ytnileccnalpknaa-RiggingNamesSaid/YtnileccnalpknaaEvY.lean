import Derived.Test.YtnileccnalpknaaEvX

/- Whatever order is drawn. -/
namespace Go.Ev
set_option linter.unusedSimpArgs false
set_option linter.unusedVariables false
noncomputable section
set_option linter.unusedSectionVars false
open Go
variable {ρ ρ' ρ1 ρ2 : Ren} {F : Nat → Prop} {H H1 H2 : AH} {w w1 w2 : World} {P : Program} [Known P]
section
variable {E : EvCode} {ops : Array Oper} {S : Nat → St} {R : Nat → Rec}

def addTo (D : Nat → Bool) (i : Nat) : Nat → Bool := fun j => D j || Nat.beq j i
theorem addTo_self {D : Nat → Bool} {i : Nat} : addTo D i i = true := by simp [addTo]
theorem addTo_ne {D : Nat → Bool} {i j : Nat} (h : j ≠ i) : addTo D i j = D j := by
  have : Nat.beq j i = false := by
    cases h' : Nat.beq j i with
    | false => rfl
    | true => exact absurd (Nat.eq_of_beq_eq_true h') h
  simp [addTo, this]
theorem addTo_old {D : Nat → Bool} {i j : Nat} (h : D j = true) : addTo D i j = true := by simp [addTo, h]

theorem Inv.step (hP : Plain P) (hE : CodeOk P E) (T : Tr P E ops S R) (hw0 : WF (S 0).H) (hn : (S 0).a.n ≤ 1000000) (hF : ∀ n, (S ops.size).H.fp.testBit n = true → F n) (hup : ∀ n, (S 0).H.next ≤ n → F n)
    {ρ0 : Ren} {w0 : World} {act0 act : Act} {D : Nat → Bool} (I : Inv P F S R ops.size ρ0 w0 act0 D ρ w act) {i : Nat} (hi : i < ops.size) {o : Oper} (ho : ops[i]? = some o) (hDi : D i = false) (hready : ∀ k, k ∈ directs o → D k = true)
    {rd' : Option Nat} {K : Act → World → Prop} {Q : Exit → Act → World → Prop} (hk : ∀ ρ1 w1 act1, Inv P F S R ops.size ρ0 w0 act0 (addTo D i) ρ1 w1 act1 → K act1 w1) : wpOpIn (fen rd') 0 P ops Q i K act w := by
  obtain ⟨v, H', hs⟩ := T.step i o ho
  have wi := T.wf hP hE hw0 i (by omega)
  obtain ⟨lf, kf⟩ := drawOne_ok hP hE hs.one hs.sel
  have l := lf wi
  have hpre : ∀ j, (R i).pre.testBit j = true → D j = true := fun j hj => by
    obtain ⟨k, h1, h2, h3⟩ := T.pre ho hi hj
    rcases h3 with e | h3
    · subst e; exact hready j h1
    · exact I.closed k (by omega) (hready k h1) j h3
  have hnext : (S (i + 1)).H.next = H'.next := by rw [hs.H]; rfl
  have hget : ∀ n, (S (i + 1)).H.get n = H'.get n := fun n => by rw [hs.H]; rfl
  -- names
  have hname : ∀ n, (R i).R.testBit n = true → hc S R ops.size D n = (S i).H.get n := fun n hR => by
    unfold hc
    rw [last_pre (i := i) fun j hj ht => T.done I hi hDi hpre hj fun _ hq => hq.1 n ht hR, Nat.min_eq_right (by omega)]
    exact (T.name hP hE hw0 n i (by omega)).symm
  have hslot : ∀ d, (R i).LR.testBit d = true → sc S R ops.size D d = (S i).a.get d := fun d hR => by
    unfold sc
    rw [last_pre (i := i) fun j hj ht => T.done I hi hDi hpre hj fun _ hq => hq.2 d ht hR, Nat.min_eq_right (by omega)]
    exact (T.slot hn d i (by omega)).symm
  have hlast : ∀ j, j < ops.size → addTo D i j = true → (i ≠ j → ((∀ n, (R j).T.testBit n = true → (R i).R.testBit n = true → False) ∧ (∀ n, (R j).LT.testBit n = true → (R i).LR.testBit n = true → False)) → False) → j ≤ i := fun j hj hd hc => by
    by_cases e : j = i
    · omega
    · rw [addTo_ne e] at hd
      have := (T.done I hi hDi hpre hj hc).1 hd
      omega
  have hin : ∀ n, H'.fp.testBit n = true ∨ H'.wr.testBit n = true → F n := fun n h => by
    refine hF n ((T.le hP hE hw0 (i := i + 1) ops.size (by omega) (Nat.le_refl _)).fp n ?_)
    rw [hs.H]
    simp only [merge_eq, Nat.testBit_or]
    rcases h with h | h <;> simp [h]
  have hlo : (S 0).H.next ≤ (S i).H.next := (T.le hP hE hw0 (i := 0) i (Nat.zero_le _) (by omega)).next
  have hhi : H'.next ≤ (S ops.size).H.next := by
    rw [← hnext]
    exact (T.le hP hE hw0 (i := i + 1) ops.size (by omega) (Nat.le_refl _)).next
  have hwr : ∀ n, H'.wr.testBit n = true → (S ops.size).H.wr.testBit n = true := fun n h => by
    refine (T.le hP hE hw0 (i := i + 1) ops.size (by omega) (Nat.le_refl _)).wr n ?_
    rw [hs.H]
    simp [merge_eq, Nat.testBit_or, h]
  have hRF : ∀ n, (R i).R.testBit n = true → n < (S i).H.next → F n := fun n h hlt => by
    rw [hs.reach, hs.touch] at h
    refine hin n ?_
    simp only [Bool.or_eq_true, decide_eq_true_eq] at h
    rcases h with h | h | h
    · exact .inl h
    · exact .inr h
    · omega
  have hp : Pre P (fun n => (R i).R.testBit n = true ∨ (S i).H.next ≤ n) ρ (S i).H.bare H' w := by
    refine ⟨⟨I.inj, I.bound, fun n o hf hg => ?_⟩, fun n h => .inr h, fun n h => .inl (by rw [hs.reach, h]; rfl), fun n h1 h2 => I.fresh i hi hDi n h1 (by rw [hnext]; exact h2), ⟨wi.none_, wi.top⟩⟩
    have hlt : n < (S i).H.next := get_lt wi hg
    rcases hf with hf | hf
    · exact I.obj n o (hRF n hf hlt) ((hname n hf).trans hg)
    · omega
  refine kf _ ρ w act rd' K Q i ho hp (by rw [I.size, T.n i (by omega)]) (by rw [T.n i (by omega)]; exact hn) (fun d hd hlt => ?_) fun ρ1 w1 v' hv hsim => hk ρ1 w1 (act.put o.dst v') ?_
  · rw [← hslot d (by rw [hs.looks]; simp [hd])]
    exact I.slots d (by rw [← T.n i (by omega)]; exact hlt)
  · have hold : ∀ n t, ρ n = some (some t) → (R i).T.testBit n = false → ρ1 n = some (some t) ∧ w1.heap[t.b]? = w.heap[t.b]? := fun n t h ht => by
      rw [hs.touch] at ht
      simp only [Bool.or_eq_false_iff] at ht
      refine ⟨?_, hsim.frame t.b (I.bound n t h) fun m u hm hu => ?_⟩
      · rcases hsim.ext.old n _ h with h2 | h2
        · exact h2
        · have := hsim.kill n t h h2
          rw [ht.1] at this
          cases this
      · obtain rfl := I.inj m n u t hm h hu
        exact ht.1
    refine ⟨fun j hj hd k hbit => ?_, ?_, fun d hd => ?_, (put_defers _ _ _).trans I.defers, hsim.wr.inj, hsim.wr.bound, fun n x hf hx => ?_, fun j hj hd n h1 h2 => ?_, I.sim.trans (hsim.toW (H := (S i).H.bare) hlo hhi hwr)⟩
    · by_cases e : j = i
      · subst e; exact addTo_old (hpre k hbit)
      · rw [addTo_ne e] at hd
        exact addTo_old (I.closed j hj hd k hbit)
    · have := I.size
      cases o.dst <;> simpa [Act.put] using this
    · have hd' : d < act.tmps.size := by rw [I.size]; exact hd
      by_cases e : o.dst = some d
      · have hbit : (R i).LT.testBit d = true := by rw [hs.slot]; simp [e]
        have hl : sc S R ops.size (addTo D i) d = v := by
          unfold sc
          rw [last_self (Tc := fun j => (R j).LT.testBit d) (D := addTo D i) (i := i) hbit addTo_self hi fun j hj ht hd2 => hlast j hj hd2 fun _ hq => hq.2 d ht (by rw [hs.looks]; simp [e])]
          show (S (i + 1)).a.get d = v
          rw [aput_get (by rw [T.n i (by omega)]; exact hn) hs.put, if_pos e]
        rw [hl, e]
        simpa [Act.put, hd'] using hv
      · have hbit : (R i).LT.testBit d = false := by rw [hs.slot]; simp [e]
        have hl : sc S R ops.size (addTo D i) d = sc S R ops.size D d := by
          unfold sc
          rw [last_congr fun j hj ht => addTo_ne fun e2 => (by subst e2; rw [hbit] at ht; cases ht)]
        have hg : (act.put o.dst v').tmps.getD d undef = act.tmps.getD d undef := by
          cases hdst : o.dst with
          | none => rfl
          | some d2 =>
            have hne : d2 ≠ d := fun x => e (by rw [hdst, x])
            simp only [Act.put, Array.getD_eq_getD_getElem?]
            rw [Array.getElem?_setIfInBounds_ne hne]
        rw [hl, hg]
        exact (I.slots d hd).mono hsim.ext
    · by_cases ht : (R i).T.testBit n = true
      · have hl : hc S R ops.size (addTo D i) n = H'.get n := by
          unfold hc
          rw [last_self (Tc := fun j => (R j).T.testBit n) (D := addTo D i) (i := i) ht addTo_self hi fun j hj ht2 hd2 => hlast j hj hd2 fun _ hq => hq.1 n ht2 (by rw [hs.reach, ht]; simp)]
          exact hget n
        rw [hl] at hx
        exact hsim.wr.obj n x (.inl (by rw [hs.reach, ht]; simp)) hx
      · have ht : (R i).T.testBit n = false := by simpa using ht
        have hl : hc S R ops.size (addTo D i) n = hc S R ops.size D n := by
          unfold hc
          rw [last_congr fun j hj ht2 => addTo_ne fun e2 => (by subst e2; rw [ht] at ht2; cases ht2)]
        rw [hl] at hx
        obtain ⟨t, o', h1, h2, h3, h4⟩ := I.obj n x hf hx
        obtain ⟨h5, h6⟩ := hold n t h1 ht
        exact ⟨t, o', h5, h6.trans h2, h3.mono hsim.ext, h4⟩
    · have hne : j ≠ i := fun e => (by subst e; rw [addTo_self] at hd; cases hd)
      rw [addTo_ne hne] at hd
      have h0 := I.fresh j hj hd n h1 h2
      cases hh : ρ1 n with
      | none => rfl
      | some x =>
        have hq := hsim.new n h0 (by rw [hh]; simp)
        have q1 : (S i).H.next ≤ n := hq.1
        have q2 : n < H'.next := hq.2
        rcases Nat.lt_or_gt_of_ne hne with h | h
        · have := (T.le hP hE hw0 (i := j + 1) i (by omega) (by omega)).next
          omega
        · have := (T.le hP hE hw0 (i := i + 1) j (by omega) (by omega)).next
          rw [hnext] at this
          omega
end
end
end Go.Ev
