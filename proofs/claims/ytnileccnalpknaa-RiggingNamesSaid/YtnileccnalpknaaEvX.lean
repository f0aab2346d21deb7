import Derived.Test.YtnileccnalpknaaEvW

/- Whatever order is drawn: one step. -/
namespace Go.Ev
set_option linter.unusedSimpArgs false
set_option linter.unusedVariables false
noncomputable section
set_option linter.unusedSectionVars false
open Go
variable {ρ ρ' ρ1 ρ2 : Ren} {F : Nat → Prop} {H H1 H2 : AH} {w w1 w2 : World} {P : Program} [Known P]

theorem aput_n {a a1 : AT} {dst : Option Tmp} {v : Value} (h : aput a dst v = some a1) : a1.n = a.n := by
  unfold aput at h
  split at h
  · cases h; rfl
  · split at h
    · cases h; rfl
    · cases h
theorem aput_get {a a1 : AT} {dst : Option Tmp} {v : Value} (hn : a.n ≤ 1000000) (h : aput a dst v = some a1) (i : Nat) : a1.get i = if dst = some i then v else a.get i := by
  unfold aput at h
  split at h
  · cases h; simp
  · rename_i d
    split at h
    · rename_i hb
      cases h
      rw [get_set_at (blt_lt hb) hn]
      by_cases e : i = d
      · simp [e]
      · have : d ≠ i := fun x => e x.symm
        simp [e, this]
    · cases h

theorem merge_le {H' : AH} (hw : WF H) (l : Le H.bare H') : Le H (merge H H') := by
  refine ⟨l.next, fun n h => ?_, fun n h => ?_, fun n hn h => ?_, fun _ => ?_⟩
  · simp [merge_eq, Nat.testBit_or, h]
  · simp [merge_eq, Nat.testBit_or, h]
  · simp only [merge_eq, Nat.testBit_or, Bool.or_eq_false_iff] at h
    exact l.keep n hn h.2
  · have := l.wf ⟨hw.none_, hw.top⟩
    exact ⟨this.none_, this.top⟩

section
variable {E : EvCode} {ops : Array Oper} {S : Nat → St} {R : Nat → Rec}

theorem Tr.le1 (hP : Plain P) (hE : CodeOk P E) (T : Tr P E ops S R) {i : Nat} (hi : i < ops.size) (hw : WF (S i).H) : Le (S i).H (S (i + 1)).H := by
  obtain ⟨o, v, H', ho, hs⟩ := T.op hi
  rw [hs.H]
  exact merge_le hw ((drawOne_ok hP hE hs.one hs.sel).1 hw)
theorem Tr.wf (hP : Plain P) (hE : CodeOk P E) (T : Tr P E ops S R) (hw : WF (S 0).H) : ∀ i, i ≤ ops.size → WF (S i).H
  | 0, _ => hw
  | i + 1, hi => (T.le1 hP hE (i := i) (by omega) (T.wf hP hE hw i (by omega))).wf (T.wf hP hE hw i (by omega))
theorem Tr.le (hP : Plain P) (hE : CodeOk P E) (T : Tr P E ops S R) (hw : WF (S 0).H) {i : Nat} : ∀ j, i ≤ j → j ≤ ops.size → Le (S i).H (S j).H
  | 0, h, _ => (by obtain rfl : i = 0 := by omega
                   exact Le.refl _)
  | j + 1, h, hj => by
    by_cases e : i = j + 1
    · subst e; exact Le.refl _
    · exact (T.le hP hE hw j (by omega) (by omega)).trans (T.le1 hP hE (i := j) (by omega) (T.wf hP hE hw j (by omega)))

theorem Stp.touch {s s1 : St} {o : Oper} {v : Value} {H' : AH} {r : Rec} (h : Stp P E ops s s1 o v H' r) (n : Nat) : r.T.testBit n = (H'.wr.testBit n || decide (s.H.next ≤ n ∧ n < H'.next)) := by
  rw [h.made]
  simp only [mkRec, Nat.testBit_or, newBits_bit]
theorem Stp.reach {s s1 : St} {o : Oper} {v : Value} {H' : AH} {r : Rec} (h : Stp P E ops s s1 o v H' r) (n : Nat) : r.R.testBit n = (H'.fp.testBit n || r.T.testBit n) := by
  rw [h.made]
  simp only [mkRec, Nat.testBit_or]
theorem Stp.slot {s s1 : St} {o : Oper} {v : Value} {H' : AH} {r : Rec} (h : Stp P E ops s s1 o v H' r) (d : Nat) : r.LT.testBit d = decide (o.dst = some d) := by
  rw [h.made]
  simp only [mkRec, bitOf_bit]
theorem Stp.looks {s s1 : St} {o : Oper} {v : Value} {H' : AH} {r : Rec} (h : Stp P E ops s s1 o v H' r) (d : Nat) : r.LR.testBit d = (decide (d ∈ o.looksAt ops) || decide (o.dst = some d)) := by
  rw [h.made]
  simp only [mkRec, Nat.testBit_or, bitOf_bit, bitsOf_mem]

def hgot (S : Nat → St) (n : Nat) : Option Nat → Option AO
  | none => (S 0).H.get n
  | some j => (S (j + 1)).H.get n
def sgot (S : Nat → St) (d : Nat) : Option Nat → Value
  | none => (S 0).a.get d
  | some j => (S (j + 1)).a.get d
def hc (S : Nat → St) (R : Nat → Rec) (N : Nat) (D : Nat → Bool) (n : Nat) : Option AO := hgot S n (last (fun j => (R j).T.testBit n) D N)
def sc (S : Nat → St) (R : Nat → Rec) (N : Nat) (D : Nat → Bool) (d : Nat) : Value := sgot S d (last (fun j => (R j).LT.testBit d) D N)

theorem Tr.name (hP : Plain P) (hE : CodeOk P E) (T : Tr P E ops S R) (hw : WF (S 0).H) (n : Nat) : ∀ i, i ≤ ops.size → (S i).H.get n = hgot S n (last (fun j => (R j).T.testBit n) (fun _ => true) i)
  | 0, _ => rfl
  | i + 1, hi => by
    obtain ⟨o, v, H', ho, hs⟩ := T.op (i := i) (by omega)
    by_cases ht : (R i).T.testBit n = true
    · simp [last, ht, hgot]
    · have ht : (R i).T.testBit n = false := by simpa using ht
      simp only [last, ht, Bool.and_true, Bool.false_eq_true, if_false]
      rw [← T.name hP hE hw n i (by omega), hs.H]
      rw [hs.touch n] at ht
      simp only [Bool.or_eq_false_iff, decide_eq_false_iff_not] at ht
      have wi := T.wf hP hE hw i (by omega)
      have l := (drawOne_ok hP hE hs.one hs.sel).1 wi
      rcases Nat.lt_or_ge n (S i).H.next with h | h
      · exact l.keep n h ht.1
      · have h2 : H'.next ≤ n := by
          have := ht.2
          omega
        have e1 : (S i).H.get n = none := wi.none_ n h
        have e2 : H'.get n = none := (l.wf ⟨wi.none_, wi.top⟩).none_ n h2
        rw [e1]
        exact e2

theorem Tr.n (T : Tr P E ops S R) : ∀ i, i ≤ ops.size → (S i).a.n = (S 0).a.n
  | 0, _ => rfl
  | i + 1, hi => by
    obtain ⟨o, v, H', ho, hs⟩ := T.op (i := i) (by omega)
    rw [aput_n hs.put, T.n i (by omega)]

theorem Tr.slot (T : Tr P E ops S R) (hn : (S 0).a.n ≤ 1000000) (d : Nat) : ∀ i, i ≤ ops.size → (S i).a.get d = sgot S d (last (fun j => (R j).LT.testBit d) (fun _ => true) i)
  | 0, _ => rfl
  | i + 1, hi => by
    obtain ⟨o, v, H', ho, hs⟩ := T.op (i := i) (by omega)
    by_cases ht : (R i).LT.testBit d = true
    · simp [last, ht, sgot]
    · have ht : (R i).LT.testBit d = false := by simpa using ht
      simp only [last, ht, Bool.and_true, Bool.false_eq_true, if_false]
      rw [← T.slot hn d i (by omega), aput_get (by rw [T.n i (by omega)]; exact hn) hs.put, if_neg]
      rw [hs.slot d] at ht
      simpa using ht

structure Inv (P : Program) (F : Nat → Prop) (S : Nat → St) (R : Nat → Rec) (N : Nat) (ρ0 : Ren) (w0 : World) (act0 : Act) (D : Nat → Bool) (ρ : Ren) (w : World) (act : Act) : Prop where
  closed : ∀ i, i < N → D i = true → ∀ j, (R i).pre.testBit j = true → D j = true
  size : act.tmps.size = (S 0).a.n
  slots : ∀ d, d < (S 0).a.n → VR ρ (sc S R N D d) (act.tmps.getD d undef)
  defers : act.defers = act0.defers
  inj : ∀ n m t u, ρ n = some (some t) → ρ m = some (some u) → t.b = u.b → n = m
  bound : ∀ n t, ρ n = some (some t) → t.b < w.heap.size
  obj : ∀ n o, F n → hc S R N D n = some o → ∃ t o', ρ n = some (some t) ∧ w.heap[t.b]? = some o' ∧ OR ρ o o' ∧ TR P t o'
  fresh : ∀ j, j < N → D j = false → ∀ n, (S j).H.next ≤ n → n < (S (j + 1)).H.next → ρ n = none
  sim : SimW (S 0).H.next (S N).H.next (S N).H.wr ρ0 ρ w0 w

/-- Who has touched what an operation that may come now reaches. -/
theorem Tr.done (T : Tr P E ops S R) {ρ0 : Ren} {w0 : World} {act0 act : Act} {D : Nat → Bool} (I : Inv P F S R ops.size ρ0 w0 act0 D ρ w act) {i : Nat} (hi : i < ops.size) (hDi : D i = false) (hpre : ∀ j, (R i).pre.testBit j = true → D j = true) {j : Nat} (hj : j < ops.size)
    (hc : i ≠ j → ((∀ n, (R j).T.testBit n = true → (R i).R.testBit n = true → False) ∧ (∀ n, (R j).LT.testBit n = true → (R i).LR.testBit n = true → False)) → False) : D j = true ↔ j < i := by
  by_cases e : i = j
  · subst e
    simp [hDi]
  · rcases T.apart hi hj e with h | h | h
    · exact ⟨fun _ => T.pre_lt i hi j h, fun _ => hpre j h⟩
    · have h1 := T.pre_lt j hj i h
      refine ⟨fun hd => ?_, fun h2 => by omega⟩
      have := I.closed j hj hd i h
      rw [hDi] at this
      cases this
    · exact (hc e h).elim
end
end
end Go.Ev
