import Derived.Test.YtnileccnalpknaaEvV

/- The run of a drawn region in the text's order: what each step touches. -/
namespace Go.Ev
set_option linter.unusedSimpArgs false
set_option linter.unusedVariables false
noncomputable section
set_option linter.unusedSectionVars false
open Go
variable {ρ ρ' ρ1 ρ2 : Ren} {F : Nat → Prop} {H H1 H2 : AH} {w w1 w2 : World} {P : Program} [Known P]

structure Stp (P : Program) [Known P] (E : EvCode) (ops : Array Oper) (s s1 : St) (o : Oper) (v : Value) (H' : AH) (r : Rec) : Prop where
  one : drawOne P E ops s.a s.H o = some (v, H')
  put : aput s.a o.dst v = some s1.a
  recs : s1.recs = s.recs ++ [r]
  made : r = mkRec ops s o H'
  H : s1.H = merge s.H H'
  sel : isSelect o.op = false
  dir : allBelow s.recs.length (directs o) = true
  clash : noClash r 0 s.recs = true

theorem stp_of {E : EvCode} {ops : Array Oper} {s s1 : St} {o : Oper} (h : stepSt P E ops s o = some s1) : ∃ v H' r, Stp P E ops s s1 o v H' r := by
  unfold stepSt at h
  simp only [Option.bind_eq_some_iff] at h
  obtain ⟨⟨v, H'⟩, h1, a1, h2, h3⟩ := h
  simp only at h2 h3
  split at h3
  · rename_i hc
    simp only [Bool.and_eq_true, Bool.not_eq_true'] at hc
    cases h3
    exact ⟨v, H', _, h1, h2, rfl, rfl, rfl, hc.1, hc.2.1, hc.2.2⟩
  · cases h3

structure Tr (P : Program) [Known P] (E : EvCode) (ops : Array Oper) (S : Nat → St) (R : Nat → Rec) : Prop where
  step : ∀ i o, ops[i]? = some o → ∃ v H', Stp P E ops (S i) (S (i + 1)) o v H' (R i)
  recs : ∀ i, i ≤ ops.size → (S i).recs.length = i ∧ ∀ j, j < i → (S i).recs[j]? = some (R j)

theorem tr_of {E : EvCode} {ops : Array Oper} {s s' : St} (hs : s.recs = []) (h : foldSt (stepSt P E ops) ops.toList s = some s') : ∃ S R, S 0 = s ∧ S ops.size = s' ∧ Tr P E ops S R := by
  obtain ⟨S, e0, eN, e⟩ := trace _ _ _ _ h
  have hstep : ∀ i o, ops[i]? = some o → ∃ v H' r, Stp P E ops (S i) (S (i + 1)) o v H' r := fun i o ho => stp_of (e i o (by simpa using ho))
  refine ⟨S, fun i => ((S (i + 1)).recs[i]?).getD ⟨0, 0, 0, 0, 0⟩, e0, by simpa using eN, ?_⟩
  have hlen : ∀ i, i ≤ ops.size → (S i).recs.length = i ∧ ∀ j, j < i → (S i).recs[j]? = some (((S (j + 1)).recs[j]?).getD ⟨0, 0, 0, 0, 0⟩) := by
    intro i
    induction i with
    | zero => intro _; exact ⟨by rw [e0, hs]; rfl, fun j hj => by omega⟩
    | succ i ih =>
      intro hi
      obtain ⟨h1, h2⟩ := ih (by omega)
      obtain ⟨v, H', r, hst⟩ := hstep i ops[i] (by simp)
      refine ⟨by rw [hst.recs]; simp [h1], fun j hj => ?_⟩
      by_cases e : j = i
      · subst e
        rw [hst.recs, List.getElem?_append_right (by omega)]
        simp [h1]
      · rw [hst.recs, List.getElem?_append_left (by rw [h1]; omega)]
        exact h2 j (by omega)
  refine ⟨fun i o ho => ?_, hlen⟩
  obtain ⟨v, H', r, hst⟩ := hstep i o ho
  have hi : i < ops.size := by
    rcases Nat.lt_or_ge i ops.size with h | h
    · exact h
    · rw [Array.getElem?_eq_none h] at ho; cases ho
  have h1 := (hlen i (by omega)).1
  have e2 : (((S (i + 1)).recs[i]?).getD ⟨0, 0, 0, 0, 0⟩) = r := by
    rw [hst.recs, List.getElem?_append_right (by omega)]
    simp [h1]
  exact ⟨v, H', by rw [e2]; exact hst⟩

/-! ### Checks -/
theorem allBelow_ok {i : Nat} : ∀ {l : List Nat}, allBelow i l = true → ∀ j, j ∈ l → j < i
  | [], _, j, hj => by simp at hj
  | d :: l, h, j, hj => by
    simp only [allBelow, Bool.and_eq_true] at h
    rcases List.mem_cons.1 hj with e | e
    · subst e; exact blt_lt h.1
    · exact allBelow_ok h.2 j e

theorem beq_and {a b n : Nat} (h : Nat.beq (a &&& b) 0 = true) (ha : a.testBit n = true) (hb : b.testBit n = true) : False := by
  have := Nat.eq_of_beq_eq_true h
  have h2 : (a &&& b).testBit n = true := by rw [Nat.testBit_and, ha, hb]; rfl
  rw [this] at h2
  simp at h2

theorem noClash_ok {r : Rec} : ∀ {l : List Rec} {k : Nat}, noClash r k l = true → ∀ j q, l[j]? = some q → r.pre.testBit (k + j) = true ∨ free q r = true
  | [], k, _, j, q, hq => by simp at hq
  | x :: l, k, h, j, q, hq => by
    simp only [noClash, Bool.and_eq_true, Bool.or_eq_true] at h
    cases j with
    | zero =>
      simp only [List.getElem?_cons_zero, Option.some.injEq] at hq
      subst hq
      exact h.1
    | succ j =>
      simp only [List.getElem?_cons_succ] at hq
      have := noClash_ok h.2 j q hq
      rw [show k + (j + 1) = k + 1 + j by omega]
      exact this

theorem preOf_bit {recs : List Rec} : ∀ {l : List Nat} {j : Nat}, (preOf recs l).testBit j = true → ∃ k q, k ∈ l ∧ recs[k]? = some q ∧ (j = k ∨ q.pre.testBit j = true)
  | [], j, h => by simp [preOf] at h
  | d :: l, j, h => by
    rw [preOf, Nat.testBit_or, Bool.or_eq_true] at h
    rcases h with h | h
    · cases hq : recs[d]? with
      | none => rw [hq] at h; simp at h
      | some q =>
        rw [hq] at h
        simp only [Nat.testBit_or, Bool.or_eq_true, bit_one, decide_eq_true_eq] at h
        exact ⟨d, q, by simp, hq, h.imp (fun e => e.symm) id⟩
    · obtain ⟨k, q, h1, h2, h3⟩ := preOf_bit h
      exact ⟨k, q, by simp [h1], h2, h3⟩

section
variable {E : EvCode} {ops : Array Oper} {S : Nat → St} {R : Nat → Rec}

theorem Tr.op (T : Tr P E ops S R) {i : Nat} (hi : i < ops.size) : ∃ o v H', ops[i]? = some o ∧ Stp P E ops (S i) (S (i + 1)) o v H' (R i) := by
  have ho : ops[i]? = some ops[i] := by simp
  obtain ⟨v, H', h⟩ := T.step i _ ho
  exact ⟨_, v, H', ho, h⟩

/-- What comes before is there: directly, or before one that is. -/
theorem Tr.pre (T : Tr P E ops S R) {i : Nat} {o : Oper} (ho : ops[i]? = some o) (hi : i < ops.size) {j : Nat} (hj : (R i).pre.testBit j = true) :
    ∃ k, k ∈ directs o ∧ k < i ∧ (j = k ∨ (R k).pre.testBit j = true) := by
  obtain ⟨v, H', h⟩ := T.step i o ho
  have hl := (T.recs i (by omega))
  rw [h.made] at hj
  obtain ⟨k, q, h1, h2, h3⟩ := preOf_bit hj
  have hk : k < i := by
    have := allBelow_ok h.dir k h1
    rw [hl.1] at this
    exact this
  rw [hl.2 k hk] at h2
  cases h2
  exact ⟨k, h1, hk, h3⟩

theorem Tr.pre_lt (T : Tr P E ops S R) : ∀ (i : Nat), i < ops.size → ∀ j, (R i).pre.testBit j = true → j < i := by
  intro i
  induction i using Nat.strongRecOn with
  | _ i ih =>
    intro hi j hj
    obtain ⟨k, _, h2, h3⟩ := T.pre (o := ops[i]) (by simp) hi hj
    rcases h3 with e | h3
    · omega
    · have := ih k h2 (by omega) j h3
      omega

theorem Tr.apart (T : Tr P E ops S R) {i j : Nat} (hi : i < ops.size) (hj : j < ops.size) (hne : i ≠ j) :
    (R i).pre.testBit j = true ∨ (R j).pre.testBit i = true ∨ ((∀ n, (R j).T.testBit n = true → (R i).R.testBit n = true → False) ∧ (∀ n, (R j).LT.testBit n = true → (R i).LR.testBit n = true → False)) := by
  rcases Nat.lt_or_gt_of_ne hne with h | h
  · obtain ⟨o, v, H', ho, hs⟩ := T.op hj
    rcases noClash_ok hs.clash i _ ((T.recs j (by omega)).2 i h) with e | e
    · right; left; simpa using e
    · right; right
      simp only [free, Bool.and_eq_true] at e
      exact ⟨fun n => beq_and e.2.1, fun n => beq_and e.2.2.2⟩
  · obtain ⟨o, v, H', ho, hs⟩ := T.op hi
    rcases noClash_ok hs.clash j _ ((T.recs i (by omega)).2 j h) with e | e
    · left; simpa using e
    · right; right
      simp only [free, Bool.and_eq_true] at e
      exact ⟨fun n => beq_and e.1, fun n => beq_and e.2.2.1⟩
end
end
end Go.Ev
