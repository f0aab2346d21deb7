import Derived.Test.YtnileccnalpknaaEvU

/- One operation of a drawn region, where only what it looks at is as the evaluator has it. -/
namespace Go.Ev
set_option linter.unusedSimpArgs false
set_option linter.unusedVariables false
noncomputable section
set_option linter.unusedSectionVars false
open Go
variable {ρ ρ' ρ1 ρ2 : Ren} {F : Nat → Prop} {H H1 H2 : AH} {w w1 w2 : World} {P : Program} [Known P]

def maskT (ds : List Tmp) (tmps : Array Value) : Array Value := tmps.mapIdx fun i v => if i ∈ ds then v else undef
theorem mask_size (ds : List Tmp) (tmps : Array Value) : (maskT ds tmps).size = tmps.size := by simp [maskT]
theorem mask_get {ds : List Tmp} {tmps : Array Value} {d : Tmp} (h : d ∈ ds) : (maskT ds tmps)[d]? = tmps[d]? := by
  simp only [maskT, Array.getElem?_mapIdx, h, if_true]
  cases tmps[d]? <;> rfl
theorem mask_not {ds : List Tmp} {tmps : Array Value} {d : Tmp} (h : d ∉ ds) : (maskT ds tmps).getD d undef = undef := by
  rw [Array.getD_eq_getD_getElem?]
  simp only [maskT, Array.getElem?_mapIdx, h, if_false]
  cases tmps[d]? <;> rfl

theorem get_look {a : AT} (hn : a.n ≤ 1000000) : ∀ {ds : List Tmp} {i : Nat}, i < a.n → AT.get ⟨look a ds, a.n⟩ i = if i ∈ ds then a.get i else undef
  | [], i, hi => by simp [look, AT.get, T.get]
  | d :: ds, i, hi => by
    have ih := get_look hn (ds := ds) (i := i) hi
    unfold look
    split
    · rename_i v hb hv
      have hd := blt_lt hb
      rw [get_set_at (a := ⟨look a ds, a.n⟩) hd hn]
      by_cases e : i = d
      · subst e
        simp [AT.get, hv]
      · rw [if_neg e, ih]
        simp [e]
    · rename_i hnot
      rw [ih]
      by_cases e : i = d
      · subst e
        have hv : a.t.get i = none := by
          cases hv : a.t.get i with
          | none => rfl
          | some v => exact (hnot v (by simpa using hi) hv).elim
        have : a.get i = undef := by simp [AT.get, hv]
        simp [this]
      · simp [e]

theorem TT.mask {a : AT} {tmps : Array Value} {ds : List Tmp} (hs : tmps.size = a.n) (hn : a.n ≤ 1000000) (h : ∀ d, d ∈ ds → d < a.n → VR ρ (a.get d) (tmps.getD d undef)) : TT ρ ⟨look a ds, a.n⟩ (maskT ds tmps) := by
  refine ⟨(mask_size _ _).trans hs, hn, fun i hi => ?_⟩
  have hi : i < a.n := hi
  rw [get_look hn hi]
  by_cases e : i ∈ ds
  · rw [if_pos e]
    have := h i e hi
    rw [Array.getD_eq_getD_getElem?] at this ⊢
    rw [mask_get e]
    exact this
  · rw [if_neg e, mask_not e]
    exact undef_ok

theorem wanted_mask {ops : Array Oper} {o : Oper} {tmps : Array Value} : Region.wanted o (yielded ops (maskT (o.looksAt ops) tmps)) = Region.wanted o (yielded ops tmps) := by
  unfold Region.wanted
  cases hg : o.guard with
  | none => rfl
  | some gw =>
    obtain ⟨g, want⟩ := gw
    have hy : yielded ops (maskT (o.looksAt ops) tmps) g = yielded ops tmps g := by
      unfold yielded
      cases ht : (ops[g]?).bind (·.dst) with
      | none => rfl
      | some t =>
        have hm : t ∈ o.looksAt ops := by simp [Oper.looksAt, hg, ht]
        simp only [Option.bind_some, mask_get hm]
    simp only [hy]

theorem exec_mask {ops : Array Oper} {o : Oper} {act : Act} (hs : isSelect o.op = false) : execOp { act with tmps := maskT (o.looksAt ops) act.tmps }.eval o = execOp act.eval o := by
  refine execOp_congr o (fun cs b e => by rw [e] at hs; cases hs) fun x hx => ?_
  cases x with
  | tmp t =>
    have hm : t ∈ o.looksAt ops := List.mem_append_left _ (List.mem_filterMap.2 ⟨.tmp t, by simpa using hx, rfl⟩)
    simp only [Act.eval, Array.getD_eq_getD_getElem?, mask_get hm]
  | const v => rfl
  | global g => rfl
  | func f => rfl

def AH.bare (H : AH) : AH := ⟨H.t, H.next, 0, 0⟩

theorem drawOne_ok (hP : Plain P) {E : EvCode} (hE : CodeOk P E) {ops : Array Oper} {a : AT} {o : Oper} {v : Value} {H' : AH} (h : drawOne P E ops a H o = some (v, H')) (hs : isSelect o.op = false) :
    (WF H → Le H.bare H') ∧ ∀ F ρ w act rd' (K : Act → World → Prop) (Q : Exit → Act → World → Prop) (i : Nat), ops[i]? = some o → Pre P F ρ H.bare H' w → act.tmps.size = a.n → a.n ≤ 1000000 → (∀ d, d ∈ o.looksAt ops → d < a.n → VR ρ (a.get d) (act.tmps.getD d undef)) →
      (∀ ρ1 w1 v', VR ρ1 v v' → Sim P F ρ ρ1 H.bare H' w w1 → K (act.put o.dst v') w1) → wpOpIn (fen rd') 0 P ops Q i K act w := by
  unfold drawOne at h
  split at h
  · rename_i hw
    obtain ⟨l1, k1⟩ := evOp_ok hP hE h
    refine ⟨fun hwf => l1 ⟨hwf.none_, hwf.top⟩, fun F ρ w act rd' K Q i hi hp hsz hn hv hk => ?_⟩
    have ht := TT.mask (a := a) (ds := o.looksAt ops) hsz hn hv
    unfold wpOpIn
    simp only [hi]
    rw [← wanted_mask, awanted_ok (act := { act with tmps := maskT (o.looksAt ops) act.tmps }) ht hw, if_pos rfl]
    exact k1 F ρ w act { act with tmps := maskT (o.looksAt ops) act.tmps } rd' K Q hp ht (exec_mask hs) hk
  · rename_i hw
    cases h
    refine ⟨fun _ => Le.refl _, fun F ρ w act rd' K Q i hi hp hsz hn hv hk => ?_⟩
    have ht := TT.mask (a := a) (ds := o.looksAt ops) hsz hn hv
    unfold wpOpIn
    simp only [hi]
    rw [← wanted_mask, awanted_ok (act := { act with tmps := maskT (o.looksAt ops) act.tmps }) ht hw, if_neg (by simp)]
    exact ⟨about_fen o rd' w act, hk ρ w undef undef_ok (Sim.refl hp.wr)⟩
  · cases h

/-! ### Steps within fixed bounds -/
structure SimW (lo hi W : Nat) (ρ ρ1 : Ren) (w w1 : World) : Prop where
  ext : Ext ρ ρ1
  new : ∀ n, ρ n = none → ρ1 n ≠ none → lo ≤ n ∧ n < hi
  kill : ∀ n b, ρ n = some (some b) → ρ1 n = some none → W.testBit n = true
  far : ∀ n t, ρ n = none → ρ1 n = some (some t) → w.heap.size ≤ t.b ∨ ∃ m u, ρ m = some (some u) ∧ u.b = t.b ∧ W.testBit m = true
  frame : ∀ b, b < w.heap.size → (∀ n t, ρ n = some (some t) → t.b = b → W.testBit n = false) → w1.heap[b]? = w.heap[b]?
  size : w.heap.size ≤ w1.heap.size
  os : w1.os = w.os
  tape : w1.tape = w.tape
  output : w1.output = w.output

theorem SimW.refl {lo hi W : Nat} : SimW lo hi W ρ ρ w w :=
  ⟨Ext.refl _, fun n h0 h1 => absurd h0 h1, fun n b h0 h1 => (by rw [h0] at h1; cases h1), fun n b h0 h1 => (by rw [h0] at h1; cases h1), fun _ _ _ => rfl, Nat.le_refl _, rfl, rfl, rfl⟩
theorem Sim.toW {lo hi W : Nat} (h : Sim P F ρ ρ1 H H1 w w1) (hlo : lo ≤ H.next) (hhi : H1.next ≤ hi) (hW : ∀ n, H1.wr.testBit n = true → W.testBit n = true) : SimW lo hi W ρ ρ1 w w1 := by
  refine ⟨h.ext, fun n h0 h1 => ?_, fun n b h0 h1 => hW n (h.kill n b h0 h1), fun n t h0 h1 => ?_, fun b hb hn => h.frame b hb fun n t h0 h1 => ?_, h.size, h.os, h.tape, h.output⟩
  · have := h.new n h0 h1
    omega
  · rcases h.far n t h0 h1 with h2 | ⟨m, u, h2, h3, h4⟩
    · exact .inl h2
    · exact .inr ⟨m, u, h2, h3, hW m h4⟩
  · cases hh : H1.wr.testBit n with
    | false => rfl
    | true => have := hn n t h0 h1; rw [hW n hh] at this; cases this
theorem SimW.trans {lo hi W : Nat} (h : SimW lo hi W ρ ρ1 w w1) (k : SimW lo hi W ρ1 ρ2 w1 w2) : SimW lo hi W ρ ρ2 w w2 := by
  refine ⟨h.ext.trans k.ext, fun n h0 h2 => ?_, fun n b h0 h2 => ?_, fun n t h0 h2 => ?_, fun b hb hn => ?_, Nat.le_trans h.size k.size, k.os.trans h.os, k.tape.trans h.tape, k.output.trans h.output⟩
  · by_cases h1 : ρ1 n = none
    · exact k.new n h1 h2
    · exact h.new n h0 h1
  · rcases h.ext.old n _ h0 with h1 | h1
    · exact k.kill n b h1 h2
    · exact h.kill n b h0 h1
  · by_cases h1 : ρ1 n = none
    · rcases k.far n t h1 h2 with h3 | ⟨m, u, h3, hu, h4⟩
      · exact .inl (Nat.le_trans h.size h3)
      · by_cases h5 : ρ m = none
        · rcases h.far m u h5 h3 with h6 | ⟨m', u', h6, hu', h7⟩
          · exact .inl (by rw [← hu]; exact h6)
          · exact .inr ⟨m', u', h6, hu'.trans hu, h7⟩
        · obtain ⟨x, hx⟩ := Option.ne_none_iff_exists'.1 h5
          rcases h.ext.old m x hx with h6 | h6
          · rw [h3] at h6
            cases h6
            exact .inr ⟨m, u, hx, hu, h4⟩
          · rw [h3] at h6; cases h6
    · obtain ⟨x, hx⟩ := Option.ne_none_iff_exists'.1 h1
      rcases k.ext.old n x hx with h6 | h6
      · rw [h2] at h6
        cases h6
        exact h.far n t h0 hx
      · rw [h2] at h6; cases h6
  · rw [k.frame b (Nat.lt_of_lt_of_le hb h.size) fun n t hn' ht => ?_, h.frame b hb hn]
    by_cases h5 : ρ n = none
    · rcases h.far n t h5 hn' with h6 | ⟨m, u, h6, hu, h7⟩
      · omega
      · rw [hn m u h6 (hu.trans ht)] at h7; cases h7
    · obtain ⟨x, hx⟩ := Option.ne_none_iff_exists'.1 h5
      rcases h.ext.old n x hx with h6 | h6
      · rw [hn'] at h6; cases h6; exact hn n t hx ht
      · rw [hn'] at h6; cases h6
end
end Go.Ev
