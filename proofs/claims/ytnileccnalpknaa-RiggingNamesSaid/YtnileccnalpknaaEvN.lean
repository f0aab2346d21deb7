import Derived.Test.YtnileccnalpknaaEvM

/- What a piece of code must do; slots, marks, results. -/
namespace Go.Ev
set_option linter.unusedSimpArgs false
set_option linter.unusedVariables false
noncomputable section
open Go
variable {ρ ρ' ρ1 ρ2 : Ren} {F : Nat → Prop} {H H1 H2 : AH} {w w1 w2 : World} {P : Program}

inductive DR (ρ : Ren) : List Nat → List Deferred → Prop where
  | nil : DR ρ [] []
  | cons {n r : Nat} {l : List Nat} {ds : List Deferred} (h : NR ρ n r) (t : DR ρ l ds) : DR ρ (n :: l) ({ target := .collected r, args := #[] } :: ds)
theorem DR.mono {l : List Nat} {ds : List Deferred} (h : DR ρ l ds) (e : Ext ρ ρ') : DR ρ' l ds := by
  induction h with
  | nil => exact .nil
  | cons h _ ih => exact .cons (h.mono e) ih
theorem DR.append {l m : List Nat} {ds es : List Deferred} (h : DR ρ l ds) (k : DR ρ m es) : DR ρ (l ++ m) (ds ++ es) := by
  induction h with
  | nil => exact k
  | cons h _ ih => exact .cons h ih

structure AcR (ρ : Ren) (a : AA) (act : Act) : Prop where
  s : TT ρ a.s act.tmps
  d : DR ρ a.d act.defers

/-- The fence of a frame that runs a round of the loop. -/
def fen : Option Nat → Fence
  | none => Fence.wide
  | some l => Fence.wide.inRound l
theorem fen_fn (r : Option Nat) (f : FuncId) : (fen r).fn f := by cases r <;> exact trivial
theorem fen_depth (r : Option Nat) : (fen r).depth = none := by cases r <;> rfl
theorem fen_round (r : Option Nat) : (fen r).round = r := by cases r <;> rfl

inductive RdR (ρ : Ren) : Option Nat → Option Nat → Prop where
  | none : RdR ρ none none
  | some {l l' : Nat} (h : NR ρ l l') : RdR ρ (some l) (some l')
theorem RdR.mono {r r' : Option Nat} (h : RdR ρ r r') (e : Ext ρ ρ') : RdR ρ' r r' := by
  cases h with
  | none => exact .none
  | some h => exact .some (h.mono e)

/-- A piece of code does what the evaluator says. -/
def CodeOk (P : Program) (E : EvCode) : Prop :=
  ∀ rd c a H x a1 H1, E rd c a H = some (x, a1, H1) → (WF H → Le H H1) ∧ ∀ F ρ w act rd', Pre P F ρ H H1 w → AcR ρ a act → RdR ρ rd rd' →
    c.wpIn (fen rd') 0 P (fun x2 act2 w2 => x2 = x ∧ ∃ ρ1, AcR ρ1 a1 act2 ∧ Sim P F ρ ρ1 H H1 w w2) act w

/-! ### Slots -/
theorem get_set_at {a : AT} {d : Nat} (h : d < a.n) (hn : a.n ≤ 1000000) (v : Value) (i : Nat) : AT.get ⟨T.set 60 a.t d (some v), a.n⟩ i = if i = d then v else a.get i := by
  unfold AT.get
  simp only
  rw [T.get_set 60 _ _ _ _ (by omega)]
  by_cases hid : i = d
  · rw [if_pos hid, if_pos hid]
  · rw [if_neg hid, if_neg hid]
theorem aput_ok {a a1 : AT} {act : Act} {dst : Option Tmp} {v v' : Value} (h : TT ρ a act.tmps) (hv : VR ρ v v') (hp : aput a dst v = some a1) : TT ρ a1 (act.put dst v').tmps := by
  unfold aput at hp
  split at hp
  · cases hp; exact h
  · rename_i d
    split at hp
    · rename_i hb
      have hb := blt_lt hb
      cases hp
      refine ⟨by simp [Act.put, h.1], h.2.1, fun i hi => ?_⟩
      rw [get_set_at hb h.2.1]
      simp only [Act.put]
      by_cases hid : i = d
      · subst hid
        rw [if_pos rfl]
        have : i < act.tmps.size := by rw [h.1]; exact hb
        simpa [Array.getD, this] using hv
      · rw [if_neg hid]
        have := h.2.2 i hi
        have e : (act.tmps.setIfInBounds d v').getD i undef = act.tmps.getD i undef := by
          simp only [Array.getD_eq_getD_getElem?]
          rw [Array.getElem?_setIfInBounds_ne (fun e => hid e.symm)]
        rw [e]
        exact this
    · cases hp
theorem put_defers (act : Act) (dst : Option Tmp) (v : Value) : (act.put dst v).defers = act.defers := by cases dst <;> rfl

theorem awanted_ok {ops : Array Oper} {a : AT} {act : Act} {o : Oper} {b : Bool} (h : TT ρ a act.tmps) (hw : awanted ops a o = some b) : Region.wanted o (yielded ops act.tmps) = b := by
  unfold awanted at hw
  unfold Region.wanted
  split at hw
  · rename_i hg
    cases hw
    rw [hg]
  · rename_i j want hg
    rw [hg]
    simp only
    split at hw
    case h_2 => cases hw
    rename_i p hp
    split at hw
    case h_2 => cases hw
    rename_i d hd
    have hp' : ops[j]? = some p := by simpa using hp
    split at hw
    · rename_i b' hb hv
      cases hw
      have hlt := blt_lt hb
      have h1 := h.2.2 d hlt
      rw [hv] at h1
      have hs : d < act.tmps.size := by rw [h.1]; exact hlt
      have h2 : act.tmps[d]? = some (.bool b') := by
        generalize hz : act.tmps.getD d undef = z at h1
        cases h1
        simpa [Array.getD, hs] using hz
      simp [yielded, hp', hd, h2]
    · rename_i xs hb hv
      cases hw
      have hlt := blt_lt hb
      have h1 := h.2.2 d hlt
      rw [hv] at h1
      have hs : d < act.tmps.size := by rw [h.1]; exact hlt
      generalize hz : act.tmps.getD d undef = z at h1
      cases h1
      have h2 : ∃ ys, act.tmps[d]? = some (.tuple ys) := ⟨_, by simpa [Array.getD, hs] using hz⟩
      obtain ⟨ys, h2⟩ := h2
      simp [yielded, hp', hd, h2]
    · cases hw

theorem fillT_get : ∀ (vs : List Value) (i : Nat) (t : T Value) (j : Nat), i + vs.length ≤ 1000000 → (fillT i vs t).get j = if i ≤ j ∧ j < i + vs.length then vs[j - i]? else t.get j := by
  intro vs
  induction vs with
  | nil => intro i t j _; simp [fillT]; intro h1 h2; omega
  | cons v vs ih =>
    intro i t j h
    simp only [List.length_cons] at h
    rw [fillT, ih (i + 1) _ j (by omega), T.get_set 60 _ _ _ _ (by omega)]
    by_cases h1 : j = i
    · subst h1
      rw [if_neg (by omega), if_pos rfl, if_pos ⟨Nat.le_refl _, by simp⟩]
      simp
    · by_cases h2 : i + 1 ≤ j ∧ j < i + 1 + vs.length
      · rw [if_pos h2, if_pos ⟨by omega, by simp; omega⟩]
        have : j - i = (j - (i + 1)) + 1 := by omega
        rw [this, List.getElem?_cons_succ]
      · rw [if_neg h2, if_neg h1, if_neg (by simp; omega)]

theorem enter_ok {args : List Value} {args' : Array Value} {k : Nat} (h : RR ρ args.toArray args') (hk : args.length + k ≤ 1000000) : TT ρ ⟨fillT 0 args .leaf, args.length + (k - args.length)⟩ (args' ++ Array.replicate (k - args'.size) undef) := by
  have hs : args.length = args'.size := by simpa using h.1
  refine ⟨by simp [← hs], by simp only; omega, fun i hi => ?_⟩
  simp only at hi
  unfold AT.get
  simp only
  rw [fillT_get _ _ _ _ (by omega)]
  by_cases h1 : i < args.length
  · rw [if_pos ⟨by omega, by omega⟩]
    simp only [Nat.sub_zero]
    rw [List.getElem?_eq_getElem h1]
    simp only [Array.getD_eq_getD_getElem?]
    rw [Array.getElem?_append_left (by omega)]
    have h2 : args'[i]? = some (args'[i]'(by omega)) := Array.getElem?_eq_getElem (by omega)
    rw [h2]
    exact h.2 i _ _ (by simp [h1]) h2
  · rw [if_neg (by omega)]
    simp only [T.get]
    simp only [Array.getD_eq_getD_getElem?]
    rw [Array.getElem?_append_right (by omega)]
    rw [Array.getElem?_replicate]
    rw [if_pos (by omega)]
    exact undef_ok

theorem ainto_ok : ∀ {l : List (Tmp × Value)} {l' : List (Tmp × Value)} {a a1 : AT} {tmps : Array Value}, ainto a l = some a1 → TT ρ a tmps → l.length = l'.length → (∀ (i : Nat) (p p' : Tmp × Value), l[i]? = some p → l'[i]? = some p' → p'.1 = p.1 ∧ VR ρ p.2 p'.2) →
    TT ρ a1 (l'.foldl (fun tmps (p : Tmp × Value) => tmps.setIfInBounds p.1 p.2) tmps) := by
  intro l
  induction l with
  | nil =>
    intro l' a a1 tmps h ht hl _
    cases l' with
    | nil => cases h; exact ht
    | cons _ _ => simp at hl
  | cons p l ih =>
    intro l' a a1 tmps h ht hl hv
    cases l' with
    | nil => simp at hl
    | cons p' l' =>
      obtain ⟨d, v⟩ := p
      obtain ⟨d', v'⟩ := p'
      unfold ainto at h
      rw [Option.bind_eq_some_iff] at h
      obtain ⟨a2, h1, h2⟩ := h
      obtain ⟨e1, e2⟩ := hv 0 _ _ rfl rfl
      simp only at e1 e2
      subst e1
      exact ih (l' := l') (tmps := tmps.setIfInBounds d' v') h2 (aput_ok (act := ⟨tmps, []⟩) ht e2 h1) (by simpa using hl) fun i p p' hp hp' => hv (i + 1) p p' (by simpa using hp) (by simpa using hp')

/-! ### Marks and results -/
theorem WR.mark {n : Nat} {b : Bool} (h : WR P ρ F H w) (hF : F n) (hx : H.get n = some (.deferred b)) : ∃ t o', ρ n = some (some t) ∧ w.heap[t.b]? = some o' ∧ o' = (if b then .deferred (some []) else .deferred none) := by
  obtain ⟨t, o', h1, h2, h3, _⟩ := h.obj n _ hF hx
  cases h3 <;> exact ⟨t, _, h1, h2, rfl⟩

theorem atake_ok {fn : Func} {tmps : Array Value} : ∀ {l : List Nat} {H H1 : AH}, atake l H = some H1 → (WF H → Le H H1) ∧ ∀ F ρ w ds (R : Ending → World → Prop), Pre P F ρ H H1 w → DR ρ l ds →
    (∀ w1, Sim P F ρ ρ H H1 w w1 → LeavesIn Fence.wide 0 P fn tmps R [] .returning w1) → LeavesInM Fence.wide 0 P fn tmps R ds .returning w := by
  intro l
  induction l with
  | nil =>
    intro H H1 h
    cases h
    exact ⟨fun _ => Le.refl _, fun F ρ w ds R hp hd hk => by cases hd; exact hk w (Sim.refl hp.wr)⟩
  | cons n l ih =>
    intro H H1 h
    unfold atake at h
    split at h
    case h_2 => cases h
    rename_i hg
    obtain ⟨i1, i2⟩ := ih h
    have lP : WF H → Le H (H.put n (some (.deferred false))) := fun hw => Le.put H _ (get_lt hw hg) hw
    refine ⟨fun hw => (lP hw).trans (i1 ((lP hw).wf hw)), fun F ρ w ds R hp hd hk => ?_⟩
    cases hd with
    | @cons _ r _ ds' hr ht =>
    have lp := lP hp.wf
    have lr := i1 (lp.wf hp.wf)
    obtain ⟨t, o', h1, h2, h3⟩ := hp.wr.mark (hp.foot n (lr.fp n (by simp only [AH.put_eq]; rw [bit_or]; simp))) hg
    subst h3
    have := hr.to h1
    subst this
    have hs : Sim P F ρ ρ H (H.put n (some (.deferred false))) w { w with heap := w.heap.setIfInBounds t.b (.deferred none) } := Sim.change hp.wr hp.wf hg h1 .taken trivial
    refine ⟨by simp, .inl ⟨t.b, { w with heap := w.heap.setIfInBounds t.b (.deferred none) }, rfl, ?_, ?_⟩⟩
    · have hgo := run_getObj (P := P) h2 (fun _ _ _ e => by cases e)
      have hso := run_setObj (P := P) (o' := .deferred none) h2 (fun _ _ _ e => by cases e)
      simp only [if_true] at hgo
      simp [Instr.takeDeferred, hgo, hso]
    · exact i2 F ρ _ ds' R (hp.next lp hs) ht fun w1 hw1 => hk w1 (hs.trans lp hw1 lr)
end
end Go.Ev
