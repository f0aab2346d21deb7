import Derived.Test.YtnileccnalpknaaEvA

/- The evaluator's memory, and what it means that a world goes on as it says. -/
namespace Go.Ev
set_option linter.unusedSimpArgs false
set_option linter.unusedVariables false
noncomputable section
open Go

/-- The slots of an activation. -/
structure AT where
  t : T Value
  n : Nat
def AT.get (a : AT) (i : Nat) : Value := match a.t.get i with
  | some v => v
  | none => undef
def TT (ρ : Ren) (a : AT) (tmps : Array Value) : Prop := tmps.size = a.n ∧ a.n ≤ 1000000 ∧ ∀ i, i < a.n → VR ρ (a.get i) (tmps.getD i undef)
structure AL where
  state : LoopState
  pending : Option Code
  tmps : AT
  params : Array Tmp
  assign : Code
  body : Code
  defers : Nat
/-- What the evaluator knows of a block. -/
inductive AO where
  | cells (c : Array Value) (elem : TypeId) (frozen : Nat × Nat := (0, 0))
  | map (entries : Array MapEntry) (clock : Nat)
  | loop (l : AL)
  | deferred (all : Bool)

structure AH where
  t : T AO
  next : Nat
  fp : Nat
  wr : Nat

def AH.get (H : AH) (n : Nat) : Option AO := H.t.get n
def AH.touch (H : AH) (n : Nat) : AH := @AH.rec (fun _ => AH) (fun t next fp wr => ⟨t, next, Nat.lor fp (Nat.shiftLeft 1 n), wr⟩) H
def AH.put (H : AH) (n : Nat) (o : Option AO) : AH := @AH.rec (fun _ => AH) (fun t next fp wr => ⟨T.set 60 t n o, next, Nat.lor fp (Nat.shiftLeft 1 n), Nat.lor wr (Nat.shiftLeft 1 n)⟩) H
def AH.new (H : AH) (o : AO) : AH := @AH.rec (fun _ => AH) (fun t next fp wr => ⟨T.set 60 t next (some o), Nat.succ next, fp, wr⟩) H
theorem AH.touch_eq (H : AH) (n : Nat) : H.touch n = ⟨H.t, H.next, H.fp ||| 1 <<< n, H.wr⟩ := rfl
theorem AH.put_eq (H : AH) (n : Nat) (o : Option AO) : H.put n o = ⟨T.set 60 H.t n o, H.next, H.fp ||| 1 <<< n, H.wr ||| 1 <<< n⟩ := rfl
theorem AH.new_eq (H : AH) (o : AO) : H.new o = ⟨T.set 60 H.t H.next (some o), H.next + 1, H.fp, H.wr⟩ := rfl
def top : Nat := 1000000000

structure WF (H : AH) : Prop where
  none_ : ∀ n, H.next ≤ n → H.get n = none
  top : H.next ≤ top

structure Le (H H1 : AH) : Prop where
  next : H.next ≤ H1.next
  fp : ∀ n, H.fp.testBit n = true → H1.fp.testBit n = true
  wr : ∀ n, H.wr.testBit n = true → H1.wr.testBit n = true
  keep : ∀ n, n < H.next → H1.wr.testBit n = false → H1.get n = H.get n
  wf : WF H → WF H1

theorem Le.refl (H : AH) : Le H H := ⟨Nat.le_refl _, fun _ h => h, fun _ h => h, fun _ _ _ => rfl, id⟩
theorem Le.trans {H H1 H2 : AH} (h : Le H H1) (k : Le H1 H2) : Le H H2 :=
  ⟨Nat.le_trans h.next k.next, fun n x => k.fp n (h.fp n x), fun n x => k.wr n (h.wr n x), fun n hn hw => by
    rw [k.keep n (Nat.lt_of_lt_of_le hn h.next) hw]
    refine h.keep n hn ?_
    cases hh : H1.wr.testBit n with
    | false => rfl
    | true => (rw [k.wr n hh] at hw; cases hw), fun x => k.wf (h.wf x)⟩

theorem bit_or (a n m : Nat) : (a ||| 1 <<< n).testBit m = (a.testBit m || decide (n = m)) := by
  rw [Nat.testBit_or, Nat.testBit_shiftLeft]
  congr 1
  by_cases h : n = m
  · subst h; simp
  · rcases Nat.lt_or_ge m n with h1 | h1
    · simp [h]; omega
    · have : m - n ≠ 0 := by omega
      rw [Nat.testBit_lt_two_pow (Nat.one_lt_two_pow this)]
      simp [h]

theorem Le.touch (H : AH) (n : Nat) : Le H (H.touch n) :=
  ⟨Nat.le_refl _, fun m h => by simp only [AH.touch_eq]; rw [bit_or, h]; rfl, fun _ h => h, fun _ _ _ => rfl, fun h => ⟨h.none_, h.top⟩⟩
theorem Le.put (H : AH) {n : Nat} (o : Option AO) (hn : n < H.next) (hw : WF H) : Le H (H.put n o) := by
  have htop := hw.top
  unfold Ev.top at htop
  have hg : ∀ m, (H.put n o).get m = if m = n then o else H.get m := fun m => by
    simp only [AH.put_eq, AH.get]
    exact T.get_set 60 _ _ _ _ (by omega)
  refine ⟨Nat.le_refl _, fun m h => ?_, fun m h => ?_, fun m hm hwr => ?_, fun h => ⟨fun m hm => ?_, h.top⟩⟩
  · simp only [AH.put_eq]; rw [bit_or, h]; rfl
  · simp only [AH.put_eq]; rw [bit_or, h]; rfl
  · rw [hg, if_neg]
    rintro rfl
    simp only [AH.put_eq] at hwr
    rw [bit_or] at hwr
    simp at hwr
  · rw [hg, if_neg (by simp only [AH.put_eq] at hm; omega)]
    exact h.none_ m hm
theorem Le.new (H : AH) (o : AO) (ht : H.next < top) : Le H (H.new o) := by
  have hg : ∀ m, (H.new o).get m = if m = H.next then some o else H.get m := fun m => by
    simp only [AH.new_eq, AH.get]
    refine T.get_set 60 _ _ _ _ ?_
    unfold Ev.top at ht
    omega
  refine ⟨Nat.le_succ _, fun m h => h, fun m h => h, fun m hm _ => ?_, fun h => ⟨fun m hm => ?_, ht⟩⟩
  · rw [hg, if_neg (by omega)]
  · simp only [AH.new_eq] at hm
    rw [hg, if_neg (by omega)]
    exact h.none_ m (by omega)
theorem get_put {H : AH} (hw : WF H) {n : Nat} (hn : n < H.next) (o : Option AO) (m : Nat) : (H.put n o).get m = if m = n then o else H.get m := by
  have htop := hw.top
  unfold Ev.top at htop
  simp only [AH.put_eq, AH.get]
  exact T.get_set 60 _ _ _ _ (by omega)
theorem get_new {H : AH} (ht : H.next < top) (o : AO) (m : Nat) : (H.new o).get m = if m = H.next then some o else H.get m := by
  simp only [AH.new_eq, AH.get]
  refine T.get_set 60 _ _ _ _ ?_
  unfold Ev.top at ht
  omega
theorem get_lt {H : AH} (hw : WF H) {n : Nat} {o : AO} (h : H.get n = some o) : n < H.next := by
  rcases Nat.lt_or_ge n H.next with h1 | h1
  · exact h1
  · rw [hw.none_ n h1] at h; cases h

/-! ### Objects -/
def ER (ρ : Ren) (e e' : MapEntry) : Prop := VR ρ e.key e'.key ∧ VR ρ e.val e'.val ∧ e'.born = e.born

inductive OR (ρ : Ren) : AO → Obj → Prop where
  | cells {c c' : Array Value} (e : TypeId) (hs : c.size ≤ c'.size) (h : ∀ (i : Nat) (x x' : Value), c[i]? = some x → c'[i]? = some x' → VR ρ x x') : OR ρ (.cells c e (0, 0)) (.cells c' e (0, 0))
  | map {es es' : Array MapEntry} (k : Nat) (hs : es.size = es'.size) (h : ∀ (i : Nat) (x x' : MapEntry), es[i]? = some x → es'[i]? = some x' → ER ρ x x') : OR ρ (.map es k) (.map es' k)
  | loop {l : AL} {l' : Loop} (hs : l'.state = l.state) (hp : l'.pending = l.pending) (ht : TT ρ l.tmps l'.tmps) (hq : l'.params = l.params) (ha : l'.assign = l.assign) (hb : l'.body = l.body) (hd : NR ρ l.defers l'.defers) : OR ρ (.loop l) (.loop l')
  | deferred : OR ρ (.deferred true) (.deferred (some []))
  | taken : OR ρ (.deferred false) (.deferred none)

variable {P : Program} {ρ ρ' ρ1 ρ2 : Ren} {F : Nat → Prop} {H H1 H2 : AH} {w w1 w2 : World}
theorem TT.mono {a : AT} {tmps : Array Value} (h : TT ρ a tmps) (e : Ext ρ ρ') : TT ρ' a tmps := ⟨h.1, h.2.1, fun i hi => (h.2.2 i hi).mono e⟩
theorem OR.mono {o : AO} {o' : Obj} (h : OR ρ o o') (e : Ext ρ ρ') : OR ρ' o o' := by
  cases h with
  | cells t hs h => exact .cells t hs fun i x x' hx hx' => (h i x x' hx hx').mono e
  | map k hs h => exact .map k hs fun i x x' hx hx' => ⟨(h i x x' hx hx').1.mono e, (h i x x' hx hx').2.1.mono e, (h i x x' hx hx').2.2⟩
  | loop hs hp ht hq ha hb hd => exact .loop hs hp (ht.mono e) hq ha hb (hd.mono e)
  | deferred => exact .deferred
  | taken => exact .taken

/-- The numbers that go with a block. -/
def TR (P : Program) (t : Tgt) : Obj → Prop
  | .cells c e _ => c.size = t.m ∧ ∀ i, P.info? e = some i → i.size = t.k
  | _ => True

structure WR (P : Program) (ρ : Ren) (F : Nat → Prop) (H : AH) (w : World) : Prop where
  inj : ∀ n m t u, ρ n = some (some t) → ρ m = some (some u) → t.b = u.b → n = m
  bound : ∀ n t, ρ n = some (some t) → t.b < w.heap.size
  obj : ∀ n o, F n → H.get n = some o → ∃ t o', ρ n = some (some t) ∧ w.heap[t.b]? = some o' ∧ OR ρ o o' ∧ TR P t o'

structure Pre (P : Program) (F : Nat → Prop) (ρ : Ren) (H H1 : AH) (w : World) : Prop where
  wr : WR P ρ F H w
  up : ∀ n, H.next ≤ n → F n
  foot : ∀ n, H1.fp.testBit n = true → F n
  fresh : ∀ n, H.next ≤ n → n < H1.next → ρ n = none
  wf : WF H

structure Sim (P : Program) (F : Nat → Prop) (ρ ρ1 : Ren) (H H1 : AH) (w w1 : World) : Prop where
  ext : Ext ρ ρ1
  new : ∀ n, ρ n = none → ρ1 n ≠ none → H.next ≤ n ∧ n < H1.next
  kill : ∀ n b, ρ n = some (some b) → ρ1 n = some none → H1.wr.testBit n = true
  far : ∀ n t, ρ n = none → ρ1 n = some (some t) → w.heap.size ≤ t.b ∨ ∃ m u, ρ m = some (some u) ∧ u.b = t.b ∧ H1.wr.testBit m = true
  wr : WR P ρ1 F H1 w1
  frame : ∀ b, b < w.heap.size → (∀ n t, ρ n = some (some t) → t.b = b → H1.wr.testBit n = false) → w1.heap[b]? = w.heap[b]?
  size : w.heap.size ≤ w1.heap.size
  os : w1.os = w.os
  tape : w1.tape = w.tape
  output : w1.output = w.output

theorem Pre.first (h : Pre P F ρ H H2 w) (k : Le H1 H2) : Pre P F ρ H H1 w :=
  ⟨h.wr, h.up, fun n x => h.foot n (k.fp n x), fun n a b => h.fresh n a (Nat.lt_of_lt_of_le b k.next), h.wf⟩
theorem Pre.next (h : Pre P F ρ H H2 w) (l : Le H H1) (s : Sim P F ρ ρ1 H H1 w w1) : Pre P F ρ1 H1 H2 w1 := by
  refine ⟨s.wr, fun n x => h.up n (Nat.le_trans l.next x), h.foot, fun n a b => ?_, l.wf h.wf⟩
  cases hh : ρ1 n with
  | none => rfl
  | some x =>
    have := (s.new n (h.fresh n (Nat.le_trans l.next a) b) (by rw [hh]; simp)).2
    omega
theorem Sim.trans (h : Sim P F ρ ρ1 H H1 w w1) (l : Le H H1) (k : Sim P F ρ1 ρ2 H1 H2 w1 w2) (l2 : Le H1 H2) : Sim P F ρ ρ2 H H2 w w2 := by
  refine ⟨h.ext.trans k.ext, fun n h0 h2 => ?_, fun n b h0 h2 => ?_, fun n t h0 h2 => ?_, k.wr, fun b hb hn => ?_, Nat.le_trans h.size k.size, k.os.trans h.os, k.tape.trans h.tape, k.output.trans h.output⟩
  · by_cases h1 : ρ1 n = none
    · have := k.new n h1 h2
      have := l.next
      omega
    · have := h.new n h0 h1
      have := l2.next
      omega
  · rcases h.ext.old n _ h0 with h1 | h1
    · exact k.kill n b h1 h2
    · exact l2.wr n (h.kill n b h0 h1)
  · by_cases h1 : ρ1 n = none
    · rcases k.far n t h1 h2 with h3 | ⟨m, u, h3, hu, h4⟩
      · exact .inl (Nat.le_trans h.size h3)
      · by_cases h5 : ρ m = none
        · rcases h.far m u h5 h3 with h6 | ⟨m', u', h6, hu', h7⟩
          · exact .inl (by rw [← hu]; exact h6)
          · exact .inr ⟨m', u', h6, hu'.trans hu, l2.wr m' h7⟩
        · obtain ⟨x, hx⟩ := Option.ne_none_iff_exists'.1 h5
          rcases h.ext.old m x hx with h6 | h6
          · rw [h3] at h6
            cases h6
            exact .inr ⟨m, u, hx, hu, h4⟩
          · rw [h3] at h6; cases h6
    · obtain ⟨x, hx⟩ := Option.ne_none_iff_exists'.1 h1
      rcases k.ext.old n x hx with h6 | h6
      · rw [h2] at h6
        cases h6
        rcases h.far n t h0 hx with h7 | ⟨m', u', h7, hu', h8⟩
        · exact .inl h7
        · exact .inr ⟨m', u', h7, hu', l2.wr m' h8⟩
      · rw [h2] at h6; cases h6
  · have h1 : ∀ n t, ρ n = some (some t) → t.b = b → H1.wr.testBit n = false := fun n t hn' ht => by
      cases hh : H1.wr.testBit n with
      | false => rfl
      | true => have := hn n t hn' ht; rw [l2.wr n hh] at this; cases this
    rw [k.frame b (Nat.lt_of_lt_of_le hb h.size) fun n t hn' ht => ?_, h.frame b hb h1]
    by_cases h5 : ρ n = none
    · rcases h.far n t h5 hn' with h6 | ⟨m, u, h6, hu, h7⟩
      · omega
      · rw [h1 m u h6 (hu.trans ht)] at h7; cases h7
    · obtain ⟨x, hx⟩ := Option.ne_none_iff_exists'.1 h5
      rcases h.ext.old n x hx with h6 | h6
      · rw [hn'] at h6; cases h6; exact hn n t hx ht
      · rw [hn'] at h6; cases h6

/-! ### Steps -/
theorem Sim.touch (h : WR P ρ F H w) (n : Nat) : Sim P F ρ ρ H (H.touch n) w w :=
  ⟨Ext.refl _, fun n h0 h1 => absurd h0 h1, fun n b h0 h1 => (by rw [h0] at h1; cases h1), fun n b h0 h1 => (by rw [h0] at h1; cases h1), ⟨h.inj, h.bound, h.obj⟩, fun _ _ _ => rfl, Nat.le_refl _, rfl, rfl, rfl⟩
theorem Sim.refl (h : WR P ρ F H w) : Sim P F ρ ρ H H w w :=
  ⟨Ext.refl _, fun n h0 h1 => absurd h0 h1, fun n b h0 h1 => (by rw [h0] at h1; cases h1), fun n b h0 h1 => (by rw [h0] at h1; cases h1), h, fun _ _ _ => rfl, Nat.le_refl _, rfl, rfl, rfl⟩
theorem Sim.drew (h : Sim P F ρ ρ1 H H1 w w1) (k : Nat) : Sim P F ρ ρ1 H H1 w { w1 with drawn := k } :=
  ⟨h.ext, h.new, h.kill, h.far, ⟨h.wr.inj, h.wr.bound, h.wr.obj⟩, h.frame, h.size, h.os, h.tape, h.output⟩
theorem Sim.drewAt {k : Nat} (h : Sim P F ρ ρ1 H H1 { w with drawn := k } w1) : Sim P F ρ ρ1 H H1 w w1 :=
  ⟨h.ext, h.new, h.kill, h.far, h.wr, h.frame, h.size, h.os, h.tape, h.output⟩
theorem WR.drew (h : WR P ρ F H w) (k : Nat) : WR P ρ F H { w with drawn := k } := ⟨h.inj, h.bound, h.obj⟩
theorem Pre.drew (h : Pre P F ρ H H1 w) (k : Nat) : Pre P F ρ H H1 { w with drawn := k } := ⟨h.wr.drew k, h.up, h.foot, h.fresh, h.wf⟩

def ren (ρ : Ren) (n : Nat) (x : Option Tgt) : Ren := fun m => if m = n then some x else ρ m

theorem Ext.ren_new {n : Nat} (h : ρ n = none) (x : Option Tgt) : Ext ρ (ren ρ n x) :=
  ⟨fun m y hy => .inl (by unfold ren; rw [if_neg (by rintro rfl; rw [h] at hy; cases hy)]; exact hy)⟩

/-- A new block. -/
theorem Sim.alloc {o : AO} {o' : Obj} {t : Tgt} (h : Pre P F ρ H (H.new o) w) (ht : H.next < top) (htb : t.b = w.heap.size) (ho : OR (ren ρ H.next (some t)) o o') (hTR : TR P t o') :
    Sim P F ρ (ren ρ H.next (some t)) H (H.new o) w { w with heap := w.heap.push o' } := by
  have hf : ρ H.next = none := h.fresh _ (Nat.le_refl _) (Nat.lt_succ_self _)
  have he := Ext.ren_new hf (some t)
  refine ⟨he, fun n h0 h1 => ?_, fun n b h0 h1 => ?_, fun n b h0 h1 => ?_, ⟨fun n m x y h0 h1 hxy => ?_, fun n b h0 => ?_, fun n x hF hx => ?_⟩, fun b hb _ => ?_, by simp, rfl, rfl, rfl⟩
  · unfold ren at h1
    split at h1
    · rename_i e
      simp only [AH.new_eq]
      omega
    · exact absurd h0 h1
  · rcases he.old n _ h0 with h2 | h2
    · rw [h1] at h2; cases h2
    · exact absurd hf (by
        unfold ren at h1
        split at h1
        · cases h1
        · rw [h0] at h1; cases h1)
  · unfold ren at h1
    split at h1
    · cases h1; exact .inl (by omega)
    · rw [h0] at h1; cases h1
  · unfold ren at h0 h1
    split at h0 <;> split at h1
    · omega
    · cases h0
      have := h.wr.bound _ _ h1
      omega
    · cases h1
      have := h.wr.bound _ _ h0
      omega
    · exact h.wr.inj n m x y h0 h1 hxy
  · unfold ren at h0
    simp only [Array.size_push]
    split at h0
    · cases h0; omega
    · have := h.wr.bound _ _ h0; omega
  · rw [get_new ht] at hx
    split at hx
    · rename_i e
      cases hx
      exact ⟨t, o', by unfold ren; rw [if_pos e], by simp [htb], ho, hTR⟩
    · rename_i e
      obtain ⟨b, x', h1, h2, h3, h4⟩ := h.wr.obj n x hF hx
      refine ⟨b, x', by unfold ren; rw [if_neg e]; exact h1, ?_, h3.mono he, h4⟩
      rw [Array.getElem?_push_lt (h.wr.bound _ _ h1)]
      rw [Array.getElem?_eq_getElem (h.wr.bound _ _ h1)] at h2
      exact h2
  · simp [Array.getElem?_push_lt hb]

/-- A block that is changed. -/
theorem Sim.change (h : WR P ρ F H w) (hwf : WF H) {n : Nat} {t : Tgt} {x o : AO} {o' : Obj} (hx : H.get n = some x) (hn : ρ n = some (some t)) (ho : OR ρ o o') (hTR : TR P t o') :
    Sim P F ρ ρ H (H.put n (some o)) w { w with heap := w.heap.setIfInBounds t.b o' } := by
  have hlt := get_lt hwf hx
  have hb := h.bound n t hn
  have hbit : (H.put n (some o)).wr.testBit n = true := by simp only [AH.put_eq]; rw [bit_or]; simp
  refine ⟨Ext.refl _, fun n h0 h1 => absurd h0 h1, fun n b h0 h1 => (by rw [h0] at h1; cases h1), fun n b h0 h1 => (by rw [h0] at h1; cases h1), ⟨h.inj, fun m c hm => by simpa using h.bound m c hm, fun m y hF hy => ?_⟩, fun c hc hm => ?_, by simp, rfl, rfl, rfl⟩
  · rw [get_put hwf hlt] at hy
    split at hy
    · rename_i e
      subst e
      cases hy
      exact ⟨t, o', hn, by simp [hb], ho, hTR⟩
    · rename_i e
      obtain ⟨c, y', h1, h2, h3, h4⟩ := h.obj m y hF hy
      refine ⟨c, y', h1, ?_, h3, h4⟩
      rw [Array.getElem?_setIfInBounds_ne]
      · exact h2
      · intro e2
        exact e (h.inj m n c t h1 hn e2.symm)
  · show (w.heap.setIfInBounds t.b o')[c]? = _
    rw [Array.getElem?_setIfInBounds_ne]
    rintro e2
    rw [hm n t hn e2] at hbit
    cases hbit
end
end Go.Ev
