import Derived.RangeFuncLeaves
import Derived.OrdersIn
import Derived.TacticsIn

/- An evaluator for closed calls: names for blocks, what it means that a world is as the evaluator's. -/
namespace Go.Ev
set_option linter.unusedSimpArgs false
set_option linter.unusedVariables false
noncomputable section
open Go

/-! ### A tree of things by number -/
inductive T (α : Type) where
  | leaf
  | node (v : Option α) (l r : T α)

def T.val {α : Type} : T α → Option α
  | .leaf => none
  | .node v _ _ => v
def T.left {α : Type} : T α → T α
  | .leaf => .leaf
  | .node _ l _ => l
def T.right {α : Type} : T α → T α
  | .leaf => .leaf
  | .node _ _ r => r

/-- (By recursors: the kernel takes fewer steps so.) -/
def T.get {α : Type} (t : T α) : Nat → Option α :=
  @T.rec α (fun _ => Nat → Option α) (fun _ => none) (fun v _ _ il ir i => @Bool.rec (fun _ => Option α) (@Bool.rec (fun _ => Option α) (ir (Nat.sub (Nat.div i 2) 1)) (il (Nat.div i 2)) (Nat.beq (Nat.mod i 2) 1)) v (Nat.beq i 0)) t
def T.step {α : Type} (ih : T α → Nat → T α) (v : Option α) (i : Nat) (w : Option α) (l r : T α) : T α :=
  @Bool.rec (fun _ => T α) (@Bool.rec (fun _ => T α) (.node w l (ih r (Nat.sub (Nat.div i 2) 1))) (.node w (ih l (Nat.div i 2)) r) (Nat.beq (Nat.mod i 2) 1)) (.node v l r) (Nat.beq i 0)
def T.set {α : Type} (k : Nat) (t : T α) (i : Nat) (v : Option α) : T α :=
  @Nat.rec (fun _ => T α → Nat → T α) (fun t _ => t) (fun _ ih t i => @T.rec α (fun _ => T α) (T.step ih v i none .leaf .leaf) (fun w l r _ _ => T.step ih v i w l r) t) k t i
theorem T.set_succ {α : Type} (k : Nat) (t : T α) (i : Nat) (v : Option α) : T.set (k + 1) t i v = match Nat.beq i 0 with
    | true => .node v t.left t.right
    | false => match Nat.beq (i % 2) 1 with
      | true => .node t.val (T.set k t.left (i / 2) v) t.right
      | false => .node t.val t.left (T.set k t.right (i / 2 - 1) v) := by
  cases t with
  | leaf =>
    show @Bool.rec (fun _ => T α) (@Bool.rec (fun _ => T α) (.node none .leaf (T.set k .leaf (i / 2 - 1) v)) (.node none (T.set k .leaf (i / 2) v) .leaf) (Nat.beq (i % 2) 1)) (.node v .leaf .leaf) (Nat.beq i 0) = _
    generalize Nat.beq i 0 = b
    generalize Nat.beq (i % 2) 1 = c
    cases b <;> cases c <;> rfl
  | node w l r =>
    show @Bool.rec (fun _ => T α) (@Bool.rec (fun _ => T α) (.node w l (T.set k r (i / 2 - 1) v)) (.node w (T.set k l (i / 2) v) r) (Nat.beq (i % 2) 1)) (.node v l r) (Nat.beq i 0) = _
    generalize Nat.beq i 0 = b
    generalize Nat.beq (i % 2) 1 = c
    cases b <;> cases c <;> rfl

theorem T.get_parts {α : Type} (t : T α) (i : Nat) : t.get i = match Nat.beq i 0 with
    | true => t.val
    | false => match Nat.beq (i % 2) 1 with
      | true => t.left.get (i / 2)
      | false => t.right.get (i / 2 - 1) := by
  cases t with
  | leaf =>
    show none = _
    generalize Nat.beq i 0 = b
    generalize Nat.beq (i % 2) 1 = c
    cases b <;> cases c <;> rfl
  | node v l r =>
    show @Bool.rec (fun _ => Option α) (@Bool.rec (fun _ => Option α) (r.get (i / 2 - 1)) (l.get (i / 2)) (Nat.beq (i % 2) 1)) v (Nat.beq i 0) = _
    generalize Nat.beq i 0 = b
    generalize Nat.beq (i % 2) 1 = c
    cases b <;> cases c <;> rfl

theorem beq_f {a b : Nat} (h : a ≠ b) : Nat.beq a b = false := by
  cases hh : Nat.beq a b with
  | false => rfl
  | true => exact absurd (Nat.eq_of_beq_eq_true hh) h
theorem T.get_set {α : Type} : ∀ (k : Nat) (t : T α) (i : Nat) (v : Option α) (j : Nat), i + 1 < 2 ^ k → (T.set k t i v).get j = if j = i then v else t.get j := by
  intro k
  induction k with
  | zero => intro t i v j h; simp at h
  | succ k ih =>
    intro t i v j h
    rw [T.set_succ]
    rcases Nat.eq_zero_or_pos i with rfl | hi
    · simp only [Nat.beq]
      rw [T.get_parts, T.get_parts t j]
      rcases Nat.eq_zero_or_pos j with rfl | hj
      · simp [T.val]
      · have h0 : Nat.beq j 0 = false := beq_f (by omega)
        simp only [h0, T.left, T.right]
        rw [if_neg (by omega)]
    · have h0 : Nat.beq i 0 = false := beq_f (by omega)
      simp only [h0]
      cases h1 : Nat.beq (i % 2) 1 with
      | true =>
        have h1' : i % 2 = 1 := Nat.eq_of_beq_eq_true h1
        simp only
        rw [T.get_parts, T.get_parts t j]
        rcases Nat.eq_zero_or_pos j with rfl | hj
        · rw [if_neg (by omega)]; simp [T.val]
        · have hj0 : Nat.beq j 0 = false := beq_f (by omega)
          simp only [hj0, T.left, T.right]
          cases h2 : Nat.beq (j % 2) 1 with
          | true =>
            have h2' : j % 2 = 1 := Nat.eq_of_beq_eq_true h2
            simp only
            rw [ih _ _ _ _ (by have := Nat.pow_succ 2 k; omega)]
            by_cases hji : j = i
            · rw [if_pos hji, if_pos (by rw [hji])]
            · rw [if_neg hji, if_neg (by omega)]
          | false =>
            have h2' : ¬ j % 2 = 1 := Nat.ne_of_beq_eq_false h2
            simp only
            rw [if_neg (by intro e; rw [e] at h2'; exact h2' h1')]
      | false =>
        have h1' : ¬ i % 2 = 1 := Nat.ne_of_beq_eq_false h1
        simp only
        rw [T.get_parts, T.get_parts t j]
        rcases Nat.eq_zero_or_pos j with rfl | hj
        · rw [if_neg (by omega)]; simp [T.val]
        · have hj0 : Nat.beq j 0 = false := beq_f (by omega)
          simp only [hj0, T.left, T.right]
          cases h2 : Nat.beq (j % 2) 1 with
          | true =>
            have h2' : j % 2 = 1 := Nat.eq_of_beq_eq_true h2
            simp only
            rw [if_neg (by intro e; rw [e] at h2'; exact h1' h2')]
          | false =>
            have h2' : ¬ j % 2 = 1 := Nat.ne_of_beq_eq_false h2
            simp only
            rw [ih _ _ _ _ (by have := Nat.pow_succ 2 k; omega)]
            by_cases hji : j = i
            · rw [if_pos hji, if_pos (by rw [hji])]
            · rw [if_neg hji, if_neg (by omega)]

/-! ### What needs no memory -/
def quiet {α : Type} (P : Program) : Sem α → Option α
  | .pure a => some a
  | .program k => quiet P (k P)
  | .mark _ k => quiet P k
  | _ => none

theorem quiet_run {α : Type} {P : Program} (s : Sem α) : ∀ {a : α}, quiet P s = some a → ∀ w, s.run P w = .ok a w := by
  induction s with
  | pure a => intro b h w; simp only [quiet, Option.some.injEq] at h; subst h; rfl
  | program k ih => intro b h w; exact ih P h w
  | mark m k ih => intro b h w; exact ih h w
  | _ => intro b h; simp [quiet] at h

/-! ### Names -/
/-- The block b, that has m cells, of elements of k cells. -/
structure Tgt where
  b : Nat
  m : Nat
  k : Nat
/-- none: not given yet; some none: no longer in use. -/
abbrev Ren := Nat → Option (Option Tgt)

def AR (ρ : Ren) (a a' : Addr) : Prop := ρ a.block = some none ∨ ∃ t, ρ a.block = some (some t) ∧ a' = ⟨t.b, a.off, a.spot⟩
def NR (ρ : Ren) (n n' : Nat) : Prop := ρ n = some none ∨ ∃ t, ρ n = some (some t) ∧ n' = t.b
/-- A capacity of LOOSE and more says: at least so much, and so many cells are there. -/
def loose : Nat := 2 ^ 100
def CR (ρ : Ren) (a : Addr) (c c' : Nat) : Prop := (c < loose ∧ c' = c) ∨ (loose ≤ c ∧ c - loose ≤ c' ∧ (ρ a.block = some none ∨ ∃ t, ρ a.block = some (some t) ∧ a.off + c' * t.k ≤ t.m))

inductive FR (ρ : Ren) : Fn → Fn → Prop where
  | func (f : FuncId) : FR ρ (.func f) (.func f)
  | method (s : String) : FR ρ (.method s) (.method s)
  | methodOf (t : TypeId) (s : String) : FR ρ (.methodOf t s) (.methodOf t s)
  | via (t : TypeId) (p : Array FieldStep) (f : FuncId) (b : Bool) : FR ρ (.via t p f b) (.via t p f b)
  | yield {l l' : Nat} (h : NR ρ l l') : FR ρ (.yield l) (.yield l')

inductive VR (ρ : Ren) : Value → Value → Prop where
  | bool (b : Bool) : VR ρ (.bool b) (.bool b)
  | int (k : IntKind) (n : Int) : VR ρ (.int k n) (.int k n)
  | string (s : ByteArray) : VR ρ (.string s) (.string s)
  | nilPtr : VR ρ (.pointer none) (.pointer none)
  | ptr {a a' : Addr} (h : AR ρ a a') : VR ρ (.pointer (some a)) (.pointer (some a'))
  | nilSlice (n c : Nat) : VR ρ (.slice none n c) (.slice none n c)
  | slice {a a' : Addr} (n : Nat) {c c' : Nat} (h : AR ρ a a') (hc : CR ρ a c c') : VR ρ (.slice (some a) n c) (.slice (some a') n c')
  | nilMap : VR ρ (.map none) (.map none)
  | map {m m' : Nat} (h : NR ρ m m') : VR ρ (.map (some m)) (.map (some m'))
  | func {f f' : Fn} {xs xs' ys ys' : Array Value} (hf : FR ρ f f') (hx : xs.size = xs'.size) (h1 : ∀ (i : Nat) (x x' : Value), xs[i]? = some x → xs'[i]? = some x' → VR ρ x x')
      (hy : ys.size = ys'.size) (h2 : ∀ (i : Nat) (x x' : Value), ys[i]? = some x → ys'[i]? = some x' → VR ρ x x') : VR ρ (.func f xs ys) (.func f' xs' ys')
  | nilFunc : VR ρ .nilFunc .nilFunc
  | iface (t : TypeId) {v v' : Value} (h : VR ρ v v') : VR ρ (.iface t v) (.iface t v')
  | nilIface : VR ρ .nilIface .nilIface
  | agg {xs xs' : Array Value} (hx : xs.size = xs'.size) (h : ∀ (i : Nat) (x x' : Value), xs[i]? = some x → xs'[i]? = some x' → VR ρ x x') : VR ρ (.agg xs) (.agg xs')
  | tuple {xs xs' : Array Value} (hx : xs.size = xs'.size) (h : ∀ (i : Nat) (x x' : Value), xs[i]? = some x → xs'[i]? = some x' → VR ρ x x') : VR ρ (.tuple xs) (.tuple xs')

/-- Two rows of values, place by place. -/
def RR (ρ : Ren) (xs xs' : Array Value) : Prop := xs.size = xs'.size ∧ ∀ (i : Nat) (x x' : Value), xs[i]? = some x → xs'[i]? = some x' → VR ρ x x'

/-- What becomes of the names: old ones stay or are no longer in use. -/
structure Ext (ρ ρ' : Ren) : Prop where
  old : ∀ n x, ρ n = some x → ρ' n = some x ∨ ρ' n = some none

theorem Ext.refl (ρ : Ren) : Ext ρ ρ := ⟨fun _ _ h => .inl h⟩
theorem Ext.trans {ρ ρ' ρ'' : Ren} (h : Ext ρ ρ') (h' : Ext ρ' ρ'') : Ext ρ ρ'' :=
  ⟨fun n x hx => by
    rcases h.old n x hx with h1 | h1
    · exact h'.old n x h1
    · exact .inr ((h'.old n none h1).elim id id)⟩

variable {ρ ρ' : Ren}
theorem AR.mono {a a' : Addr} (h : AR ρ a a') (e : Ext ρ ρ') : AR ρ' a a' := by
  rcases h with h | ⟨b, h, rfl⟩
  · exact .inl ((e.old _ _ h).elim id id)
  · rcases e.old _ _ h with h1 | h1
    · exact .inr ⟨b, h1, rfl⟩
    · exact .inl h1
theorem NR.mono {n n' : Nat} (h : NR ρ n n') (e : Ext ρ ρ') : NR ρ' n n' := by
  rcases h with h | ⟨b, h, rfl⟩
  · exact .inl ((e.old _ _ h).elim id id)
  · rcases e.old _ _ h with h1 | h1
    · exact .inr ⟨b, h1, rfl⟩
    · exact .inl h1
theorem CR.mono {a : Addr} {c c' : Nat} (h : CR ρ a c c') (e : Ext ρ ρ') : CR ρ' a c c' := by
  rcases h with h | ⟨h1, h2, h⟩
  · exact .inl h
  · refine .inr ⟨h1, h2, ?_⟩
    rcases h with h | ⟨b, h, h3⟩
    · exact .inl ((e.old _ _ h).elim id id)
    · rcases e.old _ _ h with h4 | h4
      · exact .inr ⟨b, h4, h3⟩
      · exact .inl h4
theorem FR.mono {f f' : Fn} (h : FR ρ f f') (e : Ext ρ ρ') : FR ρ' f f' := by
  cases h with
  | func f => exact .func f
  | method s => exact .method s
  | methodOf t s => exact .methodOf t s
  | via t p f b => exact .via t p f b
  | yield h => exact .yield (h.mono e)
theorem VR.mono {v v' : Value} (h : VR ρ v v') (e : Ext ρ ρ') : VR ρ' v v' := by
  induction h with
  | bool b => exact .bool b
  | int k n => exact .int k n
  | string s => exact .string s
  | nilPtr => exact .nilPtr
  | ptr h => exact .ptr (h.mono e)
  | nilSlice n c => exact .nilSlice n c
  | slice n h hc => exact .slice n (h.mono e) (hc.mono e)
  | nilMap => exact .nilMap
  | map h => exact .map (h.mono e)
  | func hf hx _ hy _ i1 i2 => exact .func (hf.mono e) hx i1 hy i2
  | nilFunc => exact .nilFunc
  | iface t _ ih => exact .iface t ih
  | nilIface => exact .nilIface
  | agg hx _ ih => exact .agg hx ih
  | tuple hx _ ih => exact .tuple hx ih
theorem RR.mono {xs xs' : Array Value} (h : RR ρ xs xs') (e : Ext ρ ρ') : RR ρ' xs xs' := ⟨h.1, fun i x x' hx hx' => (h.2 i x x' hx hx').mono e⟩

/-! ### Values without addresses -/
def gs : Value → Bool
  | .bool _ | .int _ _ | .string _ | .pointer none | .slice none _ _ | .map none | .nilFunc | .nilIface => true
  | _ => false
def ground : Value → Bool
  | .agg xs | .tuple xs => xs.toList.all gs
  | .iface _ v => gs v
  | v => gs v

theorem gs_eq {v v' : Value} (h : VR ρ v v') (g : gs v = true) : v' = v := by
  cases h <;> first | rfl | simp [gs] at g
theorem gs_refl {v : Value} (g : gs v = true) : VR ρ v v := by
  match v, g with
  | .bool b, _ => exact .bool b
  | .int k n, _ => exact .int k n
  | .string s, _ => exact .string s
  | .pointer none, _ => exact .nilPtr
  | .slice none n c, _ => exact .nilSlice n c
  | .map none, _ => exact .nilMap
  | .nilFunc, _ => exact .nilFunc
  | .nilIface, _ => exact .nilIface
theorem row_eq {xs xs' : Array Value} (h : RR ρ xs xs') (g : xs.toList.all gs = true) : xs' = xs := by
  apply Array.ext
  · exact h.1.symm
  · intro i h1 h2
    have h3 : xs[i]? = some xs[i] := Array.getElem?_eq_getElem h2
    have h4 : xs'[i]? = some xs'[i] := Array.getElem?_eq_getElem h1
    refine gs_eq (h.2 i _ _ h3 h4) ?_
    rw [List.all_eq_true] at g
    exact g _ (by simp)
theorem row_refl {xs : Array Value} (g : xs.toList.all gs = true) : RR ρ xs xs := by
  refine ⟨rfl, fun i x x' h1 h2 => ?_⟩
  rw [h1] at h2
  cases h2
  rw [List.all_eq_true] at g
  exact gs_refl (g _ (by simpa using Array.mem_of_getElem? h1))
theorem ground_eq {v v' : Value} (h : VR ρ v v') (g : ground v = true) : v' = v := by
  cases h with
  | agg hx h => rw [row_eq ⟨hx, h⟩ g]
  | tuple hx h => rw [row_eq ⟨hx, h⟩ g]
  | iface t h => rw [gs_eq h g]
  | ptr h => simp [ground, gs] at g
  | slice n h hc => simp [ground, gs] at g
  | map h => simp [ground, gs] at g
  | func => simp [ground, gs] at g
  | _ => rfl
theorem ground_refl {v : Value} (g : ground v = true) : VR ρ v v := by
  match v, g with
  | .agg xs, g => have := row_refl (ρ := ρ) (xs := xs) g; exact .agg this.1 this.2
  | .tuple xs, g => have := row_refl (ρ := ρ) (xs := xs) g; exact .tuple this.1 this.2
  | .iface t v, g => exact .iface t (gs_refl g)
  | .bool b, _ => exact .bool b
  | .int k n, _ => exact .int k n
  | .string s, _ => exact .string s
  | .pointer none, _ => exact .nilPtr
  | .slice none n c, _ => exact .nilSlice n c
  | .map none, _ => exact .nilMap
  | .nilFunc, _ => exact .nilFunc
  | .nilIface, _ => exact .nilIface
end
end Go.Ev
