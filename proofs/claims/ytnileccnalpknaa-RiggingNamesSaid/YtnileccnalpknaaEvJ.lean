import Derived.Test.YtnileccnalpknaaEvI
import Derived.Test.YtnileccnalpknaaEvHz

/- One operation. -/
namespace Go.Ev
set_option linter.unusedSimpArgs false
set_option linter.unusedVariables false
noncomputable section
open Go
variable {ρ ρ' ρ1 ρ2 : Ren} {F : Nat → Prop} {H H1 H2 : AH} {w w1 w2 : World} {P : Program}

inductive Res where
  | val (v : Value)
  | call (f : FuncId) (args : List Value)
  | round (l : Nat) (args : List Value)

def AT.ev (a : AT) : Operand → Option Value
  | .tmp t => match Nat.blt t a.n with
    | true => some (a.get t)
    | false => none
  | .const v => match ground v with
    | true => some v
    | false => none
  | .func f => some (.func (.func f) #[] #[])
  | .global _ => none
def AT.evs (a : AT) : List Operand → Option (List Value)
  | [] => some []
  | x :: xs => (a.ev x).bind fun v => (a.evs xs).bind fun vs => some (v :: vs)
def AT.evo (a : AT) : Option Operand → Option (Option Value)
  | none => some none
  | some x => (a.ev x).bind fun v => some (some v)
def AT.evp (a : AT) : List (Nat × Operand) → Option (List (Nat × Value))
  | [] => some []
  | (i, x) :: xs => (a.ev x).bind fun v => (a.evp xs).bind fun vs => some ((i, v) :: vs)

theorem ev_ok {a : AT} {act : Act} (h : TT ρ a act.tmps) {x : Operand} {v : Value} (hx : a.ev x = some v) : VR ρ v (act.eval x) := by
  cases x with
  | tmp t =>
    simp only [AT.ev] at hx
    split at hx
    · rename_i hb
      cases hx
      exact h.2.2 t (blt_lt hb)
    · cases hx
  | const u =>
    simp only [AT.ev] at hx
    split at hx
    · rename_i hg
      cases hx
      exact ground_refl hg
    · cases hx
  | func f =>
    cases hx
    exact .func (.func f) rfl (fun i x x' hx => by simp at hx) rfl (fun i x x' hx => by simp at hx)
  | global g => cases hx

inductive LR (ρ : Ren) : List Value → List Value → Prop where
  | nil : LR ρ [] []
  | cons {v v' : Value} {l l' : List Value} (h : VR ρ v v') (t : LR ρ l l') : LR ρ (v :: l) (v' :: l')
theorem LR.row {l l' : List Value} (h : LR ρ l l') : RR ρ l.toArray l'.toArray := by
  induction h with
  | nil => exact ⟨rfl, fun i x x' hx => by simp at hx⟩
  | cons h _ ih =>
    refine ⟨by have := ih.1; simp at this; simp [this], fun i x x' hx hx' => ?_⟩
    cases i with
    | zero => simp at hx hx'; subst hx; subst hx'; exact h
    | succ i => exact ih.2 i x x' (by simpa using hx) (by simpa using hx')
theorem LR.append {l l' k k' : List Value} (h : LR ρ l l') (g : LR ρ k k') : LR ρ (l ++ k) (l' ++ k') := by
  induction h with
  | nil => exact g
  | cons h _ ih => exact .cons h ih
theorem LR.length {l l' : List Value} (h : LR ρ l l') : l.length = l'.length := by
  induction h with
  | nil => rfl
  | cons _ _ ih => simp [ih]
theorem LR.of : ∀ {l l' : List Value}, l.length = l'.length → (∀ (i : Nat) (x x' : Value), l[i]? = some x → l'[i]? = some x' → VR ρ x x') → LR ρ l l'
  | [], [], _, _ => .nil
  | v :: l, v' :: l', hl, h => .cons (h 0 v v' rfl rfl) (LR.of (by simpa using hl) fun i x x' hx hx' => h (i + 1) x x' (by simpa using hx) (by simpa using hx'))
theorem RR.list {a a' : Array Value} (h : RR ρ a a') : LR ρ a.toList a'.toList := LR.of (by simpa using h.1) fun i x x' hx hx' => h.2 i x x' (by simpa using hx) (by simpa using hx')

theorem evs_ok {a : AT} {act : Act} (h : TT ρ a act.tmps) : ∀ {xs : List Operand} {vs : List Value}, a.evs xs = some vs → LR ρ vs (xs.map act.eval) := by
  intro xs
  induction xs with
  | nil => intro vs hx; cases hx; exact .nil
  | cons x xs ih =>
    intro vs hx
    simp only [AT.evs, Option.bind_eq_some_iff] at hx
    obtain ⟨v, hv, us, hus, hx⟩ := hx
    cases hx
    exact .cons (ev_ok h hv) (ih hus)
theorem evo_ok {a : AT} {act : Act} (h : TT ρ a act.tmps) {x : Option Operand} {v : Option Value} (hx : a.evo x = some v) : OptR ρ v (x.map act.eval) := by
  cases x with
  | none => cases hx; exact ⟨fun v h => (by cases h), fun _ => rfl⟩
  | some x =>
    simp only [AT.evo, Option.bind_eq_some_iff] at hx
    obtain ⟨u, hu, hx⟩ := hx
    cases hx
    exact ⟨fun v h' => (by cases h'; exact ⟨_, rfl, ev_ok h hu⟩), fun h' => (by cases h')⟩
theorem evp_ok {a : AT} {act : Act} (h : TT ρ a act.tmps) : ∀ {xs : List (Nat × Operand)} {vs : List (Nat × Value)}, a.evp xs = some vs → PR ρ vs (xs.map fun p => (p.1, act.eval p.2)) := by
  intro xs
  induction xs with
  | nil => intro vs hx; cases hx; exact .nil
  | cons x xs ih =>
    intro vs hx
    obtain ⟨i, x⟩ := x
    simp only [AT.evp, Option.bind_eq_some_iff] at hx
    obtain ⟨v, hv, us, hus, hx⟩ := hx
    cases hx
    exact .cons (ev_ok h hv) (ih hus)

/-- The value of an operand, or none of use. -/
def AT.evD (a : AT) (x : Operand) : Value := match a.ev x with
  | some v => v
  | none => undef
def AT.allGround (a : AT) (o : Op) : Bool := o.operands.toList.all fun x => match a.ev x with
  | some v => ground v
  | none => false

def notSelect : Op → Bool
  | .select .. => false
  | _ => true
/-- An operation on values without addresses, that looks at no memory. -/
def aquiet (P : Program) (a : AT) (o : Oper) : Option Value :=
  match notSelect o.op, a.allGround o.op, quiet P (execOp a.evD o) with
  | true, true, some (.value v) => match ground v with
    | true => some v
    | false => none
  | _, _, _ => none

theorem aquiet_ok {a : AT} {o : Oper} {v : Value} (h : aquiet P a o = some v) {act : Act} (ht : TT ρ a act.tmps) : (∀ w, (execOp act.eval o).run P w = .ok (.value v) w) ∧ VR ρ v v := by
  unfold aquiet at h
  split at h
  case h_2 => cases h
  rename_i u hs hg hq
  split at h
  case h_2 => cases h
  rename_i hgv
  cases h
  refine ⟨fun w => ?_, ground_refl hgv⟩
  rw [execOp_congr (ρ := act.eval) (ρ' := a.evD) o (fun cs b e => by rw [e] at hs; cases hs) fun x hx => ?_]
  · exact quiet_run _ hq w
  · unfold AT.allGround at hg
    rw [List.all_eq_true] at hg
    have := hg x (by simpa using hx)
    unfold AT.evD
    cases hx2 : a.ev x with
    | none => rw [hx2] at this; cases this
    | some u =>
      rw [hx2] at this
      exact ground_eq (ev_ok ht hx2) this

def plainFn : Fn → Bool
  | .func _ => true
  | _ => false

def ret (H : AH) (v : Option Value) : Option (Res × AH) := v.bind fun v => some (.val v, H)
def retH (r : Option (Value × AH)) : Option (Res × AH) := r.bind fun p => some (.val p.1, p.2)
def retU (r : Option AH) : Option (Res × AH) := r.bind fun H => some (.val undef, H)

def acall (P : Program) (a : AT) (H : AH) (o : Oper) (c : Call) : Option (Res × AH) :=
  match c.callee with
  | .builtin .append =>
    match c.args.toList, c.argTypes.toList with
    | [s, x], [t, tx] => (a.ev s).bind fun s => (a.ev x).bind fun x => match P.underlying tx with
      | some (.int _) => retH (aappendZ P H t tx s x)
      | _ => retH (aappend P H t tx s x)
    | _, _ => none
  | .builtin .len =>
    match c.args.toList, c.argTypes.toList with
    | [x], [t] => (a.ev x).bind fun x => ret H (alen P t x)
    | _, _ => none
  | .builtin .cap =>
    match c.args.toList, c.argTypes.toList with
    | [x], [t] => (a.ev x).bind fun x => ret H (acap P t x)
    | _, _ => none
  | .builtin .min | .builtin .max => ret H (aquiet P a o)
  | .value f =>
    (a.ev f).bind fun f => (a.evs c.args.toList).bind fun args =>
    match f with
    | .func (.func g) first captured =>
      match P.funcs[g]? with
      | some fn => match fn.body with
        | some _ => some (.call g (first.toList ++ args ++ captured.toList), H)
        | none => none
      | none => none
    | .func (.yield l) first _ => some (.round l (first.toList ++ args), H)
    | _ => none
  | _ => none

def abin (P : Program) (a : AT) (o : Oper) (op : BinOp) (t : TypeId) (x y : Operand) : Option Value :=
  (a.ev x).bind fun u => (a.ev y).bind fun v =>
    match ground u, ground v with
    | true, true => aquiet P a o
    | _, _ =>
      match op, calm u with
      | .eql, true => (aeql P t u v).bind fun b => some (.bool b)
      | .neq, true => (aeql P t u v).bind fun b => some (.bool (!b))
      | _, _ => none

def aop (P : Program) (a : AT) (H : AH) (o : Oper) : Option (Res × AH) :=
  match o.op with
  | .move x | .assign x => ret H (a.ev x)
  | .pick c x y => (a.ev c).bind fun c => match c with
    | .bool true => ret H (a.ev x)
    | .bool false => ret H (a.ev y)
    | _ => none
  | .alloc e => (zero? P e).bind fun z => retH (abox H e z)
  | .box e x => (a.ev x).bind fun v => retH (abox H e v)
  | .build t parts => (a.evp parts.toList).bind fun ps => ret H (abuild P t ps)
  | .buildSlice t n parts => (a.evp parts.toList).bind fun ps => retH (abuildSlice P H t n ps)
  | .load t x => (a.ev x).bind fun x => retH (aload P H t x)
  | .store t x v => (a.ev x).bind fun x => (a.ev v).bind fun v => retU (astore P H t x v)
  | .nilCheck x => (a.ev x).bind fun v => match v with
    | .pointer (some _) => some (.val v, H)
    | .func (.func _) _ _ => some (.val v, H)
    | _ => none
  | .binOp op t x y _ => ret H (abin P a o op t x y)
  | .unOp _ _ _ | .convert _ _ _ => ret H (aquiet P a o)
  | .makeInterface _ _ | .typeAssert _ _ _ _ => ret H (aquiet P a o)
  | .makeFunc fn first captured => (a.evs first.toList).bind fun xs => (a.evs captured.toList).bind fun ys => match plainFn fn with
    | true => some (.val (.func fn xs.toArray ys.toArray), H)
    | false => none
  | .makeMap _ none => retH (amakeMap H)
  | .makeSlice t l c => (a.ev l).bind fun l => (a.ev c).bind fun c => retH (amake P H t l c)
  | .slice t x lo hi mx => (a.ev x).bind fun x => (a.evo lo).bind fun lo => (a.evo hi).bind fun hi => (a.evo mx).bind fun mx => retH (asliceH P H t x lo hi mx)
  | .fieldAddr s x f => (a.ev x).bind fun x => ret H (afield P s x f)
  | .field t x f => (a.ev x).bind fun x => ret H (afieldV P t x f)
  | .indexAddr t x i => (a.ev x).bind fun x => (a.ev i).bind fun i => ret H (aindex P t x i)
  | .index t x i => (a.ev x).bind fun x => (a.ev i).bind fun i => match ground x with
    | true => ret H (aquiet P a o)
    | false => ret H (aindexV P t x i)
  | .lookup t x k ok => (a.ev x).bind fun x => (a.ev k).bind fun k => retH (alookup P H t x k ok)
  | .mapUpdate t m k v | .insert t m k v => (a.ev m).bind fun m => (a.ev k).bind fun k => (a.ev v).bind fun v => retU (amapUpdate P H t m k v)
  | .extract x i => (a.ev x).bind fun x => match x with
    | .tuple vs => ret H (vs.toList[i]?)
    | _ => none
  | .call c => acall P a H o c
  | _ => none

/-- What one operation must do. -/
def OpR (P : Program) (F : Nat → Prop) (ρ : Ren) (H H1 : AH) (w : World) (o : Oper) (act : Act) : Res → Prop
  | .val v => ∃ ρ1 w1 v' nx, (execOp act.eval o).run P w = .ok nx w1 ∧ (nx = .value v' ∨ (nx = .skip ∧ v' = undef)) ∧ VR ρ1 v v' ∧ Sim P F ρ ρ1 H H1 w w1
  | .call f args => H1 = H ∧ ∃ args', (callFunc f args').run P w = (execOp act.eval o).run P w ∧ (∃ fn c, P.funcs[f]? = some fn ∧ fn.body = some c) ∧ RR ρ args.toArray args'
  | .round l args => H1 = H ∧ ∃ l' args', (Instr.yield l' args').run P w = (execOp act.eval o).run P w ∧ NR ρ l l' ∧ RR ρ args.toArray args'

theorem undef_ok : VR ρ undef undef := .tuple rfl fun i x x' hx => by simp at hx

theorem opr_gives {o : Oper} {act : Act} {v : Value} {s : Sem Value} (hs : execOp act.eval o = (do pure (.value (← s)) : Sem Next)) (h : Gives P F H H1 v ρ w s) : OpR P F ρ H H1 w o act (.val v) := by
  obtain ⟨ρ1, w1, v', h1, h2, h3⟩ := h
  refine ⟨ρ1, w1, v', .value v', ?_, .inl rfl, h2, h3⟩
  rw [hs]
  simp [h1]
theorem opr_yields {o : Oper} {act : Act} {v : Value} {s : Sem Value} (hw : WR P ρ F H w) (hs : execOp act.eval o = (do pure (.value (← s)) : Sem Next)) (h : Yields P v ρ s) : OpR P F ρ H H w o act (.val v) := by
  obtain ⟨v', h1, h2⟩ := h
  refine ⟨ρ, w, v', .value v', ?_, .inl rfl, h2, Sim.refl hw⟩
  rw [hs]
  simp [h1]
theorem opr_unit {o : Oper} {act : Act} {s : Sem Unit} (hs : execOp act.eval o = (do s; pure .skip : Sem Next)) (h : ∃ w1, s.run P w = .ok () w1 ∧ Sim P F ρ ρ H H1 w w1) : OpR P F ρ H H1 w o act (.val undef) := by
  obtain ⟨w1, h1, h2⟩ := h
  refine ⟨ρ, w1, undef, .skip, ?_, .inr ⟨rfl, rfl⟩, undef_ok, h2⟩
  rw [hs]
  simp [h1]
theorem opr_pure {o : Oper} {act : Act} {v v' : Value} (hw : WR P ρ F H w) (hs : execOp act.eval o = pure (.value v')) (h : VR ρ v v') : OpR P F ρ H H w o act (.val v) :=
  ⟨ρ, w, v', .value v', by rw [hs]; rfl, .inl rfl, h, Sim.refl hw⟩
end
end Go.Ev
