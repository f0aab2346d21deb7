import Derived.Test.YtnileccnalpknaaEvZ

/- The evaluator once more, in a form that the kernel runs with fewer steps: tables by recursors whose rows are closed, and short ways for what is common. And that it is the same. -/
namespace Go.Ev
set_option linter.unusedSimpArgs false
set_option linter.unusedVariables false
noncomputable section
open Go
variable {P : Program}

/-! ### Small tables -/
def isNormal (x : Exit) : Bool := @Exit.rec (fun _ => Bool) true (fun _ => false) (fun _ => false) false (fun _ => false) false x
def nthF {α : Type} (l : List α) : Nat → Option α := @List.rec α (fun _ => Nat → Option α) (fun _ => none) (fun x _ ih i => @Bool.rec (fun _ => Option α) (ih (Nat.pred i)) (some x) (Nat.beq i 0)) l
theorem nthF_eq {α : Type} (l : List α) : ∀ i, nthF l i = l[i]? := by
  induction l with
  | nil => intro i; rfl
  | cons x l ih =>
    intro i
    cases i with
    | zero => rfl
    | succ i => rw [List.getElem?_cons_succ, ← ih i]; rfl
def setF {α : Type} (v : α) (l : List α) : Nat → List α := @List.rec α (fun _ => Nat → List α) (fun _ => []) (fun x xs ih i => @Bool.rec (fun _ => List α) (x :: ih (Nat.pred i)) (v :: xs) (Nat.beq i 0)) l
theorem setF_eq {l : List Value} {v : Value} : ∀ {i : Nat}, i < l.length → setF v l i = patch l i [v] := by
  induction l with
  | nil => intro i h; simp at h
  | cons x l ih =>
    intro i h
    cases i with
    | zero => simp [patch, setF]
    | succ i =>
      have := ih (i := i) (by simpa using h)
      show x :: setF v l i = _
      rw [this]
      have e : i + 1 + 1 = (i + 1) + 1 := rfl
      simp [patch]
def obn {α β : Type} (x : Option α) (k : α → Option β) : Option β := @Option.rec α (fun _ => Option β) none k x
theorem obn_eq {α β : Type} (x : Option α) (k : α → Option β) : obn x k = x.bind k := by cases x <;> rfl

/-! ### Slots -/
def tget (a : T Value) (t : Nat) : Value := @Option.rec Value (fun _ => Value) undef (fun v => v) (T.get a t)
def fget (a : AT) (t : Nat) : Value := @Option.rec Value (fun _ => Value) undef (fun v => v) (T.get a.t t)
theorem fget_eq (a : AT) (t : Nat) : fget a t = a.get t := by unfold fget AT.get; cases a.t.get t <;> rfl
def fev (a : AT) (x : Operand) : Option Value := @Operand.rec (fun _ => AT → Option Value) (fun x a => @AT.rec (fun _ => Option Value) (fun t n => @Bool.rec (fun _ => Option Value) none (some (tget t x)) (Nat.blt x n)) a) (fun v _ => @Bool.rec (fun _ => Option Value) none (some v) (ground v)) (fun _ _ => none) (fun f _ => some (.func (.func f) #[] #[])) x a
theorem fev_eq (a : AT) (x : Operand) : fev a x = a.ev x := by
  cases x with
  | tmp t =>
    show @Bool.rec (fun _ => Option Value) none (some (fget a t)) (Nat.blt t a.n) = _
    unfold AT.ev
    dsimp only
    rw [fget_eq]
    cases Nat.blt t a.n <;> rfl
  | const v =>
    show @Bool.rec (fun _ => Option Value) none (some v) (ground v) = _
    unfold AT.ev
    dsimp only
    cases ground v <;> rfl
  | global g => rfl
  | func f => rfl
def fput (a : AT) (dst : Option Nat) (v : Value) : Option AT := @Option.rec Nat (fun _ => AT → Value → Option AT) (fun a _ => some a) (fun d a v => @AT.rec (fun _ => Option AT) (fun t n => @Bool.rec (fun _ => Option AT) none (some ⟨T.set 60 t d (some v), n⟩) (Nat.blt d n)) a) dst a v
theorem fput_eq (a : AT) (dst : Option Nat) (v : Value) : fput a dst v = aput a dst v := by
  cases dst with
  | none => rfl
  | some d =>
    show @Bool.rec (fun _ => Option AT) none (some ⟨T.set 60 a.t d (some v), a.n⟩) (Nat.blt d a.n) = _
    unfold aput
    dsimp only
    cases Nat.blt d a.n <;> rfl

def wantV (want : Bool) (v : Value) : Option Bool :=
  @Value.rec (fun _ => Bool → Option Bool) (fun _ => PUnit) (fun _ => PUnit) (fun b want => some (@Bool.rec (fun _ => Bool) (@Bool.rec (fun _ => Bool) true false want) want b)) (fun _ _ _ => none) (fun _ _ _ => none) (fun _ _ _ _ => none) (fun _ _ => none) (fun _ _ => none) (fun _ _ _ _ => none) (fun _ _ => none) (fun _ _ => none) (fun _ _ _ _ _ _ => none) (fun _ => none) (fun _ _ _ _ => none) (fun _ => none) (fun _ _ _ => none) (fun _ _ _ => some false) (fun _ _ => ⟨⟩) ⟨⟩ (fun _ _ _ _ => ⟨⟩) v want
def wantAt (ops : Array Oper) (a : AT) (p : Nat × Bool) : Option Bool :=
  obn (nthF ops.toList p.1) fun q => obn q.dst fun d => @Bool.rec (fun _ => Option Bool) none (wantV p.2 (fget a d)) (Nat.blt d a.n)
def fwant (ops : Array Oper) (a : AT) (o : Oper) : Option Bool := @Option.rec (Nat × Bool) (fun _ => Array Oper → AT → Option Bool) (fun _ _ => some true) (fun p ops a => wantAt ops a p) o.guard ops a
theorem fwant_eq (ops : Array Oper) (a : AT) (o : Oper) : fwant ops a o = awanted ops a o := by
  unfold fwant awanted
  cases hg : o.guard with
  | none => rfl
  | some p =>
    obtain ⟨j, want⟩ := p
    show wantAt ops a (j, want) = _
    unfold wantAt
    dsimp only
    rw [nthF_eq]
    cases ops.toList[j]? with
    | none => rfl
    | some q =>
      show obn q.dst _ = _
      dsimp only
      cases q.dst with
      | none => rfl
      | some d =>
        show @Bool.rec (fun _ => Option Bool) none (wantV want (fget a d)) (Nat.blt d a.n) = _
        dsimp only
        rw [fget_eq]
        cases Nat.blt d a.n with
        | false => rfl
        | true =>
          generalize a.get d = v
          cases v with
          | bool b => cases b <;> cases want <;> rfl
          | _ => rfl
end
end Go.Ev
