import Derived.Test.YtnileccnalpknaaEvT
import Derived.OrdersIn

/- Regions that draw their order: the evaluator's part, and what the last writer left. -/
namespace Go.Ev
set_option linter.unusedSimpArgs false
set_option linter.unusedVariables false
noncomputable section
open Go
variable {P : Program}

structure Rec where
  pre : Nat
  T : Nat
  R : Nat
  LT : Nat
  LR : Nat

def bitOf : Option Nat → Nat
  | some d => 1 <<< d
  | none => 0
def bitsOf : List Nat → Nat
  | [] => 0
  | d :: ds => 1 <<< d ||| bitsOf ds
def newBits (s e : Nat) : Nat := (2 ^ (e - s) - 1) <<< s

theorem bit_one (d m : Nat) : (1 <<< d).testBit m = decide (d = m) := by
  have := bit_or 0 d m
  simpa using this
theorem bitsOf_mem {l : List Nat} {m : Nat} : (bitsOf l).testBit m = decide (m ∈ l) := by
  induction l with
  | nil => simp [bitsOf]
  | cons d l ih =>
    rw [bitsOf, Nat.testBit_or, bit_one, ih]
    by_cases h : d = m
    · simp [h]
    · have : m ≠ d := fun e => h e.symm
      simp [h, this]
theorem bitOf_bit {o : Option Nat} {m : Nat} : (bitOf o).testBit m = decide (o = some m) := by
  cases o with
  | none => simp [bitOf]
  | some d => rw [bitOf, bit_one]; by_cases h : d = m <;> simp [h]
theorem newBits_bit {s e m : Nat} : (newBits s e).testBit m = decide (s ≤ m ∧ m < e) := by
  rw [newBits, Nat.testBit_shiftLeft, Nat.testBit_two_pow_sub_one]
  by_cases h1 : s ≤ m
  · by_cases h2 : m < e
    · simp [h1, h2]; omega
    · simp [h1, h2]; omega
  · simp [h1]

def directs (o : Oper) : List Nat := (o.after.toList.filter (Region.binds .any)).map (·.on)

def preOf (recs : List Rec) : List Nat → Nat
  | [] => 0
  | j :: js => (match recs[j]? with
    | some r => 1 <<< j ||| r.pre
    | none => 0) ||| preOf recs js

def allBelow (i : Nat) : List Nat → Bool
  | [] => true
  | j :: js => Nat.blt j i && allBelow i js

/-- Two that may come in either order don't meddle. -/
def free (q r : Rec) : Bool :=
  Nat.beq (q.T &&& r.R) 0 && (Nat.beq (r.T &&& q.R) 0 && (Nat.beq (q.LT &&& r.LR) 0 && Nat.beq (r.LT &&& q.LR) 0))
def noClash (r : Rec) : Nat → List Rec → Bool
  | _, [] => true
  | j, q :: qs => (r.pre.testBit j || free q r) && noClash r (j + 1) qs

def look (a : AT) : List Nat → T Value
  | [] => .leaf
  | d :: ds => match Nat.blt d a.n, a.t.get d with
    | true, some v => T.set 60 (look a ds) d (some v)
    | _, _ => look a ds

def drawOne (P : Program) [Known P] (E : EvCode) (ops : Array Oper) (a : AT) (H : AH) (o : Oper) : Option (Value × AH) :=
  match awanted ops ⟨look a (o.looksAt ops), a.n⟩ o with
  | some true => evOp P E ⟨look a (o.looksAt ops), a.n⟩ ⟨H.t, H.next, 0, 0⟩ o
  | some false => some (undef, ⟨H.t, H.next, 0, 0⟩)
  | none => none

def isSelect : Op → Bool
  | .select _ _ => true
  | _ => false

structure St where
  recs : List Rec
  a : AT
  H : AH

def mkRec (ops : Array Oper) (s : St) (o : Oper) (H : AH) : Rec :=
  ⟨preOf s.recs (directs o), H.wr ||| newBits s.H.next H.next, H.fp ||| (H.wr ||| newBits s.H.next H.next), bitOf o.dst, bitsOf (o.looksAt ops) ||| bitOf o.dst⟩

def merge (H H1 : AH) : AH := @AH.rec (fun _ => AH) (fun t next fp1 wr1 => @AH.rec (fun _ => AH) (fun _ _ fp wr => ⟨t, next, Nat.lor fp (Nat.lor fp1 wr1), Nat.lor wr wr1⟩) H) H1
theorem merge_eq (H H1 : AH) : merge H H1 = ⟨H1.t, H1.next, H.fp ||| (H1.fp ||| H1.wr), H.wr ||| H1.wr⟩ := rfl

def stepSt (P : Program) [Known P] (E : EvCode) (ops : Array Oper) (s : St) (o : Oper) : Option St :=
  (drawOne P E ops s.a s.H o).bind fun p =>
  (aput s.a o.dst p.1).bind fun a1 =>
  match !isSelect o.op && (allBelow s.recs.length (directs o) && noClash (mkRec ops s o p.2) 0 s.recs) with
  | true => some ⟨s.recs ++ [mkRec ops s o p.2], a1, merge s.H p.2⟩
  | false => none

def foldSt {σ α : Type} (f : σ → α → Option σ) : List α → σ → Option σ
  | [], s => some s
  | x :: xs, s => (f s x).bind (foldSt f xs)

/-- A region that draws its order. -/
def evDraw (P : Program) [Known P] (E : EvCode) : EvDraw := fun ops a H =>
  (foldSt (stepSt P E ops) ops.toList ⟨[], a, H⟩).bind fun s => some (s.a, s.H)

theorem trace {σ α : Type} (f : σ → α → Option σ) : ∀ (l : List α) (s s' : σ), foldSt f l s = some s' → ∃ S : Nat → σ, S 0 = s ∧ S l.length = s' ∧ ∀ i x, l[i]? = some x → f (S i) x = some (S (i + 1))
  | [], s, s', h => by
    cases h
    exact ⟨fun _ => s, rfl, rfl, fun i x hx => by simp at hx⟩
  | x :: xs, s, s', h => by
    simp only [foldSt, Option.bind_eq_some_iff] at h
    obtain ⟨s1, h1, h2⟩ := h
    obtain ⟨S, e0, eN, e⟩ := trace f xs s1 s' h2
    refine ⟨fun i => match i with | 0 => s | i + 1 => S i, rfl, eN, fun i y hy => ?_⟩
    cases i with
    | zero =>
      simp only [List.getElem?_cons_zero, Option.some.injEq] at hy
      subst hy
      simp only [e0]
      exact h1
    | succ i =>
      simp only [List.getElem?_cons_succ] at hy
      exact e i y hy

/-! ### The last of those that are done and touch it -/
def last (Tc D : Nat → Bool) : Nat → Option Nat
  | 0 => none
  | n + 1 => if Tc n && D n then some n else last Tc D n

theorem last_pre {Tc D : Nat → Bool} {i : Nat} : ∀ {n : Nat}, (∀ j, j < n → Tc j = true → (D j = true ↔ j < i)) → last Tc D n = last Tc (fun _ => true) (min n i)
  | 0, _ => by simp [last]
  | n + 1, h => by
    have ih := last_pre (Tc := Tc) (D := D) (i := i) (n := n) fun j hj => h j (by omega)
    have hn := h n (Nat.lt_succ_self n)
    by_cases hi : n < i
    · have e1 : min (n + 1) i = n + 1 := by omega
      have e2 : min n i = n := by omega
      rw [e1]
      rw [e2] at ih
      by_cases ht : Tc n = true
      · simp [last, ht, (hn ht).2 hi]
      · have ht : Tc n = false := by simpa using ht
        simp [last, ht, ih]
    · have e1 : min (n + 1) i = i := by omega
      have e2 : min n i = i := by omega
      rw [e1]
      rw [e2] at ih
      by_cases ht : Tc n = true
      · have hd : D n = false := by
          cases hd : D n with
          | false => rfl
          | true => exact absurd ((hn ht).1 hd) hi
        simp [last, hd, ih]
      · have ht : Tc n = false := by simpa using ht
        simp [last, ht, ih]

theorem last_self {Tc D : Nat → Bool} {i : Nat} (ht : Tc i = true) (hd : D i = true) : ∀ {n : Nat}, i < n → (∀ j, j < n → Tc j = true → D j = true → j ≤ i) → last Tc D n = some i
  | 0, h, _ => by omega
  | n + 1, h, hj => by
    by_cases e : n = i
    · subst e
      simp [last, ht, hd]
    · have : (Tc n && D n) = false := by
        cases hx : Tc n with
        | false => rfl
        | true =>
          cases hy : D n with
          | false => rfl
          | true => have := hj n (Nat.lt_succ_self n) hx hy; omega
      simp only [last, this, Bool.false_eq_true, if_false]
      exact last_self ht hd (by omega) fun j h1 => hj j (by omega)

theorem last_congr {Tc D D' : Nat → Bool} : ∀ {n : Nat}, (∀ j, j < n → Tc j = true → D' j = D j) → last Tc D' n = last Tc D n
  | 0, _ => rfl
  | n + 1, h => by
    have ih := last_congr (Tc := Tc) (D := D) (D' := D') (n := n) fun j hj => h j (by omega)
    by_cases ht : Tc n = true
    · simp [last, ht, h n (Nat.lt_succ_self n) ht, ih]
    · have ht : Tc n = false := by simpa using ht
      simp [last, ht, ih]
end
end Go.Ev
