import Derived.Test.YtnileccnalpknaaEvL
import Derived.Below
import Derived.CallsIn

/- The evaluator. -/
namespace Go.Ev
set_option linter.unusedSimpArgs false
set_option linter.unusedVariables false
noncomputable section
open Go

structure AA where
  s : AT
  d : List Nat

def aput (a : AT) (dst : Option Tmp) (v : Value) : Option AT :=
  match dst with
  | none => some a
  | some d => match Nat.blt d a.n with
    | true => some ⟨T.set 60 a.t d (some v), a.n⟩
    | false => none

/-- Is the operation wanted? -/
def awanted (ops : Array Oper) (a : AT) (o : Oper) : Option Bool :=
  match o.guard with
  | none => some true
  | some (j, want) =>
    match ops.toList[j]? with
    | some p => match p.dst with
      | some d => match Nat.blt d a.n, a.get d with
        | true, .bool b => some (b == want)
        | true, .tuple _ => some false
        | _, _ => none
      | none => none
    | none => none

/-- Slots out of values. -/
def fillT : Nat → List Value → T Value → T Value
  | _, [], t => t
  | i, v :: vs, t => fillT (i + 1) vs (T.set 60 t i (some v))

def ainto (a : AT) : List (Tmp × Value) → Option AT
  | [] => some a
  | (d, v) :: r => (aput a (some d) v).bind fun a1 => ainto a1 r

abbrev EvCode := Option Nat → Code → AA → AH → Option (Exit × AA × AH)

def atake : List Nat → AH → Option AH
  | [], H => some H
  | r :: rs, H => match H.get r with
    | some (.deferred true) => atake rs (H.put r (some (.deferred false)))
    | _ => none

def aresult (P : Program) (a : AT) (H : AH) : ResultVar → Option (Value × AH)
  | .tmp t => match Nat.blt t a.n with
    | true => some (a.get t, H)
    | false => none
  | .cell x t => match Nat.blt x a.n with
    | true => aload P H t (a.get x)
    | false => none
def aresults (P : Program) (a : AT) : List ResultVar → AH → Option (List Value × AH)
  | [], H => some ([], H)
  | r :: rs, H => (aresult P a H r).bind fun p => (aresults P a rs p.2).bind fun q => some (p.1 :: q.1, q.2)

def pack (vs : List Value) : Value := match vs with
  | [v] => v
  | vs => .tuple vs.toArray

/-- Calls without arguments of which it is proved already what they answer. -/
class Known (P : Program) where
  k : FuncId → Option Bool
  ok : ∀ f b, k f = some b → ∀ w : World, Calls P f #[] w fun e w' => e = .returned (.bool b) ∧ Go.RowKit.Below w.heap.size w w'
@[reducible] def nothingKnown (P : Program) : Known P := ⟨fun _ => none, fun f b h => by cases h⟩

def evCallee (P : Program) (E : EvCode) (f : FuncId) (args : List Value) (H : AH) : Option (Value × AH) :=
  match P.funcs[f]? with
  | some fn => match fn.body with
    | some c =>
      match Nat.ble (args.length + fn.ntmps) 1000000 with
      | true =>
        match E none c ⟨⟨fillT 0 args .leaf, args.length + (fn.ntmps - args.length)⟩, []⟩ H with
        | some (.normal, a, H1) | some (.ret, a, H1) =>
          (atake a.d H1).bind fun H2 => (aresults P a.s fn.results.toList H2).bind fun q => some (pack q.1, q.2)
        | _ => none
      | false => none
    | none => none
  | none => none

def evCall (P : Program) [Known P] (E : EvCode) (f : FuncId) (args : List Value) (H : AH) : Option (Value × AH) :=
  match args.isEmpty, Known.k P f with
  | true, some b => some (.bool b, H)
  | _, _ => evCallee P E f args H

def jumpOf : Exit → Option (Option Code)
  | .normal => some none
  | .ret => some (some .ret)
  | .exit id => some (some (.exit id))
  | .goto l => some (some (.goto l))
  | _ => none

def endState : Option Code → LoopState
  | none => .ready
  | some _ => .done
def ended (L : AL) (j : Option Code) : AL := { L with state := endState j, pending := j }

def evRound (E : EvCode) (l : Nat) (args : List Value) (H : AH) : Option (Value × AH) :=
  match H.get l with
  | some (.loop L) =>
    match Nat.beq args.length L.params.toList.length with
    | true =>
      (ainto L.tmps (L.params.toList.zip args)).bind fun s =>
      match E (some l) L.assign ⟨s, []⟩ (H.touch l) with
      | some (.normal, a1, H1) =>
        match H1.get l with
        | some (.loop L1) =>
          match L1.state with
          | .ready =>
            match E (some l) L.body a1 (H1.put l (some (.loop { L1 with state := .busy }))) with
            | some (x, _, H2) =>
              match jumpOf x, H2.get l with
              | some j, some (.loop L2) => some (.bool j.isNone, H2.put l (some (.loop (ended L2 j))))
              | _, _ => none
            | none => none
          | _ => none
        | _ => none
      | _ => none
    | false => none
  | _ => none

def evOp (P : Program) [Known P] (E : EvCode) (a : AT) (H : AH) (o : Oper) : Option (Value × AH) :=
  match aop P a H o with
  | some (.val v, H1) => some (v, H1)
  | some (.call f args, H1) => evCall P E f args H1
  | some (.round l args, H1) => evRound E l args H1
  | none => none

def evOps (P : Program) [Known P] (E : EvCode) (ops : Array Oper) : List Oper → AT → AH → Option (AT × AH)
  | [], a, H => some (a, H)
  | o :: rest, a, H =>
    match awanted ops a o with
    | some true => (evOp P E a H o).bind fun p => (aput a o.dst p.1).bind fun a1 => evOps P E ops rest a1 p.2
    | some false => (aput a o.dst undef).bind fun a1 => evOps P E ops rest a1 H
    | none => none

/-- A region that draws its order: see the next text. -/
abbrev EvDraw := Array Oper → AT → AH → Option (AT × AH)

def evRange (P : Program) [Known P] (E : EvCode) (rd : Option Nat) (f : Operand) (params : Array Tmp) (assign body : Code) (a : AA) (H : AH) : Option (Exit × AA × AH) :=
  match a.s.ev f with
  | some (.func (.func g) first captured) =>
    (match rd with
      | none => match Nat.blt H.next top with
        | true => some (H.next, H.new (.deferred true), [H.next])
        | false => none
      | some l0 => match H.get l0 with
        | some (.loop L0) => some (L0.defers, H.touch l0, [])
        | _ => none : Option (Nat × AH × List Nat)).bind fun q =>
    match Nat.blt q.2.1.next top with
    | true =>
      (evCall P E g (first.toList ++ [.func (.yield q.2.1.next) #[] #[]] ++ captured.toList) (q.2.1.new (.loop ⟨.ready, none, a.s, params, assign, body, q.1⟩))).bind fun r =>
      match r.2.get q.2.1.next with
      | some (.loop L) =>
        match L.state with
        | .busy => none
        | _ =>
          match L.pending with
          | none => some (.normal, ⟨a.s, q.2.2 ++ a.d⟩, r.2.put q.2.1.next (some (.loop { L with state := .exhausted })))
          | some c => E rd c ⟨a.s, q.2.2 ++ a.d⟩ (r.2.put q.2.1.next (some (.loop { L with state := .exhausted })))
      | _ => none
    | false => none
  | _ => none

def ev (P : Program) [Known P] (D : EvCode → EvDraw) : Nat → EvCode
  | 0 => fun _ _ _ _ => none
  | n + 1 => fun rd c a H =>
    match c with
    | .skip => some (.normal, a, H)
    | .label _ => some (.normal, a, H)
    | .exit id => some (.exit id, a, H)
    | .goto l => some (.goto l, a, H)
    | .ret => some (.ret, a, H)
    | .seq x y =>
      match ev P D n rd x a H with
      | some (.normal, a1, H1) => ev P D n rd y a1 H1
      | r => r
    | .cond c x y =>
      match a.s.ev c with
      | some (.bool true) => ev P D n rd x a H
      | some (.bool false) => ev P D n rd y a H
      | _ => none
    | .block id x =>
      match ev P D n rd x a H with
      | some (.exit id', a1, H1) => match Nat.beq id' id with
        | true => some (.normal, a1, H1)
        | false => some (.exit id', a1, H1)
      | r => r
    | .loop x =>
      match ev P D n rd x a H with
      | some (.normal, a1, H1) => ev P D n rd (.loop x) a1 H1
      | r => r
    | .scope x =>
      match ev P D n rd x a H with
      | some (.goto _, _, _) => none
      | r => r
    | .rangeFunc f params assign body => evRange P (ev P D n) rd f params assign body a H
    | .region _ ops draw =>
      match draw with
      | false => (evOps P (ev P D n) ops ops.toList a.s H).bind fun r => some (.normal, ⟨r.1, a.d⟩, r.2)
      | true => (D (ev P D n) ops a.s H).bind fun r => some (.normal, ⟨r.1, a.d⟩, r.2)
    | .refuse _ => none
end
end Go.Ev
