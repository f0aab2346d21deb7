import Derived.Test.YtnileccnalpknaaEvFx

/- The whole evaluator in this form; and that it is the same. -/
namespace Go.Ev
set_option linter.unusedSimpArgs false
set_option linter.unusedVariables false
noncomputable section
open Go
variable {P : Program}

/-! ### Calls -/
def bodyOf? (P : Program) (f : FuncId) : Option (Func × Code) := match P.funcs[f]? with
  | some fn => match fn.body with
    | some c => some (fn, c)
    | none => none
  | none => none
def ffill (l : List Value) : Nat → T Value → T Value := @List.rec Value (fun _ => Nat → T Value → T Value) (fun _ t => t) (fun v _ ih i t => ih (Nat.succ i) (T.set 60 t i (some v))) l
theorem ffill_eq (l : List Value) : ∀ i t, ffill l i t = fillT i l t := by
  induction l with
  | nil => intro i t; rfl
  | cons v l ih => intro i t; exact ih _ _
def isDone (x : Exit) : Bool := @Exit.rec (fun _ => Bool) true (fun _ => false) (fun _ => false) true (fun _ => false) false x
def fAnswer (P : Program) (fn : Func) (r : Exit × AA × AH) : Option (Value × AH) :=
  @Bool.rec (fun _ => Option (Value × AH)) none (obn (atake r.2.1.d r.2.2) fun H2 => obn (aresults P r.2.1.s fn.results.toList H2) fun q => some (pack q.1, q.2)) (isDone r.1)
def fCallee (P : Program) (E : EvCode) (f : FuncId) (args : List Value) (H : AH) : Option (Value × AH) :=
  obn (bodyOf? P f) fun q => @Bool.rec (fun _ => Option (Value × AH)) none
    (obn (E none q.2 ⟨⟨ffill args 0 .leaf, Nat.add args.length (Nat.sub q.1.ntmps args.length)⟩, []⟩ H) fun r => fAnswer P q.1 r)
    (Nat.ble (Nat.add args.length q.1.ntmps) 1000000)
theorem fAnswer_eq (fn : Func) (r : Exit × AA × AH) : fAnswer P fn r = (match (some r : Option (Exit × AA × AH)) with
    | some (.normal, a, H1) | some (.ret, a, H1) => (atake a.d H1).bind fun H2 => (aresults P a.s fn.results.toList H2).bind fun q => some (pack q.1, q.2)
    | _ => none) := by
  obtain ⟨x, a, H1⟩ := r
  cases x <;> first | rfl | (show (obn (atake a.d H1) fun H2 => obn (aresults P a.s fn.results.toList H2) fun q => some (pack q.1, q.2)) = _; simp only [obn_eq])
theorem fCallee_eq (E : EvCode) (f : FuncId) (args : List Value) (H : AH) : fCallee P E f args H = evCallee P E f args H := by
  unfold fCallee evCallee bodyOf?
  cases P.funcs[f]? with
  | none => rfl
  | some fn =>
    dsimp only
    cases fn.body with
    | none => rfl
    | some c =>
      show @Bool.rec (fun _ => Option (Value × AH)) none (obn (E none c ⟨⟨ffill args 0 .leaf, args.length + (fn.ntmps - args.length)⟩, []⟩ H) fun r => fAnswer P fn r) (Nat.ble (args.length + fn.ntmps) 1000000) = _
      dsimp only
      cases Nat.ble (args.length + fn.ntmps) 1000000 with
      | false => rfl
      | true =>
        dsimp only
        rw [ffill_eq]
        cases E none c ⟨⟨fillT 0 args .leaf, args.length + (fn.ntmps - args.length)⟩, []⟩ H with
        | none => rfl
        | some r => exact fAnswer_eq fn r
def fCall (P : Program) (K : Known P) (E : EvCode) (f : FuncId) (args : List Value) (H : AH) : Option (Value × AH) :=
  @List.rec Value (fun _ => Option (Value × AH)) (@Option.rec Bool (fun _ => Option (Value × AH)) (fCallee P E f args H) (fun b => some (.bool b, H)) (K.k f)) (fun _ _ _ => fCallee P E f args H) args
theorem fCall_eq (K : Known P) (E : EvCode) (f : FuncId) (args : List Value) (H : AH) : fCall P K E f args H = @evCall P K E f args H := by
  unfold fCall evCall
  rw [fCallee_eq]
  cases args with
  | nil =>
    show @Option.rec Bool (fun _ => Option (Value × AH)) _ _ (K.k f) = match true, K.k f with | true, some b => _ | _, _ => _
    cases K.k f <;> rfl
  | cons v l => rfl

/-! ### Operations -/
def fOp (P : Program) (K : Known P) (E : EvCode) (a : AT) (H : AH) (o : Oper) : Option (Value × AH) :=
  obn (fop P a H o) (@Prod.rec Res AH (fun _ => Option (Value × AH)) (@Res.rec (fun _ => AH → Option (Value × AH)) (fun v H1 => some (v, H1)) (fCall P K E) (evRound E)))
theorem fOp_eq (K : Known P) (E : EvCode) (a : AT) (H : AH) (o : Oper) : fOp P K E a H o = @evOp P K E a H o := by
  unfold fOp evOp
  rw [fop_eq]
  cases aop P a H o with
  | none => rfl
  | some p =>
    obtain ⟨r, H1⟩ := p
    cases r with
    | val v => rfl
    | call f args => exact fCall_eq K E f args H1
    | round l args => rfl
def fOps (P : Program) (K : Known P) (E : EvCode) (ops : Array Oper) (l : List Oper) : AT → AH → Option (AT × AH) :=
  @List.rec Oper (fun _ => AT → AH → Option (AT × AH)) (fun a H => some (a, H)) (fun o _ ih a H => obn (fwant ops a o) fun w => @Bool.rec (fun _ => Option (AT × AH)) (obn (fput a o.dst undef) fun a1 => ih a1 H) (obn (fOp P K E a H o) (@Prod.rec Value AH (fun _ => Option (AT × AH)) (fun v H1 => obn (fput a o.dst v) fun a1 => ih a1 H1))) w) l
theorem fOps_eq (K : Known P) (E : EvCode) (ops : Array Oper) : ∀ (l : List Oper) (a : AT) (H : AH), fOps P K E ops l a H = @evOps P K E ops l a H
  | [], a, H => rfl
  | o :: rest, a, H => by
    have ih := fOps_eq K E ops rest
    show (obn (fwant ops a o) fun w => @Bool.rec (fun _ => Option (AT × AH)) (obn (fput a o.dst undef) fun a1 => fOps P K E ops rest a1 H) (obn (fOp P K E a H o) fun p => obn (fput a o.dst p.1) fun a1 => fOps P K E ops rest a1 p.2) w) = _
    rw [evOps]
    simp only [ih, fwant_eq, fput_eq, fOp_eq, obn_eq]
    cases awanted ops a o with
    | none => rfl
    | some w => cases w <;> rfl

/-! ### Regions that draw -/
def fdrawAt (P : Program) (K : Known P) (E : EvCode) (ops : Array Oper) (a : AT) (H : AH) (o : Oper) : Option (Value × AH) :=
  obn (fwant ops a o) fun w => @Bool.rec (fun _ => Option (Value × AH)) (some (undef, H)) (fOp P K E a H o) w
def fbare (H : AH) : AH := @AH.rec (fun _ => AH) (fun t next _ _ => ⟨t, next, 0, 0⟩) H
def fdrawOne (P : Program) (K : Known P) (E : EvCode) (ops : Array Oper) (a : AT) (H : AH) (o : Oper) : Option (Value × AH) :=
  @Bool.rec (fun _ => Option (Value × AH)) (@Go.Ev.drawOne P K E ops a H o) (fdrawAt P K E ops a (fbare H) o) (Nat.ble a.n 1000000)
theorem fdrawOne_eq (K : Known P) (E : EvCode) (ops : Array Oper) (a : AT) (H : AH) (o : Oper) : fdrawOne P K E ops a H o = @drawOne P K E ops a H o := by
  unfold fdrawOne
  cases hn : Nat.ble a.n 1000000 with
  | false => rfl
  | true =>
    have hn := Nat.le_of_ble_eq_true hn
    show fdrawAt P K E ops a ⟨H.t, H.next, 0, 0⟩ o = _
    unfold fdrawAt drawOne
    simp only [fwant_eq, fOp_eq, obn_eq]
    rw [awanted_look hn]
    unfold evOp
    rw [aop_look hn]
    cases awanted ops a o with
    | none => rfl
    | some w => cases w <;> rfl
def ftb (m n : Nat) : Bool := Nat.beq (Nat.mod (Nat.shiftRight m n) 2) 1
theorem ftb_eq (m n : Nat) : ftb m n = m.testBit n := by
  rw [Nat.testBit_eq_decide_div_mod_eq, ← Nat.shiftRight_eq_div_pow]
  exact beq_iff
def fand (a b : Bool) : Bool := @Bool.rec (fun _ => Bool) false b a
theorem fand_eq (a b : Bool) : fand a b = (a && b) := by cases a <;> rfl
def ffree (q r : Rec) : Bool := fand (Nat.beq (Nat.land q.T r.R) 0) (fand (Nat.beq (Nat.land r.T q.R) 0) (fand (Nat.beq (Nat.land q.LT r.LR) 0) (Nat.beq (Nat.land r.LT q.LR) 0)))
theorem ffree_eq (q r : Rec) : ffree q r = free q r := by
  unfold ffree free
  simp only [fand_eq]
  rfl
def fclash (r : Rec) (l : List Rec) : Nat → Bool := @List.rec Rec (fun _ => Nat → Bool) (fun _ => true) (fun q _ ih j => fand (@Bool.rec (fun _ => Bool) (ffree q r) true (ftb r.pre j)) (ih (Nat.succ j))) l
theorem fclash_eq (r : Rec) (l : List Rec) : ∀ j, fclash r l j = noClash r j l := by
  induction l with
  | nil => intro j; rfl
  | cons q l ih =>
    intro j
    show fand (@Bool.rec (fun _ => Bool) (ffree q r) true (ftb r.pre j)) (fclash r l (j + 1)) = _
    rw [noClash, fand_eq, ih, ftb_eq, ffree_eq]
    cases r.pre.testBit j <;> rfl
def fsel (o : Op) : Bool := !isSelect o
def fbel (recs : List Rec) (l : List Nat) : Bool := @List.rec Nat (fun _ => Bool) true (fun j _ ih => @Option.rec Rec (fun _ => Bool) false (fun _ => ih) (nthF recs j)) l
theorem fbel_eq (recs : List Rec) : ∀ l, fbel recs l = allBelow recs.length l
  | [] => rfl
  | j :: l => by
    have ih := fbel_eq recs l
    show @Option.rec Rec (fun _ => Bool) false (fun _ => fbel recs l) (nthF recs j) = _
    rw [allBelow, nthF_eq, ih, blt_iff]
    by_cases h : j < recs.length
    · rw [List.getElem?_eq_getElem h, decide_eq_true h]; rfl
    · rw [List.getElem?_eq_none (by omega), decide_eq_false h]; rfl
def fpre (recs : List Rec) (l : List Nat) : Nat := @List.rec Nat (fun _ => Nat) 0 (fun j _ ih => Nat.lor (@Option.rec Rec (fun _ => Nat) 0 (fun r => Nat.lor (Nat.shiftLeft 1 j) r.pre) (nthF recs j)) ih) l
theorem fpre_eq (recs : List Rec) : ∀ l, fpre recs l = preOf recs l
  | [] => rfl
  | j :: l => by
    have ih := fpre_eq recs l
    show Nat.lor (@Option.rec Rec (fun _ => Nat) 0 (fun r => Nat.lor (Nat.shiftLeft 1 j) r.pre) (nthF recs j)) (fpre recs l) = _
    rw [preOf, nthF_eq, ih]
    cases recs[j]? <;> rfl
def fbits (s e : Nat) : Nat := Nat.shiftLeft (Nat.sub (Nat.pow 2 (Nat.sub e s)) 1) s
def slotsOf (ops : Array Oper) (o : Oper) : Nat := bitsOf (o.looksAt ops) ||| bitOf o.dst
def fmk (ops : Array Oper) (recs : List Rec) (next : Nat) (o : Oper) (H : AH) : Rec :=
  @AH.rec (fun _ => Rec) (fun _ nx fp wr => ⟨fpre recs (directs o), Nat.lor wr (fbits next nx), Nat.lor fp (Nat.lor wr (fbits next nx)), bitOf o.dst, slotsOf ops o⟩) H
theorem fmk_eq (ops : Array Oper) (s : St) (o : Oper) (H : AH) : fmk ops s.recs s.H.next o H = mkRec ops s o H := by
  unfold fmk mkRec
  simp only [fpre_eq]
  rfl
def fgood (recs : List Rec) (o : Oper) (r : Rec) : Bool := fand (fsel o.op) (fand (fbel recs (directs o)) (fclash r recs 0))
def fadds (recs : List Rec) (a1 : AT) (H : AH) (o : Oper) (r : Rec) : Option St := @Bool.rec (fun _ => Option St) none (some ⟨fapp recs [r], a1, H⟩) (fgood recs o r)
def fstep (P : Program) (K : Known P) (E : EvCode) (ops : Array Oper) (s : St) (o : Oper) : Option St :=
  @St.rec (fun _ => Option St) (fun recs a H => obn (fdrawOne P K E ops a H o) (@Prod.rec Value AH (fun _ => Option St) (fun v H1 => obn (fput a o.dst v) fun a1 => @Rec.rec (fun _ => Option St) (fun x1 x2 x3 x4 x5 => fadds recs a1 (merge H H1) o ⟨x1, x2, x3, x4, x5⟩) (fmk ops recs H.next o H1)))) s
theorem fstep_eq (K : Known P) (E : EvCode) (ops : Array Oper) (s : St) (o : Oper) : fstep P K E ops s o = @stepSt P K E ops s o := by
  show (obn (fdrawOne P K E ops s.a s.H o) fun p => obn (fput s.a o.dst p.1) fun a1 => fadds s.recs a1 (merge s.H p.2) o (fmk ops s.recs s.H.next o p.2)) = _
  unfold stepSt fadds fgood
  simp only [fdrawOne_eq, fput_eq, obn_eq, fapp_eq, fand_eq, fclash_eq, fsel, fmk_eq, fbel_eq]
  congr 1
  funext p
  congr 1
  funext a1
  cases (!isSelect o.op && (allBelow s.recs.length (directs o) && noClash (mkRec ops s o p.2) 0 s.recs)) <;> rfl
def ffold (P : Program) (K : Known P) (E : EvCode) (ops : Array Oper) (l : List Oper) : St → Option St := @List.rec Oper (fun _ => St → Option St) (fun s => some s) (fun o _ ih s => obn (fstep P K E ops s o) ih) l
theorem ffold_eq (K : Known P) (E : EvCode) (ops : Array Oper) : ∀ (l : List Oper) (s : St), ffold P K E ops l s = foldSt (@stepSt P K E ops) l s
  | [], s => rfl
  | o :: l, s => by
    have ih := ffold_eq K E ops l
    show (obn (fstep P K E ops s o) (ffold P K E ops l)) = _
    rw [foldSt, obn_eq, fstep_eq, show ffold P K E ops l = foldSt (@stepSt P K E ops) l from funext ih]
def fDraw (P : Program) (K : Known P) (E : EvCode) (ops : Array Oper) (a : AT) (H : AH) : Option (AT × AH) := obn (ffold P K E ops ops.toList ⟨[], a, H⟩) fun s => @St.rec (fun _ => Option (AT × AH)) (fun _ a H => some (a, H)) s
theorem fDraw_eq (K : Known P) (E : EvCode) (ops : Array Oper) (a : AT) (H : AH) : fDraw P K E ops a H = @evDraw P K E ops a H := by
  unfold fDraw evDraw
  rw [ffold_eq, obn_eq]

/-! ### Code -/
def isGoto (x : Exit) : Bool := @Exit.rec (fun _ => Bool) false (fun _ => false) (fun _ => true) false (fun _ => false) false x
def fblock (id : Nat) (r : Exit × AA × AH) : Option (Exit × AA × AH) :=
  @Exit.rec (fun _ => Option (Exit × AA × AH)) (some r) (fun k => @Bool.rec (fun _ => Option (Exit × AA × AH)) (some r) (some (.normal, r.2)) (Nat.beq k id)) (fun _ => some r) (some r) (fun _ => some r) (some r) r.1
def fnext (k : AA → AH → Option (Exit × AA × AH)) (r : Exit × AA × AH) : Option (Exit × AA × AH) :=
  @Prod.rec Exit (AA × AH) (fun _ => Option (Exit × AA × AH)) (fun x q => @Bool.rec (fun _ => Option (Exit × AA × AH)) (some (x, q)) (@Prod.rec AA AH (fun _ => Option (Exit × AA × AH)) k q) (isNormal x)) r
def fCode (c : Code) : (P : Program) → Known P → EvCode → Option Nat → AA → AH → Option (Exit × AA × AH) :=
  @Code.rec (fun _ => (P : Program) → Known P → EvCode → Option Nat → AA → AH → Option (Exit × AA × AH))
    (fun _ _ _ _ a H => some (.normal, a, H))
    (fun _ ops draw P K E _ a H => @AA.rec (fun _ => Option (Exit × AA × AH)) (fun s d => obn (@Bool.rec (fun _ => Option (AT × AH)) (fOps P K E ops ops.toList s H) (fDraw P K E ops s H) draw) (@Prod.rec AT AH (fun _ => Option (Exit × AA × AH)) (fun s1 H1 => some (.normal, ⟨s1, d⟩, H1)))) a)
    (fun x y _ _ _ _ E rd a H => obn (E rd x a H) (fnext (E rd y)))
    (fun c x y _ _ _ _ E rd a H => obn (fev a.s c) fun v => obn (boolV v) fun b => @Bool.rec (fun _ => Option (Exit × AA × AH)) (E rd y a H) (E rd x a H) b)
    (fun id x _ _ _ E rd a H => obn (E rd x a H) (fblock id))
    (fun x _ _ _ E rd a H => obn (E rd x a H) (fnext (E rd (.loop x))))
    (fun f params assign body _ _ P K E rd a H => @evRange P K E rd f params assign body a H)
    (fun id _ _ _ _ a H => some (.exit id, a, H))
    (fun x _ _ _ E rd a H => obn (E rd x a H) fun r => @Bool.rec (fun _ => Option (Exit × AA × AH)) (some r) none (isGoto r.1))
    (fun _ _ _ _ _ a H => some (.normal, a, H))
    (fun l _ _ _ _ a H => some (.goto l, a, H))
    (fun _ _ _ _ a H => some (.ret, a, H))
    (fun _ _ _ _ _ _ _ => none)
    c
def evF (P : Program) (K : Known P) (n : Nat) : EvCode := @Nat.rec (fun _ => EvCode) (fun _ _ _ _ => none) (fun _ ih rd c a H => fCode c P K ih rd a H) n

theorem fCode_eq (K : Known P) (n : Nat) (rd : Option Nat) (c : Code) (a : AA) (H : AH) : fCode c P K (@ev P K (@evDraw P K) n) rd a H = @ev P K (@evDraw P K) (n + 1) rd c a H := by
  generalize hE : @ev P K (@evDraw P K) n = E
  rw [ev]
  rw [hE]
  cases c with
  | region id ops draw =>
    show (obn (@Bool.rec (fun _ => Option (AT × AH)) (fOps P K E ops ops.toList a.s H) (fDraw P K E ops a.s H) draw) fun r => some (Exit.normal, (⟨r.1, a.d⟩ : AA), r.2)) = _
    cases draw with
    | false => simp only [obn_eq, fOps_eq]
    | true => simp only [obn_eq, fDraw_eq]
  | seq x y =>
    show (obn (E rd x a H) fun r => fnext (E rd y) r) = _
    dsimp only
    cases E rd x a H with
    | none => rfl
    | some r => obtain ⟨x, a1, H1⟩ := r; cases x <;> rfl
  | cond c x y =>
    show (obn (fev a.s c) fun v => obn (boolV v) fun b => @Bool.rec (fun _ => Option (Exit × AA × AH)) (E rd y a H) (E rd x a H) b) = _
    dsimp only
    rw [fev_eq]
    cases a.s.ev c with
    | none => rfl
    | some v => cases v with
      | bool b => cases b <;> rfl
      | _ => rfl
  | block id x =>
    show (obn (E rd x a H) fun r => fblock id r) = _
    dsimp only
    cases E rd x a H with
    | none => rfl
    | some r =>
      obtain ⟨x, a1, H1⟩ := r
      cases x with
      | exit k =>
        show @Bool.rec (fun _ => Option (Exit × AA × AH)) (some (Exit.exit k, a1, H1)) (some (.normal, a1, H1)) (Nat.beq k id) = _
        dsimp only
        cases Nat.beq k id <;> rfl
      | _ => rfl
  | loop x =>
    show (obn (E rd x a H) fun r => fnext (E rd (.loop x)) r) = _
    dsimp only
    cases E rd x a H with
    | none => rfl
    | some r => obtain ⟨x, a1, H1⟩ := r; cases x <;> rfl
  | scope x =>
    show (obn (E rd x a H) fun r => @Bool.rec (fun _ => Option (Exit × AA × AH)) (some r) none (isGoto r.1)) = _
    dsimp only
    cases E rd x a H with
    | none => rfl
    | some r => obtain ⟨x, a1, H1⟩ := r; cases x <;> rfl
  | _ => rfl

theorem evF_eq (K : Known P) : ∀ n, evF P K n = @ev P K (@evDraw P K) n
  | 0 => rfl
  | n + 1 => by
    funext rd c a H
    show fCode c P K (evF P K n) rd a H = _
    rw [evF_eq K n]
    exact fCode_eq K n rd c a H

def isTrueF (r : Option (Value × AH)) : Bool := @Option.rec (Value × AH) (fun _ => Bool) false (fun p => @Option.rec Bool (fun _ => Bool) false (fun b => b) (boolV p.1)) r
/-- A call without arguments that runs to true in this form. -/
theorem run_trueF (K : Known P) (hP : Plain P) (hF : P.follows .mixedOrders = true) (n : Nat) (f : FuncId) (h : isTrueF (fCallee P (evF P K n) f [] H0) = true) (hk : K.k f = none) (w : World) :
    Calls P f #[] w fun e w' => e = .returned (.bool true) ∧ Go.RowKit.Below w.heap.size w w' := by
  rw [fCallee_eq, evF_eq] at h
  refine @run_true P K hP _ (@evDraw_ok P K hP hF) n f ?_ w
  unfold evCall
  rw [show Known.k P f = none from hk]
  show isTrue (evCallee P _ f [] H0) = true
  generalize evCallee P _ f [] H0 = r at h
  match r, h with
  | some (.bool true, _), _ => rfl
end
end Go.Ev
