import Derived.Test.YtnileccnalpknaaEvFc

/- One operation, by a table. -/
namespace Go.Ev
set_option linter.unusedSimpArgs false
set_option linter.unusedVariables false
noncomputable section
open Go
variable {P : Program}

def fret (H : AH) (v : Option Value) : Option (Res × AH) := obn v fun v => some (.val v, H)
theorem fret_eq (H : AH) (v : Option Value) : fret H v = ret H v := by cases v <;> rfl
def fretH (r : Option (Value × AH)) : Option (Res × AH) := obn r fun p => some (.val p.1, p.2)
theorem fretH_eq (r : Option (Value × AH)) : fretH r = retH r := by cases r <;> rfl
def fretU (r : Option AH) : Option (Res × AH) := obn r fun H => some (.val undef, H)
theorem fretU_eq (r : Option AH) : fretU r = retU r := by cases r <;> rfl

def fevs (a : AT) (xs : List Operand) : Option (List Value) := @List.rec Operand (fun _ => Option (List Value)) (some []) (fun x _ ih => obn (fev a x) fun v => obn ih fun vs => some (v :: vs)) xs
theorem fevs_eq (a : AT) (xs : List Operand) : fevs a xs = a.evs xs := by
  induction xs with
  | nil => rfl
  | cons x xs ih =>
    show (obn (fev a x) fun v => obn (fevs a xs) fun vs => some (v :: vs)) = _
    rw [AT.evs, ih, fev_eq]
    simp only [obn_eq]
def fapp {α : Type} (l m : List α) : List α := @List.rec α (fun _ => List α) m (fun x _ ih => x :: ih) l
theorem fapp_eq {α : Type} (l m : List α) : fapp l m = l ++ m := by
  induction l with
  | nil => rfl
  | cons x l ih =>
    show x :: fapp l m = _
    rw [ih]
    rfl

/-- What is called. -/
def hasBody (P : Program) (g : FuncId) : Bool := match P.funcs[g]? with
  | some fn => fn.body.isSome
  | none => false
def callFn (P : Program) (H : AH) (args : List Value) (f : Value) : Option (Res × AH) :=
  @Value.rec (fun _ => Option (Res × AH)) (fun _ => PUnit) (fun _ => PUnit) (fun _ => none) (fun _ _ => none) (fun _ _ => none) (fun _ _ _ => none) (fun _ => none) (fun _ => none) (fun _ _ _ => none) (fun _ => none) (fun _ => none)
    (fun fn first captured _ _ => @Fn.rec (fun _ => Option (Res × AH)) (fun g => @Bool.rec (fun _ => Option (Res × AH)) none (some (.call g (fapp (fapp first.toList args) captured.toList), H)) (hasBody P g)) (fun _ => none) (fun _ _ => none) (fun _ _ _ _ => none) (fun l => some (.round l (fapp first.toList args), H)) fn)
    none (fun _ _ _ => none) none (fun _ _ => none) (fun _ _ => none) (fun _ _ => ⟨⟩) ⟨⟩ (fun _ _ _ _ => ⟨⟩) f
def fcall (P : Program) (a : AT) (H : AH) (o : Oper) (c : Call) : Option (Res × AH) :=
  @Callee.rec (fun _ => Program → AT → AH → Oper → Call → Option (Res × AH)) (fun f P a H _ c => obn (fev a f) fun f => obn (fevs a c.args.toList) fun args => callFn P H args f) (fun _ _ _ _ _ _ _ => none) (fun b P a H o c => acall P a H o { c with callee := .builtin b }) c.callee P a H o c

def isLen : Builtin → Bool
  | .len => true
  | _ => false
theorem isLen_eq {b : Builtin} (h : isLen b = true) : b = .len := by
  cases b <;> first | rfl | cases h
def lenOf (P : Program) (a : AT) (H : AH) (c : Call) : Option (Res × AH) :=
  match c.args.toList, c.argTypes.toList with
  | [x], [t] => obn (fev a x) fun x => fret H (flen P t x)
  | _, _ => none
def fbuiltin (b : Builtin) (P : Program) (a : AT) (H : AH) (o : Oper) (c : Call) : Option (Res × AH) := @Bool.rec (fun _ => Option (Res × AH)) (acall P a H o c) (lenOf P a H c) (isLen b)
def gcall (P : Program) (a : AT) (H : AH) (o : Oper) (c : Call) : Option (Res × AH) :=
  @Callee.rec (fun _ => Program → AT → AH → Oper → Call → Option (Res × AH)) (fun f P a H _ c => obn (fev a f) fun f => obn (fevs a c.args.toList) fun args => callFn P H args f) (fun _ _ _ _ _ _ _ => none) (fun b P a H o c => fbuiltin b P a H o c) c.callee P a H o c
theorem callFn_eq (H : AH) (args : List Value) (f : Value) : callFn P H args f = (match f with
    | .func (.func g) first captured =>
      match P.funcs[g]? with
      | some fn => match fn.body with
        | some _ => some (.call g (first.toList ++ args ++ captured.toList), H)
        | none => none
      | none => none
    | .func (.yield l) first _ => some (.round l (first.toList ++ args), H)
    | _ => none) := by
  cases f with
  | func fn first captured =>
    cases fn with
    | func g =>
      show @Bool.rec (fun _ => Option (Res × AH)) none (some (.call g (fapp (fapp first.toList args) captured.toList), H)) (hasBody P g) = _
      unfold hasBody
      dsimp only
      rw [fapp_eq, fapp_eq]
      cases P.funcs[g]? with
      | none => rfl
      | some fn => dsimp only; cases fn.body <;> rfl
    | yield l =>
      show some (Res.round l (fapp first.toList args), H) = _
      rw [fapp_eq]
    | _ => rfl
  | _ => rfl
theorem gcall_eq {a : AT} {H : AH} {o : Oper} {c : Call} : gcall P a H o c = acall P a H o c := by
  obtain ⟨callee, args, ts⟩ := c
  cases callee with
  | value f =>
    show (obn (fev a f) fun f => obn (fevs a args.toList) fun args => callFn P H args f) = _
    unfold acall
    dsimp only
    simp only [obn_eq, fev_eq, fevs_eq, callFn_eq]
    rfl
  | invoke r m => rfl
  | builtin b =>
    show fbuiltin b P a H o ⟨.builtin b, args, ts⟩ = _
    unfold fbuiltin
    generalize hb : isLen b = s
    cases s with
    | false => rfl
    | true =>
      obtain rfl := isLen_eq hb
      show lenOf P a H ⟨.builtin .len, args, ts⟩ = _
      unfold lenOf acall
      dsimp only
      generalize args.toList = l1
      generalize ts.toList = l2
      rcases l1 with _ | ⟨x, _ | ⟨y, l1⟩⟩ <;> rcases l2 with _ | ⟨t, _ | ⟨u, l2⟩⟩ <;> first | (simp only [obn_eq, fev_eq, flen_eq, fret_eq]; done) | rfl

def nilV (H : AH) (v : Value) : Option (Res × AH) := match v with
  | .pointer (some _) => some (.val v, H)
  | .func (.func _) _ _ => some (.val v, H)
  | _ => none
def fnil (H : AH) (v : Value) : Option (Res × AH) := @Option.rec Addr (fun _ => Option (Res × AH)) (nilV H v) (fun _ => some (.val v, H)) (ptrV v)
theorem fnil_eq (H : AH) (v : Value) : fnil H v = nilV H v := by
  unfold fnil
  generalize h : ptrV v = r
  cases r with
  | none => rfl
  | some a => obtain rfl := ptrV_eq h; rfl
def ftup (v : Value) : Option (Array Value) :=
  @Value.rec (fun _ => Option (Array Value)) (fun _ => PUnit) (fun _ => PUnit) (fun _ => none) (fun _ _ => none) (fun _ _ => none) (fun _ _ _ => none) (fun _ => none) (fun _ => none) (fun _ _ _ => none) (fun _ => none) (fun _ => none) (fun _ _ _ _ _ => none) none (fun _ _ _ => none) none (fun _ _ => none) (fun cs _ => some cs) (fun _ _ => ⟨⟩) ⟨⟩ (fun _ _ _ _ => ⟨⟩) v

def fpick (a : AT) (H : AH) (c x y : Operand) : Option (Res × AH) := obn (fev a c) fun c => obn (boolV c) fun b => @Bool.rec (fun _ => Option (Res × AH)) (fret H (fev a y)) (fret H (fev a x)) b

/-- The operations, each by its row. -/
def fop (P : Program) (a : AT) (H : AH) (o : Oper) : Option (Res × AH) :=
  @Op.rec (fun _ => Program → AT → AH → Oper → Option (Res × AH))
    (fun x _ a H _ => fret H (fev a x))
    (fun x _ a H _ => fret H (fev a x))
    (fun c x y _ a H _ => fpick a H c x y)
    (fun e P _ H _ => obn (zero? P e) fun z => fretH (abox H e z))
    (fun e x _ a H _ => obn (fev a x) fun v => fretH (abox H e v))
    (fun t parts P a H _ => (a.evp parts.toList).bind fun ps => fret H (abuild P t ps))
    (fun t n parts P a H _ => (a.evp parts.toList).bind fun ps => fretH (abuildSlice P H t n ps))
    (fun t m k v P a H _ => obn (fev a m) fun m => obn (fev a k) fun k => obn (fev a v) fun v => fretU (amapUpdate P H t m k v))
    (fun t x P a H _ => obn (fev a x) fun x => fretH (fload P H t x))
    (fun t x v P a H _ => obn (fev a x) fun x => obn (fev a v) fun v => fretU (fstore P H t x v))
    (fun _ _ _ _ _ => none)
    (fun _ _ _ _ _ => none)
    (fun x _ a H _ => obn (fev a x) fun v => fnil H v)
    (fun op t x y _ P a H o => fret H (fbin P a o op t x y))
    (fun op _ x P a H o => fret H (fnot P a o op x))
    (fun _ _ _ P a H o => fret H (aquiet P a o))
    (fun _ _ _ _ _ _ => none)
    (fun _ _ P a H o => fret H (aquiet P a o))
    (fun fn first captured _ a H _ => obn (fevs a first.toList) fun xs => obn (fevs a captured.toList) fun ys => @Bool.rec (fun _ => Option (Res × AH)) none (some (.val (.func fn xs.toArray ys.toArray), H)) (plainFn fn))
    (fun _ r _ _ H _ => @Option.rec Operand (fun _ => Option (Res × AH)) (fretH (amakeMap H)) (fun _ => none) r)
    (fun _ _ _ _ _ _ => none)
    (fun t l c P a H _ => obn (fev a l) fun l => obn (fev a c) fun c => fretH (amake P H t l c))
    (fun t x lo hi mx P a H _ => (a.ev x).bind fun x => (a.evo lo).bind fun lo => (a.evo hi).bind fun hi => (a.evo mx).bind fun mx => retH (asliceH P H t x lo hi mx))
    (fun s x f P a H _ => obn (fev a x) fun x => fret H (ffield P s x f))
    (fun t x f P a H _ => obn (fev a x) fun x => fret H (afieldV P t x f))
    (fun t x i P a H _ => obn (fev a x) fun x => obn (fev a i) fun i => fret H (findex P t x i))
    (fun t x i P a H o => obn (fev a x) fun x => obn (fev a i) fun i => @Bool.rec (fun _ => Option (Res × AH)) (fret H (aindexV P t x i)) (fret H (aquiet P a o)) (ground x))
    (fun t x k ok P a H _ => obn (fev a x) fun x => obn (fev a k) fun k => fretH (alookup P H t x k ok))
    (fun t m k v P a H _ => obn (fev a m) fun m => obn (fev a k) fun k => obn (fev a v) fun v => fretU (amapUpdate P H t m k v))
    (fun _ _ _ _ _ _ _ => none)
    (fun _ _ _ _ _ _ _ _ => none)
    (fun _ _ _ _ _ _ => none)
    (fun _ _ _ _ _ _ => none)
    (fun _ _ _ _ _ => none)
    (fun _ _ _ _ P a H o => fret H (aquiet P a o))
    (fun x i _ a H _ => obn (fev a x) fun x => obn (ftup x) fun vs => fret H (nthF vs.toList i))
    (fun c P a H o => gcall P a H o c)
    (fun _ _ _ _ _ => none)
    (fun _ _ _ _ _ => none)
    (fun _ _ _ _ _ => none)
    (fun _ _ _ _ _ _ => none)
    (fun _ _ _ _ _ _ _ => none)
    (fun _ _ _ _ _ _ => none)
    o.op P a H o

theorem fop_eq (a : AT) (H : AH) (o : Oper) : fop P a H o = aop P a H o := by
  unfold fop aop
  cases ho : o.op with
  | move x => show fret H (fev a x) = _; simp only [fret_eq, fev_eq]
  | assign x => show fret H (fev a x) = _; simp only [fret_eq, fev_eq]
  | pick c x y =>
    show fpick a H c x y = _
    unfold fpick
    simp only [obn_eq, fev_eq, fret_eq]
    cases a.ev c with
    | none => rfl
    | some v => cases v with
      | bool b => cases b <;> rfl
      | _ => rfl
  | alloc e => show (obn (zero? P e) fun z => fretH (abox H e z)) = _; simp only [obn_eq, fretH_eq]
  | box e x => show (obn (fev a x) fun v => fretH (abox H e v)) = _; simp only [obn_eq, fretH_eq, fev_eq]
  | build t parts => show ((a.evp parts.toList).bind fun ps => fret H (abuild P t ps)) = _; simp only [fret_eq]
  | buildSlice t n parts => show ((a.evp parts.toList).bind fun ps => fretH (abuildSlice P H t n ps)) = _; simp only [fretH_eq]
  | insert t m k v => show (obn (fev a m) fun m => obn (fev a k) fun k => obn (fev a v) fun v => fretU (amapUpdate P H t m k v)) = _; simp only [obn_eq, fretU_eq, fev_eq]
  | load t x => show (obn (fev a x) fun x => fretH (fload P H t x)) = _; simp only [obn_eq, fretH_eq, fev_eq, fload_eq]
  | store t x v => show (obn (fev a x) fun x => obn (fev a v) fun v => fretU (fstore P H t x v)) = _; simp only [obn_eq, fretU_eq, fev_eq, fstore_eq]
  | nilCheck x =>
    show (obn (fev a x) fun v => fnil H v) = _
    simp only [obn_eq, fev_eq, fnil_eq]
    rfl
  | binOp op t x y yt => show fret H (fbin P a o op t x y) = _; simp only [fret_eq, fbin_eq ho]
  | unOp op t x => show fret H (fnot P a o op x) = _; simp only [fret_eq, fnot_eq ho]
  | convert s d x => show fret H (aquiet P a o) = _; simp only [fret_eq]
  | makeInterface t x => show fret H (aquiet P a o) = _; simp only [fret_eq]
  | typeAssert x t s ok => show fret H (aquiet P a o) = _; simp only [fret_eq]
  | makeFunc fn first captured =>
    show (obn (fevs a first.toList) fun xs => obn (fevs a captured.toList) fun ys => @Bool.rec (fun _ => Option (Res × AH)) none (some (.val (.func fn xs.toArray ys.toArray), H)) (plainFn fn)) = _
    simp only [obn_eq, fevs_eq]
    cases plainFn fn <;> rfl
  | makeMap t r =>
    cases r with
    | none => show fretH (amakeMap H) = _; simp only [fretH_eq]
    | some r => rfl
  | makeSlice t l c => show (obn (fev a l) fun l => obn (fev a c) fun c => fretH (amake P H t l c)) = _; simp only [obn_eq, fretH_eq, fev_eq]
  | fieldAddr s x f => show (obn (fev a x) fun x => fret H (ffield P s x f)) = _; simp only [obn_eq, fret_eq, fev_eq, ffield_eq]
  | field t x f => show (obn (fev a x) fun x => fret H (afieldV P t x f)) = _; simp only [obn_eq, fret_eq, fev_eq]
  | indexAddr t x i => show (obn (fev a x) fun x => obn (fev a i) fun i => fret H (findex P t x i)) = _; simp only [obn_eq, fret_eq, fev_eq, findex_eq]
  | index t x i =>
    show (obn (fev a x) fun x => obn (fev a i) fun i => @Bool.rec (fun _ => Option (Res × AH)) (fret H (aindexV P t x i)) (fret H (aquiet P a o)) (ground x)) = _
    simp only [obn_eq, fret_eq, fev_eq]
    congr 1
    funext x
    congr 1
    funext i
    cases ground x <;> rfl
  | lookup t x k ok => show (obn (fev a x) fun x => obn (fev a k) fun k => fretH (alookup P H t x k ok)) = _; simp only [obn_eq, fretH_eq, fev_eq]
  | mapUpdate t m k v => show (obn (fev a m) fun m => obn (fev a k) fun k => obn (fev a v) fun v => fretU (amapUpdate P H t m k v)) = _; simp only [obn_eq, fretU_eq, fev_eq]
  | extract x i =>
    show (obn (fev a x) fun x => obn (ftup x) fun vs => fret H (nthF vs.toList i)) = _
    simp only [obn_eq, fev_eq, fret_eq, nthF_eq]
    congr 1
    funext x
    cases x <;> rfl
  | call c => show gcall P a H o c = _; rw [gcall_eq]
  | _ => rfl
end
end Go.Ev
