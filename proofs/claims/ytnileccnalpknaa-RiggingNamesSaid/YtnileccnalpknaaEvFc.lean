import Derived.Test.YtnileccnalpknaaEvFb

/- The table of operations. -/
namespace Go.Ev
set_option linter.unusedSimpArgs false
set_option linter.unusedVariables false
noncomputable section
open Go
variable {P : Program}

theorem quiet_bind {α β : Type} {P : Program} (s : Sem α) (k : α → Sem β) : ∀ {a : α}, quiet P s = some a → quiet P (s >>= k) = quiet P (k a) := by
  induction s with
  | pure a => intro b h; simp only [quiet, Option.some.injEq] at h; subst h; rfl
  | program j ih => intro b h; exact ih P h
  | mark m j ih => intro b h; exact ih h
  | _ => intro b h; simp [quiet] at h

/-! ### Operators -/
def fbin (P : Program) (a : AT) (o : Oper) (op : BinOp) (t : TypeId) (x y : Operand) : Option Value :=
  @Option.rec Value (fun _ => Option Value) (abin P a o op t x y) (fun v => some v) (obn (fev a x) fun u => obn (int64 u) fun m => obn (fev a y) fun v => obn (int64 v) fun n => tabBin op m n)
theorem eqGuard_int {op : BinOp} {t : TypeId} {x y : Operand} {k : IntKind} {m n : Int} : eqGuard op t x y (.int k m) (.int k n) = pure () := by
  unfold eqGuard
  cases op <;> rfl
theorem fbin_eq {a : AT} {o : Oper} {op : BinOp} {t yt : TypeId} {x y : Operand} (ho : o.op = .binOp op t x y yt) : fbin P a o op t x y = abin P a o op t x y := by
  unfold fbin
  generalize hr : (obn (fev a x) fun u => obn (int64 u) fun m => obn (fev a y) fun v => obn (int64 v) fun n => tabBin op m n) = r
  cases r with
  | none => rfl
  | some v =>
    simp only [obn_eq, Option.bind_eq_some_iff, fev_eq] at hr
    obtain ⟨u, hu, m, hm, u2, hu2, n, hn, h⟩ := hr
    obtain rfl := int64_eq hm
    obtain rfl := int64_eq hn
    obtain ⟨h1, h2⟩ := tabBin_ok h t P
    have e1 : (execOp a.evD o) = (binOp op t (.int .i64 m) (.int .i64 n) >>= fun v => pure (.value v)) := by
      unfold execOp
      rw [ho]
      simp only [AT.evD, hu, hu2, eqGuard_int]
      rfl
    show some v = _
    unfold abin aquiet AT.allGround
    simp only [hu, hu2, Option.bind_some]
    have g1 : ground (.int .i64 m) = true := rfl
    have g2 : ground (.int .i64 n) = true := rfl
    simp only [e1, quiet_bind _ _ h1, quiet_pure, ho, notSelect, Op.operands]
    simp [hu, hu2, g1, g2, h2]

def fnot (P : Program) (a : AT) (o : Oper) (op : UnOp) (x : Operand) : Option Value :=
  @UnOp.rec (fun _ => Program → AT → Oper → Operand → Option Value) (fun P a o _ => aquiet P a o) (fun P a o _ => aquiet P a o) (fun P a o x => @Option.rec Bool (fun _ => Option Value) (aquiet P a o) (fun b => some (.bool (@Bool.rec (fun _ => Bool) true false b))) (obn (fev a x) boolV)) (fun P a o _ => aquiet P a o) op P a o x
theorem fnot_eq {a : AT} {o : Oper} {op : UnOp} {t : TypeId} {x : Operand} (ho : o.op = .unOp op t x) : fnot P a o op x = aquiet P a o := by
  cases op <;> first | rfl | skip
  show @Option.rec Bool (fun _ => Option Value) (aquiet P a o) (fun b => some (.bool (@Bool.rec (fun _ => Bool) true false b))) (obn (fev a x) boolV) = _
  generalize hr : obn (fev a x) boolV = r
  cases r with
  | none => rfl
  | some b =>
    rw [obn_eq, Option.bind_eq_some_iff, fev_eq] at hr
    obtain ⟨u, hu, hb⟩ := hr
    obtain rfl := boolV_eq hb
    unfold aquiet AT.allGround
    rw [ho]
    simp only [notSelect, Op.operands]
    unfold execOp
    rw [ho]
    have g1 : ground (.bool b) = true := rfl
    have g2 : ground (.bool !b) = true := rfl
    simp [hu, g1, g2, AT.evD, Op.unary, quiet_pure]
    cases b <;> rfl

/-! ### Memory -/
def scalar? (P : Program) (t : TypeId) : Bool := match agg? P t with
  | some false => true
  | _ => false
def size1? (P : Program) (t : TypeId) : Bool := match size? P t with
  | some 1 => true
  | _ => false
def noSpot (s : Option Nat) : Bool := @Option.rec Nat (fun _ => Bool) true (fun _ => false) s
def rowOf (o : AO) : Option (List Value) := @AO.rec (fun _ => Option (List Value)) (fun c _ _ => some c.toList) (fun _ _ => none) (fun _ => none) (fun _ => none) o
def floadS (H : AH) (x : Value) : Option (Value × AH) :=
  obn (ptrV x) fun a => @Bool.rec (fun _ => Option (Value × AH)) none (obn (T.get H.t a.block) fun o => obn (rowOf o) fun l => obn (nthF l a.off) fun v => some (v, H.touch a.block)) (noSpot a.spot)
def fload (P : Program) (H : AH) (t : TypeId) (x : Value) : Option (Value × AH) := @Bool.rec (fun _ => Option (Value × AH)) (aload P H t x) (floadS H x) (scalar? P t)
theorem fload_eq (H : AH) (t : TypeId) (x : Value) : fload P H t x = aload P H t x := by
  unfold fload
  generalize hs : scalar? P t = s
  cases s with
  | false => rfl
  | true =>
    have hag : agg? P t = some false := by
      unfold scalar? at hs
      split at hs
      · assumption
      · cases hs
    show floadS H x = _
    cases x with
    | pointer a =>
      cases a with
      | none => rfl
      | some a =>
        obtain ⟨n, off, sp⟩ := a
        cases sp with
        | some s => rfl
        | none =>
          show (obn (T.get H.t n) fun o => obn (rowOf o) fun l => obn (nthF l off) fun v => some (v, H.touch n)) = _
          unfold aload
          dsimp only
          show _ = match T.get H.t n with | some (.cells c _ _) => _ | _ => none
          cases T.get H.t n with
          | none => rfl
          | some o =>
            cases o with
            | cells c e fr =>
              show obn (nthF c.toList off) _ = _
              simp only [hag, nthF_eq, obn_eq]
              cases c.toList[off]? <;> rfl
            | map es c => rfl
            | loop l => rfl
            | deferred b => rfl
    | _ => rfl
def fstoreO (H : AH) (n off : Nat) (v : Value) (o : AO) : Option AH :=
  @AO.rec (fun _ => Option AH) (fun c e fr => obn (nthF c.toList off) fun _ => some (H.put n (some (.cells (setF v c.toList off).toArray e fr)))) (fun _ _ => none) (fun _ => none) (fun _ => none) o
def fstoreS (H : AH) (x v : Value) : Option AH :=
  obn (ptrV x) fun a => @Bool.rec (fun _ => Option AH) none (obn (T.get H.t a.block) fun o => fstoreO H a.block a.off v o) (noSpot a.spot)
def fstore (P : Program) (H : AH) (t : TypeId) (x v : Value) : Option AH := @Bool.rec (fun _ => Option AH) (astore P H t x v) (@Bool.rec (fun _ => Option AH) (astore P H t x v) (fstoreS H x v) (oneV v)) (size1? P t)
theorem fstore_eq (H : AH) (t : TypeId) (x v : Value) : fstore P H t x v = astore P H t x v := by
  unfold fstore
  generalize hs : size1? P t = s
  cases s with
  | false => rfl
  | true =>
    generalize ho : oneV v = s2
    cases s2 with
    | false => rfl
    | true =>
      have hk : size? P t = some 1 := by
        unfold size1? at hs
        split at hs
        · assumption
        · cases hs
      obtain ⟨hc, h1⟩ := oneV_cells ho
      show fstoreS H x v = _
      cases x with
      | pointer a =>
        cases a with
        | none => rfl
        | some a =>
          obtain ⟨n, off, sp⟩ := a
          cases sp with
          | some s => rfl
          | none =>
            show (obn (T.get H.t n) fun o => fstoreO H n off v o) = _
            unfold astore
            dsimp only
            show _ = match T.get H.t n with | some (.cells c e fr) => _ | _ => none
            cases T.get H.t n with
            | none => rfl
            | some o =>
              cases o with
              | cells c e fr =>
                show (obn (nthF c.toList off) fun _ => some (H.put n (some (.cells (setF v c.toList off).toArray e fr)))) = _
                simp only [hk, hc, nthF_eq, obn_eq, List.length_singleton, List.all_cons, List.all_nil, h1]
                by_cases hlt : off < c.toList.length
                · rw [List.getElem?_eq_getElem hlt, setF_eq hlt]
                  have : ((c.toList.drop off).take 1).length = 1 := by simp only [List.length_take, List.length_drop]; omega
                  rw [this]
                  rfl
                · rw [List.getElem?_eq_none (by omega)]
                  have : ((c.toList.drop off).take 1).length = 0 := by simp only [List.length_take, List.length_drop]; omega
                  rw [this]
                  rfl
              | map es c => rfl
              | loop l => rfl
              | deferred b => rfl
      | _ => rfl

/-! ### Places -/
def fieldOff? (P : Program) (s : TypeId) (f : Nat) : Option Nat :=
  match P.underlying s with
  | some (.struct fields) =>
    match fields[f]? with
    | some fd =>
      match size? P fd.type with
      | some (_ + 1) => some fd.offset
      | _ => none
    | none => none
  | _ => none
def ffield (P : Program) (s : TypeId) (x : Value) (f : Nat) : Option Value := obn (ptrV x) fun a => obn (fieldOff? P s f) fun n => some (.pointer (some (a.add n)))
theorem ffield_eq (s : TypeId) (x : Value) (f : Nat) : ffield P s x f = afield P s x f := by
  cases x with
  | pointer a =>
    cases a with
    | none => rfl
    | some a =>
      show (obn (fieldOff? P s f) fun n => some (Value.pointer (some (a.add n)))) = _
      unfold fieldOff? afield
      dsimp only
      cases P.underlying s with
      | none => rfl
      | some ty =>
        cases ty with
        | struct fields =>
          dsimp only
          cases fields[f]? with
          | none => rfl
          | some fd =>
            dsimp only
            cases size? P fd.type with
            | none => rfl
            | some k => cases k <;> rfl
        | _ => rfl
  | _ => rfl
def sliceSize? (P : Program) (t : TypeId) : Option Nat := match P.underlying t with
  | some (.slice e) => size? P e
  | _ => none
def findexI (k : Nat) (x : Value) (i : Int) : Option Value := obn (sliceV x) fun p => @Int.rec (fun _ => Option Value) (fun m => @Bool.rec (fun _ => Option Value) none (some (.pointer (some (p.1.add (Nat.mul m k))))) (Nat.blt m p.2)) (fun _ => none) i
def findex (P : Program) (t : TypeId) (x ix : Value) : Option Value :=
  @Option.rec Nat (fun _ => Option Value) (aindex P t x ix) (fun k => @Option.rec Int (fun _ => Option Value) (aindex P t x ix) (fun i => findexI k x i) (int64 ix)) (sliceSize? P t)
theorem findex_eq (t : TypeId) (x ix : Value) : findex P t x ix = aindex P t x ix := by
  unfold findex
  generalize hs : sliceSize? P t = s
  cases s with
  | none => rfl
  | some k =>
    generalize hi : int64 ix = r
    cases r with
    | none => rfl
    | some i =>
      obtain rfl := int64_eq hi
      show findexI k x i = _
      unfold sliceSize? at hs
      split at hs
      case h_2 => cases hs
      rename_i e hu
      unfold aindex
      dsimp only
      rw [hu]
      cases x with
      | slice a n c =>
        cases a with
        | none => rfl
        | some a =>
          dsimp only
          rw [hs]
          cases i with
          | ofNat m =>
            show @Bool.rec (fun _ => Option Value) none (some (.pointer (some (a.add (m * k))))) (Nat.blt m n) = _
            rw [blt_iff]
            by_cases h : m < n
            · have h' : (0 ≤ Int.ofNat m ∧ Int.ofNat m < (n : Int)) := ⟨Int.natCast_nonneg m, by simp only [Int.ofNat_eq_natCast]; omega⟩
              rw [decide_eq_true h, decide_eq_true h']
              rfl
            · have h' : ¬ (0 ≤ Int.ofNat m ∧ Int.ofNat m < (n : Int)) := fun hh => h (by have := hh.2; simp only [Int.ofNat_eq_natCast] at this; omega)
              rw [decide_eq_false h, decide_eq_false h']
          | negSucc m =>
            have h' : ¬ (0 ≤ Int.negSucc m ∧ Int.negSucc m < (n : Int)) := fun hh => by omega
            rw [decide_eq_false h']
            rfl
      | _ => rfl
def sliceT? (P : Program) (t : TypeId) : Bool := match P.underlying t with
  | some (.slice _) => true
  | _ => false
def flen (P : Program) (t : TypeId) (x : Value) : Option Value := @Bool.rec (fun _ => Option Value) (alen P t x) (obn (lenV x) fun n => some (goInt n)) (sliceT? P t)
theorem flen_eq (t : TypeId) (x : Value) : flen P t x = alen P t x := by
  unfold flen
  generalize hs : sliceT? P t = s
  cases s with
  | false => rfl
  | true =>
    unfold sliceT? at hs
    split at hs
    case h_2 => cases hs
    rename_i e hu
    unfold alen
    rw [hu]
    cases x <;> rfl
end
end Go.Ev
