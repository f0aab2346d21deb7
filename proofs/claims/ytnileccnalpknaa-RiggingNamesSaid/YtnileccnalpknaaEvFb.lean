import Derived.Test.YtnileccnalpknaaEvFa

/- Operations in short ways, the same as the long ones. -/
namespace Go.Ev
set_option linter.unusedSimpArgs false
set_option linter.unusedVariables false
noncomputable section
open Go
variable {P : Program}

/-! ### Values taken apart -/
/-- An int as Go's int is, of 64 signs. -/
def is64 (k : IntKind) : Bool := @IntKind.rec (fun _ => Bool) false false false true false false false false k
theorem is64_eq {k : IntKind} (h : is64 k = true) : k = .i64 := by cases k <;> first | rfl | cases h
def int64 (v : Value) : Option Int :=
  @Value.rec (fun _ => Option Int) (fun _ => PUnit) (fun _ => PUnit) (fun _ => none) (fun k n => @Bool.rec (fun _ => Option Int) none (some n) (is64 k)) (fun _ _ => none) (fun _ _ _ => none) (fun _ => none) (fun _ => none) (fun _ _ _ => none) (fun _ => none) (fun _ => none) (fun _ _ _ _ _ => none) none (fun _ _ _ => none) none (fun _ _ => none) (fun _ _ => none) (fun _ _ => ⟨⟩) ⟨⟩ (fun _ _ _ _ => ⟨⟩) v
theorem int64_eq {v : Value} {n : Int} (h : int64 v = some n) : v = .int .i64 n := by
  cases v with
  | int k m =>
    have h' : @Bool.rec (fun _ => Option Int) none (some m) (is64 k) = some n := h
    cases hk : is64 k with
    | false => rw [hk] at h'; cases h'
    | true => rw [hk] at h'; cases h'; rw [is64_eq hk]
  | _ => cases h
def boolV (v : Value) : Option Bool :=
  @Value.rec (fun _ => Option Bool) (fun _ => PUnit) (fun _ => PUnit) (fun b => some b) (fun _ _ => none) (fun _ _ => none) (fun _ _ _ => none) (fun _ => none) (fun _ => none) (fun _ _ _ => none) (fun _ => none) (fun _ => none) (fun _ _ _ _ _ => none) none (fun _ _ _ => none) none (fun _ _ => none) (fun _ _ => none) (fun _ _ => ⟨⟩) ⟨⟩ (fun _ _ _ _ => ⟨⟩) v
theorem boolV_eq {v : Value} {b : Bool} (h : boolV v = some b) : v = .bool b := by
  cases v with
  | bool c => cases h; rfl
  | _ => cases h
def ptrV (v : Value) : Option Addr :=
  @Value.rec (fun _ => Option Addr) (fun _ => PUnit) (fun _ => PUnit) (fun _ => none) (fun _ _ => none) (fun _ _ => none) (fun _ _ _ => none) (fun _ => none) (fun a => a) (fun _ _ _ => none) (fun _ => none) (fun _ => none) (fun _ _ _ _ _ => none) none (fun _ _ _ => none) none (fun _ _ => none) (fun _ _ => none) (fun _ _ => ⟨⟩) ⟨⟩ (fun _ _ _ _ => ⟨⟩) v
theorem ptrV_eq {v : Value} {a : Addr} (h : ptrV v = some a) : v = .pointer (some a) := by
  cases v with
  | pointer c => cases h; rfl
  | _ => cases h
def sliceV (v : Value) : Option (Addr × Nat) :=
  @Value.rec (fun _ => Option (Addr × Nat)) (fun _ => PUnit) (fun _ => PUnit) (fun _ => none) (fun _ _ => none) (fun _ _ => none) (fun _ _ _ => none) (fun _ => none) (fun _ => none) (fun a n _ => obn a fun a => some (a, n)) (fun _ => none) (fun _ => none) (fun _ _ _ _ _ => none) none (fun _ _ _ => none) none (fun _ _ => none) (fun _ _ => none) (fun _ _ => ⟨⟩) ⟨⟩ (fun _ _ _ _ => ⟨⟩) v
theorem sliceV_eq {v : Value} {a : Addr} {n : Nat} (h : sliceV v = some (a, n)) : ∃ c, v = .slice (some a) n c := by
  cases v with
  | slice x m c =>
    cases x with
    | none => cases h
    | some b => cases h; exact ⟨c, rfl⟩
  | _ => cases h
def lenV (v : Value) : Option Nat :=
  @Value.rec (fun _ => Option Nat) (fun _ => PUnit) (fun _ => PUnit) (fun _ => none) (fun _ _ => none) (fun _ _ => none) (fun _ _ _ => none) (fun _ => none) (fun _ => none) (fun _ n _ => some n) (fun _ => none) (fun _ => none) (fun _ _ _ _ _ => none) none (fun _ _ _ => none) none (fun _ _ => none) (fun _ _ => none) (fun _ _ => ⟨⟩) ⟨⟩ (fun _ _ _ _ => ⟨⟩) v
theorem lenV_eq {v : Value} {n : Nat} (h : lenV v = some n) : ∃ a c, v = .slice a n c := by
  cases v with
  | slice x m c => cases h; exact ⟨x, c, rfl⟩
  | _ => cases h
def aggV (v : Value) : Option (Array Value) :=
  @Value.rec (fun _ => Option (Array Value)) (fun _ => PUnit) (fun _ => PUnit) (fun _ => none) (fun _ _ => none) (fun _ _ => none) (fun _ _ _ => none) (fun _ => none) (fun _ => none) (fun _ _ _ => none) (fun _ => none) (fun _ => none) (fun _ _ _ _ _ => none) none (fun _ _ _ => none) none (fun cs _ => some cs) (fun _ _ => none) (fun _ _ => ⟨⟩) ⟨⟩ (fun _ _ _ _ => ⟨⟩) v
theorem aggV_eq {v : Value} {cs : Array Value} (h : aggV v = some cs) : v = .agg cs := by
  cases v with
  | agg c => cases h; rfl
  | _ => cases h
def oneV (v : Value) : Bool :=
  @Value.rec (fun _ => Bool) (fun _ => PUnit) (fun _ => PUnit) (fun _ => true) (fun _ _ => true) (fun _ _ => true) (fun _ _ _ => true) (fun _ => true) (fun _ => true) (fun _ _ _ => true) (fun _ => true) (fun _ => true) (fun _ _ _ _ _ => true) true (fun _ _ _ => true) true (fun _ _ => false) (fun _ _ => false) (fun _ _ => ⟨⟩) ⟨⟩ (fun _ _ _ _ => ⟨⟩) v
theorem oneV_cells {v : Value} (h : oneV v = true) : v.cells.toList = [v] ∧ one v = true := by
  cases v <;> first | exact ⟨rfl, rfl⟩ | cases h

/-! ### Ints -/
def fadd (a b : Int) : Int := @Int.rec (fun _ => Int → Int) (fun m b => @Int.rec (fun _ => Int) (fun n => .ofNat (Nat.add m n)) (fun n => @Bool.rec (fun _ => Int) (.negSucc (Nat.sub n m)) (.ofNat (Nat.sub m (Nat.succ n))) (Nat.blt n m)) b) (fun m b => @Int.rec (fun _ => Int) (fun n => @Bool.rec (fun _ => Int) (.negSucc (Nat.sub m n)) (.ofNat (Nat.sub n (Nat.succ m))) (Nat.blt m n)) (fun n => .negSucc (Nat.succ (Nat.add m n))) b) a b
theorem blt_iff {a b : Nat} : Nat.blt a b = decide (a < b) := by
  cases h : Nat.blt a b with
  | true => simp [Nat.blt] at h; simp; omega
  | false =>
    have : ¬ a < b := fun hh => by rw [show Nat.blt a b = true from Nat.ble_eq_true_of_le hh] at h; cases h
    simp; omega
theorem fadd_eq (a b : Int) : fadd a b = a + b := by
  cases a with
  | ofNat m =>
    cases b with
    | ofNat n => rfl
    | negSucc n =>
      show @Bool.rec (fun _ => Int) (.negSucc (n - m)) (.ofNat (m - (n + 1))) (Nat.blt n m) = _
      rw [blt_iff]
      by_cases h : n < m
      · rw [decide_eq_true h]; simp only [Int.ofNat_eq_natCast]; omega
      · rw [decide_eq_false h]; simp only [Int.ofNat_eq_natCast]; omega
  | negSucc m =>
    cases b with
    | ofNat n =>
      show @Bool.rec (fun _ => Int) (.negSucc (m - n)) (.ofNat (n - (m + 1))) (Nat.blt m n) = _
      rw [blt_iff]
      by_cases h : m < n
      · rw [decide_eq_true h]; simp only [Int.ofNat_eq_natCast]; omega
      · rw [decide_eq_false h]; simp only [Int.ofNat_eq_natCast]; omega
    | negSucc n => rfl
def fneg (a : Int) : Int := @Int.rec (fun _ => Int) (fun m => @Nat.rec (fun _ => Int) (.ofNat 0) (fun n _ => .negSucc n) m) (fun m => .ofNat (Nat.succ m)) a
theorem fneg_eq (a : Int) : fneg a = -a := by
  cases a with
  | ofNat m => cases m <;> rfl
  | negSucc m => rfl
def fmul (a b : Int) : Int := @Int.rec (fun _ => Int → Int) (fun m b => @Int.rec (fun _ => Int) (fun n => .ofNat (Nat.mul m n)) (fun n => fneg (.ofNat (Nat.mul m (Nat.succ n)))) b) (fun m b => @Int.rec (fun _ => Int) (fun n => fneg (.ofNat (Nat.mul (Nat.succ m) n))) (fun n => .ofNat (Nat.mul (Nat.succ m) (Nat.succ n))) b) a b
theorem fmul_eq (a b : Int) : fmul a b = a * b := by
  cases a with
  | ofNat m =>
    cases b with
    | ofNat n => rfl
    | negSucc n =>
      show fneg (.ofNat (m * (n + 1))) = _
      rw [fneg_eq]; rfl
  | negSucc m =>
    cases b with
    | ofNat n =>
      show fneg (.ofNat ((m + 1) * n)) = _
      rw [fneg_eq]; rfl
    | negSucc n => rfl
def flt (a b : Int) : Bool := @Int.rec (fun _ => Int → Bool) (fun m b => @Int.rec (fun _ => Bool) (fun n => Nat.blt m n) (fun _ => false) b) (fun m b => @Int.rec (fun _ => Bool) (fun _ => true) (fun n => Nat.blt n m) b) a b
theorem flt_eq (a b : Int) : flt a b = decide (a < b) := by
  cases a with
  | ofNat m =>
    cases b with
    | ofNat n => show Nat.blt m n = _; rw [blt_iff]; simp
    | negSucc n => show false = _; symm; simp; omega
  | negSucc m =>
    cases b with
    | ofNat n => show true = _; symm; simp; omega
    | negSucc n => show Nat.blt n m = _; rw [blt_iff]; congr 1; simp only [eq_iff_iff]; omega
def fle (a b : Int) : Bool := @Int.rec (fun _ => Int → Bool) (fun m b => @Int.rec (fun _ => Bool) (fun n => Nat.ble m n) (fun _ => false) b) (fun m b => @Int.rec (fun _ => Bool) (fun _ => true) (fun n => Nat.ble n m) b) a b
theorem ble_iff {a b : Nat} : Nat.ble a b = decide (a ≤ b) := by
  cases h : Nat.ble a b with
  | true => simp at h; simp; omega
  | false =>
    have : ¬ a ≤ b := fun hh => by rw [Nat.ble_eq_true_of_le hh] at h; cases h
    simp; omega
theorem fle_eq (a b : Int) : fle a b = decide (a ≤ b) := by
  cases a with
  | ofNat m =>
    cases b with
    | ofNat n => show Nat.ble m n = _; rw [ble_iff]; simp
    | negSucc n => show false = _; symm; simp; omega
  | negSucc m =>
    cases b with
    | ofNat n => show true = _; symm; simp; omega
    | negSucc n => show Nat.ble n m = _; rw [ble_iff]; congr 1; simp only [eq_iff_iff]; omega
def feq (a b : Int) : Bool := @Int.rec (fun _ => Int → Bool) (fun m b => @Int.rec (fun _ => Bool) (fun n => Nat.beq m n) (fun _ => false) b) (fun m b => @Int.rec (fun _ => Bool) (fun _ => false) (fun n => Nat.beq m n) b) a b
theorem beq_iff {a b : Nat} : Nat.beq a b = decide (a = b) := by
  cases h : Nat.beq a b with
  | true => simp [Nat.eq_of_beq_eq_true h]
  | false => simp [Nat.ne_of_beq_eq_false h]
theorem feq_eq (a b : Int) : feq a b = (a == b) := by
  rw [show (a == b) = decide (a = b) from rfl]
  cases a with
  | ofNat m =>
    cases b with
    | ofNat n => show Nat.beq m n = _; rw [beq_iff]; congr 1; simp only [Int.ofNat_eq_natCast, eq_iff_iff]; omega
    | negSucc n => show false = _; symm; simp
  | negSucc m =>
    cases b with
    | ofNat n => show false = _; symm; simp
    | negSucc n => show Nat.beq m n = _; rw [beq_iff]; simp
def fwrap (n : Int) : Int := @Int.rec (fun _ => Int) (fun m => @Bool.rec (fun _ => Int) (IntKind.wrap .i64 (.ofNat m)) (.ofNat m) (Nat.blt m 9223372036854775808)) (fun m => @Bool.rec (fun _ => Int) (IntKind.wrap .i64 (.negSucc m)) (.negSucc m) (Nat.blt m 9223372036854775808)) n
theorem wrap_id {n : Int} (h : -9223372036854775808 ≤ n ∧ n < 9223372036854775808) : IntKind.wrap .i64 n = n := IntWalk.i64_in n (by omega)
theorem fwrap_eq (n : Int) : fwrap n = IntKind.wrap .i64 n := by
  cases n with
  | ofNat m =>
    show @Bool.rec (fun _ => Int) (IntKind.wrap .i64 (.ofNat m)) (.ofNat m) (Nat.blt m 9223372036854775808) = _
    rw [blt_iff]
    by_cases h : m < 9223372036854775808
    · rw [decide_eq_true h]
      show Int.ofNat m = _
      exact (wrap_id ⟨by simp only [Int.ofNat_eq_natCast]; omega, by simp only [Int.ofNat_eq_natCast]; omega⟩).symm
    · rw [decide_eq_false h]
  | negSucc m =>
    show @Bool.rec (fun _ => Int) (IntKind.wrap .i64 (.negSucc m)) (.negSucc m) (Nat.blt m 9223372036854775808) = _
    rw [blt_iff]
    by_cases h : m < 9223372036854775808
    · rw [decide_eq_true h]
      show Int.negSucc m = _
      exact (wrap_id ⟨by omega, by omega⟩).symm
    · rw [decide_eq_false h]

theorem quiet_pure {α : Type} (P : Program) (a : α) : quiet P (pure a : Sem α) = some a := rfl
/-- Two ints under an operator: what is short. -/
def tabBin (op : BinOp) (a b : Int) : Option Value :=
  @BinOp.rec (fun _ => Int → Int → Option Value) (fun a b => some (.int .i64 (fwrap (fadd a b)))) (fun a b => some (.int .i64 (fwrap (fadd a (fneg b))))) (fun a b => some (.int .i64 (fwrap (fmul a b)))) (fun _ _ => none) (fun _ _ => none) (fun _ _ => none) (fun _ _ => none) (fun _ _ => none) (fun _ _ => none) (fun _ _ => none) (fun _ _ => none)
    (fun a b => some (.bool (feq a b))) (fun a b => some (.bool (@Bool.rec (fun _ => Bool) true false (feq a b)))) (fun a b => some (.bool (flt a b))) (fun a b => some (.bool (fle a b))) (fun a b => some (.bool (flt b a))) (fun a b => some (.bool (fle b a))) op a b
theorem tabBin_ok {op : BinOp} {a b : Int} {v : Value} (h : tabBin op a b = some v) (t : TypeId) (P : Program) : quiet P (binOp op t (.int .i64 a) (.int .i64 b)) = some v ∧ ground v = true := by
  have nn : ∀ x : Bool, @Bool.rec (fun _ => Bool) true false x = !x := fun x => by cases x <;> rfl
  cases op <;> first | (cases h; done) | skip
  all_goals
    cases h
    simp [binOp, Op.intArith, Op.intCmp, quiet_pure, fwrap_eq, fadd_eq, fneg_eq, fmul_eq, feq_eq, flt_eq, fle_eq, nn, ground, gs, Int.sub_eq_add_neg, bne]
end
end Go.Ev
