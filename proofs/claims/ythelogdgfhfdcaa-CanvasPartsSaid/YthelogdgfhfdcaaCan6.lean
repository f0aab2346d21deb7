import Derived.Test.YthelogdgfhfdcaaCan1
import Derived.Test.YthelogdgfhfdcaaRef5
namespace Go.Proofs.Ythelogdgfhfdcaa
open Go.RowKit

theorem times_any (v : Vec) (n : Int) (w : World) (h1 : Sm (n * v.x)) (h2 : Sm (n * v.y)) :
    Calls Try.prog 99 #[.agg #[.int .i64 v.x, .int .i64 v.y], .int .i64 n] w fun e w' => e = .returned (.agg #[.int .i64 (v.times n).x, .int .i64 (v.times n).y]) ∧ Below w.heap.size w w' := by
  unfold Sm at h1 h2
  go_enter Try.func99, Try.ntmps99
  go_wp2
  exact bodyPost_ret (v := .agg #[.int .i64 (n * v.x), .int .i64 (n * v.y)]) (by simp [results, Try.results99, go_sem]) rfl ⟨rfl, ((Below.refl _ _).alloc (Nat.le_refl _) _).alloc (by simp) _⟩
theorem dot_any (v u : Vec) (w : World) (h1 : Sm (v.x * u.x)) (h2 : Sm (v.y * u.y)) :
    Calls Try.prog 110 #[.agg #[.int .i64 v.x, .int .i64 v.y], .agg #[.int .i64 u.x, .int .i64 u.y]] w fun e w' => e = .returned (.int .i64 (v.dot u)) ∧ Below w.heap.size w w' := by
  unfold Sm at h1 h2
  go_enter Try.func110, Try.ntmps110
  go_wp2
  go_ret
  exact ⟨rfl, ((Below.refl _ _).alloc (Nat.le_refl _) _).alloc (by simp) _⟩
theorem cross_any (v u : Vec) (w : World) (h1 : Sm (v.x * u.y)) (h2 : Sm (v.y * u.x)) :
    Calls Try.prog 120 #[.agg #[.int .i64 v.x, .int .i64 v.y], .agg #[.int .i64 u.x, .int .i64 u.y]] w fun e w' => e = .returned (.int .i64 (v.cross u)) ∧ Below w.heap.size w w' := by
  unfold Sm at h1 h2
  go_enter Try.func120, Try.ntmps120
  go_wp2
  go_ret
  exact ⟨rfl, ((Below.refl _ _).alloc (Nat.le_refl _) _).alloc (by simp) _⟩
theorem turned_any (v : Vec) (w : World) (h : Sm v.y) :
    Calls Try.prog 126 #[.agg #[.int .i64 v.x, .int .i64 v.y]] w fun e w' => e = .returned (.agg #[.int .i64 v.turned.x, .int .i64 v.turned.y]) ∧ Below w.heap.size w w' := by
  have h1 : IntKind.i64.wrap (-v.y) = -v.y := IntWalk.i64_in _ (by unfold Sm at h; omega)
  go_enter Try.func126, Try.ntmps126
  go_wp2
  exact bodyPost_ret (v := .agg #[.int .i64 (-v.y), .int .i64 v.x]) (by simp [results, Try.results126, go_sem]) rfl ⟨rfl, ((Below.refl _ _).alloc (Nat.le_refl _) _).alloc (by simp) _⟩
theorem pull_any (g : Guy) (w : World) :
    Calls Try.prog 98 #[.agg #[.int .i64 g.x, .int .i64 g.y, .int .i64 g.down, .int .i64 g.soil, .int .i64 g.depth]] w fun e w' => e = .returned (.agg #[.int .i64 g.x, .int .i64 g.y]) ∧ Below w.heap.size w w' := by
  go_enter Try.func98, Try.ntmps98
  go_wp2
  exact bodyPost_ret (v := .agg #[.int .i64 g.x, .int .i64 g.y]) (by simp [results, Try.results98, go_sem]) rfl ⟨rfl, ((Below.refl _ _).alloc (Nat.le_refl _) _).alloc (by simp) _⟩
theorem presses_any (g : Guy) (w : World) :
    Calls Try.prog 93 #[.agg #[.int .i64 g.x, .int .i64 g.y, .int .i64 g.down, .int .i64 g.soil, .int .i64 g.depth]] w fun e w' => e = .returned (.int .i64 g.down) ∧ Below w.heap.size w w' := by
  go_enter Try.func93, Try.ntmps93
  go_wp2
  go_ret
  exact ⟨rfl, (Below.refl _ _).alloc (Nat.le_refl _) _⟩
def Vec.insideB (v : Vec) (n : Int) : Bool := inB v.x (-n) n && inB v.y (-n) n
theorem inside_any (v : Vec) (n : Int) (w : World) (h : Sm n) :
    Calls Try.prog 75 #[.agg #[.int .i64 v.x, .int .i64 v.y], .int .i64 n] w fun e w' => e = .returned (.bool (v.insideB n)) ∧ Below w.heap.size w w' := by
  have HC : Hid (v.insideB n = (inB v.x (-n) n && inB v.y (-n) n)) := rfl
  have h1 : IntKind.i64.wrap (-n) = -n := IntWalk.i64_in _ (by unfold Sm at h; omega)
  go_enter Try.func75, Try.ntmps75
  go_wp2_with ((go_at_call 64; refine (within_any _ _ _ _).mono ?_; rintro e w' ⟨rfl, rfl⟩))
  all_goals
    go_ret
    exact ⟨ret_bool (by rw [HC.out]; simp [*]), (Below.refl _ _).alloc (Nat.le_refl _) _⟩
theorem help_any (v u : Vec) (w : World) (hd : -2000000000000000000 ≤ v.dot u ∧ v.dot u ≤ 2000000000000000000) (h1 : Sm (v.x * u.x)) (h2 : Sm (v.y * u.y)) :
    Calls Try.prog 123 #[.agg #[.int .i64 v.x, .int .i64 v.y], .agg #[.int .i64 u.x, .int .i64 u.y]] w fun e w' => e = .returned (.int .i64 (max 0 (-(v.dot u)))) ∧ Below w.heap.size w w' := by
  have d1 : IntKind.i64.wrap (-(v.dot u)) = -(v.dot u) := IntWalk.i64_in _ (by omega)
  go_enter Try.func123, Try.ntmps123
  go_wp2_with ((go_at_call 110; refine (dot_any v u _ h1 h2).mono ?_; rintro e w1 ⟨rfl, hb1⟩; obtain ⟨hc1, hf1⟩ := bcell hb1))
  all_goals
    go_ret
    exact ⟨ret_int (by omega), (((Below.refl _ _).alloc (Nat.le_refl _) _).alloc (by simp) _).trans (hb1.mono (by simp; omega))⟩
theorem ofInt_i64 (a : Nat) (ha : a < 9223372036854775808) : (BitVec.ofInt 64 (a : Int)).toNat = a := by
  rw [BitVec.ofInt_natCast, BitVec.toNat_ofNat]; exact Nat.mod_eq_of_lt (by omega)
theorem i64_and_nat (a b : Nat) (ha : a < 9223372036854775808) (hb : b < 9223372036854775808) : bits .and .i64 (a : Int) (b : Int) = ((a &&& b : Nat) : Int) := by
  have hx : a &&& b < 2 ^ 63 := Nat.and_lt_two_pow _ (by omega)
  show IntKind.i64.wrap ((BitVec.ofInt 64 (a : Int) &&& BitVec.ofInt 64 (b : Int)).toNat : Int) = _
  rw [BitVec.toNat_and, ofInt_i64 a ha, ofInt_i64 b hb, IntKind.wrap_i64]
  omega
theorem bit_eq (s i : Nat) (hs : s < 65536) : (bits BinOp.and IntKind.i64 ((s : Int) / 2 ^ i) 1 == 1) = s.testBit i := by
  have h1 : ((s : Int) / 2 ^ i) = ((s / 2 ^ i : Nat) : Int) := by simp
  have h2 : s / 2 ^ i ≤ s := Nat.div_le_self _ _
  rw [h1, show (1 : Int) = ((1 : Nat) : Int) from rfl, i64_and_nat _ _ (by omega) (by omega), Nat.and_one_is_mod, Nat.testBit_eq_decide_div_mod_eq, Bool.eq_iff_iff]
  simp only [beq_iff_eq, decide_eq_true_eq]
  omega
/-- A guy's place in a set. -/
theorem has_any (s : Nat) (i : Nat) (w : World) (hs : s < 65536) (hi : i < 64) :
    Calls Try.prog 102 #[.int .i64 s, .int .i64 i] w fun e w' => e = .returned (.bool (s.testBit i)) ∧ w = w' := by
  go_enter Try.func102, Try.ntmps102
  go_wp2
  go_ret
  exact ⟨ret_bool (bit_eq s i hs), rfl⟩
def inPartB (n whole : Int) (bears : Bool) : Bool := decide (n = 0) || (bears && inB n 0 whole)
theorem inPart_any (n whole : Int) (bears : Bool) (w : World) : Calls Try.prog 121 #[.int .i64 n, .int .i64 whole, .bool bears] w fun e w' => e = .returned (.bool (inPartB n whole bears)) ∧ w = w' := by
  by_cases h0 : n = 0
  · have e0 : (n == 0) = true := by simpa using h0
    have HC : Hid (inPartB n whole bears = true) := by show _ = _; simp [inPartB, h0]
    clear h0
    cases bears
    all_goals
      go_enter Try.func121, Try.ntmps121
      go_wp2_with ((go_at_call 64; refine (within_any _ _ _ _).mono ?_; rintro e w' ⟨rfl, rfl⟩))
      go_ret
      exact ⟨ret_bool HC.out.symm, rfl⟩
  · have e0 : (n == 0) = false := by simpa using h0
    have HC : Hid (inPartB n whole bears = (bears && inB n 0 whole)) := by show _ = _; simp [inPartB, h0]
    cases bears
    all_goals
      go_enter Try.func121, Try.ntmps121
      go_wp2_with ((go_at_call 64; refine (within_any _ _ _ _).mono ?_; rintro e w' ⟨rfl, rfl⟩))
      go_ret
      exact ⟨ret_bool (by rw [HC.out]; simp), rfl⟩
end Go.Proofs.Ythelogdgfhfdcaa
