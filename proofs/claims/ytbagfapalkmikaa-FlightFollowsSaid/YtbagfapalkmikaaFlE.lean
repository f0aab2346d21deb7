import Derived.Test.YtbagfapalkmikaaFlD
import Derived.Laws.StructEq

/- '==' of ranges and boxes; what a range or a box has. -/
namespace Go.Proofs.Ytbagfapalkmikaa
open Go.RowKit

theorem eqInI (n : Nat) (a b : Int) (w : World) : (Op.equalIn (n + 1) 3 (.int .i64 a) (.int .i64 b)).run Try.prog w = .ok (a == b) w := run_equalIn_int w n _ _ _ _ _ Try.underlying3
set_option linter.unusedSimpArgs false in
theorem eqInR (n : Nat) (a b c d : Int) (w : World) : (Op.equalIn (n + 2) 35 (.agg #[.int .i64 a, .int .i64 b]) (.agg #[.int .i64 c, .int .i64 d])).run Try.prog w = .ok (a == c && b == d) w := by
  have hS : Try.prog.underlying 35 = some (.struct (Try.prog.fieldsOf 35)) := by kernel_rfl
  have hp : Try.prog.stoodInHeld 35 = false := by kernel_rfl
  have he := fun a b w => eqInI n a b w
  rw [show n + 2 = (n + 1) + 1 from rfl, run_equalIn_agg w (n + 1) _ _ _ hS hp]
  simp only [Program.fieldsOf, Try.underlying35]
  go_simp
  by_cases h1 : a = c <;> by_cases h2 : b = d <;> simp [h1, h2]
theorem eqR (a b c d : Int) (w : World) : (binOp .eql 35 (.agg #[.int .i64 a, .int .i64 b]) (.agg #[.int .i64 c, .int .i64 d])).run Try.prog w = .ok (.bool (a == c && b == d)) w := by
  rw [run_eql_struct, show (10000 : Nat) = 9998 + 2 from rfl, eqInR]; rfl
set_option linter.unusedSimpArgs false in
theorem eqInB (n : Nat) (a b c d p q r s : Int) (w : World) : (Op.equalIn (n + 3) 37 (.agg #[.int .i64 a, .int .i64 b, .int .i64 c, .int .i64 d]) (.agg #[.int .i64 p, .int .i64 q, .int .i64 r, .int .i64 s])).run Try.prog w = .ok ((a == p && b == q) && (c == r && d == s)) w := by
  have hS : Try.prog.underlying 37 = some (.struct (Try.prog.fieldsOf 37)) := by kernel_rfl
  have hp : Try.prog.stoodInHeld 37 = false := by kernel_rfl
  have he := fun a b c d w => eqInR n a b c d w
  rw [show n + 3 = (n + 2) + 1 from rfl, run_equalIn_agg w (n + 2) _ _ _ hS hp]
  simp only [Program.fieldsOf, Try.underlying37]
  go_simp
  by_cases h1 : a = p <;> by_cases h2 : b = q <;> by_cases h3 : c = r <;> by_cases h4 : d = s <;> simp [h1, h2, h3, h4]
theorem eqB (a b c d p q r s : Int) (w : World) : (binOp .eql 37 (.agg #[.int .i64 a, .int .i64 b, .int .i64 c, .int .i64 d]) (.agg #[.int .i64 p, .int .i64 q, .int .i64 r, .int .i64 s])).run Try.prog w = .ok (.bool ((a == p && b == q) && (c == r && d == s))) w := by
  rw [run_eql_struct, show (10000 : Nat) = 9997 + 3 from rfl, eqInB]; rfl

set_option maxHeartbeats 2000000 in
theorem has_any (r o : Rng) (w : World) : Calls Try.prog 96 #[.agg #[.int .i64 r.lo, .int .i64 r.hi], .agg #[.int .i64 o.lo, .int .i64 o.hi]] w fun e w' => e = .returned (.bool (r.hasB o)) ∧ Below w.heap.size w w' := by
  have heq : ∀ W : World, (binOp .eql 35 (.agg #[.int .i64 (r.join o).lo, .int .i64 (r.join o).hi]) (.agg #[.int .i64 r.lo, .int .i64 r.hi])).run Try.prog W = .ok (.bool (r.hasB o)) W := by
    intro W
    rw [eqR]
    congr 2
    rw [Bool.eq_iff_iff, ← Rng.join_eq]
    cases hj : r.join o; cases r; simp
  go_enter Try.func96, Try.ntmps96
  go_wp2
  refine name_world (motive := fun W => Code.wp _ _ _ _ W) _ ?_
  intro W0 hW
  have hWc := hW.cell
  have hWz := hW.size
  have hWb := hW.below (((Below.refl w.heap.size w).alloc (Nat.le_refl _) _).alloc (by simp) _)
  simp only [World.size_alloc] at hWz
  have hlt : w.heap.size < W0.heap.size := by omega
  have hlt1 : w.heap.size + 1 < W0.heap.size := by omega
  clear hWz
  go_region_held3 (fun w' => (∀ b o, b < W0.heap.size → w'.cell? ⟨b, o, none⟩ = W0.cell? ⟨b, o, none⟩) ∧ Below W0.heap.size W0 w') (first | with_reducible exact sh_refl _ | (with_reducible refine sh_of ?_; with_reducible assumption) | (with_reducible refine sh_alloc ?_ _; with_reducible assumption) | with_reducible exact sh_first _ _)
    (first | (go_at_call 106; go_split_ands; have hS1 : Below W0.heap.size W0 _ := (by with_reducible assumption); refine (join_any r o _).mono ?_; rintro e w1 ⟨rfl, hb1⟩; have hB1 := sh_next hS1 hb1))
  all_goals go_wp2
  go_ret
  exact ⟨rfl, hWb.trans (hB1.mono (by omega))⟩
set_option maxHeartbeats 2000000 in
theorem bhas_any (b o : Bx) (w : World) : Calls Try.prog 101 #[.agg #[.int .i64 b.x.lo, .int .i64 b.x.hi, .int .i64 b.z.lo, .int .i64 b.z.hi], .agg #[.int .i64 o.x.lo, .int .i64 o.x.hi, .int .i64 o.z.lo, .int .i64 o.z.hi]] w fun e w' => e = .returned (.bool (b.hasB o)) ∧ Below w.heap.size w w' := by
  have heq : ∀ W : World, (binOp .eql 37 (.agg #[.int .i64 (b.join o).x.lo, .int .i64 (b.join o).x.hi, .int .i64 (b.join o).z.lo, .int .i64 (b.join o).z.hi]) (.agg #[.int .i64 b.x.lo, .int .i64 b.x.hi, .int .i64 b.z.lo, .int .i64 b.z.hi])).run Try.prog W = .ok (.bool (b.hasB o)) W := by
    intro W
    rw [eqB]
    congr 2
    rw [Bool.eq_iff_iff, ← Bx.join_eq]
    cases hj : b.join o with
    | mk u v => cases u; cases v; cases b with
      | mk p q => cases p; cases q; simp
  go_enter Try.func101, Try.ntmps101
  go_wp2
  refine name_world (motive := fun W => Code.wp _ _ _ _ W) _ ?_
  intro W0 hW
  have hWc := hW.cell
  have hWz := hW.size
  have hWb := hW.below (((Below.refl w.heap.size w).alloc (Nat.le_refl _) _).alloc (by simp) _)
  simp only [World.size_alloc] at hWz
  have hlt : w.heap.size < W0.heap.size := by omega
  have hlt1 : w.heap.size + 1 < W0.heap.size := by omega
  clear hWz
  go_region_held3 (fun w' => (∀ b o, b < W0.heap.size → w'.cell? ⟨b, o, none⟩ = W0.cell? ⟨b, o, none⟩) ∧ Below W0.heap.size W0 w') (first | with_reducible exact sh_refl _ | (with_reducible refine sh_of ?_; with_reducible assumption) | (with_reducible refine sh_alloc ?_ _; with_reducible assumption) | with_reducible exact sh_first _ _)
    (first | (go_at_call 84; go_split_ands; have hS1 : Below W0.heap.size W0 _ := (by with_reducible assumption); refine (bothJoin_any b o _).mono ?_; rintro e w1 ⟨rfl, hb1⟩; have hB1 := sh_next hS1 hb1))
  all_goals go_wp2
  go_ret
  exact ⟨rfl, hWb.trans (hB1.mono (by omega))⟩
end Go.Proofs.Ytbagfapalkmikaa
