import Derived.Test.YtbagfapalkmikaaProg
import Derived.Test.YtbagfapalkmikaaSwingM

/- Contracts of flight's small functions: what is valid. -/
namespace Go.Proofs.Ytbagfapalkmikaa
open Go.RowKit

theorem fwithin_any (n lo hi : Int) (w : World) : Calls Try.prog 76 #[.int .i64 n, .int .i64 lo, .int .i64 hi] w fun e w' => e = .returned (.bool (inB n lo hi)) ∧ w = w' := by
  by_cases h1 : lo ≤ n
  · by_cases h2 : n ≤ hi
    · go_enter Try.func76, Try.ntmps76
      go_wp2
      go_ret
      exact ⟨ret_bool (by simp [inB, h1, h2]), rfl⟩
    · go_enter Try.func76, Try.ntmps76
      go_wp2
      go_ret
      exact ⟨ret_bool (by simp [inB]; omega), rfl⟩
  · go_enter Try.func76, Try.ntmps76
    go_wp2
    go_ret
    exact ⟨ret_bool (by simp [inB]; omega), rfl⟩
theorem isAir_any (n : Int) (w : World) : Calls Try.prog 54 #[.int .i64 n] w fun e w' => e = .returned (.bool (inB n 0 300)) ∧ w = w' := by
  go_enter Try.func54, Try.ntmps54
  go_wp2_with ((go_at_call 76; refine (fwithin_any _ _ _ _).mono ?_; rintro e w' ⟨rfl, rfl⟩))
  go_ret
  exact ⟨rfl, rfl⟩
theorem isTick_any (n : Int) (w : World) : Calls Try.prog 64 #[.int .i64 n] w fun e w' => e = .returned (.bool (inB n 0 6000)) ∧ w = w' := by
  go_enter Try.func64, Try.ntmps64
  go_wp2_with ((go_at_call 76; refine (fwithin_any _ _ _ _).mono ?_; rintro e w' ⟨rfl, rfl⟩))
  go_ret
  exact ⟨rfl, rfl⟩
theorem rinside_any (r : Rng) (m : Int) (w : World) (hm : 0 ≤ m ∧ m ≤ 10000000) : Calls Try.prog 92 #[.agg #[.int .i64 r.lo, .int .i64 r.hi], .int .i64 m] w fun e w' => e = .returned (.bool (r.inside m)) ∧ Below w.heap.size w w' := by
  by_cases h1 : -m ≤ r.lo <;> by_cases h2 : r.lo ≤ r.hi <;> by_cases h3 : r.hi ≤ m
  all_goals try (exfalso; omega)
  all_goals
    go_enter Try.func92, Try.ntmps92
    go_wp2
    go_ret
    exact ⟨ret_bool (by simp [Rng.inside] <;> omega), (Below.refl _ _).alloc (Nat.le_refl _) _⟩
set_option maxHeartbeats 1000000 in
theorem binside_any (b : Bx) (m : Int) (w : World) (hm : 0 ≤ m ∧ m ≤ 10000000) : Calls Try.prog 82 #[.agg #[.int .i64 b.x.lo, .int .i64 b.x.hi, .int .i64 b.z.lo, .int .i64 b.z.hi], .int .i64 m] w fun e w' => e = .returned (.bool (b.inside m)) ∧ Below w.heap.size w w' := by
  have HK : Hid (b.inside m = (b.x.inside m && b.z.inside m)) := rfl
  cases h1 : b.x.inside m <;> cases h2 : b.z.inside m
  all_goals
    rw [h1, h2] at HK
    go_enter Try.func82, Try.ntmps82
    have tok1 : True := trivial
    go_wp2_with (first | (go_at_call 92; have := tok1; clear this tok1; refine (rinside_any _ _ _ hm).mono ?_; rintro e w1 ⟨rfl, hb1⟩; obtain ⟨hc1, hf1⟩ := bcell hb1; have hz1 : w.heap.size < w1.heap.size := (by have := hb1.size; (try simp at this); omega)) | (go_at_call 92; refine (rinside_any _ _ _ hm).mono ?_; rintro e w2 ⟨rfl, hb2⟩; obtain ⟨hc2, hf2⟩ := bcell hb2; have hz2 : w.heap.size < w2.heap.size := (by have := hb2.size; (try simp at this); omega)))
    go_ret
    first
    | exact ⟨ret_bool HK.out.symm, ((Below.refl _ _).alloc (Nat.le_refl _) _).trans ((sh_next hb1 hb2).mono (by simp))⟩
    | exact ⟨ret_bool HK.out.symm, ((Below.refl _ _).alloc (Nat.le_refl _) _).trans (hb1.mono (by simp))⟩
theorem inTent_any (b : Bx) (w : World) : Calls Try.prog 81 #[.agg #[.int .i64 b.x.lo, .int .i64 b.x.hi, .int .i64 b.z.lo, .int .i64 b.z.hi]] w fun e w' => e = .returned (.bool b.tent) ∧ Below w.heap.size w w' := by
  go_enter Try.func81, Try.ntmps81
  go_wp2_with ((go_at_call 82; refine (binside_any _ _ _ (by omega)).mono ?_; rintro e w1 ⟨rfl, hb1⟩; obtain ⟨hc1, hf1⟩ := bcell hb1; have hz1 : w.heap.size < w1.heap.size := (by have := hb1.size; (try simp at this); omega)))
  go_ret
  exact ⟨rfl, ((Below.refl _ _).alloc (Nat.le_refl _) _).trans (hb1.mono (by simp))⟩
set_option maxHeartbeats 1000000 in
theorem flyer_any (f : Fly) (w : World) : Calls Try.prog 53 #[.agg #[.int .i64 f.pos.x.lo, .int .i64 f.pos.x.hi, .int .i64 f.pos.z.lo, .int .i64 f.pos.z.hi, .int .i64 f.speed.x.lo, .int .i64 f.speed.x.hi, .int .i64 f.speed.z.lo, .int .i64 f.speed.z.hi, .int .i64 f.mass]] w fun e w' => e = .returned (.bool f.ok) ∧ Below w.heap.size w w' := by
  have HK : Hid (f.ok = (f.pos.tent && (f.speed.inside 10000 && inB f.mass 1 200))) := rfl
  cases h1 : f.pos.tent <;> cases h2 : f.speed.inside 10000 <;> cases h3 : inB f.mass 1 200
  all_goals
    rw [h1, h2, h3] at HK
    go_enter Try.func53, Try.ntmps53
    go_wp2_with (first | (go_at_call 81; refine (inTent_any _ _).mono ?_; rintro e w1 ⟨rfl, hb1⟩; obtain ⟨hc1, hf1⟩ := bcell hb1; have hz1 : w.heap.size < w1.heap.size := (by have := hb1.size; (try simp at this); omega)) | (go_at_call 82; refine (binside_any _ _ _ (by omega)).mono ?_; rintro e w2 ⟨rfl, hb2⟩; obtain ⟨hc2, hf2⟩ := bcell hb2; have hz2 : w.heap.size < w2.heap.size := (by have := hb2.size; (try simp at this); omega)) | (go_at_call 76; refine (fwithin_any _ _ _ _).mono ?_; rintro e w' ⟨rfl, rfl⟩))
    go_ret
    first
    | exact ⟨ret_bool HK.out.symm, ((Below.refl _ _).alloc (Nat.le_refl _) _).trans ((sh_next hb1 hb2).mono (by simp))⟩
    | exact ⟨ret_bool HK.out.symm, ((Below.refl _ _).alloc (Nat.le_refl _) _).trans (hb1.mono (by simp))⟩
end Go.Proofs.Ytbagfapalkmikaa
