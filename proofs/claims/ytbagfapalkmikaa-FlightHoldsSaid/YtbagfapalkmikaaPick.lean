import Derived.Test.YtbagfapalkmikaaSureM
import Derived.Test.YtbagfapalkmikaaRefG

/- A number of a range, by a word; the size of a number. -/
namespace Go.Proofs.Ytbagfapalkmikaa
open Go.RowKit Go.Shelf
set_option linter.unusedSimpArgs false in
set_option maxHeartbeats 2000000 in
theorem pick_any (r : Rng) (wd : Int) (w : World) (hw : 0 ≤ wd ∧ wd ≤ 65535) (h : r.lo ≤ r.hi) (h1 : -10000000 ≤ r.lo) (h2 : r.hi ≤ 10000000) :
    Calls Try.prog 34 #[.agg #[.int .i64 r.lo, .int .i64 r.hi], .int .u16 wd] w fun e w' => e = .returned (.int .i64 (pickI r wd)) ∧ Below w.heap.size w w' := by
  obtain ⟨w1, w2⟩ := hw
  obtain ⟨q, hq⟩ : ∃ q, wd.tmod (r.hi - r.lo + 1) = q := ⟨_, rfl⟩
  have hq2 : wd % (r.hi - r.lo + 1) = q := by rw [← hq, Int.tmod_eq_emod_of_nonneg w1]
  have q1 := Int.emod_nonneg wd (show r.hi - r.lo + 1 ≠ 0 by omega)
  have q2 := Int.emod_lt_of_pos wd (show 0 < r.hi - r.lo + 1 by omega)
  rw [hq2] at q1 q2
  have HP : Hid (pickI r wd = r.lo + q) := by show _ = _; unfold pickI; rw [hq2]
  have hz1 : ¬ (r.hi - r.lo + 1) = 0 := by omega
  have hz2 : ((r.hi - r.lo + 1) == 0) = false := by simp; omega
  clear hq2
  go_enter Try.func34, Try.ntmps34
  go_wp2
  go_quiet (fail)
  go_wp2
  go_ret
  exact ⟨ret_int HP.out.symm, below_drewN ((Below.refl _ _).alloc (Nat.le_refl _) _) _⟩
theorem lawSize_any (n : Int) (w : World) (hn : -1000000000000 ≤ n ∧ n ≤ 1000000000000) : Calls Try.prog 36 #[.int .i64 n] w fun e w' => e = .returned (.int .i64 (sizeI n)) ∧ w = w' := by
  obtain ⟨n1, n2⟩ := hn
  have hmax : ∀ (ts : Array TypeId) (t : TypeId) (W : World), (Builtin.max_ ts t #[.int .i64 n, .int .i64 (-n)]).run Try.prog W = .ok (.int .i64 (max n (-n))) W := by
    intro ts t W
    have : (if -n > n then -n else n) = max n (-n) := by split <;> omega
    simp [Builtin.max_, Builtin.max2]
    omega
  have HS : Hid (sizeI n = max n (-n)) := rfl
  go_enter Try.func36, Try.ntmps36
  go_wp2
  go_ret
  exact ⟨ret_int HS.out.symm, rfl⟩
end Go.Proofs.Ytbagfapalkmikaa
