import Derived.Test.YtapgmibkdlcljaaProg
import Derived.Test.YtapgmibkdlcljaaTripM

/- Trips: contracts of the program's functions. -/
namespace Go.Proofs.Ytapgmibkdlcljaa
open Go.RowKit

theorem awithin_any (n lo hi : Int) (w : World) : Calls Try.prog 46 #[.int .i64 n, .int .i64 lo, .int .i64 hi] w fun e w' => e = .returned (.bool (inB n lo hi)) ∧ w = w' := by
  by_cases h1 : lo ≤ n
  · by_cases h2 : n ≤ hi
    · go_enter Try.func46, Try.ntmps46
      go_wp2
      go_ret
      exact ⟨ret_bool (by simp [inB, h1, h2]), rfl⟩
    · go_enter Try.func46, Try.ntmps46
      go_wp2
      go_ret
      exact ⟨ret_bool (by simp [inB]; omega), rfl⟩
  · go_enter Try.func46, Try.ntmps46
    go_wp2
    go_ret
    exact ⟨ret_bool (by simp [inB]; omega), rfl⟩
theorem awithin_val {n lo hi : Int} {b : Bool} (h : inB n lo hi = b) (w : World) : Calls Try.prog 46 #[.int .i64 n, .int .i64 lo, .int .i64 hi] w fun e w' => e = .returned (.bool b) ∧ w = w' := h ▸ awithin_any n lo hi w
set_option maxHeartbeats 2000000 in
theorem rulesValid_any (r : Rul) (w : World) : Calls Try.prog 45 #[.agg #[.int .i64 r.drive, .int .i64 r.stint, .int .i64 r.brk, .int .i64 r.rest]] w fun e w' => e = .returned (.bool r.ok) ∧ Below w.heap.size w w' := by
  have HK : Hid (r.ok = (inB r.drive 1 24 && (inB r.stint 1 r.drive && (inB r.brk 0 8 && inB r.rest 0 24)))) := rfl
  cases h1 : inB r.drive 1 24 <;> cases h2 : inB r.stint 1 r.drive <;> cases h3 : inB r.brk 0 8 <;> cases h4 : inB r.rest 0 24
  all_goals
    rw [h1, h2, h3, h4] at HK
    go_enter Try.func45, Try.ntmps45
    go_wp2_with ((go_at_call 46; refine (awithin_any _ _ _ _).mono ?_; rintro e w' ⟨rfl, rfl⟩))
    go_ret
    exact ⟨ret_bool HK.out.symm, (Below.refl _ _).alloc (Nat.le_refl _) _⟩
set_option maxHeartbeats 1000000 in
theorem breaks_ok (r : Rul) (h : Int) (w : World) (hr : r.ok = true) (h1 : 1 ≤ h) (h2 : h ≤ 24) : Calls Try.prog 68 #[.agg #[.int .i64 r.drive, .int .i64 r.stint, .int .i64 r.brk, .int .i64 r.rest], .int .i64 h] w fun e w' => e = .returned (.int .i64 (r.breaks h)) ∧ Below w.heap.size w w' := by
  obtain ⟨_, ⟨s1, s2⟩, ⟨b1, b2⟩, _⟩ := Rul.ok_iff.1 hr
  have s0 : ¬ r.stint = 0 := by omega
  obtain ⟨q1, q2⟩ := div_in (n := h - 1) (m := 23) (by omega) (by omega) s1
  have p := mul_in q1 q2 b1 b2
  have e1 : IntKind.i64.wrap (h - 1) = h - 1 := IntWalk.i64_in _ (by omega)
  have e2 : IntKind.i64.wrap ((h - 1).tdiv r.stint) = (h - 1) / r.stint := IntWalk.i64_quo _ _ ⟨by omega, by omega, s1⟩
  have e3 : IntKind.i64.wrap ((h - 1) / r.stint * r.brk) = (h - 1) / r.stint * r.brk := IntWalk.i64_in _ (by omega)
  have HB : Hid (r.breaks h = (h - 1) / r.stint * r.brk) := rfl
  clear hr
  go_enter Try.func68, Try.ntmps68
  go_wp2
  go_region
  all_goals go_wp2
  all_goals go_ret
  all_goals exact ⟨ret_int HB.out.symm, ((Below.refl _ _).alloc (Nat.le_refl _) _).drew⟩
end Go.Proofs.Ytapgmibkdlcljaa
