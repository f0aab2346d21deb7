import Derived.Test.YtapgmibkdlcljaaProg
import Derived.Test.YtapgmibkdlcljaaTripC

/- Trips: the document's own answer, and what the laws call. -/
namespace Go.Proofs.Ytapgmibkdlcljaa
open Go.RowKit
theorem din_any (n lo hi : Int) (w : World) : Calls Try.prog 14 #[.int .i64 n, .int .i64 lo, .int .i64 hi] w fun e w' => e = .returned (.bool (inB n lo hi)) ∧ w = w' := by
  by_cases h1 : lo ≤ n
  · by_cases h2 : n ≤ hi
    · go_enter Try.func14, Try.ntmps14
      go_wp2
      go_ret
      exact ⟨ret_bool (by simp [inB, h1, h2]), rfl⟩
    · go_enter Try.func14, Try.ntmps14
      go_wp2
      go_ret
      exact ⟨ret_bool (by simp [inB]; omega), rfl⟩
  · go_enter Try.func14, Try.ntmps14
    go_wp2
    go_ret
    exact ⟨ret_bool (by simp [inB]; omega), rfl⟩
theorem din_val {n lo hi : Int} {b : Bool} (h : inB n lo hi = b) (w : World) : Calls Try.prog 14 #[.int .i64 n, .int .i64 lo, .int .i64 hi] w fun e w' => e = .returned (.bool b) ∧ w = w' := h ▸ din_any n lo hi w
set_option maxHeartbeats 2000000 in
theorem RightRules_any (r : Rul) (w : World) : Calls Try.prog 12 #[.agg #[.int .i64 r.drive, .int .i64 r.stint, .int .i64 r.brk, .int .i64 r.rest]] w fun e w' => e = .returned (.bool r.ok) ∧ Below w.heap.size w w' := by
  have HK : Hid (r.ok = (inB r.drive 1 24 && (inB r.stint 1 r.drive && (inB r.brk 0 8 && inB r.rest 0 24)))) := rfl
  cases h1 : inB r.drive 1 24 <;> cases h2 : inB r.stint 1 r.drive <;> cases h3 : inB r.brk 0 8 <;> cases h4 : inB r.rest 0 24
  all_goals
    rw [h1, h2, h3, h4] at HK
    go_enter Try.func12, Try.ntmps12
    go_wp2_with ((go_at_call 14; refine (din_any _ _ _ _).mono ?_; rintro e w' ⟨rfl, rfl⟩))
    go_ret
    exact ⟨ret_bool HK.out.symm, (Below.refl _ _).alloc (Nat.le_refl _) _⟩
theorem rules_any (r : Rul) (w : World) : Calls Try.prog 11 #[.agg #[.int .i64 r.drive, .int .i64 r.stint, .int .i64 r.brk, .int .i64 r.rest]] w fun e w' => e = .returned (.agg #[.int .i64 r.drive, .int .i64 r.stint, .int .i64 r.brk, .int .i64 r.rest]) ∧ Below w.heap.size w w' := by
  go_enter Try.func11, Try.ntmps11
  go_wp2
  refine bodyPost_ret (v := .agg #[.int .i64 r.drive, .int .i64 r.stint, .int .i64 r.brk, .int .i64 r.rest]) (by simp [results, Try.results11, go_sem]) rfl ⟨rfl, ?_⟩
  exact ((Below.refl _ _).alloc (Nat.le_refl _) _).alloc (by simp) _
set_option maxHeartbeats 4000000 in
theorem refTrip_ok (r : Rul) (n : Int) (w : World) (hr : r.ok = true) (h1 : 0 ≤ n) (h2 : n ≤ 201) : Calls Try.prog 15 #[.agg #[.int .i64 r.drive, .int .i64 r.stint, .int .i64 r.brk, .int .i64 r.rest], .int .i64 n] w fun e w' => e = .returned (.int .i64 (r.takes n)) ∧ Below w.heap.size w w' := by
  obtain ⟨⟨d1, d2⟩, ⟨s1, s2⟩, ⟨b1, b2⟩, ⟨r1, r2⟩⟩ := Rul.ok_iff.1 hr
  have s0 : ¬ r.stint = 0 := by omega
  have KR := Lib.hid hr
  clear hr
  go_enter Try.func15, Try.ntmps15
  go_wp2
  go_loop [5, 6, 7] (fun t s k => ∃ i : Int, 0 ≤ i ∧ i ≤ n ∧ k = .int .i64 i ∧ t = .int .i64 (r.takes i) ∧ s = .int .i64 (r.shift i)) (fun _ _ k => n.toNat - (intOf k).toNat)
  case atStart => exact ⟨0, by omega, h1, rfl, by simp [Rul.takes], by simp [Rul.shift]⟩
  case round =>
    obtain ⟨i, i0, i1, rfl, rfl, rfl⟩ := hrel
    obtain ⟨t1, t2⟩ := takes_in KR.out i0 (by omega)
    obtain ⟨f1, f2, f3⟩ := shift_in KR.out i0
    by_cases hc : i < n
    · obtain ⟨st1, st2⟩ := takes_step KR.out i0
      obtain ⟨t3, t4⟩ := takes_in KR.out (n := i + 1) (by omega) (by omega)
      by_cases c1 : r.shift i = r.drive
      · rw [if_pos c1] at st1 st2
        have ST1 := Lib.hid st1
        have ST2 := Lib.hid st2
        clear st1 st2
        go_wp2
        go_round
        case rel => exact ⟨i + 1, by omega, by omega, rfl, by rw [ST1.out], by rw [ST2.out]; rfl⟩
        case measure => simp [intOf]; omega
      · rw [if_neg c1] at st1 st2
        by_cases c2 : 0 < r.shift i
        · have e1 : (r.shift i).tmod r.stint = r.shift i % r.stint := IntWalk.rem_in _ _ (by omega)
          by_cases c3 : r.shift i % r.stint = 0
          · rw [if_pos ⟨c2, c3⟩] at st1
            have ST1 := Lib.hid st1
            have ST2 := Lib.hid st2
            clear st1 st2
            go_wp2
            go_round
            case rel => exact ⟨i + 1, by omega, by omega, rfl, by rw [ST1.out], by rw [ST2.out]⟩
            case measure => simp [intOf]; omega
          · rw [if_neg (fun h => c3 h.2)] at st1
            have ST1 := Lib.hid st1
            have ST2 := Lib.hid st2
            clear st1 st2
            go_wp2
            go_round
            case rel => exact ⟨i + 1, by omega, by omega, rfl, by rw [ST1.out, Int.add_zero], by rw [ST2.out]⟩
            case measure => simp [intOf]; omega
        · rw [if_neg (fun h => c2 h.1)] at st1
          have ST1 := Lib.hid st1
          have ST2 := Lib.hid st2
          clear st1 st2
          go_wp2
          go_round
          case rel => exact ⟨i + 1, by omega, by omega, rfl, by rw [ST1.out, Int.add_zero], by rw [ST2.out]⟩
          case measure => simp [intOf]; omega
    · have hi : i = n := by omega
      have HI := Lib.hid hi
      go_wp2
      go_ret
      exact ⟨rfl, (Below.refl _ _).alloc (Nat.le_refl _) _⟩
end Go.Proofs.Ytapgmibkdlcljaa
