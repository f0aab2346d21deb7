import Derived.Test.YtbagfapalkmikaaFlA

/- Contracts of Swing. -/
namespace Go.Proofs.Ytbagfapalkmikaa
open Go.RowKit

theorem upwards_any (n d : Int) (w : World) (hn : 0 ≤ n ∧ n ≤ 1000000000000) (hd : 1 ≤ d ∧ d ≤ 1000000000000) : Calls Try.prog 91 #[.int .i64 n, .int .i64 d] w fun e w' => e = .returned (.int .i64 (cdiv n d)) ∧ w = w' := by
  have e0 : (d == 0) = false := by simp; omega
  have HC : Hid (cdiv n d = (n + d - 1) / d) := rfl
  go_enter Try.func91, Try.ntmps91
  go_wp2
  go_ret
  exact ⟨ret_int HC.out.symm, rfl⟩

theorem sq_in {n : Int} (h0 : 0 ≤ n) (h : n ≤ 1001) : 0 ≤ n * n ∧ n * n ≤ 1002001 := by
  have h1 : 0 ≤ n * n := Int.mul_nonneg h0 h0
  have h2 : n * n ≤ 1001 * 1001 := Int.mul_le_mul h h h0 (by omega)
  omega
set_option maxHeartbeats 2000000 in
theorem swing_any (l wd : Int) (w : World) (hl : 1 ≤ l ∧ l ≤ 20000) (hw : 0 ≤ wd ∧ wd ≤ 100) :
    Calls Try.prog 80 #[.int .i64 l, .int .i64 wd] w fun e w' => e = .returned (.agg #[.int .i64 (swing l wd).lo, .int .i64 (swing l wd).hi]) ∧ Below w.heap.size w w' := by
  obtain ⟨l1, l2⟩ := hl
  obtain ⟨w1, w2⟩ := hw
  have SL := Lib.hid (swLo_spec l1 l2)
  have SH := Lib.hid (swHi_spec l1 l2)
  have HS : Hid (swing l wd = ⟨swLo l, cdiv (swHi l * (1000 + wd)) 1000⟩) := rfl
  go_enter Try.func80, Try.ntmps80
  go_wp2
  go_loop [5] (fun i => ∃ (k : Int) (f : Nat), 0 ≤ k ∧ k + f = 1000 ∧ i = .int .i64 k ∧ loFrom (39478417600 * l) f k = swLo l) (fun i => 1000 - (intOf i).toNat)
  case atStart => exact ⟨0, 1000, by omega, by omega, rfl, rfl⟩
  case round =>
    obtain ⟨k, f, hk0, hkf, rfl, hfr⟩ := hrel
    have Hfr := Lib.hid hfr
    clear hfr
    obtain ⟨s0, s1⟩ := sq_in (n := k + 1) (by omega) (by omega)
    by_cases hc : (k + 1) * (k + 1) * 980000000 ≤ 39478417600 * l
    · have hf : ∃ f', f = f' + 1 := by
        cases f with
        | zero => exfalso; have : k = 1000 := by omega
                  subst this; omega
        | succ f => exact ⟨f, rfl⟩
      obtain ⟨f', rfl⟩ := hf
      go_wp2
      go_round
      case rel => exact ⟨k + 1, f', by omega, by omega, rfl, by rw [← Hfr.out, loFrom_step hc]⟩
      case measure => simp [intOf]; omega
    · have HL := Hfr.out
      rw [loFrom_stop hc] at HL
      have HL2 := Lib.hid HL
      clear HL
      go_wp2
      go_loop [6] (fun i => ∃ (j : Int) (f : Nat), 0 ≤ j ∧ j + f = 1000 ∧ i = .int .i64 j ∧ hiFrom (39478418000 * l) f j = swHi l) (fun i => 1000 - (intOf i).toNat)
      case atStart => exact ⟨0, 1000, by omega, by omega, rfl, rfl⟩
      case round =>
        obtain ⟨j, f2, hj0, hjf, rfl, hfr2⟩ := hrel
        have Hfr2 := Lib.hid hfr2
        clear hfr2 hc s0 s1
        obtain ⟨s0, s1⟩ := sq_in (n := j) (by omega) (by omega)
        by_cases hc : j * j * 980000000 < 39478418000 * l
        · have hf : ∃ f', f2 = f' + 1 := by
            cases f2 with
            | zero => exfalso; have : j = 1000 := by omega
                      subst this; omega
            | succ f => exact ⟨f, rfl⟩
          obtain ⟨f', rfl⟩ := hf
          go_wp2
          go_round
          case rel => exact ⟨j + 1, f', by omega, by omega, rfl, by rw [← Hfr2.out, hiFrom_step hc]⟩
          case measure => simp [intOf]; omega
        · have HL := Hfr2.out
          rw [hiFrom_stop hc] at HL
          have HL3 := Lib.hid HL
          clear HL
          have p0 : 0 ≤ j * (1000 + wd) := Int.mul_nonneg (by omega) (by omega)
          have p1 : j * (1000 + wd) ≤ 1000 * 1100 := Int.mul_le_mul (by omega) (by omega) (by omega) (by omega)
          go_wp2_with ((go_at_call 91; refine (upwards_any _ _ _ (by omega) (by omega)).mono ?_; rintro e w' ⟨rfl, rfl⟩))
          refine bodyPost_ret (v := .agg #[.int .i64 k, .int .i64 (cdiv (j * (1000 + wd)) 1000)]) (by simp [results, Try.results80, go_sem]) rfl ⟨?_, ?_⟩
          · rw [HS.out, HL2.out, HL3.out]
          · exact (Below.refl _ _).alloc (Nat.le_refl _) _
end Go.Proofs.Ytbagfapalkmikaa
