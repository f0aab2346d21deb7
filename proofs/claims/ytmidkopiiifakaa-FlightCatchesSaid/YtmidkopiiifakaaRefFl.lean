import Derived.Test.YtmidkopiiifakaaWakes

/- The document's words of layer 4, as functions: swings and numbers; and the law's copies of ranges. -/
namespace Go.Proofs.Ytmidkopiiifakaa
open Go.RowKit Go.Shelf
theorem in_any (n lo hi : Int) (w : World) : Calls Try.prog 17 #[.int .i64 n, .int .i64 lo, .int .i64 hi] w fun e w' => e = .returned (.bool (inB n lo hi)) ∧ w = w' := by
  by_cases h1 : lo ≤ n <;> by_cases h2 : n ≤ hi
  all_goals
    go_enter Try.func17, Try.ntmps17
    go_wp2
    go_ret
    exact ⟨ret_bool (by simp [inB, h1, h2]), rfl⟩
theorem in_val {n lo hi : Int} {b : Bool} (h : inB n lo hi = b) (w : World) :
    Calls Try.prog 17 #[.int .i64 n, .int .i64 lo, .int .i64 hi] w fun e w' => e = .returned (.bool b) ∧ w = w' := by rw [← h]; exact in_any n lo hi w
theorem lawRange_any (a b : Int) (w : World) : Calls Try.prog 18 #[.agg #[.int .i64 a, .int .i64 b]] w fun e w' => e = .returned (.agg #[.int .i64 a, .int .i64 b]) ∧ Below w.heap.size w w' := by
  go_enter Try.func18, Try.ntmps18
  go_wp2
  refine bodyPost_ret (v := .agg #[.int .i64 a, .int .i64 b]) (by simp [results, Try.results18, go_sem]) rfl ⟨rfl, ?_⟩
  exact ((Below.refl _ _).alloc (Nat.le_refl _) _).alloc (by simp) _
set_option maxHeartbeats 2000000 in
theorem refSwing_any (l wd : Int) (w : World) (hl : 1 ≤ l ∧ l ≤ 20000) (hw : 0 ≤ wd ∧ wd ≤ 100) :
    Calls Try.prog 19 #[.int .i64 l, .int .i64 wd] w fun e w' => e = .returned (.agg #[.int .i64 (swing l wd).lo, .int .i64 (swing l wd).hi]) ∧ Below w.heap.size w w' := by
  obtain ⟨l1, l2⟩ := hl
  obtain ⟨w1, w2⟩ := hw
  have SL := Lib.hid (swLo_spec l1 l2)
  have SH := Lib.hid (swHi_spec l1 l2)
  have HS : Hid (swing l wd = ⟨swLo l, cdiv (swHi l * (1000 + wd)) 1000⟩) := rfl
  go_enter Try.func19, Try.ntmps19
  go_wp2
  go_loop [5] (fun i => ∃ (k : Int) (f : Nat), 0 ≤ k ∧ k + f = 1000 ∧ i = .int .i64 k ∧ loFrom (39478417600 * l) f k = swLo l) (fun i => 1000 - (intOf i).toNat)
  case atStart => exact ⟨0, 1000, by omega, by omega, rfl, rfl⟩
  case round =>
    obtain ⟨k, f, hk0, hkf, rfl, hfr⟩ := hrel
    have Hfr := Lib.hid hfr
    clear hfr
    obtain ⟨s0, s1⟩ := sq_in (n := k + 1) (by omega) (by omega)
    by_cases hc : (k + 1) * (k + 1) * 980000000 ≤ 39478417600 * l
    · have hf : ∃ f', f = f' + 1 := by
        cases f with
        | zero => exfalso; have : k = 1000 := by omega
                  subst this; omega
        | succ f => exact ⟨f, rfl⟩
      obtain ⟨f', rfl⟩ := hf
      go_wp2
      go_round
      case rel => exact ⟨k + 1, f', by omega, by omega, rfl, by rw [← Hfr.out, loFrom_step hc]⟩
      case measure => simp [intOf]; omega
    · have HL := Hfr.out
      rw [loFrom_stop hc] at HL
      have HL2 := Lib.hid HL
      clear HL
      go_wp2
      go_loop [6] (fun i => ∃ (j : Int) (f : Nat), 0 ≤ j ∧ j + f = 1000 ∧ i = .int .i64 j ∧ hiFrom (39478418000 * l) f j = swHi l) (fun i => 1000 - (intOf i).toNat)
      case atStart => exact ⟨k, f, by omega, by omega, rfl, by have h1 := HL2.out; rw [h1]; exact hi_from_lo l1 l2 (by rw [← h1]; omega)⟩
      case round =>
        obtain ⟨j, f2, hj0, hjf, rfl, hfr2⟩ := hrel
        have Hfr2 := Lib.hid hfr2
        clear hfr2 hc s0 s1
        obtain ⟨s0, s1⟩ := sq_in (n := j) (by omega) (by omega)
        by_cases hc : j * j * 980000000 < 39478418000 * l
        · have hf : ∃ f', f2 = f' + 1 := by
            cases f2 with
            | zero => exfalso; have : j = 1000 := by omega
                      subst this; omega
            | succ f => exact ⟨f, rfl⟩
          obtain ⟨f', rfl⟩ := hf
          go_wp2
          go_round
          case rel => exact ⟨j + 1, f', by omega, by omega, rfl, by rw [← Hfr2.out, hiFrom_step hc]⟩
          case measure => simp [intOf]; omega
        · have HL := Hfr2.out
          rw [hiFrom_stop hc] at HL
          have HL3 := Lib.hid HL
          clear HL
          have p0 : 0 ≤ j * (1000 + wd) := Int.mul_nonneg (by omega) (by omega)
          have p1 : j * (1000 + wd) ≤ 1000 * 1100 := Int.mul_le_mul (by omega) (by omega) (by omega) (by omega)
          obtain ⟨t, ht⟩ : ∃ t, j * (1000 + wd) = t := ⟨_, rfl⟩
          rw [ht] at p0 p1
          have HT := Lib.hid ht
          by_cases hz : t % 1000 = 0
          · have hz1 : (t % 1000 != 0) = false := by simpa using hz
            have hr : Hid (t / 1000 = cdiv t 1000) := by show _ = _; unfold cdiv; omega
            go_wp2
            refine bodyPost_ret (v := .agg #[.int .i64 k, .int .i64 (t / 1000)]) (by simp [results, Try.results19, go_sem]) rfl ⟨?_, ?_⟩
            · rw [HS.out, ← HL2.out, ← HL3.out, HT.out, hr.out]
            · exact (Below.refl _ _).alloc (Nat.le_refl _) _
          · have hz1 : (t % 1000 != 0) = true := by simpa using hz
            have hr : Hid ((t + 1000) / 1000 = cdiv t 1000) := by show _ = _; unfold cdiv; omega
            go_wp2
            refine bodyPost_ret (v := .agg #[.int .i64 k, .int .i64 ((t + 1000) / 1000)]) (by simp [results, Try.results19, go_sem]) rfl ⟨?_, ?_⟩
            · rw [HS.out, ← HL2.out, ← HL3.out, HT.out, hr.out]
            · exact (Below.refl _ _).alloc (Nat.le_refl _) _
end Go.Proofs.Ytmidkopiiifakaa
