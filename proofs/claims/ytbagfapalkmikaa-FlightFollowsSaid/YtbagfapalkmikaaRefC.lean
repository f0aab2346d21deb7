import Derived.Test.YtbagfapalkmikaaRefG

/- Boxes after some ticks, loads and nearness, by the document's words. -/
namespace Go.Proofs.Ytbagfapalkmikaa
open Go.RowKit Go.Shelf
theorem size_any (n : Int) (w : World) (hn : -1000000000000 ≤ n ∧ n ≤ 1000000000000) : Calls Try.prog 59 #[.int .i64 n] w fun e w' => e = .returned (.int .i64 (sizeI n)) ∧ w = w' := by
  obtain ⟨n1, n2⟩ := hn
  have hmax : ∀ (ts : Array TypeId) (t : TypeId) (W : World), (Builtin.max_ ts t #[.int .i64 n, .int .i64 (-n)]).run Try.prog W = .ok (.int .i64 (max n (-n))) W := by
    intro ts t W
    have : (if -n > n then -n else n) = max n (-n) := by split <;> omega
    simp [Builtin.max_, Builtin.max2]
    omega
  have HS : Hid (sizeI n = max n (-n)) := rfl
  go_enter Try.func59, Try.ntmps59
  go_wp2
  go_ret
  exact ⟨ret_int HS.out.symm, rfl⟩
set_option maxHeartbeats 4000000 in
theorem refAfter_any (f : Fly) (t : Int) (w : World) (hf : f.ok = true) (ht : 0 ≤ t ∧ t ≤ 300) :
    Calls Try.prog 25 #[.agg #[.int .i64 f.pos.x.lo, .int .i64 f.pos.x.hi, .int .i64 f.pos.z.lo, .int .i64 f.pos.z.hi, .int .i64 f.speed.x.lo, .int .i64 f.speed.x.hi, .int .i64 f.speed.z.lo, .int .i64 f.speed.z.hi, .int .i64 f.mass], .int .i64 t] w fun e w' => e = .returned (.agg #[.int .i64 (f.after t).x.lo, .int .i64 (f.after t).x.hi, .int .i64 (f.after t).z.lo, .int .i64 (f.after t).z.hi]) ∧ Below w.heap.size w w' := by
  obtain ⟨hp, hs, _, _⟩ := Fly.ok_iff.1 hf
  obtain ⟨⟨p1, p2, p3⟩, p4, p5, p6⟩ := Bx.inside_iff.1 hp
  obtain ⟨⟨s1, s2, s3⟩, s4, s5, s6⟩ := Bx.inside_iff.1 hs
  obtain ⟨t1, t2⟩ := tickb ht ⟨s1, show f.speed.x.lo ≤ 10000 by omega⟩
  obtain ⟨t3, t4⟩ := tickb ht ⟨show -10000 ≤ f.speed.x.hi by omega, s3⟩
  obtain ⟨t5, t6⟩ := tickb ht ⟨s4, show f.speed.z.lo ≤ 10000 by omega⟩
  obtain ⟨t7, t8⟩ := tickb ht ⟨show -10000 ≤ f.speed.z.hi by omega, s6⟩
  obtain ⟨g1, g2⟩ := sqb ht
  clear hp hs hf
  go_enter Try.func25, Try.ntmps25
  go_wp2
  refine bodyPost_ret (v := .agg #[.int .i64 (f.after t).x.lo, .int .i64 (f.after t).x.hi, .int .i64 (f.after t).z.lo, .int .i64 (f.after t).z.hi]) (by simp [results, Try.results25, go_sem, Fly.after]) rfl ⟨rfl, ?_⟩
  exact ((Below.refl _ _).alloc (Nat.le_refl _) _).alloc (by simp) _
set_option maxHeartbeats 4000000 in
theorem refNear_any (a b : Rng) (m : Int) (w : World) (ha : -1000000000 ≤ a.lo ∧ a.hi ≤ 1000000000) (ha2 : a.lo ≤ 1000000000 ∧ -1000000000 ≤ a.hi) (hb : -1000000000 ≤ b.lo ∧ b.hi ≤ 1000000000) (hb2 : b.lo ≤ 1000000000 ∧ -1000000000 ≤ b.hi) :
    Calls Try.prog 68 #[.agg #[.int .i64 a.lo, .int .i64 a.hi], .agg #[.int .i64 b.lo, .int .i64 b.hi], .int .i64 m] w fun e w' => e = .returned (.bool (decide (sizeI (a.hi - b.lo) ≤ m) && decide (sizeI (b.hi - a.lo) ≤ m))) ∧ Below w.heap.size w w' := by
  obtain ⟨x, hx⟩ : ∃ x, sizeI (a.hi - b.lo) = x := ⟨_, rfl⟩
  obtain ⟨y, hy⟩ : ∃ y, sizeI (b.hi - a.lo) = y := ⟨_, rfl⟩
  have S1 : Hid (∀ W : World, Calls Try.prog 59 #[.int .i64 (a.hi - b.lo)] W fun e w' => e = .returned (.int .i64 x) ∧ W = w') := fun W => by rw [← hx]; exact size_any _ W ⟨by omega, by omega⟩
  have S2 : Hid (∀ W : World, Calls Try.prog 59 #[.int .i64 (b.hi - a.lo)] W fun e w' => e = .returned (.int .i64 y) ∧ W = w') := fun W => by rw [← hy]; exact size_any _ W ⟨by omega, by omega⟩
  rw [hx, hy]
  clear hx hy
  have HB := Lib.hid ((Below.refl w.heap.size w).alloc (Nat.le_refl _) (.cells #[.int .i64 a.lo, .int .i64 a.hi] 23))
  by_cases h1 : x ≤ m <;> by_cases h2 : y ≤ m
  all_goals
    go_enter Try.func68, Try.ntmps68
    go_wp2_with (first | (go_at_call 59; (with_reducible refine (S1.out _).mono ?_); rintro e w' ⟨rfl, rfl⟩) | (go_at_call 59; (with_reducible refine (S2.out _).mono ?_); rintro e w' ⟨rfl, rfl⟩))
    go_ret
    exact ⟨ret_bool (by simp [h1, h2]), ((Below.refl _ _).alloc (Nat.le_refl _) _).alloc (by simp) _⟩
end Go.Proofs.Ytbagfapalkmikaa
