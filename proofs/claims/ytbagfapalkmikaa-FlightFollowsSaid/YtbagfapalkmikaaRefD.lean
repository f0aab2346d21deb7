import Derived.Test.YtbagfapalkmikaaRefC

/- The load by the document's words. -/
namespace Go.Proofs.Ytbagfapalkmikaa
open Go.RowKit Go.Shelf
theorem max4 (a b c d : Int) : max (max (max a b) c) d = max (max a b) (max c d) := by omega
theorem cdiv_exact {n s : Int} (hs : 1 ≤ s) (h : n % s = 0) : cdiv n s = n / s := by
  unfold cdiv
  obtain ⟨q, hq⟩ : ∃ q, n / s = q := ⟨_, rfl⟩
  have h1 := Int.mul_ediv_add_emod n s
  rw [h, hq, Int.add_zero] at h1
  rw [hq, ← h1, show s * q + s - 1 = (s - 1) + s * q by omega, Int.add_mul_ediv_left _ _ (by omega), Int.ediv_eq_zero_of_lt (by omega) (by omega)]
  omega
theorem cdiv_over {n s : Int} (hs : 1 ≤ s) (h : ¬ n % s = 0) : cdiv n s = n / s + 1 := by
  unfold cdiv
  obtain ⟨q, hq⟩ : ∃ q, n / s = q := ⟨_, rfl⟩
  have h1 := Int.mul_ediv_add_emod n s
  have h2 := Int.emod_nonneg n (show s ≠ 0 by omega)
  have h3 := Int.emod_lt_of_pos n (show 0 < s by omega)
  obtain ⟨r, hr⟩ : ∃ r, n % s = r := ⟨_, rfl⟩
  rw [hr] at h h1 h2 h3
  rw [hq] at h1
  rw [hq, ← h1, show s * q + r + s - 1 = (s + (r - 1)) + s * q by omega, Int.add_mul_ediv_left _ _ (by omega), show s + (r - 1) = (r - 1) + s * 1 by omega, Int.add_mul_ediv_left _ _ (by omega), Int.ediv_eq_zero_of_lt (by omega) (by omega)]
  omega
set_option maxRecDepth 100000 in
set_option maxHeartbeats 8000000 in
theorem refLoad_any (f : Flt) (A : Option Addr) (cc : Nat) (t : Int) (w : World) (hf : f.ok = true) (ht : 0 ≤ t ∧ t ≤ 300) :
    Calls Try.prog 26 #[.agg #[.int .i64 f.fly.pos.x.lo, .int .i64 f.fly.pos.x.hi, .int .i64 f.fly.pos.z.lo, .int .i64 f.fly.pos.z.hi, .int .i64 f.fly.speed.x.lo, .int .i64 f.fly.speed.x.hi, .int .i64 f.fly.speed.z.lo, .int .i64 f.fly.speed.z.hi, .int .i64 f.fly.mass, .slice A f.cycle.length cc, .int .i64 f.reach, .int .i64 f.soft, .int .i64 f.bears, .int .i64 f.least, .int .i64 f.most], .int .i64 t] w fun e w' => e = .returned (.int .i64 (f.load t)) ∧ Below w.heap.size w w' := by
  obtain ⟨hfl, _, _, _, ⟨so1, so2⟩, _, _, _, _⟩ := Flt.ok_iff.1 hf
  obtain ⟨_, hs, ma1, ma2⟩ := Fly.ok_iff.1 hfl
  obtain ⟨⟨s1, s2, s3⟩, s4, s5, s6⟩ := Bx.inside_iff.1 hs
  obtain ⟨k1, k2⟩ := fast_bounds hs ht
  obtain ⟨a, ha⟩ : ∃ x, sizeI f.fly.speed.x.lo = x := ⟨_, rfl⟩
  obtain ⟨b, hb⟩ : ∃ x, sizeI f.fly.speed.x.hi = x := ⟨_, rfl⟩
  obtain ⟨c, hc⟩ : ∃ x, sizeI (f.fly.speed.z.lo - 98 * t) = x := ⟨_, rfl⟩
  obtain ⟨d, hd⟩ : ∃ x, sizeI (f.fly.speed.z.hi - 98 * t) = x := ⟨_, rfl⟩
  have S1 : Hid (∀ W : World, Calls Try.prog 59 #[.int .i64 f.fly.speed.x.lo] W fun e w' => e = .returned (.int .i64 a) ∧ w' = W) := fun W => by rw [← ha]; exact (size_any _ W ⟨by omega, by omega⟩).mono fun _ _ h => ⟨h.1, h.2.symm⟩
  have S2 : Hid (∀ W : World, Calls Try.prog 59 #[.int .i64 f.fly.speed.x.hi] W fun e w' => e = .returned (.int .i64 b) ∧ w' = W) := fun W => by rw [← hb]; exact (size_any _ W ⟨by omega, by omega⟩).mono fun _ _ h => ⟨h.1, h.2.symm⟩
  have S3 : Hid (∀ W : World, Calls Try.prog 59 #[.int .i64 (f.fly.speed.z.lo - 98 * t)] W fun e w' => e = .returned (.int .i64 c) ∧ w' = W) := fun W => by rw [← hc]; exact (size_any _ W ⟨by omega, by omega⟩).mono fun _ _ h => ⟨h.1, h.2.symm⟩
  have S4 : Hid (∀ W : World, Calls Try.prog 59 #[.int .i64 (f.fly.speed.z.hi - 98 * t)] W fun e w' => e = .returned (.int .i64 d) ∧ w' = W) := fun W => by rw [← hd]; exact (size_any _ W ⟨by omega, by omega⟩).mono fun _ _ h => ⟨h.1, h.2.symm⟩
  have hM : f.fly.fast t = max (max (max a b) c) d := by rw [max4, ← ha, ← hb, ← hc, ← hd]; rfl
  have hLD : f.load t = f.fly.mass * (98 + cdiv (f.fly.fast t) f.soft) := rfl
  obtain ⟨m, hm⟩ : ∃ x, f.fly.fast t = x := ⟨_, rfl⟩
  rw [hm] at k1 k2 hLD hM
  have hmax : ∀ (ts : Array TypeId) (ty : TypeId) (W : World), (Builtin.max_ ts ty #[.int .i64 a, .int .i64 b, .int .i64 c, .int .i64 d]).run Try.prog W = .ok (.int .i64 m) W := by
    intro ts ty W
    rw [hM]
    simp [Builtin.max_, Builtin.max2]
    (repeat' split) <;> omega
  have HLD := Lib.hid hLD
  have q0 : 0 ≤ m / f.soft := Int.ediv_nonneg k1 (by omega)
  have q1 : m / f.soft ≤ m := Int.ediv_le_self _ k1
  have z1 : ¬ f.soft = 0 := by omega
  have z2 : (f.soft == 0) = false := by simp; omega
  have HS := Lib.hid so1
  have HT := Lib.hid ht
  clear ha hb hc hd hM hm hLD hf hfl hs ht
  obtain ⟨t1, t2⟩ := HT.out
  by_cases hz : m % f.soft = 0
  · have hz1 : (m % f.soft != 0) = false := by simpa using hz
    have HE : Hid (f.fly.mass * (98 + m / f.soft) = f.load t) := by show _ = _; rw [HLD.out, cdiv_exact HS.out hz]
    have HZ := Lib.hid hz
    have p0 : 0 ≤ f.fly.mass * (98 + m / f.soft) := Int.mul_nonneg (by omega) (by omega)
    have p1 : f.fly.mass * (98 + m / f.soft) ≤ 200 * 40000 := Int.mul_le_mul (by omega) (by omega) (by omega) (by omega)
    clear hz
    go_enter Try.func26, Try.ntmps26
    go_wp2
    go_quiet (first | (go_at_call 59; exact Calls.quiet_of_same (S1.out _)) | (go_at_call 59; exact Calls.quiet_of_same (S2.out _)) | (go_at_call 59; exact Calls.quiet_of_same (S3.out _)) | (go_at_call 59; exact Calls.quiet_of_same (S4.out _)))
    go_wp2
    go_ret
    exact ⟨ret_int HE.out, below_drewN (((Below.refl _ _).alloc (Nat.le_refl _) _).alloc (by simp) _) _⟩
  · have hz1 : (m % f.soft != 0) = true := by simpa using hz
    have HE : Hid (f.fly.mass * (98 + (m / f.soft + 1)) = f.load t) := by show _ = _; rw [HLD.out, cdiv_over HS.out hz]
    have HZ := Lib.hid hz
    have p0 : 0 ≤ f.fly.mass * (98 + (m / f.soft + 1)) := Int.mul_nonneg (by omega) (by omega)
    have p1 : f.fly.mass * (98 + (m / f.soft + 1)) ≤ 200 * 40000 := Int.mul_le_mul (by omega) (by omega) (by omega) (by omega)
    clear hz
    go_enter Try.func26, Try.ntmps26
    go_wp2
    go_quiet (first | (go_at_call 59; exact Calls.quiet_of_same (S1.out _)) | (go_at_call 59; exact Calls.quiet_of_same (S2.out _)) | (go_at_call 59; exact Calls.quiet_of_same (S3.out _)) | (go_at_call 59; exact Calls.quiet_of_same (S4.out _)))
    go_wp2
    go_ret
    exact ⟨ret_int HE.out, below_drewN (((Below.refl _ _).alloc (Nat.le_refl _) _).alloc (by simp) _) _⟩
end Go.Proofs.Ytbagfapalkmikaa
