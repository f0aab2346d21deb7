import Derived.Test.YtapgmibkdlcljaaBase

/- Rules and trips as plain functions. -/
namespace Go.Proofs.Ytapgmibkdlcljaa
structure Rul where
  drive : Int
  stint : Int
  brk : Int
  rest : Int
def Rul.ok (r : Rul) : Bool := inB r.drive 1 24 && (inB r.stint 1 r.drive && (inB r.brk 0 8 && inB r.rest 0 24))
theorem Rul.ok_iff {r : Rul} : r.ok = true ↔ (1 ≤ r.drive ∧ r.drive ≤ 24) ∧ (1 ≤ r.stint ∧ r.stint ≤ r.drive) ∧ (0 ≤ r.brk ∧ r.brk ≤ 8) ∧ (0 ≤ r.rest ∧ r.rest ≤ 24) := by
  simp [Rul.ok, inB_true]
def Rul.breaks (r : Rul) (h : Int) : Int := (h - 1) / r.stint * r.brk
/-- What a trip of n hours of driving takes. -/
def Rul.takes (r : Rul) (n : Int) : Int := if n = 0 then 0 else n + (n - 1) / r.drive * (r.breaks r.drive + r.rest) + r.breaks (n - (n - 1) / r.drive * r.drive)
/-- The hours of driving of the last shift behind n hours. -/
def Rul.shift (r : Rul) (n : Int) : Int := if n = 0 then 0 else (n - 1) % r.drive + 1

theorem div_step {n d : Int} (hd : 1 ≤ d) : if n % d + 1 = d then (n + 1) / d = n / d + 1 ∧ (n + 1) % d = 0 else (n + 1) / d = n / d ∧ (n + 1) % d = n % d + 1 := by
  have h1 := Int.emod_add_mul_ediv n d
  have h2 := Int.emod_nonneg n (show d ≠ 0 by omega)
  have h3 := Int.emod_lt_of_pos n (show 0 < d by omega)
  split
  · rename_i h
    refine (Int.ediv_emod_unique (by omega)).2 ⟨?_, by omega, by omega⟩
    rw [Int.mul_add]
    omega
  · refine (Int.ediv_emod_unique (by omega)).2 ⟨by omega, by omega, by omega⟩
theorem last_eq {n d : Int} : n - (n - 1) / d * d = (n - 1) % d + 1 := by
  have h1 := Int.emod_add_mul_ediv (n - 1) d
  rw [Int.mul_comm] at h1
  omega
theorem mul_in {a b x y : Int} (h1 : 0 ≤ a) (h2 : a ≤ x) (h3 : 0 ≤ b) (h4 : b ≤ y) : 0 ≤ a * b ∧ a * b ≤ x * y :=
  ⟨Int.mul_nonneg h1 h3, Int.mul_le_mul h2 h4 h3 (by omega)⟩
theorem div_in {n d m : Int} (h1 : 0 ≤ n) (h2 : n ≤ m) (h3 : 1 ≤ d) : 0 ≤ n / d ∧ n / d ≤ m :=
  ⟨Int.ediv_nonneg h1 (by omega), Int.le_trans (Int.ediv_le_self _ h1) h2⟩
theorem breaks_in {r : Rul} (h : r.ok = true) {n : Int} (h1 : 1 ≤ n) (h2 : n ≤ 24) : 0 ≤ r.breaks n ∧ r.breaks n ≤ 184 := by
  obtain ⟨_, ⟨s1, s2⟩, ⟨b1, b2⟩, _⟩ := Rul.ok_iff.1 h
  obtain ⟨q1, q2⟩ := div_in (n := n - 1) (m := 23) (by omega) (by omega) s1
  exact mul_in q1 q2 b1 b2
theorem shift_in {r : Rul} (h : r.ok = true) {n : Int} (_h1 : 0 ≤ n) : 0 ≤ r.shift n ∧ r.shift n ≤ r.drive ∧ (n ≠ 0 → 1 ≤ r.shift n) := by
  obtain ⟨⟨d1, d2⟩, _⟩ := Rul.ok_iff.1 h
  unfold Rul.shift
  have h2 := Int.emod_nonneg (n - 1) (show r.drive ≠ 0 by omega)
  have h3 := Int.emod_lt_of_pos (n - 1) (show 0 < r.drive by omega)
  split <;> omega
theorem takes_shift {r : Rul} {n : Int} (hn : n ≠ 0) : r.takes n = n + (n - 1) / r.drive * (r.breaks r.drive + r.rest) + r.breaks (r.shift n) := by
  rw [Rul.takes, if_neg hn, last_eq, Rul.shift, if_neg hn]
theorem takes_in {r : Rul} (h : r.ok = true) {n : Int} (h1 : 0 ≤ n) (h2 : n ≤ 201) : n ≤ r.takes n ∧ r.takes n ≤ 50000 := by
  obtain ⟨⟨d1, d2⟩, ⟨s1, s2⟩, ⟨b1, b2⟩, ⟨r1, r2⟩⟩ := Rul.ok_iff.1 h
  by_cases hn : n = 0
  · subst hn; simp [Rul.takes]
  · rw [takes_shift hn]
    obtain ⟨k1, k2, k3⟩ := shift_in h h1
    obtain ⟨x1, x2⟩ := breaks_in h (k3 hn) (by omega)
    obtain ⟨y1, y2⟩ := breaks_in h d1 d2
    obtain ⟨q1, q2⟩ := div_in (n := n - 1) (m := 200) (by omega) (by omega) d1
    obtain ⟨p1, p2⟩ := mul_in q1 q2 (show 0 ≤ r.breaks r.drive + r.rest by omega) (show r.breaks r.drive + r.rest ≤ 208 by omega)
    omega
/-- One hour more. -/
theorem takes_step {r : Rul} (h : r.ok = true) {n : Int} (h1 : 0 ≤ n) : r.takes (n + 1) = r.takes n + (if r.shift n = r.drive then r.rest else if 0 < r.shift n ∧ r.shift n % r.stint = 0 then r.brk else 0) + 1
    ∧ r.shift (n + 1) = (if r.shift n = r.drive then 0 else r.shift n) + 1 := by
  obtain ⟨⟨d1, d2⟩, ⟨s1, s2⟩, ⟨b1, b2⟩, ⟨r1, r2⟩⟩ := Rul.ok_iff.1 h
  have hbz : r.breaks 1 = 0 := by simp [Rul.breaks]
  by_cases hn : n = 0
  · subst hn
    have e0 : r.shift 0 = 0 := by simp [Rul.shift]
    have e1 : r.shift 1 = 1 := by simp [Rul.shift]
    have e2 : r.takes 0 = 0 := by simp [Rul.takes]
    have e3 : r.takes 1 = 1 := by rw [takes_shift (by omega), e1, hbz]; simp
    rw [show (0 : Int) + 1 = 1 from rfl, e0, e1, e2, e3, if_neg (by omega), if_neg (by omega)]
    omega
  · have hs : r.shift n = (n - 1) % r.drive + 1 := by rw [Rul.shift, if_neg hn]
    have hs' : r.shift (n + 1) = n % r.drive + 1 := by rw [Rul.shift, if_neg (by omega), show n + 1 - 1 = n by omega]
    have ht : r.takes (n + 1) = n + 1 + n / r.drive * (r.breaks r.drive + r.rest) + r.breaks (r.shift (n + 1)) := by rw [takes_shift (by omega), show n + 1 - 1 = n by omega]
    have hd := div_step (n := n - 1) d1
    rw [show n - 1 + 1 = n by omega] at hd
    by_cases hc : r.shift n = r.drive
    · rw [if_pos (by omega)] at hd
      rw [if_pos hc, if_pos hc, ht, takes_shift hn, hs', hd.1, hd.2, hc, Int.add_mul, show (0 : Int) + 1 = 1 from rfl, hbz]
      omega
    · rw [if_neg (by omega)] at hd
      rw [if_neg hc, if_neg hc, ht, takes_shift hn, hs', hd.1, hd.2, ← hs]
      have h2 := Int.emod_nonneg (n - 1) (show r.drive ≠ 0 by omega)
      have hp : 0 < r.shift n := by omega
      have hb := div_step (n := r.shift n - 1) s1
      rw [show r.shift n - 1 + 1 = r.shift n by omega] at hb
      have hm := Int.emod_nonneg (r.shift n - 1) (show r.stint ≠ 0 by omega)
      have e4 : r.breaks (r.shift n + 1) = r.shift n / r.stint * r.brk := by rw [Rul.breaks, show r.shift n + 1 - 1 = r.shift n by omega]
      have e5 : r.breaks (r.shift n) = (r.shift n - 1) / r.stint * r.brk := rfl
      rw [e4, e5]
      split at hb
      · rw [hb.1, if_pos ⟨hp, hb.2⟩, Int.add_mul]
        omega
      · rw [hb.1, if_neg (by omega)]
        omega
theorem takes_next {r : Rul} (h : r.ok = true) {n : Int} (h1 : 0 ≤ n) : r.takes n + 1 ≤ r.takes (n + 1) := by
  obtain ⟨⟨d1, d2⟩, ⟨s1, s2⟩, ⟨b1, b2⟩, ⟨r1, r2⟩⟩ := Rul.ok_iff.1 h
  rw [(takes_step h h1).1]
  split
  · omega
  · split <;> omega
theorem breaks_mono {r r2 : Rul} (h : r.ok = true) (hs : r2.stint = r.stint) (hb : r.brk ≤ r2.brk) {n : Int} (h1 : 1 ≤ n) : r.breaks n ≤ r2.breaks n := by
  obtain ⟨_, ⟨s1, s2⟩, _⟩ := Rul.ok_iff.1 h
  unfold Rul.breaks
  rw [hs]
  exact Int.mul_le_mul_of_nonneg_left hb (Int.ediv_nonneg (by omega) (by omega))
theorem takes_mono {r r2 : Rul} (h : r.ok = true) (hd : r2.drive = r.drive) (hs : r2.stint = r.stint) (hb : r.brk ≤ r2.brk) (hr : r.rest ≤ r2.rest) {n : Int} (h1 : 0 ≤ n) : r.takes n ≤ r2.takes n := by
  obtain ⟨⟨d1, d2⟩, _⟩ := Rul.ok_iff.1 h
  by_cases hn : n = 0
  · subst hn; simp [Rul.takes]
  · have e : r2.shift n = r.shift n := by rw [Rul.shift, Rul.shift, hd]
    rw [takes_shift hn, takes_shift hn, e, hd]
    obtain ⟨k1, k2, k3⟩ := shift_in h h1
    have m1 := breaks_mono h hs hb (k3 hn)
    have m2 := breaks_mono h hs hb d1
    have m3 : (n - 1) / r.drive * (r.breaks r.drive + r.rest) ≤ (n - 1) / r.drive * (r2.breaks r.drive + r2.rest) := Int.mul_le_mul_of_nonneg_left (by omega) (Int.ediv_nonneg (by omega) (by omega))
    omega
theorem takes_stint {r : Rul} (h : r.ok = true) {n : Int} (h1 : 0 ≤ n) (h2 : n ≤ r.stint) : r.takes n = n := by
  obtain ⟨⟨d1, d2⟩, ⟨s1, s2⟩, _⟩ := Rul.ok_iff.1 h
  by_cases hn : n = 0
  · subst hn; simp [Rul.takes]
  · have e1 : (n - 1) / r.drive = 0 := Int.ediv_eq_zero_of_lt (by omega) (by omega)
    have e2 : (n - 1) / r.stint = 0 := Int.ediv_eq_zero_of_lt (by omega) (by omega)
    rw [Rul.takes, if_neg hn, e1, Rul.breaks, Rul.breaks, Int.zero_mul, Int.zero_mul, Int.sub_zero, e2, Int.zero_mul]
    omega
end Go.Proofs.Ytapgmibkdlcljaa
