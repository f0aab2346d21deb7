import Derived.Test.YtbagfapalkmikaaFly

/- Swings as plain functions: the greatest and the least whole numbers that the chapter asks for. -/
namespace Go.Proofs.Ytbagfapalkmikaa
def loFrom (s : Int) : Nat → Int → Int
  | 0, n => n
  | f + 1, n => if (n + 1) * (n + 1) * 980000000 ≤ s then loFrom s f (n + 1) else n
def hiFrom (s : Int) : Nat → Int → Int
  | 0, n => n
  | f + 1, n => if n * n * 980000000 < s then hiFrom s f (n + 1) else n
def swLo (l : Int) : Int := loFrom (39478417600 * l) 1000 0
def swHi (l : Int) : Int := hiFrom (39478418000 * l) 1000 0
def swing (l w : Int) : Rng := ⟨swLo l, cdiv (swHi l * (1000 + w)) 1000⟩

theorem sq_mono {a b : Int} (h0 : 0 ≤ a) (h : a ≤ b) : a * a ≤ b * b := Int.mul_le_mul h h h0 (by omega)
theorem loFrom_step {s : Int} {f : Nat} {n : Int} (h : (n + 1) * (n + 1) * 980000000 ≤ s) : loFrom s (f + 1) n = loFrom s f (n + 1) := by rw [loFrom, if_pos h]
theorem loFrom_stop {s : Int} {f : Nat} {n : Int} (h : ¬ (n + 1) * (n + 1) * 980000000 ≤ s) : loFrom s f n = n := by
  cases f with
  | zero => rfl
  | succ f => rw [loFrom, if_neg h]
theorem hiFrom_step {s : Int} {f : Nat} {n : Int} (h : n * n * 980000000 < s) : hiFrom s (f + 1) n = hiFrom s f (n + 1) := by rw [hiFrom, if_pos h]
theorem hiFrom_stop {s : Int} {f : Nat} {n : Int} (h : ¬ n * n * 980000000 < s) : hiFrom s f n = n := by
  cases f with
  | zero => rfl
  | succ f => rw [hiFrom, if_neg h]
theorem loFrom_spec {s : Int} (hs : s ≤ 980000000000000) : ∀ (f : Nat) (n : Int), 0 ≤ n → n + f = 1000 → n * n * 980000000 ≤ s →
    (loFrom s f n) * (loFrom s f n) * 980000000 ≤ s ∧ s < (loFrom s f n + 1) * (loFrom s f n + 1) * 980000000 ∧ 0 ≤ loFrom s f n ∧ loFrom s f n ≤ 1000
  | 0, n, h0, hf, hn => by
    have : n = 1000 := by omega
    subst this
    exact ⟨hn, by show s < (1000 + 1) * (1000 + 1) * 980000000; omega, by show (0:Int) ≤ 1000; omega, by show (1000:Int) ≤ 1000; omega⟩
  | f + 1, n, h0, hf, hn => by
    rw [loFrom]
    split
    · exact loFrom_spec hs f (n + 1) (by omega) (by omega) (by assumption)
    · exact ⟨hn, by omega, h0, by omega⟩
theorem hiFrom_spec {s : Int} (hs : s ≤ 980000000000000) : ∀ (f : Nat) (n : Int), 0 ≤ n → n + f = 1000 → (n = 0 ∨ (n - 1) * (n - 1) * 980000000 < s) →
    s ≤ (hiFrom s f n) * (hiFrom s f n) * 980000000 ∧ (hiFrom s f n = 0 ∨ (hiFrom s f n - 1) * (hiFrom s f n - 1) * 980000000 < s) ∧ 0 ≤ hiFrom s f n ∧ hiFrom s f n ≤ 1000
  | 0, n, h0, hf, hn => by
    have : n = 1000 := by omega
    subst this
    exact ⟨by show s ≤ 1000 * 1000 * 980000000; omega, hn, by show (0:Int) ≤ 1000; omega, by show (1000:Int) ≤ 1000; omega⟩
  | f + 1, n, h0, hf, hn => by
    rw [hiFrom]
    split
    · rename_i h
      exact hiFrom_spec hs f (n + 1) (by omega) (by omega) (.inr (by rw [show n + 1 - 1 = n from by omega]; exact h))
    · exact ⟨by omega, hn, h0, by omega⟩
theorem swLo_spec {l : Int} (h1 : 1 ≤ l) (h2 : l ≤ 20000) : swLo l * swLo l * 980000000 ≤ 39478417600 * l ∧ 39478417600 * l < (swLo l + 1) * (swLo l + 1) * 980000000 ∧ 0 ≤ swLo l ∧ swLo l ≤ 1000 :=
  loFrom_spec (by omega) 1000 0 (by omega) (by omega) (by omega)
theorem swHi_spec {l : Int} (h1 : 1 ≤ l) (h2 : l ≤ 20000) : 39478418000 * l ≤ swHi l * swHi l * 980000000 ∧ (swHi l = 0 ∨ (swHi l - 1) * (swHi l - 1) * 980000000 < 39478418000 * l) ∧ 0 ≤ swHi l ∧ swHi l ≤ 1000 :=
  hiFrom_spec (by omega) 1000 0 (by omega) (by omega) (.inl rfl)
theorem swLo_mono {a b : Int} (h1 : 1 ≤ a) (h : a ≤ b) (h2 : b ≤ 20000) : swLo a ≤ swLo b := by
  obtain ⟨p1, p2, p3, p4⟩ := swLo_spec h1 (by omega)
  obtain ⟨q1, q2, q3, q4⟩ := swLo_spec (l := b) (by omega) h2
  refine Int.not_lt.1 fun hc => ?_
  have := sq_mono (a := swLo b + 1) (b := swLo a) (by omega) (by omega)
  omega
theorem hi_le {l m t : Int} (hm : t * t * 980000000 ≥ 39478418000 * l) (h0 : 0 ≤ t) (hs : m = 0 ∨ (m - 1) * (m - 1) * 980000000 < 39478418000 * l) : m ≤ t := by
  refine Int.not_lt.1 fun hc => ?_
  rcases hs with hs | hs
  · omega
  · have := sq_mono (a := t) (b := m - 1) h0 (by omega)
    omega
theorem swHi_mono {a b : Int} (h1 : 1 ≤ a) (h : a ≤ b) (h2 : b ≤ 20000) : swHi a ≤ swHi b := by
  obtain ⟨p1, p2, p3, p4⟩ := swHi_spec h1 (by omega)
  obtain ⟨q1, q2, q3, q4⟩ := swHi_spec (l := b) (by omega) h2
  exact hi_le (l := a) (by omega) q3 p2
theorem sw_le {l : Int} (h1 : 1 ≤ l) (h2 : l ≤ 20000) : swLo l ≤ swHi l ∧ swHi l - swLo l ≤ 2 := by
  obtain ⟨p1, p2, p3, p4⟩ := swLo_spec h1 h2
  obtain ⟨q1, q2, q3, q4⟩ := swHi_spec h1 h2
  constructor
  · refine Int.not_lt.1 fun hc => ?_
    have := sq_mono (a := swHi l) (b := swLo l) q3 (by omega)
    omega
  · refine Int.not_lt.1 fun hc => ?_
    rcases q2 with q2 | q2
    · omega
    · have h3 := sq_mono (a := swLo l + 2) (b := swHi l - 1) (by omega) (by omega)
      have h4 : (swLo l + 2) * (swLo l + 2) = (swLo l + 1) * (swLo l + 1) + (2 * swLo l + 3) := by grind
      omega
theorem cdiv_thousand {t : Int} : cdiv (t * (1000 + 0)) 1000 = t := by unfold cdiv; omega
theorem swing_flat {l : Int} : swing l 0 = ⟨swLo l, swHi l⟩ := by unfold swing; rw [cdiv_thousand]
theorem cdiv_wide {t w : Int} (h0 : 0 ≤ t) (hw : 0 ≤ w) : t ≤ cdiv (t * (1000 + w)) 1000 := by
  have h1 : t * (1000 + w) = t * 1000 + t * w := Int.mul_add _ _ _
  have h2 : 0 ≤ t * w := Int.mul_nonneg h0 hw
  unfold cdiv; omega
/-- The same least number, asked for from the greatest one on. -/
theorem hi_from_lo {l : Int} (h1 : 1 ≤ l) (h2 : l ≤ 20000) {f : Nat} (hf : swLo l + f = 1000) : hiFrom (39478418000 * l) f (swLo l) = swHi l := by
  obtain ⟨p1, p2, p3, p4⟩ := swLo_spec h1 h2
  obtain ⟨q1, q2, q3, q4⟩ := swHi_spec h1 h2
  have hlo : swLo l = 0 ∨ (swLo l - 1) * (swLo l - 1) * 980000000 < 39478418000 * l := by
    by_cases h : swLo l = 0
    · exact .inl h
    · have := sq_mono (a := swLo l - 1) (b := swLo l) (by omega) (by omega)
      exact .inr (by omega)
  obtain ⟨r1, r2, r3, r4⟩ := hiFrom_spec (s := 39478418000 * l) (by omega) f (swLo l) p3 hf hlo
  have a1 := hi_le (l := l) r1 r3 q2
  have a2 := hi_le (l := l) q1 q3 r2
  omega
end Go.Proofs.Ytbagfapalkmikaa
