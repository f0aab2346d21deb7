import Derived.Test.YtibaindlbpfecaaGeoA

namespace Go.Proofs.Ytibaindlbpfecaa
open Go.RowKit

/-! What forces can do together in the plane: where no direction at right angles to a force, and none along an axis, is too weak, some set of forces pulls fully and at most two more, on different lines, in part. -/
def lin (m : Int) (x : Vec) (n : Int) (y : Vec) : Vec := ⟨m * x.x + n * y.x, m * x.y + n * y.y⟩
theorem lin_dot (m n : Int) (x y v : Vec) : (lin m x n y).dot v = m * x.dot v + n * y.dot v := by unfold lin Vec.dot; simp only; grind
theorem help_cons (a : Vec) (f : List Vec) (d : Vec) : helpM (a :: f) d = max 0 (-(d.dot a)) + helpM f d := by
  have key : ∀ (f : List Vec) (n : Int), f.foldl (fun n v => n + max 0 (-(d.dot v))) n = n + f.foldl (fun n v => n + max 0 (-(d.dot v))) 0 := by
    intro f
    induction f with
    | nil => intro n; simp
    | cons b f ih => intro n; rw [List.foldl_cons, List.foldl_cons, ih, ih (0 + _)]; omega
  unfold helpM
  rw [List.foldl_cons, key]; omega
theorem help_nil (d : Vec) : helpM [] d = 0 := rfl
theorem max_lin {m n X Y : Int} (hm : 0 ≤ m) (hn : 0 ≤ n) : max 0 (-(m * X + n * Y)) ≤ m * max 0 (-X) + n * max 0 (-Y) := by
  have h1 := Int.mul_le_mul_of_nonneg_left (Int.le_max_right 0 (-X)) hm
  have h2 := Int.mul_le_mul_of_nonneg_left (Int.le_max_right 0 (-Y)) hn
  have h3 := Int.mul_nonneg hm (Int.le_max_left 0 (-X))
  have h4 := Int.mul_nonneg hn (Int.le_max_left 0 (-Y))
  rw [Int.mul_neg] at h1 h2
  omega
theorem help_lin {m n : Int} (hm : 0 ≤ m) (hn : 0 ≤ n) (x y : Vec) : ∀ f : List Vec, helpM f (lin m x n y) ≤ m * helpM f x + n * helpM f y := by
  intro f
  induction f with
  | nil => simp [help_nil]
  | cons a f ih =>
    rw [help_cons, help_cons, help_cons, lin_dot, Int.mul_add, Int.mul_add]
    have := max_lin (X := x.dot a) (Y := y.dot a) hm hn
    omega
theorem times_dot' (k : Int) (d v : Vec) : (d.times k).dot v = k * d.dot v := by unfold Vec.times Vec.dot; simp only; grind
theorem help_scale {k : Int} (hk : 0 ≤ k) (d : Vec) : ∀ f : List Vec, helpM f (d.times k) = k * helpM f d := by
  intro f
  induction f with
  | nil => simp [help_nil]
  | cons a f ih =>
    rw [help_cons, help_cons, ih, times_dot', Int.mul_add]
    by_cases h : 0 ≤ d.dot a
    · have := Int.mul_nonneg hk h
      rw [show max 0 (-(d.dot a)) = 0 from by omega, show max 0 (-(k * d.dot a)) = 0 from by omega, Int.mul_zero]
    · have := Int.mul_nonneg hk (show 0 ≤ -(d.dot a) by omega)
      rw [Int.mul_neg] at this
      rw [show max 0 (-(d.dot a)) = -(d.dot a) from by omega, show max 0 (-(k * d.dot a)) = -(k * d.dot a) from by omega, Int.mul_neg]

/-- Numbers a/b between 0 and q that keep all constraints from below: the least one. -/
theorem fit_low {q : Int} (hq : 0 ≤ q) : ∀ (D : List (Int × Int)), (∀ x ∈ D, x.1 < 0 → -x.2 ≤ q * (-x.1)) →
    ∃ a b : Int, 0 < b ∧ 0 ≤ a ∧ a ≤ b * q ∧ (∀ x ∈ D, x.1 < 0 → a * x.1 ≤ b * x.2) ∧ (a = 0 ∨ ∃ x ∈ D, x.1 < 0 ∧ a = -x.2 ∧ b = -x.1) := by
  intro D
  induction D with
  | nil => intro _; exact ⟨0, 1, by omega, by omega, by omega, by simp, .inl rfl⟩
  | cons y D ih =>
    intro h
    obtain ⟨a, b, hb, ha, hab, hl, hor⟩ := ih (fun x hx => h x (List.mem_cons_of_mem _ hx))
    have hor' : a = 0 ∨ ∃ x ∈ y :: D, x.1 < 0 ∧ a = -x.2 ∧ b = -x.1 := by
      rcases hor with h0 | ⟨x, hx, hr⟩
      · exact .inl h0
      · exact .inr ⟨x, List.mem_cons_of_mem _ hx, hr⟩
    by_cases hy : y.1 < 0
    · by_cases hk : a * y.1 ≤ b * y.2
      · refine ⟨a, b, hb, ha, hab, ?_, hor'⟩
        intro x hx
        rcases List.mem_cons.1 hx with rfl | hx
        · exact fun _ => hk
        · exact hl x hx
      · have hc := h y (by simp) hy
        have hay : a * y.1 ≤ 0 := Int.mul_nonpos_of_nonneg_of_nonpos ha (by omega)
        have hy2 : y.2 < 0 := by
          rcases Int.lt_or_le y.2 0 with h1 | h1
          · exact h1
          · have := Int.mul_nonneg (Int.le_of_lt hb) h1; omega
        refine ⟨-y.2, -y.1, by omega, by omega, by rw [Int.mul_comm]; exact hc, ?_, .inr ⟨y, by simp, hy, rfl, rfl⟩⟩
        intro x hx hx0
        rcases List.mem_cons.1 hx with rfl | hx
        · rw [Int.neg_mul, Int.neg_mul, Int.mul_comm]; exact Int.le_refl _
        · have h1 := hl x hx hx0
          have h2 : a * y.1 * -x.1 ≥ b * y.2 * -x.1 := Int.mul_le_mul_of_nonneg_right (by omega) (by omega)
          have h3 : a * x.1 * -y.1 ≤ b * x.2 * -y.1 := Int.mul_le_mul_of_nonneg_right h1 (by omega)
          have h4 : b * (-y.2 * x.1) ≤ b * (-y.1 * x.2) := by grind
          exact Int.le_of_mul_le_mul_left h4 hb
    · refine ⟨a, b, hb, ha, hab, ?_, hor'⟩
      intro x hx hx0
      rcases List.mem_cons.1 hx with rfl | hx
      · exact absurd hx0 hy
      · exact hl x hx hx0
theorem fit {q : Int} (hq : 0 ≤ q) (D : List (Int × Int)) (h1 : ∀ x ∈ D, x.1 < 0 → -x.2 ≤ q * (-x.1)) (h2 : ∀ x ∈ D, 0 ≤ x.1 → 0 ≤ x.2)
    (h3 : ∀ x ∈ D, ∀ y ∈ D, x.1 < 0 → 0 < y.1 → 0 ≤ y.2 * (-x.1) + x.2 * y.1) : ∃ a b : Int, 0 < b ∧ 0 ≤ a ∧ a ≤ b * q ∧ ∀ x ∈ D, a * x.1 ≤ b * x.2 := by
  obtain ⟨a, b, hb, ha, hab, hl, hor⟩ := fit_low hq D h1
  refine ⟨a, b, hb, ha, hab, fun x hx => ?_⟩
  by_cases hx0 : x.1 < 0
  · exact hl x hx hx0
  · have hx2 := h2 x hx (by omega)
    rcases hor with rfl | ⟨y, hy, hy0, rfl, rfl⟩
    · have := Int.mul_nonneg (Int.le_of_lt hb) hx2
      omega
    · by_cases hz : x.1 = 0
      · have := Int.mul_nonneg (show 0 ≤ -y.1 by omega) hx2
        rw [hz]; omega
      · have := h3 y hy x hx hy0 (by omega)
        grind

/-- The directions along the axes, and those at right angles to forces. -/
def nrm (f : List Vec) : List Vec := [⟨1, 0⟩, ⟨0, 1⟩, ⟨-1, 0⟩, ⟨0, -1⟩] ++ turnsM f
theorem nrm_cons {h : Vec} {f : List Vec} {d : Vec} (hd : d ∈ nrm f) : d ∈ nrm (h :: f) := by
  simp only [nrm, turnsM, List.mem_append, List.flatMap_cons] at *
  rcases hd with hd | hd
  · exact .inl hd
  · exact .inr (.inr hd)
theorem nrm_head {h : Vec} {f : List Vec} : h.turned ∈ nrm (h :: f) ∧ h.turned.times (-1) ∈ nrm (h :: f) := by
  simp [nrm, turnsM]
theorem sq_pos (a : Int) : 0 ≤ a * a := by
  rcases Int.le_total 0 a with h | h
  · exact Int.mul_nonneg h h
  · exact Int.mul_nonneg_of_nonpos_of_nonpos h h
theorem sq_none {a : Int} (h : a * a = 0) : a = 0 := by
  rcases Int.mul_eq_zero.1 h with h | h <;> exact h
/-- A direction at right angles to h is a multiple of h turned. -/
theorem perp_low {f : List Vec} {h p w : Vec} {q : Int} (h1 : h.turned.dot p ≤ q * helpM f h.turned) (h2 : (h.turned.times (-1)).dot p ≤ q * helpM f (h.turned.times (-1)))
    (hw : w.dot h = 0) (h0 : ¬ (h.x = 0 ∧ h.y = 0)) : w.dot p ≤ q * helpM f w := by
  have hn : 0 < h.x * h.x + h.y * h.y := by
    have a1 : 0 ≤ h.x * h.x := sq_pos h.x
    have a2 : 0 ≤ h.y * h.y := sq_pos h.y
    rcases Int.lt_or_le 0 (h.x * h.x + h.y * h.y) with h | h
    · exact h
    · exfalso
      apply h0
      exact ⟨sq_none (by omega), sq_none (by omega)⟩
  have key : w.times (h.x * h.x + h.y * h.y) = h.turned.times (w.dot h.turned) := by
    unfold Vec.times Vec.turned Vec.dot at *
    simp only [Vec.mk.injEq] at *
    constructor <;> grind
  have hs := help_scale (Int.le_of_lt hn) w f
  have hp := times_dot' (h.x * h.x + h.y * h.y) w p
  rw [key] at hs hp
  have fin : (h.x * h.x + h.y * h.y) * w.dot p ≤ (h.x * h.x + h.y * h.y) * (q * helpM f w) := by
    rw [← hp, show (h.x * h.x + h.y * h.y) * (q * helpM f w) = q * ((h.x * h.x + h.y * h.y) * helpM f w) from by grind, ← hs]
    by_cases hc : 0 ≤ w.dot h.turned
    · rw [times_dot', help_scale hc]
      have := Int.mul_le_mul_of_nonneg_left h1 hc
      grind
    · have e : h.turned.times (w.dot h.turned) = (h.turned.times (-1)).times (-(w.dot h.turned)) := by
        unfold Vec.times; simp only [Vec.mk.injEq]; constructor <;> grind
      rw [e, times_dot', help_scale (by omega)]
      have := Int.mul_le_mul_of_nonneg_left h2 (show 0 ≤ -(w.dot h.turned) by omega)
      grind
  exact Int.le_of_mul_le_mul_left fin hn

/-- One force pulls with a part such that the others can do the rest. -/
theorem one_less {h : Vec} {f : List Vec} {p : Vec} {q : Int} (hq : 0 < q) (hc : ∀ d ∈ nrm (h :: f), d.dot p ≤ q * helpM (h :: f) d) :
    ∃ a b : Int, 0 < b ∧ 0 ≤ a ∧ a ≤ b * q ∧ ∀ d ∈ nrm f, d.dot (lin b p a h) ≤ b * q * helpM f d := by
  obtain ⟨a, b, hb, ha, hab, hall⟩ := fit (q := q) (by omega) ((nrm f).map fun d => (d.dot h, q * helpM f d - d.dot p)) (by
      intro x hx hx0
      obtain ⟨d, hd, rfl⟩ := List.mem_map.1 hx
      have := hc d (nrm_cons hd)
      rw [help_cons] at this
      simp only at *
      rw [show max 0 (-(d.dot h)) = -(d.dot h) from by omega, Int.mul_add] at this
      omega) (by
      intro x hx hx0
      obtain ⟨d, hd, rfl⟩ := List.mem_map.1 hx
      have := hc d (nrm_cons hd)
      rw [help_cons] at this
      simp only at *
      rw [show max 0 (-(d.dot h)) = 0 from by omega, Int.mul_add] at this
      omega) (by
      intro x hx y hy hx0 hy0
      obtain ⟨d, hd, rfl⟩ := List.mem_map.1 hx
      obtain ⟨e, he, rfl⟩ := List.mem_map.1 hy
      simp only at *
      have h0 : ¬ (h.x = 0 ∧ h.y = 0) := by
        rintro ⟨e1, e2⟩
        unfold Vec.dot at hx0
        rw [e1, e2] at hx0
        omega
      have t1 := hc _ (nrm_head (h := h) (f := f)).1
      have t2 := hc _ (nrm_head (h := h) (f := f)).2
      have z1 : h.turned.dot h = 0 := by unfold Vec.turned Vec.dot; simp only; grind
      have z2 : (h.turned.times (-1)).dot h = 0 := by rw [times_dot', z1]; rfl
      rw [help_cons, z1] at t1
      rw [help_cons, z2] at t2
      have hw : (lin (-(d.dot h)) e (e.dot h) d).dot h = 0 := by rw [lin_dot]; grind
      have := perp_low (f := f) (p := p) (q := q) (by simpa using t1) (by simpa using t2) hw h0
      have hs := help_lin (show 0 ≤ -(d.dot h) by omega) (show 0 ≤ e.dot h by omega) e d f
      have hs2 := Int.mul_le_mul_of_nonneg_left hs (Int.le_of_lt hq)
      rw [lin_dot] at this
      grind)
  refine ⟨a, b, hb, ha, hab, fun d hd => ?_⟩
  have := hall _ (List.mem_map.2 ⟨d, hd, rfl⟩)
  simp only at this
  have e : d.dot (lin b p a h) = b * d.dot p + a * d.dot h := by unfold lin Vec.dot; simp only; grind
  rw [e]
  grind
end Go.Proofs.Ytibaindlbpfecaa
