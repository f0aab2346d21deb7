import Derived.Test.YtibaindlbpfecaaGeoB

namespace Go.Proofs.Ytibaindlbpfecaa
open Go.RowKit

def upd (σ : Nat → Bool) (t : Nat) : Nat → Bool := fun j => if j = t then true else σ j
def consB (b : Bool) (σ : Nat → Bool) : Nat → Bool
  | 0 => b
  | j + 1 => σ j
/-- The sum of the forces that are in a set. -/
def sumS : (Nat → Bool) → List Vec → Vec
  | _, [] => vecZ
  | σ, h :: f => (if σ 0 then h else vecZ).plus (sumS (fun j => σ (j + 1)) f)
/-- The forces, behind two that bear nothing. -/
def FF (f : List Vec) : List Vec := ⟨1, 0⟩ :: ⟨0, 1⟩ :: f
theorem plus_zero (a : Vec) : vecZ.plus a = a := by obtain ⟨x, y⟩ := a; simp [Vec.plus, vecZ]
theorem plus_assoc (a b c : Vec) : (a.plus b).plus c = a.plus (b.plus c) := by unfold Vec.plus; simp only [Vec.mk.injEq]; omega
theorem plus_left (a b c : Vec) : a.plus (b.plus c) = b.plus (a.plus c) := by unfold Vec.plus; simp only [Vec.mk.injEq]; omega
theorem sumS_upd : ∀ (f : List Vec) (σ : Nat → Bool) (t : Nat) (F : Vec), σ t = false → f[t]? = some F → sumS (upd σ t) f = F.plus (sumS σ f) := by
  intro f
  induction f with
  | nil => intro σ t F _ h; simp at h
  | cons a f ih =>
    intro σ t F hs h
    cases t with
    | zero =>
      simp at h
      subst h
      have e1 : upd σ 0 0 = true := by simp [upd]
      have e2 : (fun j => upd σ 0 (j + 1)) = fun j => σ (j + 1) := by funext j; simp [upd]
      rw [sumS, sumS, e1, e2, hs]
      simp [plus_zero]
    | succ t =>
      have e1 : upd σ (t + 1) 0 = σ 0 := by simp [upd]
      have e2 : (fun j => upd σ (t + 1) (j + 1)) = upd (fun j => σ (j + 1)) t := by funext j; simp [upd]
      rw [sumS, sumS, e1, e2, ih _ t F hs (by simpa using h), plus_left]
/-- What one of the two others may bear. -/
def cap (i : Nat) (Q : Int) : Int := if i < 2 then 0 else Q
theorem cap_mul (i : Nat) (Q k : Int) : cap i (k * Q) = k * cap i Q := by unfold cap; split <;> simp
def Slot (σ : Nat → Bool) (i : Nat) (a Q : Int) : Prop := 0 ≤ a ∧ a ≤ cap i Q ∧ (2 ≤ i → σ (i - 2) = false)
def Vert (f : List Vec) (p : Vec) (q : Int) : Prop :=
  ∃ (σ : Nat → Bool) (i k : Nat) (F G : Vec) (a b m : Int), 0 < m ∧ (FF f)[i]? = some F ∧ (FF f)[k]? = some G ∧ 0 < F.cross G ∧ Slot σ i a (m * q) ∧ Slot σ k b (m * q) ∧
    m * p.x + m * q * (sumS σ f).x + a * F.x + b * G.x = 0 ∧ m * p.y + m * q * (sumS σ f).y + a * F.y + b * G.y = 0
theorem cross_swap (F G : Vec) : G.cross F = -(F.cross G) := by unfold Vec.cross; grind
theorem vert_mk {f : List Vec} {p : Vec} {q : Int} (σ : Nat → Bool) (i k : Nat) (F G : Vec) (a b m : Int) (hm : 0 < m) (hF : (FF f)[i]? = some F) (hG : (FF f)[k]? = some G) (hc : F.cross G ≠ 0) (sa : Slot σ i a (m * q)) (sb : Slot σ k b (m * q))
    (ex : m * p.x + m * q * (sumS σ f).x + a * F.x + b * G.x = 0) (ey : m * p.y + m * q * (sumS σ f).y + a * F.y + b * G.y = 0) : Vert f p q := by
  by_cases h : 0 < F.cross G
  · exact ⟨σ, i, k, F, G, a, b, m, hm, hF, hG, h, sa, sb, ex, ey⟩
  · exact ⟨σ, k, i, G, F, b, a, m, hm, hG, hF, by rw [cross_swap]; omega, sb, sa, by omega, by omega⟩
/-- How far a number may be moved until it comes to an end. -/
theorem room {A a ca : Int} (h0 : 0 ≤ a) (h1 : a ≤ ca) : ∃ δ r a1 : Int, (δ = A ∨ δ = -A) ∧ 0 ≤ δ ∧ 0 ≤ r ∧ δ * a + r * A = δ * a1 ∧ (a1 = 0 ∨ a1 = ca) ∧
    ∀ s t : Int, 0 ≤ s → 0 ≤ t → s * δ ≤ r * t → 0 ≤ t * a + s * A ∧ t * a + s * A ≤ t * ca := by
  rcases Int.lt_trichotomy A 0 with h | h | h
  · refine ⟨-A, a, 0, .inr rfl, by omega, h0, by grind, .inl rfl, fun s t hs ht hst => ?_⟩
    have e1 := Int.mul_nonneg hs (show 0 ≤ -A by omega)
    have e2 := Int.mul_le_mul_of_nonneg_left h1 ht
    constructor <;> grind
  · refine ⟨0, 0, 0, .inl h.symm, by omega, by omega, by omega, .inl rfl, fun s t hs ht hst => ?_⟩
    have e2 := Int.mul_le_mul_of_nonneg_left h1 ht
    have e3 := Int.mul_nonneg ht h0
    subst h
    omega
  · refine ⟨A, ca - a, ca, .inl rfl, by omega, by omega, by grind, .inr rfl, fun s t hs ht hst => ?_⟩
    have e1 := Int.mul_nonneg hs (show 0 ≤ A by omega)
    have e3 := Int.mul_nonneg ht h0
    constructor <;> grind
theorem FF_get {f : List Vec} {i : Nat} {F : Vec} (h : (FF f)[i]? = some F) (hi : 2 ≤ i) : f[i - 2]? = some F := by
  obtain ⟨j, rfl⟩ : ∃ j, i = j + 2 := ⟨i - 2, by omega⟩
  simpa [FF] using h
theorem hit {f : List Vec} {σ : Nat → Bool} {p X Y H : Vec} {i k j : Nat} {q M a b c D A B δ r a1 : Int} (hM : 0 < M)
    (hX : (FF f)[i]? = some X) (hY : (FF f)[k]? = some Y) (hH : (FF f)[j]? = some H) (hik : i ≠ k) (hij : i ≠ j) (sa : Slot σ i a (M * q)) (sb : Slot σ k b (M * q)) (sc : Slot σ j c (M * q))
    (ex : M * p.x + M * q * (sumS σ f).x + a * X.x + b * Y.x + c * H.x = 0) (ey : M * p.y + M * q * (sumS σ f).y + a * X.y + b * Y.y + c * H.y = 0)
    (dx : D * H.x = A * X.x + B * Y.x) (dy : D * H.y = A * X.y + B * Y.y) (hcr : Y.cross H ≠ 0) (hδ : 0 < δ) (h1 : δ * a + r * A = δ * a1) (h2 : a1 = 0 ∨ a1 = cap i (M * q))
    (hb0 : 0 ≤ δ * b + r * B) (hb1 : δ * b + r * B ≤ δ * cap k (M * q)) (hc0 : 0 ≤ δ * c - r * D) (hrD : 0 ≤ r * D) : Vert f p q := by
  have gx : δ * M * p.x + δ * M * q * (sumS σ f).x + δ * a1 * X.x + (δ * b + r * B) * Y.x + (δ * c - r * D) * H.x = 0 := by
    have e1 : δ * (M * p.x + M * q * (sumS σ f).x + a * X.x + b * Y.x + c * H.x) = 0 := by rw [ex, Int.mul_zero]
    have e2 : r * (D * H.x) = r * (A * X.x + B * Y.x) := by rw [dx]
    have e3 : (δ * a + r * A) * X.x = δ * a1 * X.x := by rw [h1]
    grind
  have gy : δ * M * p.y + δ * M * q * (sumS σ f).y + δ * a1 * X.y + (δ * b + r * B) * Y.y + (δ * c - r * D) * H.y = 0 := by
    have e1 : δ * (M * p.y + M * q * (sumS σ f).y + a * X.y + b * Y.y + c * H.y) = 0 := by rw [ey, Int.mul_zero]
    have e2 : r * (D * H.y) = r * (A * X.y + B * Y.y) := by rw [dy]
    have e3 : (δ * a + r * A) * X.y = δ * a1 * X.y := by rw [h1]
    grind
  have hm : 0 < δ * M := Int.mul_pos hδ hM
  have hcc : δ * c - r * D ≤ cap j (δ * M * q) := by
    rw [Int.mul_assoc, cap_mul]
    have := Int.mul_le_mul_of_nonneg_left sc.2.1 (Int.le_of_lt hδ)
    omega
  have hbb : δ * b + r * B ≤ cap k (δ * M * q) := by rw [Int.mul_assoc, cap_mul]; exact hb1
  by_cases h0 : a1 = 0
  · subst h0
    refine vert_mk σ k j Y H _ _ (δ * M) hm hY hH hcr ⟨hb0, hbb, sb.2.2⟩ ⟨hc0, hcc, sc.2.2⟩ ?_ ?_
    · rw [Int.mul_zero, Int.zero_mul] at gx; omega
    · rw [Int.mul_zero, Int.zero_mul] at gy; omega
  · have hi : 2 ≤ i := by
      rcases Nat.lt_or_ge i 2 with h | h
      · rcases h2 with h2 | h2
        · exact absurd h2 h0
        · exact absurd (by rw [h2]; unfold cap; rw [if_pos h]) h0
      · exact h
    have ha1 : a1 = M * q := by
      rcases h2 with h2 | h2
      · exact absurd h2 h0
      · rw [h2]; unfold cap; rw [if_neg (by omega)]
    have hS := sumS_upd f σ (i - 2) X (sa.2.2 hi) (FF_get hX hi)
    refine vert_mk (upd σ (i - 2)) k j Y H _ _ (δ * M) hm hY hH hcr ⟨hb0, hbb, fun hk => ?_⟩ ⟨hc0, hcc, fun hj => ?_⟩ ?_ ?_
    · unfold upd; rw [if_neg (by omega)]; exact sb.2.2 hk
    · unfold upd; rw [if_neg (by omega)]; exact sc.2.2 hj
    · rw [hS]; unfold Vec.plus; simp only; rw [ha1] at gx; grind
    · rw [hS]; unfold Vec.plus; simp only; rw [ha1] at gy; grind
theorem three {f : List Vec} {σ : Nat → Bool} {p F G H : Vec} {i k j : Nat} {q M a b c : Int} (hM : 0 < M)
    (hF : (FF f)[i]? = some F) (hG : (FF f)[k]? = some G) (hH : (FF f)[j]? = some H) (hij : i ≠ j) (hkj : k ≠ j) (hD : 0 < F.cross G) (sa : Slot σ i a (M * q)) (sb : Slot σ k b (M * q)) (sc : Slot σ j c (M * q))
    (ex : M * p.x + M * q * (sumS σ f).x + a * F.x + b * G.x + c * H.x = 0) (ey : M * p.y + M * q * (sumS σ f).y + a * F.y + b * G.y + c * H.y = 0) : Vert f p q := by
  have hik : i ≠ k := by
    rintro rfl
    rw [hF] at hG
    cases hG
    unfold Vec.cross at hD
    rw [Int.mul_comm F.x] at hD
    omega
  obtain ⟨D, hDe⟩ : ∃ D, F.cross G = D := ⟨_, rfl⟩
  obtain ⟨A, hAe⟩ : ∃ A, H.cross G = A := ⟨_, rfl⟩
  obtain ⟨B, hBe⟩ : ∃ B, F.cross H = B := ⟨_, rfl⟩
  have dx : D * H.x = A * F.x + B * G.x := by rw [← hDe, ← hAe, ← hBe]; unfold Vec.cross; grind
  have dy : D * H.y = A * F.y + B * G.y := by rw [← hDe, ← hAe, ← hBe]; unfold Vec.cross; grind
  rw [hDe] at hD
  obtain ⟨δA, rA, a1, hdA, hA0, hrA, hA1, hA2, hA3⟩ := room (A := A) sa.1 sa.2.1
  obtain ⟨δB, rB, b1, hdB, hB0, hrB, hB1, hB2, hB3⟩ := room (A := B) sb.1 sb.2.1
  have caseA : rA * D < c * δA → rA * δB ≤ rB * δA → Vert f p q := by
    intro h1 h2
    have hp : 0 < δA := by
      rcases Int.lt_or_le 0 δA with h | h
      · exact h
      · have h3 : δA = 0 := by omega
        have := Int.mul_nonneg hrA (Int.le_of_lt hD)
        rw [h3] at h1
        omega
    obtain ⟨g1, g2⟩ := hB3 rA δA hrA hA0 h2
    exact hit hM hF hG hH hik hij sa sb sc ex ey dx dy (by rw [cross_swap, hAe]; omega) hp hA1 hA2 g1 g2 (by rw [Int.mul_comm c] at h1; omega) (Int.mul_nonneg hrA (Int.le_of_lt hD))
  have caseB : rB * D < c * δB → rB * δA ≤ rA * δB → Vert f p q := by
    intro h1 h2
    have hp : 0 < δB := by
      rcases Int.lt_or_le 0 δB with h | h
      · exact h
      · have h3 : δB = 0 := by omega
        have := Int.mul_nonneg hrB (Int.le_of_lt hD)
        rw [h3] at h1
        omega
    obtain ⟨g1, g2⟩ := hA3 rB δB hrB hB0 h2
    exact hit hM hG hF hH (Ne.symm hik) hkj sb sa sc (by omega) (by omega) (by rw [dx]; omega) (by rw [dy]; omega) (by rw [hBe]; omega) hp hB1 hB2 g1 g2 (by rw [Int.mul_comm c] at h1; omega) (Int.mul_nonneg hrB (Int.le_of_lt hD))
  by_cases h1 : c * δA ≤ rA * D
  · by_cases h2 : c * δB ≤ rB * D
    · obtain ⟨g1, g2⟩ := hA3 c D sc.1 (Int.le_of_lt hD) h1
      obtain ⟨g3, g4⟩ := hB3 c D sc.1 (Int.le_of_lt hD) h2
      refine vert_mk σ i k F G _ _ (D * M) (Int.mul_pos hD hM) hF hG (by omega) ⟨g1, by rw [Int.mul_assoc, cap_mul]; exact g2, sa.2.2⟩ ⟨g3, by rw [Int.mul_assoc, cap_mul]; exact g4, sb.2.2⟩ ?_ ?_
      · have e1 : D * (M * p.x + M * q * (sumS σ f).x + a * F.x + b * G.x + c * H.x) = 0 := by rw [ex, Int.mul_zero]
        have e2 : c * (D * H.x) = c * (A * F.x + B * G.x) := by rw [dx]
        grind
      · have e1 : D * (M * p.y + M * q * (sumS σ f).y + a * F.y + b * G.y + c * H.y) = 0 := by rw [ey, Int.mul_zero]
        have e2 : c * (D * H.y) = c * (A * F.y + B * G.y) := by rw [dy]
        grind
    · refine caseB (by omega) ?_
      have e1 := Int.mul_le_mul_of_nonneg_right (show rB * D ≤ c * δB by omega) hA0
      have e2 := Int.mul_le_mul_of_nonneg_right h1 hB0
      have e3 : D * (rB * δA) ≤ D * (rA * δB) := by grind
      exact Int.le_of_mul_le_mul_left e3 hD
  · by_cases h2 : rA * δB ≤ rB * δA
    · exact caseA (by omega) h2
    · by_cases h3 : c * δB ≤ rB * D
      · refine caseA (by omega) ?_
        have e1 := Int.mul_le_mul_of_nonneg_right (show rA * D ≤ c * δA by omega) hB0
        have e2 := Int.mul_le_mul_of_nonneg_right h3 hA0
        have e3 : D * (rA * δB) ≤ D * (rB * δA) := by grind
        exact Int.le_of_mul_le_mul_left e3 hD
      · exact caseB (by omega) (by omega)
def sh (i : Nat) : Nat := if i < 2 then i else i + 1
theorem sh_up (j : Nat) : sh (j + 2) = j + 3 := by unfold sh; rw [if_neg (by omega)]
theorem sh_get (h : Vec) (f : List Vec) (i : Nat) : (FF (h :: f))[sh i]? = (FF f)[i]? := by
  match i with
  | 0 => rfl
  | 1 => rfl
  | j + 2 => rw [sh_up]; simp [FF]
theorem sh_slot {σ : Nat → Bool} {i : Nat} {a Q : Int} (b : Bool) (h : Slot σ i a Q) : Slot (consB b σ) (sh i) a Q := by
  match i, h with
  | 0, h => exact ⟨h.1, by simpa [sh, cap] using h.2.1, fun h => by simp [sh] at h⟩
  | 1, h => exact ⟨h.1, by simpa [sh, cap] using h.2.1, fun h => by simp [sh] at h⟩
  | j + 2, h =>
    rw [sh_up]
    refine ⟨h.1, ?_, fun _ => ?_⟩
    · have := h.2.1
      unfold cap at *
      rw [if_neg (by omega)] at *
      exact this
    · have := h.2.2 (by omega)
      simpa [consB] using this
theorem sh_two (i : Nat) : sh i ≠ 2 := by unfold sh; split <;> omega
theorem vert_all : ∀ (f : List Vec) (p : Vec) (q : Int), 0 < q → (∀ d ∈ nrm f, d.dot p ≤ q * helpM f d) → Vert f p q := by
  intro f
  induction f with
  | nil =>
    intro p q hq hc
    have h1 := hc ⟨1, 0⟩ (by simp [nrm])
    have h2 := hc ⟨0, 1⟩ (by simp [nrm])
    have h3 := hc ⟨-1, 0⟩ (by simp [nrm])
    have h4 := hc ⟨0, -1⟩ (by simp [nrm])
    simp only [help_nil, Vec.dot, Int.mul_zero] at h1 h2 h3 h4
    refine ⟨fun _ => false, 0, 1, ⟨1, 0⟩, ⟨0, 1⟩, 0, 0, 1, by omega, rfl, rfl, by simp [Vec.cross], ⟨by omega, by simp [cap], fun _ => rfl⟩, ⟨by omega, by simp [cap], fun _ => rfl⟩, ?_, ?_⟩
    · simp [sumS, vecZ]; omega
    · simp [sumS, vecZ]; omega
  | cons h f ih =>
    intro p q hq hc
    obtain ⟨α, β, hβ, hα, hαβ, hd⟩ := one_less hq hc
    obtain ⟨σ, i, k, F, G, a, b, m, hm, hF, hG, hD, sa, sb, ex, ey⟩ := ih (lin β p α h) (β * q) (Int.mul_pos hβ hq) hd
    rw [show m * (β * q) = m * β * q from by rw [Int.mul_assoc]] at sa sb ex ey
    have hs : sumS (consB false σ) (h :: f) = sumS σ f := by
      rw [sumS]
      simp only [consB]
      exact plus_zero _
    refine three (σ := consB false σ) (F := F) (G := G) (H := h) (i := sh i) (k := sh k) (j := 2) (M := m * β) (a := a) (b := b) (c := m * α) (Int.mul_pos hm hβ) (by rw [sh_get]; exact hF) (by rw [sh_get]; exact hG) rfl (sh_two i) (sh_two k) hD (sh_slot _ sa) (sh_slot _ sb)
      ⟨Int.mul_nonneg (Int.le_of_lt hm) hα, ?_, fun _ => rfl⟩ ?_ ?_
    · have := Int.mul_le_mul_of_nonneg_left hαβ (Int.le_of_lt hm)
      simp only [cap]
      rw [if_neg (by omega)]
      grind
    · rw [hs]; unfold lin at ex; simp only at ex; grind
    · rw [hs]; unfold lin at ey; simp only at ey; grind
end Go.Proofs.Ytibaindlbpfecaa
