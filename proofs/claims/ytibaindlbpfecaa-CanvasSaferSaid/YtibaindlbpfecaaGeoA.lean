import Derived.Test.YtibaindlbpfecaaCanE
import Derived.Test.YtibaindlbpfecaaCanC

namespace Go.Proofs.Ytibaindlbpfecaa
open Go.RowKit

/-- Where one of a head's corners is weak, there is a direction of the forces in which it is; and the other way round. -/
theorem helpM_zero {f : List Vec} : helpM f vecZ = 0 := by
  have key : ∀ (f : List Vec) (n : Int), f.foldl (fun n v => n + max 0 (-(vecZ.dot v))) n = n := by
    intro f
    induction f with
    | nil => intro n; rfl
    | cons a f ih => intro n; rw [List.foldl_cons, ih]; simp [Vec.dot, vecZ]
  exact key f 0
theorem weak_zero {f : List Vec} {p : Vec} : weakInB f p vecZ = false := by
  unfold weakInB; rw [helpM_zero]; simp [Vec.dot, vecZ]
theorem weakM_none {f : List Vec} {p : Vec} : weakM f p = vecZ ↔ ∀ d ∈ waysL f, weakInB f p d = false := by
  unfold weakM
  cases h : (waysL f).find? (weakInB f p) with
  | none => rw [List.find?_eq_none] at h; simp only [Option.getD_none, true_iff]; intro d hd; simpa using h d hd
  | some d =>
    have h1 := List.find?_some h
    have h2 := List.mem_of_find?_eq_some h
    simp only [Option.getD_some]
    constructor
    · rintro rfl; rw [weak_zero] at h1; cases h1
    · intro hx; rw [hx d h2] at h1; cases h1
theorem bad_no {a : Int} {f : List Vec} {p : Vec} : badB a f p = false ↔ ∀ d ∈ waysL f, d.dot (p.times a) ≤ helpM f d := by
  unfold badB
  rw [decide_eq_false_iff_not, Decidable.not_not, weakM_none]
  constructor
  · intro h d hd; have := h d hd; unfold weakInB at this; simpa using this
  · intro h d hd; have := h d hd; unfold weakInB; simpa using this
theorem find1_iff {α : Type} {p : α → Bool} : ∀ {l : List α} {k : Nat}, find1 p l k = none ↔ ∀ x ∈ l, p x = false := by
  intro l
  induction l with
  | nil => intro k; simp [find1]
  | cons a l ih =>
    intro k
    rw [find1]
    cases h : p a with
    | true => simp [h]
    | false => simp [ih, h]
/-- No corner of the wind is weak for the head. -/
def headStands (l : List Tst) (wind : List Vec) (h : Head) : Bool := (cornerO h.area (forcesM l h) wind).isNone
theorem headStands_iff {l : List Tst} {wind : List Vec} {h : Head} : headStands l wind h = true ↔ ∀ p ∈ wind, badB h.area (forcesM l h) p = false := by
  unfold headStands cornerO
  rw [Option.isNone_iff_eq_none, find1_iff]
def standsB (l : List Tst) (t : List Head) (wind : List Vec) : Bool := t.all (headStands l wind)
theorem dot_times (d p : Vec) (a : Int) : d.dot (p.times a) = a * d.dot p := by
  unfold Vec.dot Vec.times
  simp only
  rw [Int.mul_add, Int.mul_left_comm, Int.mul_left_comm d.y]

/-- The mean of two corners that are borne is borne. -/
theorem bad_mean {a : Int} {f : List Vec} {p q m : Vec} (hx : 2 * m.x = p.x + q.x) (hy : 2 * m.y = p.y + q.y) (hp : badB a f p = false) (hq : badB a f q = false) : badB a f m = false := by
  rw [bad_no] at *
  intro d hd
  have h1 := hp d hd
  have h2 := hq d hd
  rw [dot_times] at *
  have hm : 2 * d.dot m = d.dot p + d.dot q := by
    unfold Vec.dot
    rw [Int.mul_add, Int.mul_left_comm, hx, Int.mul_left_comm, hy, Int.mul_add, Int.mul_add]
    omega
  have : 2 * (a * d.dot m) = a * d.dot p + a * d.dot q := by rw [Int.mul_left_comm, hm, Int.mul_add]
  omega
theorem stands_mean {l : List Tst} {t : List Head} {wind : List Vec} {p q m : Vec} (h : standsB l t wind = true) (hp : p ∈ wind) (hq : q ∈ wind) (hx : 2 * m.x = p.x + q.x) (hy : 2 * m.y = p.y + q.y) : standsB l t [m] = true := by
  unfold standsB at *
  rw [List.all_eq_true] at *
  intro x hxt
  have := headStands_iff.1 (h x hxt)
  rw [headStands_iff]
  intro y hy'
  rw [List.mem_singleton] at hy'
  subst hy'
  exact bad_mean hx hy (this p hp) (this q hq)
theorem stands_fewer {l : List Tst} {t : List Head} {wind wind' : List Vec} (h : standsB l t wind = true) (hs : ∀ p ∈ wind', p ∈ wind) : standsB l t wind' = true := by
  unfold standsB at *
  rw [List.all_eq_true] at *
  intro x hxt
  have := headStands_iff.1 (h x hxt)
  rw [headStands_iff]
  exact fun p hp => this p (hs p hp)

/-- What the reach is: nothing forbids it, and what is one more is forbidden. -/
theorem reach_fold {area : Int} {f : List Vec} {way : Vec} (hf : ∀ d, 0 ≤ helpM f d) : ∀ (ws : List Vec) (n : Int), 0 ≤ n →
    0 ≤ ws.foldl (reachStep area f way) n ∧ ws.foldl (reachStep area f way) n ≤ n ∧
    (∀ d ∈ ws, 0 < d.dot (way.times area) → ws.foldl (reachStep area f way) n * d.dot (way.times area) ≤ helpM f d) ∧
    (ws.foldl (reachStep area f way) n = n ∨ ∃ d ∈ ws, 0 < d.dot (way.times area) ∧ helpM f d < (ws.foldl (reachStep area f way) n + 1) * d.dot (way.times area)) := by
  intro ws
  induction ws with
  | nil => intro n hn; exact ⟨hn, Int.le_refl _, by simp, .inl rfl⟩
  | cons a ws ih =>
    intro n hn
    rw [List.foldl_cons]
    have h0 : 0 ≤ reachStep area f way n a := by
      unfold reachStep
      split
      · have := Int.ediv_nonneg (hf a) (show 0 ≤ a.dot (way.times area) by omega)
        omega
      · exact hn
    have h1 : reachStep area f way n a ≤ n := by unfold reachStep; split <;> omega
    have h2 : 0 < a.dot (way.times area) → reachStep area f way n a * a.dot (way.times area) ≤ helpM f a := by
      intro hp
      have hd := Int.ediv_mul_le (helpM f a) (show a.dot (way.times area) ≠ 0 by omega)
      have hle : reachStep area f way n a ≤ helpM f a / a.dot (way.times area) := by unfold reachStep; rw [if_pos hp]; omega
      exact Int.le_trans (Int.mul_le_mul_of_nonneg_right hle (by omega)) hd
    have h3 : reachStep area f way n a = n ∨ (0 < a.dot (way.times area) ∧ helpM f a < (reachStep area f way n a + 1) * a.dot (way.times area)) := by
      by_cases hp : 0 < a.dot (way.times area)
      · by_cases hle : n ≤ helpM f a / a.dot (way.times area)
        · left; unfold reachStep; rw [if_pos hp]; omega
        · right
          refine ⟨hp, ?_⟩
          have he : reachStep area f way n a = helpM f a / a.dot (way.times area) := by unfold reachStep; rw [if_pos hp]; omega
          rw [he]
          exact Int.lt_ediv_add_one_mul_self _ hp
      · left; unfold reachStep; rw [if_neg hp]
    obtain ⟨i1, i2, i3, i4⟩ := ih _ h0
    refine ⟨i1, by omega, ?_, ?_⟩
    · intro d hd hp
      rcases List.mem_cons.1 hd with rfl | hd
      · exact Int.le_trans (Int.mul_le_mul_of_nonneg_right i2 (by omega)) (h2 hp)
      · exact i3 d hd hp
    · rcases i4 with he | ⟨d, hd, hp, hlt⟩
      · rw [he]
        rcases h3 with h3 | ⟨hp, hlt⟩
        · exact .inl h3
        · exact .inr ⟨a, by simp, hp, hlt⟩
      · exact .inr ⟨d, by simp [hd], hp, hlt⟩
theorem reachM_in {area : Int} {f : List Vec} {way : Vec} : 0 ≤ reachM area f way ∧ reachM area f way ≤ 10000 := by
  obtain ⟨h1, h2, _⟩ := reach_fold (area := area) (way := way) (fun d => helpM_nonneg (f := f) (way := d)) (waysL f) 10000 (by omega)
  exact ⟨h1, h2⟩
theorem times_dot {d way : Vec} {n a : Int} : d.dot ((way.times n).times a) = n * d.dot (way.times a) := by
  rw [dot_times, dot_times, dot_times, Int.mul_left_comm]
theorem reach_less {area : Int} {f : List Vec} {way : Vec} {n : Int} (h0 : 0 ≤ n) (hn : n ≤ reachM area f way) : badB area f (way.times n) = false := by
  obtain ⟨h1, h2, h3, _⟩ := reach_fold (area := area) (way := way) (fun d => helpM_nonneg (f := f) (way := d)) (waysL f) 10000 (by omega)
  rw [bad_no]
  intro d hd
  rw [times_dot]
  by_cases hp : 0 < d.dot (way.times area)
  · exact Int.le_trans (Int.mul_le_mul_of_nonneg_right hn (by omega)) (h3 d hd hp)
  · have := helpM_nonneg (f := f) (way := d)
    have : n * d.dot (way.times area) ≤ 0 := Int.mul_nonpos_of_nonneg_of_nonpos h0 (by omega)
    omega
theorem reach_more {area : Int} {f : List Vec} {way : Vec} (hn : reachM area f way < 10000) : badB area f (way.times (reachM area f way + 1)) = true := by
  obtain ⟨h1, h2, _, h4⟩ := reach_fold (area := area) (way := way) (fun d => helpM_nonneg (f := f) (way := d)) (waysL f) 10000 (by omega)
  rw [← Bool.not_eq_false, bad_no]
  intro hb
  rcases h4 with h4 | ⟨d, hd, hp, hlt⟩
  · unfold reachM at hn; omega
  · have := hb d hd
    rw [times_dot] at this
    unfold reachM at this
    omega
end Go.Proofs.Ytibaindlbpfecaa
