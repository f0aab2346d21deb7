import Derived.Test.YtkeicglphmnilaaGreatBalA

namespace Go.Proofs.YtkeicglphmnilaaGreat
open Go.RowKit

theorem times_swap (v : Vec) (a n : Int) : (v.times a).times n = (v.times n).times a := by
  unfold Vec.times
  simp only [Vec.mk.injEq]
  constructor <;> rw [Int.mul_left_comm]
/-- A multiple of the direction is balanced just if it is at most the reach. -/
theorem reach_iff {area : Int} {f : List Vec} {way : Vec} {n : Int} (hf : ∀ v ∈ f, VB v 500000) (h0 : 0 ≤ n) (h1 : n ≤ 10000) : balancesB f ((way.times area).times n) = decide (n ≤ reachM area f way) := by
  rw [times_swap]
  have hb := bad_bal (a := area) (f := f) (p := way.times n) hf
  by_cases h : n ≤ reachM area f way
  · rw [reach_less h0 h] at hb
    rw [decide_eq_true h]
    simpa using hb.symm
  · rw [decide_eq_false h]
    have hR := reach_more (area := area) (f := f) (way := way) (by omega)
    have hnot : badB area f (way.times n) = true := by
      rw [← Bool.not_eq_false, bad_no]
      intro hall
      have : badB area f (way.times (reachM area f way + 1)) = false := by
        rw [bad_no]
        intro d hd
        have h2 := hall d hd
        rw [times_dot] at h2 ⊢
        have hr0 := (reachM_in (area := area) (f := f) (way := way)).1
        by_cases hp : 0 < d.dot (way.times area)
        · exact Int.le_trans (Int.mul_le_mul_of_nonneg_right (by omega) (by omega)) h2
        · have := helpM_nonneg (f := f) (way := d)
          have : (reachM area f way + 1) * d.dot (way.times area) ≤ 0 := Int.mul_nonpos_of_nonneg_of_nonpos (by omega) (by omega)
          omega
      rw [hR] at this
      cases this
    rw [hnot] at hb
    simpa using hb.symm
def stepI (i : Nat) : Nat := 8192 / 2 ^ i
theorem step_half : ∀ i, i < 13 → stepI i = 2 * stepI (i + 1) := by decide
theorem step_next (i : Nat) : stepI i / 2 = stepI (i + 1) := by unfold stepI; rw [Nat.pow_succ, Nat.div_div_eq_div_mul]
theorem step_in : ∀ i, i < 14 → 1 ≤ stepI i ∧ stepI i ≤ 8192 ∧ stepI (i + 1) < stepI i := by decide
theorem step_last : stepI 13 = 1 ∧ stepI 14 = 0 := by decide

/-- The reach of a head in a direction, and its error. -/
structure ReachIs (l : List Tst) (t : List Head) (head : Int) (way : Vec) (r er : Int) : Prop where
  bad : headE l t head (wayIn way) ≠ 0 → r = 0 ∧ er = headE l t head (wayIn way)
  good : headE l t head (wayIn way) = 0 → er = 0 ∧ ∃ (k : Nat) (h : Head), head = k ∧ t[k]? = some h ∧ reachM h.area (forcesM l h) way = r
theorem reachIs_ex (l : List Tst) (t : List Head) (head : Int) (way : Vec) : ∃ r er, ReachIs l t head way r er := by
  by_cases h : headE l t head (wayIn way) = 0
  · obtain ⟨k, x, rfl, hx⟩ := headE_get h
    exact ⟨_, _, fun e => absurd h e, fun _ => ⟨rfl, k, x, rfl, hx, rfl⟩⟩
  · exact ⟨_, _, fun _ => ⟨rfl, rfl⟩, fun e => absurd e h⟩
theorem Reach_any {l : List Tst} {t : List Head} {head : Int} {way : Vec} {r er : Int} (hI : ReachIs l t head way r er) (A : Option Addr) (c : Nat) (A' : Option Addr) (c' : Nat) (w : World) (hr : RS encT 4 w w.heap.size A l) (hl : l.length ≤ maxLen) (ht : RH w w.heap.size A' t) (htl : t.length ≤ maxLen) :
    Calls Tryz.prog 18 #[.slice A l.length c, .slice A' t.length c', .int .i64 head, .agg #[.int .i64 way.x, .int .i64 way.y]] w fun e w' => e = .returned (.tuple #[.int .i64 r, .int .i64 er]) ∧ Below w.heap.size w w' := by
  by_cases h : headE l t head (wayIn way) = 0
  · obtain ⟨rfl, k, x, rfl, hx, e1⟩ := hI.good h
    have := Reach_ok A c l A' c' t k x hx way _ rfl w hr hl ht htl h
    rw [e1] at this
    exact this
  · obtain ⟨rfl, e3⟩ := hI.bad h
    exact Reach_err A c l A' c' t head way er (by rw [e3]; exact h) w hr hl ht htl e3.symm
theorem wayIn_eq (way : Vec) : wayIn way = (way.corner && !(decide (way.x = 0 ∧ way.y = 0))) := by
  unfold wayIn
  rw [show way.insideB 10000 = way.corner from rfl, Bool.and_comm]
  congr 1
  by_cases h : way.x = 0 ∧ way.y = 0
  · rw [decide_eq_true h, decide_eq_false (by simpa [vecZ_iff] using h)]; rfl
  · rw [decide_eq_false h, decide_eq_true (by simpa [vecZ_iff] using h)]; rfl

end Go.Proofs.YtkeicglphmnilaaGreat
