/- Bounds of products, vectors within bounds; what guys do in a direction. -/
import Derived.Test.YthelogdgfhfdcaaMathB
namespace Go.Proofs.Ythelogdgfhfdcaa
theorem mulb {a b p q : Int} (ha : -p ≤ a ∧ a ≤ p) (hb : -q ≤ b ∧ b ≤ q) : -(p * q) ≤ a * b ∧ a * b ≤ p * q := by
  have h1 : (a * b).natAbs ≤ (p * q).natAbs := by
    rw [Int.natAbs_mul, Int.natAbs_mul]; exact Nat.mul_le_mul (by omega) (by omega)
  have h2 : 0 ≤ p * q := Int.mul_nonneg (by omega) (by omega)
  omega
def VB (v : Vec) (b : Int) : Prop := (-b ≤ v.x ∧ v.x ≤ b) ∧ (-b ≤ v.y ∧ v.y ≤ b)
theorem VB.dot {v u : Vec} {p q : Int} (hv : VB v p) (hu : VB u q) : (-(p * q) ≤ v.x * u.x ∧ v.x * u.x ≤ p * q) ∧ (-(p * q) ≤ v.y * u.y ∧ v.y * u.y ≤ p * q) := ⟨mulb hv.1 hu.1, mulb hv.2 hu.2⟩
theorem VB.dot' {v u : Vec} {p q : Int} (hv : VB v p) (hu : VB u q) : -(2 * (p * q)) ≤ v.dot u ∧ v.dot u ≤ 2 * (p * q) := by
  obtain ⟨h1, h2⟩ := hv.dot hu
  unfold Vec.dot
  omega
theorem VB.times {v : Vec} {p q n : Int} (hv : VB v p) (hn : -q ≤ n ∧ n ≤ q) : VB (v.times n) (q * p) := ⟨mulb hn hv.1, mulb hn hv.2⟩
theorem VB.mono {v : Vec} {p q : Int} (hv : VB v p) (h : p ≤ q) : VB v q := by unfold VB at *; omega
theorem VB.neg {v : Vec} {p : Int} (hv : VB v p) : VB (v.times (-1)) p := by
  unfold VB Vec.times at *; simp only; omega
theorem VB.turned {v : Vec} {p : Int} (hv : VB v p) : VB v.turned p := by unfold VB Vec.turned at *; simp only; omega
theorem Vec.corner_iff {v : Vec} : v.corner = true ↔ VB v 10000 := by simp [Vec.corner, inB_true, VB]
theorem force_vb {l : List Tst} {g : Guy} (hl : ∀ x ∈ l, x.ok = true) (hg : g.ok = true) : VB (g.force l) 500000 := by
  obtain ⟨a, b, _⟩ := Guy.ok_iff.1 hg
  have hp := part_bounds hl hg
  have h1 := mulb (a := g.part l) (b := g.x) (p := 100) (q := 5000) (by omega) (by omega)
  have h2 := mulb (a := g.part l) (b := g.y) (p := 100) (q := 5000) (by omega) (by omega)
  exact ⟨by simpa [Guy.force] using h1, by simpa [Guy.force] using h2⟩
theorem forces_vb {l : List Tst} {h : Head} (hl : ∀ x ∈ l, x.ok = true) (hg : ∀ g ∈ h.guys, g.ok = true) : ∀ v ∈ forcesM l h, VB v 500000 := by
  intro v hv
  obtain ⟨g, hm, rfl⟩ := List.mem_map.1 hv
  exact force_vb hl (hg g hm)
theorem Head.guys_ok {h : Head} (hh : h.ok = true) : ∀ g ∈ h.guys, g.ok = true := by simp [Head.ok] at hh; exact hh.2.2.2
theorem Head.guys_le {h : Head} (hh : h.ok = true) : h.guys.length ≤ 8 := by simp [Head.ok] at hh; exact hh.2.2.1
theorem Head.area_in {h : Head} (hh : h.ok = true) : 0 ≤ h.area ∧ h.area ≤ 1000 := by simp [Head.ok, inB_true] at hh; exact hh.1
theorem Head.bears_in {h : Head} (hh : h.ok = true) : 0 ≤ h.bears ∧ h.bears ≤ 10000000 := by simp [Head.ok, inB_true] at hh; exact hh.2.1
theorem forcesM_length {l : List Tst} {h : Head} : (forcesM l h).length = h.guys.length := by simp [forcesM]
/-- The directions that the reference asks. -/
def refWays (f : List Vec) : List Vec := f.foldl (fun ws v => ws ++ [v, v.times (-1), ⟨-v.y, v.x⟩, ⟨v.y, -v.x⟩]) [⟨1, 0⟩, ⟨0, 1⟩, ⟨-1, 0⟩, ⟨0, -1⟩]
def weakInB (f : List Vec) (push way : Vec) : Bool := decide (helpM f way < way.dot push)
def balancesB (f : List Vec) (push : Vec) : Bool := (refWays f).all fun way => !weakInB f push way
theorem refWays_vb {f : List Vec} {p : Int} (hp : 1 ≤ p) (hf : ∀ v ∈ f, VB v p) : ∀ v ∈ refWays f, VB v p := by
  have key : ∀ (f ws : List Vec), (∀ v ∈ f, VB v p) → (∀ v ∈ ws, VB v p) → ∀ v ∈ f.foldl (fun ws v => ws ++ [v, v.times (-1), ⟨-v.y, v.x⟩, ⟨v.y, -v.x⟩]) ws, VB v p := by
    intro f
    induction f with
    | nil => intro ws _ h; exact h
    | cons a f ih =>
      intro ws hf hws
      refine ih _ (fun v hv => hf v (by simp [hv])) ?_
      intro v hv
      have ha := hf a (by simp)
      simp only [List.mem_append, List.mem_cons, List.not_mem_nil, or_false] at hv
      rcases hv with hv | rfl | rfl | rfl | rfl
      · exact hws v hv
      · exact ha
      · exact ha.neg
      · exact ha.turned
      · unfold VB at *; simp only; omega
  refine key f _ hf ?_
  intro v hv
  simp only [List.mem_cons, List.not_mem_nil, or_false] at hv
  rcases hv with rfl | rfl | rfl | rfl <;> (unfold VB; simp only; omega)
theorem helpM_nonneg {f : List Vec} {way : Vec} : 0 ≤ helpM f way := by
  have key : ∀ (f : List Vec) (n : Int), 0 ≤ n → 0 ≤ f.foldl (fun n v => n + max 0 (-(way.dot v))) n := by
    intro f
    induction f with
    | nil => intro n h; exact h
    | cons a f ih => intro n h; exact ih _ (by simp only; omega)
  exact key f 0 (by omega)
end Go.Proofs.Ythelogdgfhfdcaa
