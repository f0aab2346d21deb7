/- Guys, heads and vectors as plain functions. -/
import Derived.Test.YthelogdgfhfdcaaMath
namespace Go.Proofs.Ythelogdgfhfdcaa
structure Vec where
  x : Int
  y : Int
deriving DecidableEq
structure Guy where
  x : Int
  y : Int
  down : Int
  soil : Int
  depth : Int
structure Head where
  area : Int
  bears : Int
  guys : List Guy
def Guy.ok (g : Guy) : Bool :=
  inB g.x (-5000) 5000 && (inB g.y (-5000) 5000 && ((decide (g.x ≠ 0) || decide (g.y ≠ 0)) && (inB g.down 0 5000 && (inB g.soil 0 9 && inB g.depth 1 3000))))
def Head.ok (h : Head) : Bool := inB h.area 0 1000 && (inB h.bears 0 10000000 && (decide (h.guys.length ≤ 8) && h.guys.all Guy.ok))
def tentOk (t : List Head) : Bool := decide (1 ≤ t.length) && (decide (t.length ≤ 12) && t.all Head.ok)
def Vec.corner (v : Vec) : Bool := inB v.x (-10000) 10000 && inB v.y (-10000) 10000
def windOk (l : List Vec) : Bool := decide (1 ≤ l.length) && (decide (l.length ≤ 12) && l.all Vec.corner)
theorem Guy.ok_iff {g : Guy} : g.ok = true ↔ (-5000 ≤ g.x ∧ g.x ≤ 5000) ∧ (-5000 ≤ g.y ∧ g.y ≤ 5000) ∧ (g.x ≠ 0 ∨ g.y ≠ 0) ∧ (0 ≤ g.down ∧ g.down ≤ 5000) ∧ (0 ≤ g.soil ∧ g.soil ≤ 9) ∧ (1 ≤ g.depth ∧ g.depth ≤ 3000) := by
  simp [Guy.ok, inB_true]
/-- The least number from n on whose square is at least s, if fuel lasts. -/
def rootFrom (s : Int) : Nat → Int → Int
  | 0, n => n
  | f + 1, n => if n * n < s then rootFrom s f (n + 1) else n
def Guy.sq (g : Guy) : Int := g.x * g.x + g.y * g.y
def Guy.length (g : Guy) : Int := rootFrom g.sq 10000 0
/-- The part of a guy whose stake holds lo surely. -/
def partOf (lo len : Int) : Int := min 100 (100 * lo / len)
def Guy.part (l : List Tst) (g : Guy) : Int := partOf (holdsM l g.soil g.depth).1 g.length
def Guy.force (l : List Tst) (g : Guy) : Vec := ⟨g.part l * g.x, g.part l * g.y⟩
def forcesM (l : List Tst) (h : Head) : List Vec := h.guys.map (Guy.force l)
def Vec.times (v : Vec) (n : Int) : Vec := ⟨n * v.x, n * v.y⟩
def Vec.dot (v w : Vec) : Int := v.x * w.x + v.y * w.y
def Vec.cross (v w : Vec) : Int := v.x * w.y - v.y * w.x
def Vec.turned (v : Vec) : Vec := ⟨-v.y, v.x⟩
def helpM (f : List Vec) (way : Vec) : Int := f.foldl (fun n v => n + max 0 (-(way.dot v))) 0
def downM (h : Head) : Int := h.guys.foldl (fun n g => n + g.down) 0
theorem sq_bounds {g : Guy} (h : g.ok = true) : 1 ≤ g.sq ∧ g.sq ≤ 50000000 := by
  obtain ⟨⟨a, b⟩, ⟨c, d⟩, e, _⟩ := Guy.ok_iff.1 h
  have sqb : ∀ z : Int, -5000 ≤ z → z ≤ 5000 → 0 ≤ z * z ∧ z * z ≤ 25000000 ∧ (z ≠ 0 → 1 ≤ z * z) := by
    intro z h1 h2
    have h3 : z * z = (z.natAbs * z.natAbs : Nat) := by rw [Int.natAbs_mul_self]
    have h4 : z.natAbs ≤ 5000 := by omega
    have h5 := Nat.mul_le_mul h4 h4
    refine ⟨by omega, by omega, fun hz => ?_⟩
    have h6 : 1 ≤ z.natAbs := by omega
    have h7 := Nat.mul_le_mul h6 h6
    omega
  obtain ⟨x1, x2, x3⟩ := sqb g.x a b
  obtain ⟨y1, y2, y3⟩ := sqb g.y c d
  unfold Guy.sq
  rcases e with e | e
  · have := x3 e; omega
  · have := y3 e; omega
theorem rootFrom_spec (s : Int) (f : Nat) (n : Int) : rootFrom s f n ≤ n + f ∧ n ≤ rootFrom s f n := by
  induction f generalizing n with
  | zero => simp [rootFrom]
  | succ f ih => rw [rootFrom]; split
                 · have := ih (n + 1); omega
                 · omega
theorem rootFrom_step {s : Int} {f : Nat} {n : Int} (h : n * n < s) : rootFrom s (f + 1) n = rootFrom s f (n + 1) := by rw [rootFrom, if_pos h]
theorem rootFrom_stop {s : Int} {f : Nat} {n : Int} (h : ¬ n * n < s) : rootFrom s f n = n := by
  cases f with
  | zero => rfl
  | succ f => rw [rootFrom, if_neg h]
theorem sq_lt_imp {n : Int} (h0 : 0 ≤ n) (h : n * n < 50000000) : n < 7072 := by
  refine Int.not_le.1 fun hc => ?_
  have h1 := Int.mul_le_mul hc hc (by omega) (by omega)
  omega
theorem length_bounds {g : Guy} (h : g.ok = true) : 1 ≤ g.length ∧ g.length ≤ 10000 := by
  have h1 := sq_bounds h
  have h2 := rootFrom_spec g.sq 10000 0
  refine ⟨?_, by unfold Guy.length; omega⟩
  unfold Guy.length
  rw [show (10000 : Nat) = 9999 + 1 from rfl, rootFrom_step (by omega)]
  have := (rootFrom_spec g.sq 9999 (0 + 1)).2
  omega
theorem holdsStep_lo {soil depth : Int} {r : Int × Int} {x : Tst} (hx : x.ok = true) (h1 : 1 ≤ depth) (h2 : depth ≤ 3000) (hr : 0 ≤ r.1 ∧ r.1 ≤ 15000000) : 0 ≤ (holdsStep soil depth r x).1 ∧ (holdsStep soil depth r x).1 ≤ 15000000 := by
  obtain ⟨_, ⟨a, b⟩, c, d⟩ := Tst.ok_iff.1 hx
  have p1 : 0 ≤ x.force * depth := Int.mul_nonneg (by omega) (by omega)
  have p2 : x.force * depth ≤ 15000000 := by have := Int.mul_le_mul d h2 (by omega) (by omega); omega
  have q1 : 0 ≤ x.force * depth / x.depth := Int.ediv_nonneg p1 (by omega)
  have q2 : x.force * depth / x.depth ≤ 15000000 := by have := Int.ediv_le_self x.depth p1; omega
  unfold holdsStep
  split
  · split
    · exact ⟨by simp only; omega, by simp only; omega⟩
    · exact hr
  · exact hr
theorem foldl_holds {soil depth : Int} (h1 : 1 ≤ depth) (h2 : depth ≤ 3000) : ∀ (l : List Tst) (r : Int × Int), (∀ x ∈ l, x.ok = true) → (0 ≤ r.1 ∧ r.1 ≤ 15000000) → 0 ≤ (l.foldl (holdsStep soil depth) r).1 ∧ (l.foldl (holdsStep soil depth) r).1 ≤ 15000000
  | [], _, _, hr => hr
  | x :: xs, _, hl, hr => foldl_holds h1 h2 xs _ (fun y hy => hl y (by simp [hy])) (holdsStep_lo (hl x (by simp)) h1 h2 hr)
theorem holds_lo {l : List Tst} {soil depth : Int} (hl : ∀ x ∈ l, x.ok = true) (h1 : 1 ≤ depth) (h2 : depth ≤ 3000) : 0 ≤ (holdsM l soil depth).1 ∧ (holdsM l soil depth).1 ≤ 15000000 :=
  foldl_holds h1 h2 l _ hl (by simp)
theorem part_bounds {l : List Tst} {g : Guy} (hl : ∀ x ∈ l, x.ok = true) (hg : g.ok = true) : 0 ≤ g.part l ∧ g.part l ≤ 100 := by
  obtain ⟨_, _, _, _, _, c, d⟩ := Guy.ok_iff.1 hg
  have h1 := holds_lo (soil := g.soil) hl c d
  have h2 := length_bounds hg
  have h3 : 0 ≤ 100 * (holdsM l g.soil g.depth).1 / g.length := Int.ediv_nonneg (by omega) (by omega)
  unfold Guy.part partOf
  omega
end Go.Proofs.Ythelogdgfhfdcaa
