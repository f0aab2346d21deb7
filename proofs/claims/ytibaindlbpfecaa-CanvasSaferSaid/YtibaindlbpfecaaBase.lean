import Derived.WalkKit
import Derived.WalkSpells
import Derived.Lib.Hide
import Derived.Deep.QuietTactic
import Derived.BigQuiet
import Derived.Deep.DeepCutAuto
import Derived.Deep.RegionHeld3
import Derived.StillTailTactics
import Derived.Deep.LoopGhost
import Derived.Deep.AppendLies
import Derived.Maps.AppendAt

/- What layer 1 says, as plain functions on lists and integers. -/
namespace Go.Proofs.Ytibaindlbpfecaa
structure Tst where
  soil : Int
  depth : Int
  force : Int
  held : Bool
def inB (n lo hi : Int) : Bool := decide (lo ≤ n ∧ n ≤ hi)
theorem inB_true {n lo hi : Int} : inB n lo hi = true ↔ lo ≤ n ∧ n ≤ hi := by simp [inB]
theorem inB_false {n lo hi : Int} : inB n lo hi = false ↔ ¬ (lo ≤ n ∧ n ≤ hi) := by simp [inB]
def Tst.ok (x : Tst) : Bool := inB x.soil 0 9 && (inB x.depth 1 3000 && inB x.force 1 5000)
def testsFault (l : List Tst) : Int := if 40 < l.length then 3 else if l.all Tst.ok then 0 else 1
theorem Tst.ok_iff {x : Tst} : x.ok = true ↔ (0 ≤ x.soil ∧ x.soil ≤ 9) ∧ (1 ≤ x.depth ∧ x.depth ≤ 3000) ∧ (1 ≤ x.force ∧ x.force ≤ 5000) := by
  simp [Tst.ok, inB_true]
def clashB (a b : Tst) : Bool := a.held && (!b.held && (decide (a.soil = b.soil) && decide (b.force * a.depth ≤ a.force * b.depth)))

/-- The first place from k on whose element has p. -/
def find1 {α : Type} (p : α → Bool) : List α → Nat → Option Nat
  | [], _ => none
  | x :: xs, k => if p x then some k else find1 p xs (k + 1)
def fclFrom (l : List Tst) : List Tst → Nat → Option (Nat × Nat)
  | [], _ => none
  | a :: rest, i => match find1 (clashB a) l 0 with
    | some k => some (i, k)
    | none => fclFrom l rest (i + 1)
def fcl (l : List Tst) : Option (Nat × Nat) := fclFrom l l 0

theorem drop_of_get {α : Type} {l : List α} {k : Nat} {x : α} (h : l[k]? = some x) : l.drop k = x :: l.drop (k + 1) := by
  obtain ⟨hk, rfl⟩ := List.getElem?_eq_some_iff.1 h
  exact List.drop_eq_getElem_cons hk
theorem find1_hit {α : Type} {p : α → Bool} {l : List α} {k : Nat} {x : α} (h : l[k]? = some x) (hp : p x = true) : find1 p (l.drop k) k = some k := by
  rw [drop_of_get h, find1, if_pos hp]
theorem find1_miss {α : Type} {p : α → Bool} {l : List α} {k : Nat} {x : α} (h : l[k]? = some x) (hp : p x = false) : find1 p (l.drop k) k = find1 p (l.drop (k + 1)) (k + 1) := by
  rw [drop_of_get h, find1, if_neg (by simp [hp])]
theorem find1_end {α : Type} {p : α → Bool} {l : List α} {k : Nat} (h : ¬ k < l.length) : find1 p (l.drop k) k = none := by
  rw [List.drop_of_length_le (by omega)]; rfl
theorem find1_none {α : Type} {p : α → Bool} {l : List α} (h : ∀ x ∈ l, p x = false) (k : Nat) : find1 p l k = none := by
  induction l generalizing k with
  | nil => rfl
  | cons x xs ih => rw [find1, if_neg (by simp [h x (by simp)])]; exact ih (fun y hy => h y (by simp [hy])) _
theorem fcl_hit {l : List Tst} {i k : Nat} {a : Tst} (h : l[i]? = some a) (hk : find1 (clashB a) l 0 = some k) : fclFrom l (l.drop i) i = some (i, k) := by
  rw [drop_of_get h, fclFrom, hk]
theorem fcl_miss {l : List Tst} {i : Nat} {a : Tst} (h : l[i]? = some a) (hk : find1 (clashB a) l 0 = none) : fclFrom l (l.drop i) i = fclFrom l (l.drop (i + 1)) (i + 1) := by
  rw [drop_of_get h, fclFrom, hk]
theorem fcl_end {l : List Tst} {i : Nat} (h : ¬ i < l.length) : fclFrom l (l.drop i) i = none := by
  rw [List.drop_of_length_le (by omega)]; rfl
theorem all_snoc {α : Type} {p : α → Bool} {l : List α} {k : Nat} {x : α} (h : l[k]? = some x) (ha : (l.take k).all p = true) (hx : p x = true) : (l.take (k + 1)).all p = true := by
  rw [List.take_add_one, h]; simp [List.all_append, ha, hx]
theorem all_end {α : Type} {p : α → Bool} {l : List α} {k : Nat} (h : ¬ k < l.length) (ha : (l.take k).all p = true) : l.all p = true := by
  rw [List.take_of_length_le (by omega)] at ha; exact ha
theorem all_bad {α : Type} {p : α → Bool} {l : List α} {k : Nat} {x : α} (h : l[k]? = some x) (hx : p x = false) : l.all p = false := by
  rw [List.all_eq_false]
  exact ⟨x, List.mem_of_getElem? h, by simp [hx]⟩
theorem testsFault_bad {l : List Tst} {k : Nat} {x : Tst} (h40 : ¬ 40 < l.length) (h : l[k]? = some x) (hx : x.ok = false) : testsFault l = 1 := by
  rw [testsFault, if_neg h40, if_neg (by rw [all_bad h hx]; simp)]
theorem testsFault_good {l : List Tst} {k : Nat} (h40 : ¬ 40 < l.length) (h : ¬ k < l.length) (ha : (l.take k).all Tst.ok = true) : testsFault l = 0 := by
  rw [testsFault, if_neg h40, if_pos (all_end h ha)]

/-- The least whole number that is at least a/b. -/
def cdiv (a b : Int) : Int := (a + b - 1) / b
def holdsStep (soil depth : Int) (r : Int × Int) (x : Tst) : Int × Int :=
  if x.soil = soil then (if x.held then (max r.1 (x.force * depth / x.depth), r.2) else (r.1, min r.2 (cdiv (x.force * depth) x.depth - 1))) else r
def holdsM (l : List Tst) (soil depth : Int) : Int × Int := l.foldl (holdsStep soil depth) (0, 10000000)
theorem foldl_snoc {α β : Type} {f : β → α → β} {b : β} {l : List α} {k : Nat} {x : α} (h : l[k]? = some x) : (l.take (k + 1)).foldl f b = f ((l.take k).foldl f b) x := by
  rw [List.take_add_one, h]; simp [List.foldl_append]
theorem foldl_end {α β : Type} {f : β → α → β} {b : β} {l : List α} {k : Nat} (h : ¬ k < l.length) : (l.take k).foldl f b = l.foldl f b := by
  rw [List.take_of_length_le (by omega)]
end Go.Proofs.Ytibaindlbpfecaa

/- Guys, heads and vectors as plain functions. -/
namespace Go.Proofs.Ytibaindlbpfecaa
structure Vec where
  x : Int
  y : Int
deriving DecidableEq
structure Guy where
  x : Int
  y : Int
  down : Int
  soil : Int
  depth : Int
structure Head where
  area : Int
  bears : Int
  guys : List Guy
def Guy.ok (g : Guy) : Bool :=
  inB g.x (-5000) 5000 && (inB g.y (-5000) 5000 && ((decide (g.x ≠ 0) || decide (g.y ≠ 0)) && (inB g.down 0 5000 && (inB g.soil 0 9 && inB g.depth 1 3000))))
def Head.ok (h : Head) : Bool := inB h.area 0 1000 && (inB h.bears 0 10000000 && (decide (h.guys.length ≤ 8) && h.guys.all Guy.ok))
def tentOk (t : List Head) : Bool := decide (1 ≤ t.length) && (decide (t.length ≤ 12) && t.all Head.ok)
def Vec.corner (v : Vec) : Bool := inB v.x (-10000) 10000 && inB v.y (-10000) 10000
def windOk (l : List Vec) : Bool := decide (1 ≤ l.length) && (decide (l.length ≤ 12) && l.all Vec.corner)
theorem Guy.ok_iff {g : Guy} : g.ok = true ↔ (-5000 ≤ g.x ∧ g.x ≤ 5000) ∧ (-5000 ≤ g.y ∧ g.y ≤ 5000) ∧ (g.x ≠ 0 ∨ g.y ≠ 0) ∧ (0 ≤ g.down ∧ g.down ≤ 5000) ∧ (0 ≤ g.soil ∧ g.soil ≤ 9) ∧ (1 ≤ g.depth ∧ g.depth ≤ 3000) := by
  simp [Guy.ok, inB_true]
/-- The least number from n on whose square is at least s, if fuel lasts. -/
def rootFrom (s : Int) : Nat → Int → Int
  | 0, n => n
  | f + 1, n => if n * n < s then rootFrom s f (n + 1) else n
def Guy.sq (g : Guy) : Int := g.x * g.x + g.y * g.y
def Guy.length (g : Guy) : Int := rootFrom g.sq 10000 0
/-- The part of a guy whose stake holds lo surely. -/
def partOf (lo len : Int) : Int := min 100 (100 * lo / len)
def Guy.part (l : List Tst) (g : Guy) : Int := partOf (holdsM l g.soil g.depth).1 g.length
def Guy.force (l : List Tst) (g : Guy) : Vec := ⟨g.part l * g.x, g.part l * g.y⟩
def forcesM (l : List Tst) (h : Head) : List Vec := h.guys.map (Guy.force l)
def Vec.times (v : Vec) (n : Int) : Vec := ⟨n * v.x, n * v.y⟩
def Vec.dot (v w : Vec) : Int := v.x * w.x + v.y * w.y
def Vec.cross (v w : Vec) : Int := v.x * w.y - v.y * w.x
def Vec.turned (v : Vec) : Vec := ⟨-v.y, v.x⟩
def helpM (f : List Vec) (way : Vec) : Int := f.foldl (fun n v => n + max 0 (-(way.dot v))) 0
def downM (h : Head) : Int := h.guys.foldl (fun n g => n + g.down) 0
theorem sq_bounds {g : Guy} (h : g.ok = true) : 1 ≤ g.sq ∧ g.sq ≤ 50000000 := by
  obtain ⟨⟨a, b⟩, ⟨c, d⟩, e, _⟩ := Guy.ok_iff.1 h
  have sqb : ∀ z : Int, -5000 ≤ z → z ≤ 5000 → 0 ≤ z * z ∧ z * z ≤ 25000000 ∧ (z ≠ 0 → 1 ≤ z * z) := by
    intro z h1 h2
    have h3 : z * z = (z.natAbs * z.natAbs : Nat) := by rw [Int.natAbs_mul_self]
    have h4 : z.natAbs ≤ 5000 := by omega
    have h5 := Nat.mul_le_mul h4 h4
    refine ⟨by omega, by omega, fun hz => ?_⟩
    have h6 : 1 ≤ z.natAbs := by omega
    have h7 := Nat.mul_le_mul h6 h6
    omega
  obtain ⟨x1, x2, x3⟩ := sqb g.x a b
  obtain ⟨y1, y2, y3⟩ := sqb g.y c d
  unfold Guy.sq
  rcases e with e | e
  · have := x3 e; omega
  · have := y3 e; omega
theorem rootFrom_spec (s : Int) (f : Nat) (n : Int) : rootFrom s f n ≤ n + f ∧ n ≤ rootFrom s f n := by
  induction f generalizing n with
  | zero => simp [rootFrom]
  | succ f ih => rw [rootFrom]; split
                 · have := ih (n + 1); omega
                 · omega
theorem rootFrom_step {s : Int} {f : Nat} {n : Int} (h : n * n < s) : rootFrom s (f + 1) n = rootFrom s f (n + 1) := by rw [rootFrom, if_pos h]
theorem rootFrom_stop {s : Int} {f : Nat} {n : Int} (h : ¬ n * n < s) : rootFrom s f n = n := by
  cases f with
  | zero => rfl
  | succ f => rw [rootFrom, if_neg h]
theorem sq_lt_imp {n : Int} (h0 : 0 ≤ n) (h : n * n < 50000000) : n < 7072 := by
  refine Int.not_le.1 fun hc => ?_
  have h1 := Int.mul_le_mul hc hc (by omega) (by omega)
  omega
theorem length_bounds {g : Guy} (h : g.ok = true) : 1 ≤ g.length ∧ g.length ≤ 10000 := by
  have h1 := sq_bounds h
  have h2 := rootFrom_spec g.sq 10000 0
  refine ⟨?_, by unfold Guy.length; omega⟩
  unfold Guy.length
  rw [show (10000 : Nat) = 9999 + 1 from rfl, rootFrom_step (by omega)]
  have := (rootFrom_spec g.sq 9999 (0 + 1)).2
  omega
theorem holdsStep_lo {soil depth : Int} {r : Int × Int} {x : Tst} (hx : x.ok = true) (h1 : 1 ≤ depth) (h2 : depth ≤ 3000) (hr : 0 ≤ r.1 ∧ r.1 ≤ 15000000) : 0 ≤ (holdsStep soil depth r x).1 ∧ (holdsStep soil depth r x).1 ≤ 15000000 := by
  obtain ⟨_, ⟨a, b⟩, c, d⟩ := Tst.ok_iff.1 hx
  have p1 : 0 ≤ x.force * depth := Int.mul_nonneg (by omega) (by omega)
  have p2 : x.force * depth ≤ 15000000 := by have := Int.mul_le_mul d h2 (by omega) (by omega); omega
  have q1 : 0 ≤ x.force * depth / x.depth := Int.ediv_nonneg p1 (by omega)
  have q2 : x.force * depth / x.depth ≤ 15000000 := by have := Int.ediv_le_self x.depth p1; omega
  unfold holdsStep
  split
  · split
    · exact ⟨by simp only; omega, by simp only; omega⟩
    · exact hr
  · exact hr
theorem foldl_holds {soil depth : Int} (h1 : 1 ≤ depth) (h2 : depth ≤ 3000) : ∀ (l : List Tst) (r : Int × Int), (∀ x ∈ l, x.ok = true) → (0 ≤ r.1 ∧ r.1 ≤ 15000000) → 0 ≤ (l.foldl (holdsStep soil depth) r).1 ∧ (l.foldl (holdsStep soil depth) r).1 ≤ 15000000
  | [], _, _, hr => hr
  | x :: xs, _, hl, hr => foldl_holds h1 h2 xs _ (fun y hy => hl y (by simp [hy])) (holdsStep_lo (hl x (by simp)) h1 h2 hr)
theorem holds_lo {l : List Tst} {soil depth : Int} (hl : ∀ x ∈ l, x.ok = true) (h1 : 1 ≤ depth) (h2 : depth ≤ 3000) : 0 ≤ (holdsM l soil depth).1 ∧ (holdsM l soil depth).1 ≤ 15000000 :=
  foldl_holds h1 h2 l _ hl (by simp)
theorem part_bounds {l : List Tst} {g : Guy} (hl : ∀ x ∈ l, x.ok = true) (hg : g.ok = true) : 0 ≤ g.part l ∧ g.part l ≤ 100 := by
  obtain ⟨_, _, _, _, _, c, d⟩ := Guy.ok_iff.1 hg
  have h1 := holds_lo (soil := g.soil) hl c d
  have h2 := length_bounds hg
  have h3 : 0 ≤ 100 * (holdsM l g.soil g.depth).1 / g.length := Int.ediv_nonneg (by omega) (by omega)
  unfold Guy.part partOf
  omega
end Go.Proofs.Ytibaindlbpfecaa

/- Bounds of products, vectors within bounds; what guys do in a direction. -/
namespace Go.Proofs.Ytibaindlbpfecaa
theorem mulb {a b p q : Int} (ha : -p ≤ a ∧ a ≤ p) (hb : -q ≤ b ∧ b ≤ q) : -(p * q) ≤ a * b ∧ a * b ≤ p * q := by
  have h1 : (a * b).natAbs ≤ (p * q).natAbs := by
    rw [Int.natAbs_mul, Int.natAbs_mul]; exact Nat.mul_le_mul (by omega) (by omega)
  have h2 : 0 ≤ p * q := Int.mul_nonneg (by omega) (by omega)
  omega
def VB (v : Vec) (b : Int) : Prop := (-b ≤ v.x ∧ v.x ≤ b) ∧ (-b ≤ v.y ∧ v.y ≤ b)
theorem VB.dot {v u : Vec} {p q : Int} (hv : VB v p) (hu : VB u q) : (-(p * q) ≤ v.x * u.x ∧ v.x * u.x ≤ p * q) ∧ (-(p * q) ≤ v.y * u.y ∧ v.y * u.y ≤ p * q) := ⟨mulb hv.1 hu.1, mulb hv.2 hu.2⟩
theorem VB.dot' {v u : Vec} {p q : Int} (hv : VB v p) (hu : VB u q) : -(2 * (p * q)) ≤ v.dot u ∧ v.dot u ≤ 2 * (p * q) := by
  obtain ⟨h1, h2⟩ := hv.dot hu
  unfold Vec.dot
  omega
theorem VB.times {v : Vec} {p q n : Int} (hv : VB v p) (hn : -q ≤ n ∧ n ≤ q) : VB (v.times n) (q * p) := ⟨mulb hn hv.1, mulb hn hv.2⟩
theorem VB.mono {v : Vec} {p q : Int} (hv : VB v p) (h : p ≤ q) : VB v q := by unfold VB at *; omega
theorem VB.neg {v : Vec} {p : Int} (hv : VB v p) : VB (v.times (-1)) p := by
  unfold VB Vec.times at *; simp only; omega
theorem VB.turned {v : Vec} {p : Int} (hv : VB v p) : VB v.turned p := by unfold VB Vec.turned at *; simp only; omega
theorem Vec.corner_iff {v : Vec} : v.corner = true ↔ VB v 10000 := by simp [Vec.corner, inB_true, VB]
theorem force_vb {l : List Tst} {g : Guy} (hl : ∀ x ∈ l, x.ok = true) (hg : g.ok = true) : VB (g.force l) 500000 := by
  obtain ⟨a, b, _⟩ := Guy.ok_iff.1 hg
  have hp := part_bounds hl hg
  have h1 := mulb (a := g.part l) (b := g.x) (p := 100) (q := 5000) (by omega) (by omega)
  have h2 := mulb (a := g.part l) (b := g.y) (p := 100) (q := 5000) (by omega) (by omega)
  exact ⟨by simpa [Guy.force] using h1, by simpa [Guy.force] using h2⟩
theorem forces_vb {l : List Tst} {h : Head} (hl : ∀ x ∈ l, x.ok = true) (hg : ∀ g ∈ h.guys, g.ok = true) : ∀ v ∈ forcesM l h, VB v 500000 := by
  intro v hv
  obtain ⟨g, hm, rfl⟩ := List.mem_map.1 hv
  exact force_vb hl (hg g hm)
theorem Head.guys_ok {h : Head} (hh : h.ok = true) : ∀ g ∈ h.guys, g.ok = true := by simp [Head.ok] at hh; exact hh.2.2.2
theorem Head.guys_le {h : Head} (hh : h.ok = true) : h.guys.length ≤ 8 := by simp [Head.ok] at hh; exact hh.2.2.1
theorem Head.area_in {h : Head} (hh : h.ok = true) : 0 ≤ h.area ∧ h.area ≤ 1000 := by simp [Head.ok, inB_true] at hh; exact hh.1
theorem Head.bears_in {h : Head} (hh : h.ok = true) : 0 ≤ h.bears ∧ h.bears ≤ 10000000 := by simp [Head.ok, inB_true] at hh; exact hh.2.1
theorem forcesM_length {l : List Tst} {h : Head} : (forcesM l h).length = h.guys.length := by simp [forcesM]
/-- The directions that the reference asks. -/
def refWays (f : List Vec) : List Vec := f.foldl (fun ws v => ws ++ [v, v.times (-1), ⟨-v.y, v.x⟩, ⟨v.y, -v.x⟩]) [⟨1, 0⟩, ⟨0, 1⟩, ⟨-1, 0⟩, ⟨0, -1⟩]
def weakInB (f : List Vec) (push way : Vec) : Bool := decide (helpM f way < way.dot push)
def balancesB (f : List Vec) (push : Vec) : Bool := (refWays f).all fun way => !weakInB f push way
theorem refWays_vb {f : List Vec} {p : Int} (hp : 1 ≤ p) (hf : ∀ v ∈ f, VB v p) : ∀ v ∈ refWays f, VB v p := by
  have key : ∀ (f ws : List Vec), (∀ v ∈ f, VB v p) → (∀ v ∈ ws, VB v p) → ∀ v ∈ f.foldl (fun ws v => ws ++ [v, v.times (-1), ⟨-v.y, v.x⟩, ⟨v.y, -v.x⟩]) ws, VB v p := by
    intro f
    induction f with
    | nil => intro ws _ h; exact h
    | cons a f ih =>
      intro ws hf hws
      refine ih _ (fun v hv => hf v (by simp [hv])) ?_
      intro v hv
      have ha := hf a (by simp)
      simp only [List.mem_append, List.mem_cons, List.not_mem_nil, or_false] at hv
      rcases hv with hv | rfl | rfl | rfl | rfl
      · exact hws v hv
      · exact ha
      · exact ha.neg
      · exact ha.turned
      · unfold VB at *; simp only; omega
  refine key f _ hf ?_
  intro v hv
  simp only [List.mem_cons, List.not_mem_nil, or_false] at hv
  rcases hv with rfl | rfl | rfl | rfl <;> (unfold VB; simp only; omega)
theorem helpM_nonneg {f : List Vec} {way : Vec} : 0 ≤ helpM f way := by
  have key : ∀ (f : List Vec) (n : Int), 0 ≤ n → 0 ≤ f.foldl (fun n v => n + max 0 (-(way.dot v))) n := by
    intro f
    induction f with
    | nil => intro n h; exact h
    | cons a f ih => intro n h; exact ih _ (by simp only; omega)
  exact key f 0 (by omega)
end Go.Proofs.Ytibaindlbpfecaa

/- What a stake holds grows with its depth; the least depth. -/
namespace Go.Proofs.Ytibaindlbpfecaa
/-- The first depth from d on, of so many, at which Lo is at least the force; 0: none. -/
def deepFrom (l : List Tst) (soil force : Int) : Nat → Int → Int
  | 0, _ => 0
  | f + 1, d => if force ≤ (holdsM l soil d).1 then d else deepFrom l soil force f (d + 1)
def deepM (l : List Tst) (soil force : Int) : Int := deepFrom l soil force 3000 1
theorem foldl_mono {soil d1 d2 : Int} (h0 : 0 ≤ d1) (h : d1 ≤ d2) : ∀ (l : List Tst) (r1 r2 : Int × Int), (∀ x ∈ l, x.ok = true) → r1.1 ≤ r2.1 → (l.foldl (holdsStep soil d1) r1).1 ≤ (l.foldl (holdsStep soil d2) r2).1
  | [], _, _, _, hr => hr
  | x :: xs, r1, r2, hl, hr => by
    refine foldl_mono h0 h xs _ _ (fun y hy => hl y (by simp [hy])) ?_
    obtain ⟨_, ⟨a, _⟩, b, _⟩ := Tst.ok_iff.1 (hl x (by simp))
    have h1 : x.force * d1 ≤ x.force * d2 := Int.mul_le_mul_of_nonneg_left h (by omega)
    have h2 : x.force * d1 / x.depth ≤ x.force * d2 / x.depth := Int.ediv_le_ediv (by omega) h1
    unfold holdsStep
    split
    · split
      · simp only; omega
      · exact hr
    · exact hr
theorem holds_mono {l : List Tst} {soil d1 d2 : Int} (hl : ∀ x ∈ l, x.ok = true) (h0 : 0 ≤ d1) (h : d1 ≤ d2) : (holdsM l soil d1).1 ≤ (holdsM l soil d2).1 := foldl_mono h0 h l _ _ hl (Int.le_refl _)
theorem deepFrom_spec (l : List Tst) (soil force : Int) : ∀ (f : Nat) (d : Int), 1 ≤ d →
    (deepFrom l soil force f d = 0 ∧ ∀ h, d ≤ h → h < d + f → (holdsM l soil h).1 < force) ∨
    (d ≤ deepFrom l soil force f d ∧ deepFrom l soil force f d < d + f ∧ force ≤ (holdsM l soil (deepFrom l soil force f d)).1 ∧ ∀ h, d ≤ h → h < deepFrom l soil force f d → (holdsM l soil h).1 < force)
  | 0, d, _ => .inl ⟨rfl, fun h h1 h2 => by omega⟩
  | f + 1, d, hd => by
    rw [deepFrom]
    split
    · rename_i hf
      exact .inr ⟨by omega, by omega, hf, fun h h1 h2 => by omega⟩
    · rename_i hf
      rcases deepFrom_spec l soil force f (d + 1) (by omega) with ⟨e, hn⟩ | ⟨e1, e2, e3, hn⟩
      · refine .inl ⟨e, fun h h1 h2 => ?_⟩
        by_cases hh : h = d
        · subst hh; omega
        · exact hn h (by omega) (by omega)
      · refine .inr ⟨by omega, by omega, e3, fun h h1 h2 => ?_⟩
        by_cases hh : h = d
        · subst hh; omega
        · exact hn h (by omega) h2
/-- What the search by halves finds: the least depth less one; 3000: none. -/
def deepR (l : List Tst) (soil force : Int) : Int := if deepM l soil force = 0 then 3000 else deepM l soil force - 1
theorem deepR_spec {l : List Tst} {soil force : Int} (hl : ∀ x ∈ l, x.ok = true) :
    (0 ≤ deepR l soil force ∧ deepR l soil force ≤ 3000) ∧ (∀ h, 0 ≤ h → h < deepR l soil force → decide (force ≤ (holdsM l soil (h + 1)).1) = false) ∧ (∀ h, deepR l soil force ≤ h → h < 3000 → decide (force ≤ (holdsM l soil (h + 1)).1) = true) := by
  have key := deepFrom_spec l soil force 3000 1 (by omega)
  change (deepM l soil force = 0 ∧ _) ∨ (1 ≤ deepM l soil force ∧ deepM l soil force < _ ∧ force ≤ (holdsM l soil (deepM l soil force)).1 ∧ ∀ h, 1 ≤ h → h < deepM l soil force → _) at key
  unfold deepR
  generalize deepM l soil force = m at *
  rcases key with ⟨rfl, hn⟩ | ⟨h1, h2, h3, hn⟩
  · simp only [if_true]
    exact ⟨by omega, fun h a b => by have := hn (h + 1) (by omega) (by omega); simp; omega, fun h a b => by omega⟩
  · rw [if_neg (by omega)]
    refine ⟨by omega, fun h a b => by have := hn (h + 1) (by omega) (by omega); simp; omega, fun h a b => ?_⟩
    have := holds_mono (soil := soil) hl (d1 := m) (d2 := h + 1) (by omega) (by omega)
    simp; omega
end Go.Proofs.Ytibaindlbpfecaa

/- Words for memory that the walks of this seat share: a slice of structs that reads as a list. -/
namespace Go.Proofs.Ytibaindlbpfecaa
open Go.RowKit

/-- The slice at A reads as the list l, each element as the cells that enc gives; below block B. -/
def RS {α : Type} (enc : α → List Value) (sz : Nat) (w : World) (B : Nat) (A : Option Addr) (l : List α) : Prop :=
  l = [] ∨ ∃ b off, A = some ⟨b, off, none⟩ ∧ b < B ∧ ∀ k x, l[k]? = some x → ∀ j v, (enc x)[j]? = some v → w.cell? ⟨b, off + k * sz + j, none⟩ = some v

section
variable {α : Type} {enc : α → List Value} {sz B B' : Nat} {w w' : World} {A : Option Addr} {l : List α}
theorem RS.at_ (h : RS enc sz w B A l) {k : Nat} {x : α} (hk : l[k]? = some x) :
    ∃ b off, A = some ⟨b, off, none⟩ ∧ b < B ∧ ∀ j v, (enc x)[j]? = some v → w.cell? ⟨b, off + k * sz + j, none⟩ = some v := by
  rcases h with rfl | ⟨b, off, hA, hb, hc⟩
  · simp at hk
  · exact ⟨b, off, hA, hb, hc k x hk⟩
theorem RS.below (h : RS enc sz w B A l) (hb : Below B' w w') (hB : B ≤ B') : RS enc sz w' B A l := by
  rcases h with rfl | ⟨b, off, hA, hlt, hc⟩
  · exact .inl rfl
  · exact .inr ⟨b, off, hA, hlt, fun k x hk j v hv => (hb.cell (p := ⟨b, _, none⟩) (by show b < B'; omega)).trans (hc k x hk j v hv)⟩
theorem RS.more (h : RS enc sz w B A l) (hB : B ≤ B') : RS enc sz w B' A l := by
  rcases h with rfl | ⟨b, off, hA, hlt, hc⟩
  · exact .inl rfl
  · exact .inr ⟨b, off, hA, by omega, hc⟩
end

theorem below_drewN {B : Nat} {a w : World} (h : Below B a w) (n : Nat) : Below B a (w.drewN n) := ⟨h.os, h.tape, h.output, h.size, h.block⟩
theorem ret_int {k : IntKind} {a b : Int} (h : a = b) : Ending.returned (.int k a) = .returned (.int k b) := by rw [h]
theorem ret_bool {a b : Bool} (h : a = b) : Ending.returned (.bool a) = .returned (.bool b) := by rw [h]

theorem ret_two {k : IntKind} {a b c d : Int} (h : a = b) (h2 : c = d) : Ending.returned (.tuple #[.int k a, .int k c]) = .returned (.tuple #[.int k b, .int k d]) := by rw [h, h2]
theorem getElem?_lt {α : Type} {l : List α} {k : Nat} (h : k < l.length) : ∃ x, l[k]? = some x := ⟨l[k], List.getElem?_eq_getElem h⟩
theorem take_snoc' {α : Type} {l : List α} {k : Nat} {x : α} (h : l[k]? = some x) : l.take (k + 1) = l.take k ++ [x] := by
  rw [List.take_add_one, h]; rfl
theorem lt_of_getElem? {α : Type} {l : List α} {k : Nat} {x : α} (h : l[k]? = some x) : k < l.length := by
  rw [List.getElem?_eq_some_iff] at h; exact h.1
theorem bcell {W w1 : World} (hb : Below W.heap.size W w1) : (∀ b o, b < W.heap.size → w1.cell? ⟨b, o, none⟩ = W.cell? ⟨b, o, none⟩) ∧ (∀ b o, b < W.heap.size → w1.frozen? ⟨b, o, none⟩ = W.frozen? ⟨b, o, none⟩) :=
  ⟨fun b o h => hb.cell (p := ⟨b, o, none⟩) h, fun b o h => hb.frozen (p := ⟨b, o, none⟩) h⟩

/-- Block g is just the cells cs of element type t, none frozen. -/
def Blk (w : World) (g : Nat) (t : TypeId) (cs : Array Value) : Prop := w.heap[g]? = some (.cells cs t (0, 0))
section
variable {w w' : World} {g : Nat} {t : TypeId} {cs : Array Value}
theorem Blk.lt (h : Blk w g t cs) : g < w.heap.size := by
  rcases Nat.lt_or_ge g w.heap.size with hlt | hge
  · exact hlt
  · unfold Blk at h; rw [Array.getElem?_eq_none hge] at h; cases h
theorem Blk.cell (h : Blk w g t cs) (i : Nat) : w.cell? ⟨g, i, none⟩ = cs[i]? := cell_of_row w g i cs t (0, 0) h
theorem Blk.frozen (h : Blk w g t cs) (i : Nat) : w.frozen? ⟨g, i, none⟩ = false := by
  unfold Blk at h
  simp [World.frozen?, h]
theorem Blk.new (w : World) (t : TypeId) (cs : Array Value) : Blk (w.alloc (.cells cs t)) w.heap.size t cs := heap_alloc_new w _
theorem Blk.drew (h : Blk w g t cs) : Blk w.drew g t cs := h
theorem Blk.drewN (h : Blk w g t cs) (n : Nat) : Blk (w.drewN n) g t cs := h
theorem Blk.alloc (h : Blk w g t cs) (o : Obj) : Blk (w.alloc o) g t cs := (Below.heap_alloc w o g h.lt).trans h
theorem Blk.set_ (h : Blk w g t cs) (i : Nat) (u : Value) : Blk (w.setCell ⟨g, i, none⟩ u) g t (cs.setIfInBounds i u) := by
  unfold Blk at h ⊢
  simp [World.setCell, Array.getElem?_modify, h]
theorem Blk.far (h : Blk w g t cs) {p : Addr} (hp : g ≠ p.block) (u : Value) : Blk (w.setCell p u) g t cs := (Below.heap_setCell w p u g hp).trans h
theorem Blk.below {B : Nat} (h : Blk w g t cs) (hb : Below B w w') (hg : g < B) : Blk w' g t cs := (hb.block g hg).trans h
theorem Blk.grown {row : Option Nat} (h : Blk w g t cs) (hb : w.grownBy w' row) (hg : some g ≠ row) : Blk w' g t cs := (hb.block g h.lt hg).trans h
end
end Go.Proofs.Ytibaindlbpfecaa

/- One condition for every region that draws its order and calls functions that make memory: below the heap's size at its begin nothing turns. -/
namespace Go.Proofs.Ytibaindlbpfecaa
open Go.RowKit
attribute [go_sem] Instr.field asAgg

structure Named (W W0 : World) : Prop where
  cell : ∀ b o, W0.cell? ⟨b, o, none⟩ = W.cell? ⟨b, o, none⟩
  frozen : ∀ b o, W0.frozen? ⟨b, o, none⟩ = W.frozen? ⟨b, o, none⟩
  size : W0.heap.size = W.heap.size
  eq : Hid (W0 = W)
theorem name_world {motive : World → Prop} (W : World) (h : ∀ W0, Named W W0 → motive W0) : motive W := h W ⟨fun _ _ => rfl, fun _ _ => rfl, rfl, rfl⟩
theorem Named.below {W W0 a : World} {B : Nat} (h : Named W W0) (hb : Below B a W) : Below B a W0 := by rw [h.eq.out]; exact hb
theorem Named.blk {W W0 : World} {g t : Nat} {cs : Array Value} (h : Named W W0) (hb : Blk W g t cs) : Blk W0 g t cs := by rw [h.eq.out]; exact hb
theorem sh_refl (W0 : World) : (∀ b o, b < W0.heap.size → W0.drew.cell? ⟨b, o, none⟩ = W0.cell? ⟨b, o, none⟩) ∧ Below W0.heap.size W0 W0.drew := ⟨fun _ _ _ => rfl, (Below.refl _ _).drew⟩
theorem sh_of {W0 w1 : World} (h : Below W0.heap.size W0 w1) : (∀ b o, b < W0.heap.size → w1.cell? ⟨b, o, none⟩ = W0.cell? ⟨b, o, none⟩) ∧ Below W0.heap.size W0 w1 := ⟨fun b o hb => h.cell (p := ⟨b, o, none⟩) hb, h⟩
theorem sh_alloc {W0 w1 : World} (h : Below W0.heap.size W0 w1) (o : Obj) : (∀ b i, b < W0.heap.size → (w1.alloc o).cell? ⟨b, i, none⟩ = W0.cell? ⟨b, i, none⟩) ∧ Below W0.heap.size W0 (w1.alloc o) := sh_of (h.alloc h.size o)
theorem sh_next {W0 w1 w2 : World} (h : Below W0.heap.size W0 w1) (h2 : Below w1.heap.size w1 w2) : Below W0.heap.size W0 w2 := h.trans (h2.mono h.size)
theorem RS.to {α : Type} {enc : α → List Value} {sz : Nat} {W0 w1 : World} {A : Option Addr} {l : List α} (h : RS enc sz W0 W0.heap.size A l) (hb : Below W0.heap.size W0 w1) : RS enc sz w1 w1.heap.size A l := (h.below hb (Nat.le_refl _)).more hb.size
theorem quiet_l {P : Program} {f : FuncId} {args : Array Value} {w : World} {n : Nat} {v : Value}
    (h : Calls P f args (w.drewN n) fun e w' => e = .returned v ∧ w.drewN n = w') : Calls P f args (w.drewN n) fun e w'' => e = .returned v ∧ ∃ m, w'' = w.drewN m :=
  h.mono fun _ _ ⟨he, hm⟩ => ⟨he, n, hm.symm⟩
theorem quiet_al {P : Program} {f : FuncId} {args : Array Value} {w : World} {a n : Nat} {v : Value}
    (h : Calls P f args (w.drewN (a + n)) fun e w' => e = .returned v ∧ w.drewN (a + n) = w') :
    Calls P f args (w.drewN (a + n)) fun e w'' => e = .returned v ∧ ∃ m, w'' = w.drewN (a + m) :=
  h.mono fun _ _ ⟨he, hm⟩ => ⟨he, n, hm.symm⟩
theorem sh_first (W0 : World) (o : Obj) : (∀ b i, b < W0.heap.size → (W0.alloc o).drew.cell? ⟨b, i, none⟩ = W0.cell? ⟨b, i, none⟩) ∧ Below W0.heap.size W0 (W0.alloc o).drew := sh_of (((Below.refl _ W0).alloc (Nat.le_refl _) o).drew)
end Go.Proofs.Ytibaindlbpfecaa

/- Rows that a call makes by append, and the lists that they read as. -/
namespace Go.Proofs.Ytibaindlbpfecaa
open Go.RowKit

theorem flat_get {α : Type} {enc : α → List Value} {sz : Nat} (hs : ∀ x, (enc x).length = sz) : ∀ (l : List α) (k : Nat) (x : α), l[k]? = some x → ∀ j v, (enc x)[j]? = some v → (l.flatMap enc)[k * sz + j]? = some v := by
  intro l
  induction l with
  | nil => intro k x h; simp at h
  | cons a l ih =>
    intro k x h j v hv
    rw [List.flatMap_cons]
    cases k with
    | zero =>
      simp only [List.getElem?_cons_zero, Option.some.injEq] at h
      subst h
      have hj : j < (enc a).length := by rw [List.getElem?_eq_some_iff] at hv; exact hv.1
      rw [Nat.zero_mul, Nat.zero_add, List.getElem?_append_left hj]; exact hv
    | succ k =>
      have h' : l[k]? = some x := by simpa using h
      rw [List.getElem?_append_right (by rw [hs, Nat.add_mul, Nat.one_mul]; omega), hs, show (k + 1) * sz + j - sz = k * sz + j from by rw [Nat.add_mul, Nat.one_mul]; omega]
      exact ih k x h' j v hv

/-- A row of the call's own reads as the list that it was made of. -/
theorem RS.of_own {α : Type} {enc : α → List Value} {sz : Nat} (hs : ∀ x, (enc x).length = sz) {w : World} {base e n : Nat} {A : Option Addr} {c : Nat} {l : List α}
    (h : w.ownsRow base e sz (.slice A n c) n (l.flatMap enc)) (hn : n = l.length) : RS enc sz w w.heap.size A l := by
  rcases l with _ | ⟨a, l⟩
  · exact .inl rfl
  · right
    have hpos : 0 < n := by rw [hn]; simp
    obtain ⟨g, cap, hv, _, hlt⟩ := h.form hpos
    have hA : A = some ⟨g, 0, none⟩ := by injection hv
    subst hA
    refine ⟨g, 0, rfl, hlt, fun k x hk j v hj => ?_⟩
    have := h.cells (g := g) rfl (k * sz + j) v (flat_get hs _ k x hk j v hj)
    rw [Addr.add_lit] at this
    simpa using this

/-- Every row of the call's own is a slice. -/
theorem own_slice {w : World} {base e sz n : Nat} {v : Value} {xs : List Value} (h : w.ownsRow base e sz v n xs) : ∃ A c, v = .slice A n c ∧ n ≤ c ∧ c ≤ maxLen := by
  rcases h.2 with ⟨rfl, rfl⟩ | ⟨g, cap, cur, rfl, _, _, h1, h2, _⟩
  · exact ⟨none, 0, rfl, Nat.le_refl _, Nat.zero_le _⟩
  · exact ⟨_, _, rfl, h1, h2⟩
theorem flat_snoc {α : Type} {enc : α → List Value} {l : List α} {k : Nat} {x : α} (h : l[k]? = some x) : (l.take (k + 1)).flatMap enc = (l.take k).flatMap enc ++ enc x := by
  rw [List.take_add_one, h]; simp
theorem shB_refl (B : Nat) (W0 : World) : (∀ b o, b < B → W0.drew.cell? ⟨b, o, none⟩ = W0.cell? ⟨b, o, none⟩) ∧ Below B W0 W0.drew := ⟨fun _ _ _ => rfl, (Below.refl _ _).drew⟩
theorem shB_of {B : Nat} {W0 w1 : World} (h : Below B W0 w1) : (∀ b o, b < B → w1.cell? ⟨b, o, none⟩ = W0.cell? ⟨b, o, none⟩) ∧ Below B W0 w1 := ⟨fun b o hb => h.cell (p := ⟨b, o, none⟩) hb, h⟩
theorem shB_alloc {B : Nat} {W0 w1 : World} (h : Below B W0 w1) (hB : B ≤ W0.heap.size) (o : Obj) : (∀ b i, b < B → (w1.alloc o).cell? ⟨b, i, none⟩ = W0.cell? ⟨b, i, none⟩) ∧ Below B W0 (w1.alloc o) := shB_of (h.alloc (Nat.le_trans hB h.size) o)
theorem shB_first {B : Nat} (W0 : World) (hB : B ≤ W0.heap.size) (o : Obj) : (∀ b i, b < B → (W0.alloc o).drew.cell? ⟨b, i, none⟩ = W0.cell? ⟨b, i, none⟩) ∧ Below B W0 (W0.alloc o).drew := shB_of (((Below.refl B W0).alloc hB o).drew)
/-- What an append leaves: below the first block of the call's own nothing has turned. -/
theorem app_below {B e sz n : Nat} {a w w1 : World} {v : Value} {xs : List Value} (h : Below B a w) (hB : B ≤ w.heap.size) (hown : w.ownsRow B e sz v n xs) (hg : w.grownBy w1 v.ownBlock) : Below B a w1 :=
  h.grown hg hB (fun k hk => (hown.lt k hk).1)
theorem own_below {B e sz n : Nat} {w w1 : World} {v : Value} {xs : List Value} (h : w.ownsRow B e sz v n xs) (hb : Below w.heap.size w w1) : w1.ownsRow B e sz v n xs := by
  have hlt := h.lt
  obtain ⟨h1, h2⟩ := h
  refine ⟨h1, ?_⟩
  rcases h2 with h2 | ⟨g, cap, cur, hv, hg, hh, r⟩
  · exact .inl h2
  · exact .inr ⟨g, cap, cur, hv, hg, by rw [hb.block g (hlt g (by rw [hv]; rfl)).2]; exact hh, r⟩
end Go.Proofs.Ytibaindlbpfecaa

/- Heads in memory: a slice of heads, each with its own slice of guys. -/
namespace Go.Proofs.Ytibaindlbpfecaa
open Go.RowKit
def encG (g : Guy) : List Value := [.int .i64 g.x, .int .i64 g.y, .int .i64 g.down, .int .i64 g.soil, .int .i64 g.depth]
def encV (v : Vec) : List Value := [.int .i64 v.x, .int .i64 v.y]
def encI (i : Int) : List Value := [.int .i64 i]
/-- The slice at A reads as the heads t; all of it lies below block B. -/
def RH (w : World) (B : Nat) (A : Option Addr) (t : List Head) : Prop :=
  t = [] ∨ ∃ b off, A = some ⟨b, off, none⟩ ∧ b < B ∧ ∀ k h, t[k]? = some h → ∃ A' c', w.cell? ⟨b, off + k * 3, none⟩ = some (.int .i64 h.area) ∧ w.cell? ⟨b, off + k * 3 + 1, none⟩ = some (.int .i64 h.bears) ∧
    w.cell? ⟨b, off + k * 3 + 2, none⟩ = some (.slice A' h.guys.length c') ∧ h.guys.length ≤ c' ∧ c' ≤ maxLen ∧ RS encG 5 w B A' h.guys
section
variable {B B' : Nat} {w w' : World} {A : Option Addr} {t : List Head}
theorem RH.at_ (h : RH w B A t) {k : Nat} {x : Head} (hk : t[k]? = some x) :
    ∃ b off A' c', A = some ⟨b, off, none⟩ ∧ b < B ∧ w.cell? ⟨b, off + k * 3, none⟩ = some (.int .i64 x.area) ∧ w.cell? ⟨b, off + k * 3 + 1, none⟩ = some (.int .i64 x.bears) ∧
    w.cell? ⟨b, off + k * 3 + 2, none⟩ = some (.slice A' x.guys.length c') ∧ x.guys.length ≤ c' ∧ c' ≤ maxLen ∧ RS encG 5 w B A' x.guys := by
  rcases h with rfl | ⟨b, off, hA, hb, hc⟩
  · simp at hk
  · obtain ⟨A', c', h⟩ := hc k x hk
    exact ⟨b, off, A', c', hA, hb, h⟩
theorem RH.below (h : RH w B A t) (hb : Below B' w w') (hB : B ≤ B') : RH w' B A t := by
  rcases h with rfl | ⟨b, off, hA, hlt, hc⟩
  · exact .inl rfl
  · refine .inr ⟨b, off, hA, hlt, fun k x hk => ?_⟩
    obtain ⟨A', c', h0, h1, h2, h3, h4, h5⟩ := hc k x hk
    have key : ∀ o, w'.cell? ⟨b, o, none⟩ = w.cell? ⟨b, o, none⟩ := fun o => hb.cell (p := ⟨b, o, none⟩) (by show b < B'; omega)
    exact ⟨A', c', (key _).trans h0, (key _).trans h1, (key _).trans h2, h3, h4, h5.below hb hB⟩
theorem RH.more (h : RH w B A t) (hB : B ≤ B') : RH w B' A t := by
  rcases h with rfl | ⟨b, off, hA, hlt, hc⟩
  · exact .inl rfl
  · refine .inr ⟨b, off, hA, by omega, fun k x hk => ?_⟩
    obtain ⟨A', c', h0, h1, h2, h3, h4, h5⟩ := hc k x hk
    exact ⟨A', c', h0, h1, h2, h3, h4, h5.more hB⟩
theorem RH.to {W0 w1 : World} (h : RH W0 W0.heap.size A t) (hb : Below W0.heap.size W0 w1) : RH w1 w1.heap.size A t := (h.below hb (Nat.le_refl _)).more hb.size
end
theorem five_cells {g : Guy} {w : World} {b o : Nat} (hc : ∀ j v, (encG g)[j]? = some v → w.cell? ⟨b, o + j, none⟩ = some v) :
    w.cell? ⟨b, o, none⟩ = some (.int .i64 g.x) ∧ w.cell? ⟨b, o + 1, none⟩ = some (.int .i64 g.y) ∧ w.cell? ⟨b, o + 2, none⟩ = some (.int .i64 g.down) ∧ w.cell? ⟨b, o + 3, none⟩ = some (.int .i64 g.soil) ∧ w.cell? ⟨b, o + 4, none⟩ = some (.int .i64 g.depth) :=
  ⟨hc 0 _ rfl, hc 1 _ rfl, hc 2 _ rfl, hc 3 _ rfl, hc 4 _ rfl⟩
end Go.Proofs.Ytibaindlbpfecaa

/- Rows of the call's own whose elements hold slices of the call's own. -/
namespace Go.Proofs.Ytibaindlbpfecaa
open Go.RowKit

theorem RS.grown {α : Type} {enc : α → List Value} {sz : Nat} {w w' : World} {B : Nat} {row : Option Nat} {A : Option Addr} {l : List α} (h : RS enc sz w B A l) (hg : w.grownBy w' row) (hB : B ≤ w.heap.size) (hne : ∀ ad, A = some ad → some ad.block ≠ row) : RS enc sz w' B A l := by
  rcases h with rfl | ⟨b, off, rfl, hlt, hc⟩
  · exact .inl rfl
  · exact .inr ⟨b, off, rfl, hlt, fun k x hk j v hv => (World.cell?_of_block (hg.block b (by omega) (hne _ rfl))).trans (hc k x hk j v hv)⟩

/-- The j-th pair is the address and the capacity of the slice of the j-th element; none of them lies in the row itself. -/
def Subs {α β : Type} (enc : β → List Value) (sz : Nat) (sub : α → List β) (w : World) (own : Option Nat) (t : List α) (cs : List (Option Addr × Nat)) : Prop :=
  cs.length = t.length ∧ ∀ (j : Nat) (x : α) (a : Option Addr × Nat), t[j]? = some x → cs[j]? = some a → (sub x).length ≤ a.2 ∧ a.2 ≤ maxLen ∧ RS enc sz w w.heap.size a.1 (sub x) ∧ (sub x = [] ∨ ∀ ad, a.1 = some ad → some ad.block ≠ own)
section
variable {α β : Type} {enc : β → List Value} {sz : Nat} {sub : α → List β} {w w' : World} {own own' : Option Nat} {t : List α} {cs : List (Option Addr × Nat)}
theorem Subs.nil : Subs enc sz sub w own ([] : List α) [] := ⟨rfl, fun j x a h => by simp at h⟩
theorem Subs.below (h : Subs enc sz sub w own t cs) (hb : Below w.heap.size w w') : Subs enc sz sub w' own t cs :=
  ⟨h.1, fun j x a hx ha => by obtain ⟨h1, h2, h3, h4⟩ := h.2 j x a hx ha; exact ⟨h1, h2, h3.to hb, h4⟩⟩
theorem RS.lt {A : Option Addr} {l : List β} {B : Nat} (h : RS enc sz w B A l) (hl : l ≠ []) : ∀ ad, A = some ad → ad.block < B := by
  rcases h with h0 | ⟨b, off, rfl, hb, _⟩
  · exact absurd h0 hl
  · intro ad e; cases e; exact hb
theorem Subs.grown (h : Subs enc sz sub w own t cs) (hg : w.grownBy w' own) {g : Nat} (hn : own = some g ∨ w.heap.size ≤ g) : Subs enc sz sub w' (some g) t cs :=
  ⟨h.1, fun j x a hx ha => by
    obtain ⟨h1, h2, h3, h4⟩ := h.2 j x a hx ha
    rcases h4 with h4 | h4
    · exact ⟨h1, h2, .inl h4, .inl h4⟩
    · refine ⟨h1, h2, (h3.grown hg (Nat.le_refl _) h4).more hg.size, ?_⟩
      rcases Classical.em (sub x = []) with h0 | h0
      · exact .inl h0
      · right
        intro ad e
        rcases hn with rfl | hn
        · exact h4 ad e
        · have := h3.lt h0 ad e
          intro he
          injection he with he
          omega⟩
theorem Subs.snoc (h : Subs enc sz sub w own t cs) {x : α} {A : Option Addr} {c : Nat} (h1 : (sub x).length ≤ c) (h2 : c ≤ maxLen) (h3 : RS enc sz w w.heap.size A (sub x)) (h4 : sub x = [] ∨ ∀ ad, A = some ad → some ad.block ≠ own) : Subs enc sz sub w own (t ++ [x]) (cs ++ [(A, c)]) := by
  refine ⟨by simp [h.1], fun j y a hy ha => ?_⟩
  by_cases hj : j < t.length
  · rw [List.getElem?_append_left hj] at hy
    rw [List.getElem?_append_left (by rw [h.1]; exact hj)] at ha
    exact h.2 j y a hy ha
  · have hj2 : j = t.length := by
      have := lt_of_getElem? hy
      simp at this; omega
    subst hj2
    rw [List.getElem?_append_right (Nat.le_refl _), Nat.sub_self] at hy
    rw [List.getElem?_append_right (by rw [h.1]; exact Nat.le_refl _), h.1, Nat.sub_self] at ha
    simp only [List.getElem?_cons_zero, Option.some.injEq] at hy ha
    subst hy ha
    exact ⟨h1, h2, h3, h4⟩
end

def encR (p : List Int) (a : Option Addr × Nat) : List Value := [.slice a.1 p.length a.2]
def encH (h : Head) (a : Option Addr × Nat) : List Value := [.int .i64 h.area, .int .i64 h.bears, .slice a.1 h.guys.length a.2]
/-- The cells of all elements, each with its slice. -/
def flat2 {α : Type} (enc : α → Option Addr × Nat → List Value) (t : List α) (cs : List (Option Addr × Nat)) : List Value := (List.zipWith enc t cs).flatten
theorem flat2_snoc {α : Type} {enc : α → Option Addr × Nat → List Value} {t : List α} {cs : List (Option Addr × Nat)} (h : cs.length = t.length) (x : α) (a : Option Addr × Nat) : flat2 enc (t ++ [x]) (cs ++ [a]) = flat2 enc t cs ++ enc x a := by
  unfold flat2
  rw [List.zipWith_append h.symm]
  simp
theorem flat2_get {α : Type} {enc : α → Option Addr × Nat → List Value} {sz : Nat} (hs : ∀ x a, (enc x a).length = sz) : ∀ (t : List α) (cs : List (Option Addr × Nat)) (k : Nat) (x : α) (a : Option Addr × Nat), t[k]? = some x → cs[k]? = some a → ∀ j v, (enc x a)[j]? = some v → (flat2 enc t cs)[k * sz + j]? = some v := by
  intro t
  induction t with
  | nil => intro cs k x a h; simp at h
  | cons y t ih =>
    intro cs k x a ht hc j v hv
    cases cs with
    | nil => simp at hc
    | cons b cs =>
      show ((enc y b :: List.zipWith enc t cs).flatten)[_]? = _
      rw [List.flatten_cons]
      cases k with
      | zero =>
        simp only [List.getElem?_cons_zero, Option.some.injEq] at ht hc
        subst ht hc
        have hj : j < (enc y b).length := lt_of_getElem? hv
        rw [Nat.zero_mul, Nat.zero_add, List.getElem?_append_left hj]; exact hv
      | succ k =>
        have ht' : t[k]? = some x := by simpa using ht
        have hc' : cs[k]? = some a := by simpa using hc
        rw [List.getElem?_append_right (by rw [hs, Nat.add_mul, Nat.one_mul]; omega), hs, show (k + 1) * sz + j - sz = k * sz + j from by rw [Nat.add_mul, Nat.one_mul]; omega]
        exact ih cs k x a ht' hc' j v hv

/-- The slice at A reads as these lists of numbers. -/
def RR (w : World) (B : Nat) (A : Option Addr) (t : List (List Int)) : Prop :=
  t = [] ∨ ∃ b off, A = some ⟨b, off, none⟩ ∧ b < B ∧ ∀ k p, t[k]? = some p → ∃ A' c', w.cell? ⟨b, off + k, none⟩ = some (.slice A' p.length c') ∧ p.length ≤ c' ∧ c' ≤ maxLen ∧ RS encI 1 w B A' p
theorem RR.at_ {w : World} {B : Nat} {A : Option Addr} {t : List (List Int)} (h : RR w B A t) {k : Nat} {p : List Int} (hk : t[k]? = some p) :
    ∃ b off A' c', A = some ⟨b, off, none⟩ ∧ b < B ∧ w.cell? ⟨b, off + k, none⟩ = some (.slice A' p.length c') ∧ p.length ≤ c' ∧ c' ≤ maxLen ∧ RS encI 1 w B A' p := by
  rcases h with rfl | ⟨b, off, hA, hb, hc⟩
  · simp at hk
  · obtain ⟨A', c', h⟩ := hc k p hk
    exact ⟨b, off, A', c', hA, hb, h⟩
theorem RR.below {w w' : World} {B B' : Nat} {A : Option Addr} {t : List (List Int)} (h : RR w B A t) (hb : Below B' w w') (hB : B ≤ B') : RR w' B A t := by
  rcases h with rfl | ⟨b, off, hA, hlt, hc⟩
  · exact .inl rfl
  · refine .inr ⟨b, off, hA, hlt, fun k p hk => ?_⟩
    obtain ⟨A', c', h0, h3, h4, h5⟩ := hc k p hk
    exact ⟨A', c', (hb.cell (p := ⟨b, _, none⟩) (by show b < B'; omega)).trans h0, h3, h4, h5.below hb hB⟩
theorem RR.more {w : World} {B B' : Nat} {A : Option Addr} {t : List (List Int)} (h : RR w B A t) (hB : B ≤ B') : RR w B' A t := by
  rcases h with rfl | ⟨b, off, hA, hlt, hc⟩
  · exact .inl rfl
  · refine .inr ⟨b, off, hA, by omega, fun k p hk => ?_⟩
    obtain ⟨A', c', h0, h3, h4, h5⟩ := hc k p hk
    exact ⟨A', c', h0, h3, h4, h5.more hB⟩
theorem RR.to {W0 w1 : World} {A : Option Addr} {t : List (List Int)} (h : RR W0 W0.heap.size A t) (hb : Below W0.heap.size W0 w1) : RR w1 w1.heap.size A t := (h.below hb (Nat.le_refl _)).more hb.size
theorem RR.of_own {w : World} {base e n c : Nat} {A : Option Addr} {t : List (List Int)} {cs : List (Option Addr × Nat)} {own : Option Nat}
    (h : w.ownsRow base e 1 (.slice A n c) n (flat2 encR t cs)) (hn : n = t.length) (hs : Subs encI 1 id w own t cs) : RR w w.heap.size A t := by
  rcases t with _ | ⟨x, t⟩
  · exact .inl rfl
  · right
    obtain ⟨g, cap, hv, _, hlt⟩ := h.form (by rw [hn]; simp)
    have hA : A = some ⟨g, 0, none⟩ := by injection hv
    subst hA
    refine ⟨g, 0, rfl, hlt, fun k p hk => ?_⟩
    obtain ⟨a, ha⟩ := getElem?_lt (l := cs) (k := k) (by rw [hs.1]; exact lt_of_getElem? hk)
    obtain ⟨h1, h2, h3, _⟩ := hs.2 k p a hk ha
    refine ⟨a.1, a.2, ?_, h1, h2, h3⟩
    have := h.cells (g := g) rfl (k * 1 + 0) _ (flat2_get (enc := encR) (fun _ _ => rfl) _ _ k p a hk ha 0 (.slice a.1 p.length a.2) rfl)
    rw [Addr.add_lit] at this
    simpa using this
theorem RH.of_own {w : World} {base e n c : Nat} {A : Option Addr} {t : List Head} {cs : List (Option Addr × Nat)} {own : Option Nat}
    (h : w.ownsRow base e 3 (.slice A n c) n (flat2 encH t cs)) (hn : n = t.length) (hs : Subs encG 5 Head.guys w own t cs) : RH w w.heap.size A t := by
  rcases t with _ | ⟨x, t⟩
  · exact .inl rfl
  · right
    obtain ⟨g, cap, hv, _, hlt⟩ := h.form (by rw [hn]; simp)
    have hA : A = some ⟨g, 0, none⟩ := by injection hv
    subst hA
    refine ⟨g, 0, rfl, hlt, fun k p hk => ?_⟩
    obtain ⟨a, ha⟩ := getElem?_lt (l := cs) (k := k) (by rw [hs.1]; exact lt_of_getElem? hk)
    obtain ⟨h1, h2, h3, _⟩ := hs.2 k p a hk ha
    have key : ∀ j v, (encH p a)[j]? = some v → w.cell? ⟨g, 0 + k * 3 + j, none⟩ = some v := by
      intro j v hj
      have := h.cells (g := g) rfl (k * 3 + j) v (flat2_get (enc := encH) (fun _ _ => rfl) _ _ k p a hk ha j v hj)
      rw [Addr.add_lit] at this
      rw [← this]
      congr 2
      omega
    exact ⟨a.1, a.2, key 0 _ rfl, key 1 _ rfl, key 2 _ rfl, h1, h2, h3⟩
end Go.Proofs.Ytibaindlbpfecaa
