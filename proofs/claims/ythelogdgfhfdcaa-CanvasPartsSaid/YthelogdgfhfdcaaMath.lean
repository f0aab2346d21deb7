/- What layer 1 says, as plain functions on lists and integers. -/
namespace Go.Proofs.Ythelogdgfhfdcaa
structure Tst where
  soil : Int
  depth : Int
  force : Int
  held : Bool
def inB (n lo hi : Int) : Bool := decide (lo ≤ n ∧ n ≤ hi)
theorem inB_true {n lo hi : Int} : inB n lo hi = true ↔ lo ≤ n ∧ n ≤ hi := by simp [inB]
theorem inB_false {n lo hi : Int} : inB n lo hi = false ↔ ¬ (lo ≤ n ∧ n ≤ hi) := by simp [inB]
def Tst.ok (x : Tst) : Bool := inB x.soil 0 9 && (inB x.depth 1 3000 && inB x.force 1 5000)
def testsFault (l : List Tst) : Int := if 40 < l.length then 3 else if l.all Tst.ok then 0 else 1
theorem Tst.ok_iff {x : Tst} : x.ok = true ↔ (0 ≤ x.soil ∧ x.soil ≤ 9) ∧ (1 ≤ x.depth ∧ x.depth ≤ 3000) ∧ (1 ≤ x.force ∧ x.force ≤ 5000) := by
  simp [Tst.ok, inB_true]
def clashB (a b : Tst) : Bool := a.held && (!b.held && (decide (a.soil = b.soil) && decide (b.force * a.depth ≤ a.force * b.depth)))

/-- The first place from k on whose element has p. -/
def find1 {α : Type} (p : α → Bool) : List α → Nat → Option Nat
  | [], _ => none
  | x :: xs, k => if p x then some k else find1 p xs (k + 1)
def fclFrom (l : List Tst) : List Tst → Nat → Option (Nat × Nat)
  | [], _ => none
  | a :: rest, i => match find1 (clashB a) l 0 with
    | some k => some (i, k)
    | none => fclFrom l rest (i + 1)
def fcl (l : List Tst) : Option (Nat × Nat) := fclFrom l l 0

theorem drop_of_get {α : Type} {l : List α} {k : Nat} {x : α} (h : l[k]? = some x) : l.drop k = x :: l.drop (k + 1) := by
  obtain ⟨hk, rfl⟩ := List.getElem?_eq_some_iff.1 h
  exact List.drop_eq_getElem_cons hk
theorem find1_hit {α : Type} {p : α → Bool} {l : List α} {k : Nat} {x : α} (h : l[k]? = some x) (hp : p x = true) : find1 p (l.drop k) k = some k := by
  rw [drop_of_get h, find1, if_pos hp]
theorem find1_miss {α : Type} {p : α → Bool} {l : List α} {k : Nat} {x : α} (h : l[k]? = some x) (hp : p x = false) : find1 p (l.drop k) k = find1 p (l.drop (k + 1)) (k + 1) := by
  rw [drop_of_get h, find1, if_neg (by simp [hp])]
theorem find1_end {α : Type} {p : α → Bool} {l : List α} {k : Nat} (h : ¬ k < l.length) : find1 p (l.drop k) k = none := by
  rw [List.drop_of_length_le (by omega)]; rfl
theorem find1_none {α : Type} {p : α → Bool} {l : List α} (h : ∀ x ∈ l, p x = false) (k : Nat) : find1 p l k = none := by
  induction l generalizing k with
  | nil => rfl
  | cons x xs ih => rw [find1, if_neg (by simp [h x (by simp)])]; exact ih (fun y hy => h y (by simp [hy])) _
theorem fcl_hit {l : List Tst} {i k : Nat} {a : Tst} (h : l[i]? = some a) (hk : find1 (clashB a) l 0 = some k) : fclFrom l (l.drop i) i = some (i, k) := by
  rw [drop_of_get h, fclFrom, hk]
theorem fcl_miss {l : List Tst} {i : Nat} {a : Tst} (h : l[i]? = some a) (hk : find1 (clashB a) l 0 = none) : fclFrom l (l.drop i) i = fclFrom l (l.drop (i + 1)) (i + 1) := by
  rw [drop_of_get h, fclFrom, hk]
theorem fcl_end {l : List Tst} {i : Nat} (h : ¬ i < l.length) : fclFrom l (l.drop i) i = none := by
  rw [List.drop_of_length_le (by omega)]; rfl
theorem all_snoc {α : Type} {p : α → Bool} {l : List α} {k : Nat} {x : α} (h : l[k]? = some x) (ha : (l.take k).all p = true) (hx : p x = true) : (l.take (k + 1)).all p = true := by
  rw [List.take_add_one, h]; simp [List.all_append, ha, hx]
theorem all_end {α : Type} {p : α → Bool} {l : List α} {k : Nat} (h : ¬ k < l.length) (ha : (l.take k).all p = true) : l.all p = true := by
  rw [List.take_of_length_le (by omega)] at ha; exact ha
theorem all_bad {α : Type} {p : α → Bool} {l : List α} {k : Nat} {x : α} (h : l[k]? = some x) (hx : p x = false) : l.all p = false := by
  rw [List.all_eq_false]
  exact ⟨x, List.mem_of_getElem? h, by simp [hx]⟩
theorem testsFault_bad {l : List Tst} {k : Nat} {x : Tst} (h40 : ¬ 40 < l.length) (h : l[k]? = some x) (hx : x.ok = false) : testsFault l = 1 := by
  rw [testsFault, if_neg h40, if_neg (by rw [all_bad h hx]; simp)]
theorem testsFault_good {l : List Tst} {k : Nat} (h40 : ¬ 40 < l.length) (h : ¬ k < l.length) (ha : (l.take k).all Tst.ok = true) : testsFault l = 0 := by
  rw [testsFault, if_neg h40, if_pos (all_end h ha)]

/-- The least whole number that is at least a/b. -/
def cdiv (a b : Int) : Int := (a + b - 1) / b
def holdsStep (soil depth : Int) (r : Int × Int) (x : Tst) : Int × Int :=
  if x.soil = soil then (if x.held then (max r.1 (x.force * depth / x.depth), r.2) else (r.1, min r.2 (cdiv (x.force * depth) x.depth - 1))) else r
def holdsM (l : List Tst) (soil depth : Int) : Int × Int := l.foldl (holdsStep soil depth) (0, 10000000)
theorem foldl_snoc {α β : Type} {f : β → α → β} {b : β} {l : List α} {k : Nat} {x : α} (h : l[k]? = some x) : (l.take (k + 1)).foldl f b = f ((l.take k).foldl f b) x := by
  rw [List.take_add_one, h]; simp [List.foldl_append]
theorem foldl_end {α β : Type} {f : β → α → β} {b : β} {l : List α} {k : Nat} (h : ¬ k < l.length) : (l.take k).foldl f b = l.foldl f b := by
  rw [List.take_of_length_le (by omega)]
end Go.Proofs.Ythelogdgfhfdcaa
