/- What a stake holds grows with its depth; the least depth. -/
import Derived.Test.YthelogdgfhfdcaaMathC
namespace Go.Proofs.Ythelogdgfhfdcaa
/-- The first depth from d on, of so many, at which Lo is at least the force; 0: none. -/
def deepFrom (l : List Tst) (soil force : Int) : Nat → Int → Int
  | 0, _ => 0
  | f + 1, d => if force ≤ (holdsM l soil d).1 then d else deepFrom l soil force f (d + 1)
def deepM (l : List Tst) (soil force : Int) : Int := deepFrom l soil force 3000 1
theorem foldl_mono {soil d1 d2 : Int} (h0 : 0 ≤ d1) (h : d1 ≤ d2) : ∀ (l : List Tst) (r1 r2 : Int × Int), (∀ x ∈ l, x.ok = true) → r1.1 ≤ r2.1 → (l.foldl (holdsStep soil d1) r1).1 ≤ (l.foldl (holdsStep soil d2) r2).1
  | [], _, _, _, hr => hr
  | x :: xs, r1, r2, hl, hr => by
    refine foldl_mono h0 h xs _ _ (fun y hy => hl y (by simp [hy])) ?_
    obtain ⟨_, ⟨a, _⟩, b, _⟩ := Tst.ok_iff.1 (hl x (by simp))
    have h1 : x.force * d1 ≤ x.force * d2 := Int.mul_le_mul_of_nonneg_left h (by omega)
    have h2 : x.force * d1 / x.depth ≤ x.force * d2 / x.depth := Int.ediv_le_ediv (by omega) h1
    unfold holdsStep
    split
    · split
      · simp only; omega
      · exact hr
    · exact hr
theorem holds_mono {l : List Tst} {soil d1 d2 : Int} (hl : ∀ x ∈ l, x.ok = true) (h0 : 0 ≤ d1) (h : d1 ≤ d2) : (holdsM l soil d1).1 ≤ (holdsM l soil d2).1 := foldl_mono h0 h l _ _ hl (Int.le_refl _)
theorem deepFrom_spec (l : List Tst) (soil force : Int) : ∀ (f : Nat) (d : Int), 1 ≤ d →
    (deepFrom l soil force f d = 0 ∧ ∀ h, d ≤ h → h < d + f → (holdsM l soil h).1 < force) ∨
    (d ≤ deepFrom l soil force f d ∧ deepFrom l soil force f d < d + f ∧ force ≤ (holdsM l soil (deepFrom l soil force f d)).1 ∧ ∀ h, d ≤ h → h < deepFrom l soil force f d → (holdsM l soil h).1 < force)
  | 0, d, _ => .inl ⟨rfl, fun h h1 h2 => by omega⟩
  | f + 1, d, hd => by
    rw [deepFrom]
    split
    · rename_i hf
      exact .inr ⟨by omega, by omega, hf, fun h h1 h2 => by omega⟩
    · rename_i hf
      rcases deepFrom_spec l soil force f (d + 1) (by omega) with ⟨e, hn⟩ | ⟨e1, e2, e3, hn⟩
      · refine .inl ⟨e, fun h h1 h2 => ?_⟩
        by_cases hh : h = d
        · subst hh; omega
        · exact hn h (by omega) (by omega)
      · refine .inr ⟨by omega, by omega, e3, fun h h1 h2 => ?_⟩
        by_cases hh : h = d
        · subst hh; omega
        · exact hn h (by omega) h2
/-- What the search by halves finds: the least depth less one; 3000: none. -/
def deepR (l : List Tst) (soil force : Int) : Int := if deepM l soil force = 0 then 3000 else deepM l soil force - 1
theorem deepR_spec {l : List Tst} {soil force : Int} (hl : ∀ x ∈ l, x.ok = true) :
    (0 ≤ deepR l soil force ∧ deepR l soil force ≤ 3000) ∧ (∀ h, 0 ≤ h → h < deepR l soil force → decide (force ≤ (holdsM l soil (h + 1)).1) = false) ∧ (∀ h, deepR l soil force ≤ h → h < 3000 → decide (force ≤ (holdsM l soil (h + 1)).1) = true) := by
  have key := deepFrom_spec l soil force 3000 1 (by omega)
  change (deepM l soil force = 0 ∧ _) ∨ (1 ≤ deepM l soil force ∧ deepM l soil force < _ ∧ force ≤ (holdsM l soil (deepM l soil force)).1 ∧ ∀ h, 1 ≤ h → h < deepM l soil force → _) at key
  unfold deepR
  generalize deepM l soil force = m at *
  rcases key with ⟨rfl, hn⟩ | ⟨h1, h2, h3, hn⟩
  · simp only [if_true]
    exact ⟨by omega, fun h a b => by have := hn (h + 1) (by omega) (by omega); simp; omega, fun h a b => by omega⟩
  · rw [if_neg (by omega)]
    refine ⟨by omega, fun h a b => by have := hn (h + 1) (by omega) (by omega); simp; omega, fun h a b => ?_⟩
    have := holds_mono (soil := soil) hl (d1 := m) (d2 := h + 1) (by omega) (by omega)
    simp; omega
end Go.Proofs.Ythelogdgfhfdcaa
