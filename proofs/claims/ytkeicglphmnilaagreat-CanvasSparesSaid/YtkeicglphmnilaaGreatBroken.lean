import Derived.Test.YtkeicglphmnilaaGreatLose
import Derived.Test.YtkeicglphmnilaaGreatPairEq
import Derived.Test.YtkeicglphmnilaaGreatMeans

namespace Go.Proofs.YtkeicglphmnilaaGreat
open Go.RowKit

theorem spareUp_mem {l : List Tst} {wind : List Vec} {t : List Head} : ∀ (n : Nat) (p : Int × Int), p ∈ spareUp l wind t n → ∃ (a b : Nat) (h : Head), p = ((a : Int), (b : Int)) ∧ t[a]? = some h ∧ headStands l wind (h.lose b) = true := by
  have row : ∀ (h : Head) (i m : Nat) (p : Int × Int), p ∈ spareRow l wind h i m → ∃ b : Nat, p = ((i : Int), (b : Int)) ∧ headStands l wind (h.lose b) = true := by
    intro h i m
    induction m with
    | zero => intro p hp; simp [spareRow] at hp
    | succ m ih =>
      intro p hp
      rw [spareRow, List.mem_append] at hp
      rcases hp with hp | hp
      · exact ih p hp
      · split at hp
        · rename_i hs; simp at hp; exact ⟨m, hp, hs⟩
        · simp at hp
  intro n
  induction n with
  | zero => intro p hp; simp [spareUp] at hp
  | succ n ih =>
    intro p hp
    rw [spareUp, List.mem_append] at hp
    rcases hp with hp | hp
    · exact ih p hp
    · cases hn : t[n]? with
      | none => rw [hn] at hp; simp at hp
      | some h =>
        rw [hn] at hp
        obtain ⟨b, h1, h2⟩ := row h n _ p hp
        exact ⟨n, b, h, h1, hn, h2⟩
theorem spareUp_pre {l : List Tst} {wind : List Vec} {t : List Head} : ∀ (d n : Nat), spareUp l wind t n <+: spareUp l wind t (n + d) := by
  intro d
  induction d with
  | zero => intro n; exact List.prefix_rfl
  | succ d ih => intro n; exact (ih n).trans (by rw [← Nat.add_assoc, spareUp]; exact List.prefix_append _ _)
theorem spareRow_pre {l : List Tst} {wind : List Vec} {h : Head} {i : Int} : ∀ (d m : Nat), spareRow l wind h i m <+: spareRow l wind h i (m + d) := by
  intro d
  induction d with
  | zero => intro m; exact List.prefix_rfl
  | succ d ih => intro m; exact (ih m).trans (by rw [← Nat.add_assoc, spareRow]; exact List.prefix_append _ _)
theorem spare_pre {l : List Tst} {wind : List Vec} {t : List Head} {i m : Nat} {h : Head} (hi : t[i]? = some h) (hm : m ≤ h.guys.length) : spareUp l wind t i ++ spareRow l wind h i m <+: spareL l wind t := by
  have hl := lt_of_getElem? hi
  have h1 : spareUp l wind t (i + 1) = spareUp l wind t i ++ spareRow l wind h i h.guys.length := by rw [spareUp, hi]
  have h2 := spareUp_pre (l := l) (wind := wind) (t := t) (t.length - (i + 1)) (i + 1)
  rw [show i + 1 + (t.length - (i + 1)) = t.length from by omega, h1] at h2
  refine List.IsPrefix.trans ?_ h2
  have h3 := spareRow_pre (l := l) (wind := wind) (h := h) (i := i) (h.guys.length - m) m
  rw [show m + (h.guys.length - m) = h.guys.length from by omega] at h3
  exact List.prefix_append_right_inj _ |>.2 h3
/-- The next spare guy in the list is this one, just if the tent stands without it. -/
theorem spare_next {l : List Tst} {wind : List Vec} {t : List Head} {i m : Nat} {h : Head} (hi : t[i]? = some h) (hm : m < h.guys.length) (at_ : Nat) (ha : at_ = (spareUp l wind t i ++ spareRow l wind h i m).length) :
    (headStands l wind (h.lose m) = true → (spareL l wind t)[at_]? = some ((i : Int), (m : Int))) ∧ (headStands l wind (h.lose m) = false → ∀ p, (spareL l wind t)[at_]? = some p → p ≠ ((i : Int), (m : Int))) := by
  constructor
  · intro hs
    have h1 := spare_pre (l := l) (wind := wind) hi (show m + 1 ≤ h.guys.length by omega)
    rw [spareRow, hs, if_pos rfl, ← List.append_assoc] at h1
    obtain ⟨r, hr⟩ := h1
    rw [← hr, ha, List.append_assoc, List.getElem?_append_right (Nat.le_refl _), Nat.sub_self]
    rfl
  · intro hs p hp he
    subst he
    obtain ⟨a, b, x, h1, h2, h3⟩ := spareUp_mem _ _ (List.mem_of_getElem? hp)
    simp at h1
    have e1 : a = i := by omega
    have e2 : b = m := by omega
    subst e1 e2
    rw [hi] at h2
    cases h2
    rw [hs] at h3
    cases h3
theorem stands_set {l : List Tst} {wind : List Vec} {t : List Head} {i : Nat} {x : Head} (hs : standsB l t wind = true) (hi : i < t.length) : standsB l (t.set i x) wind = headStands l wind x := by
  unfold standsB at *
  rw [List.all_eq_true] at hs
  cases hx : headStands l wind x with
  | true =>
    rw [List.all_eq_true]
    intro y hy
    rcases List.mem_or_eq_of_mem_set hy with hy | rfl
    · exact hs y hy
    · exact hx
  | false => exact all_bad (k := i) (by rw [List.getElem?_set_self hi]) hx
theorem tentOk_set {t : List Head} {i : Nat} {x : Head} (h : tentE t = 0) (hx : x.ok = true) : tentE (t.set i x) = 0 := by
  obtain ⟨h1, h2⟩ := tentE_ok h
  unfold tentE
  rw [if_pos]
  simp only [tentOk, List.length_set, Bool.and_eq_true, decide_eq_true_eq, List.all_eq_true]
  refine ⟨h1.1, h1.2, fun y hy => ?_⟩
  rcases List.mem_or_eq_of_mem_set hy with hy | rfl
  · exact h2 y hy
  · exact hx
theorem windy_set {l : List Tst} {t : List Head} {wind : List Vec} {i : Nat} {x : Head} (h : windyE l t wind = 0) (hx : x.ok = true) : windyE l (t.set i x) wind = 0 := by
  obtain ⟨h1, h2, h3, h4⟩ := windyE_zero h
  have h5 := tentOk_set (i := i) h2 hx
  unfold windyE firstE
  simp [orM, h1, h5, h3, h4]
end Go.Proofs.YtkeicglphmnilaaGreat
