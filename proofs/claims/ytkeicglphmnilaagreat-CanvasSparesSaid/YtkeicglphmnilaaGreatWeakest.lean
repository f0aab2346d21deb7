import Derived.Test.YtkeicglphmnilaaGreatLawD

namespace Go.Proofs.YtkeicglphmnilaaGreat
open Go.RowKit

theorem find1_some {α : Type} {p : α → Bool} : ∀ {l : List α} {k n : Nat}, find1 p l k = some n → ∃ j x, n = k + j ∧ l[j]? = some x ∧ p x = true := by
  intro l
  induction l with
  | nil => intro k n h; simp [find1] at h
  | cons a l ih =>
    intro k n h
    rw [find1] at h
    cases ha : p a with
    | true => rw [ha] at h; simp at h; exact ⟨0, a, by omega, rfl, ha⟩
    | false =>
      rw [ha] at h
      simp at h
      obtain ⟨j, x, h1, h2, h3⟩ := ih h
      exact ⟨j + 1, x, by omega, by simpa using h2, h3⟩
theorem wk_some {l : List Tst} {t : List Head} {wind : List Vec} {a : Nat} (h : wkO l t wind = some a) (hok : ∀ x ∈ l, x.ok = true) (htok : ∀ x ∈ t, x.ok = true) :
    ∃ (x : Head) (m : Nat) (p : Vec), t[a]? = some x ∧ wind[m]? = some p ∧ wkI l t wind = a ∧ wkK l t wind = m ∧ weakInB (forcesM l x) (p.times x.area) (wkW l t wind) = true ∧ VB (wkW l t wind) 500000 := by
  obtain ⟨j, x, e, hx, hb⟩ := find1_some h
  rw [Nat.zero_add] at e
  subst e
  have hc : ∃ m, cornerO x.area (forcesM l x) wind = some m := by
    unfold headBad headStands at hb
    cases hc : cornerO x.area (forcesM l x) wind with
    | none => rw [hc] at hb; simp at hb
    | some m => exact ⟨m, rfl⟩
  obtain ⟨m, hc⟩ := hc
  obtain ⟨j, p, e, hp, hbad⟩ := find1_some hc
  rw [Nat.zero_add] at e
  subst e
  have hW : wkW l t wind = weakM (forcesM l x) (p.times x.area) := by
    unfold wkW cornerW
    rw [h]; simp [hx, hc, hp]
  have hfv := (forces_in (l := l) (h := x) rfl hok (htok x (List.mem_of_getElem? hx))).2
  refine ⟨x, m, p, hx, hp, by unfold wkI; rw [h], by unfold wkK cornerI; rw [h]; simp [hx, hc], ?_, ?_⟩
  · rw [hW]
    unfold badB at hbad
    have hne : weakM (forcesM l x) (p.times x.area) ≠ vecZ := by simpa using hbad
    unfold weakM at *
    cases hf : (waysL (forcesM l x)).find? (weakInB (forcesM l x) (p.times x.area)) with
    | none => rw [hf] at hne; exact absurd rfl hne
    | some d => simpa using List.find?_some hf
  · rw [hW]
    unfold weakM
    cases hf : (waysL (forcesM l x)).find? (weakInB (forcesM l x) (p.times x.area)) with
    | none => simp only [Option.getD_none]; unfold VB vecZ; simp only; omega
    | some d => exact waysL_vb (by omega) hfv d (List.mem_of_find?_eq_some hf)

theorem refForces_val (A : Option Addr) (c : Nat) (l : List Tst) (A' : Option Addr) (c' : Nat) (h : Head) (f : List Vec) (hf : forcesM l h = f) (w : World) (hr : RS encT 4 w w.heap.size A l) (hl : l.length ≤ maxLen) (hok : ∀ x ∈ l, x.ok = true) (hh : h.ok = true) (hg : RS encG 5 w w.heap.size A' h.guys) :
    Calls Tryz.prog 30 #[.slice A l.length c, .agg #[.int .i64 h.area, .int .i64 h.bears, .slice A' h.guys.length c']] w fun e w' => ∃ A1 c1, e = .returned (.slice A1 f.length c1) ∧ RS encV 2 w' w'.heap.size A1 f ∧ Below w.heap.size w w' := by
  refine (refForces_any A c l A' c' h w hr hl hok hh hg).mono ?_
  rintro e w' ⟨A1, c1, rfl, h3, h4⟩
  subst hf
  exact ⟨A1, c1, by rw [forcesM_length], h3, h4⟩
end Go.Proofs.YtkeicglphmnilaaGreat
