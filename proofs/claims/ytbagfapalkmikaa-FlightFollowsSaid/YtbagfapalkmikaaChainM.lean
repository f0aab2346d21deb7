import Derived.Test.YtbagfapalkmikaaRefW

/- The windows of a chain, in plain words. -/
namespace Go.Proofs.Ytbagfapalkmikaa
/-- The last tick of the earliest window of need good releases from tick r on, run of which lie just behind; m ticks are left. -/
def findW (f : Flt) (need : Nat) : Nat → Nat → Nat → Option Nat
  | 0, _, _ => none
  | m + 1, r, run => if goodB f r then (if run + 1 = need then some r else findW f need m (r + 1) (run + 1)) else findW f need m (r + 1) 0
def firstW (f : Flt) (b need : Nat) : Option Nat := findW f need (6001 - b) b 0
theorem findW_end {f : Flt} {need r run : Nat} (h : 6000 < r) : findW f need (6001 - r) r run = none := by
  rw [show 6001 - r = 0 by omega]; rfl
theorem findW_bad {f : Flt} {need r run : Nat} (h : r ≤ 6000) (hg : goodB f r = false) : findW f need (6001 - r) r run = findW f need (6001 - (r + 1)) (r + 1) 0 := by
  rw [show 6001 - r = (6001 - (r + 1)) + 1 by omega]
  show (if goodB f r then _ else _) = _
  rw [hg]; rfl
theorem findW_hit {f : Flt} {need r run : Nat} (h : r ≤ 6000) (hg : goodB f r = true) (hn : run + 1 = need) : findW f need (6001 - r) r run = some r := by
  rw [show 6001 - r = (6001 - (r + 1)) + 1 by omega]
  show (if goodB f r then _ else _) = _
  rw [hg, if_pos rfl, if_pos hn]
theorem findW_more {f : Flt} {need r run : Nat} (h : r ≤ 6000) (hg : goodB f r = true) (hn : ¬ run + 1 = need) : findW f need (6001 - r) r run = findW f need (6001 - (r + 1)) (r + 1) (run + 1) := by
  rw [show 6001 - r = (6001 - (r + 1)) + 1 by omega]
  show (if goodB f r then _ else _) = _
  rw [hg, if_pos rfl, if_neg hn]
theorem findW_bound {f : Flt} {need : Nat} : ∀ (m r run q : Nat), findW f need m r run = some q → q < r + m
  | 0, _, _, _, h => by cases h
  | m + 1, r, run, q, h => by
    unfold findW at h
    split at h
    · split at h
      · cases h; omega
      · have := findW_bound m _ _ _ h; omega
    · have := findW_bound m _ _ _ h; omega
theorem findW_le {f : Flt} {need b q : Nat} (h : firstW f b need = some q) : q ≤ 6000 := by
  unfold firstW at h
  by_cases hb : b ≤ 6000
  · have := findW_bound _ _ _ _ h; omega
  · rw [findW_end (by omega)] at h; cases h
/-- What a chain is: its windows, the index of the first flight that has none, the error. -/
structure Out where
  ws : List (Int × Int)
  at_ : Nat
  err : Int
def chainGo (need rest : Nat) : List Flt → Nat → Nat → List (Int × Int) → Out
  | [], _, _, ws => ⟨ws, 0, 0⟩
  | f :: fs, k, b, ws => match firstW f b need with
    | none => ⟨[], k, 7⟩
    | some r => chainGo need rest fs (k + 1) (r + f.most.toNat + rest) (ws ++ [(((r + 1 - need : Nat) : Int), (r : Int))])
def chainOf (l : List Flt) (need rest : Nat) : Out := chainGo need rest l 0 0 []
theorem chainGo_end {need rest : Nat} {l : List Flt} {k b : Nat} {ws : List (Int × Int)} (h : l.length ≤ k) : chainGo need rest (l.drop k) k b ws = ⟨ws, 0, 0⟩ := by
  rw [List.drop_eq_nil_iff.2 h]; rfl
theorem chainGo_none {need rest : Nat} {l : List Flt} {k b : Nat} {ws : List (Int × Int)} {f : Flt} (h : l[k]? = some f) (hf : firstW f b need = none) : chainGo need rest (l.drop k) k b ws = ⟨[], k, 7⟩ := by
  obtain ⟨hk, rfl⟩ := List.getElem?_eq_some_iff.1 h
  rw [List.drop_eq_getElem_cons hk]
  show (match firstW l[k] b need with | none => _ | some r => _) = _
  rw [hf]
theorem chainGo_some {need rest : Nat} {l : List Flt} {k b r : Nat} {ws : List (Int × Int)} {f : Flt} (h : l[k]? = some f) (hf : firstW f b need = some r) :
    chainGo need rest (l.drop k) k b ws = chainGo need rest (l.drop (k + 1)) (k + 1) (r + f.most.toNat + rest) (ws ++ [(((r + 1 - need : Nat) : Int), (r : Int))]) := by
  obtain ⟨hk, rfl⟩ := List.getElem?_eq_some_iff.1 h
  rw [List.drop_eq_getElem_cons hk]
  show (match firstW l[k] b need with | none => _ | some r => _) = _
  rw [hf]
theorem chainGo_cases {need rest : Nat} : ∀ {l : List Flt} {k b : Nat} {ws : List (Int × Int)} {o : Out}, chainGo need rest l k b ws = o →
    (o.err = 0 ∧ o.at_ = 0 ∧ o.ws.length = ws.length + l.length) ∨ (o.err = 7 ∧ o.ws = [] ∧ k ≤ o.at_ ∧ o.at_ < k + l.length)
  | [], _, _, ws, o, h => by subst h; exact .inl ⟨rfl, rfl, rfl⟩
  | f :: fs, k, b, ws, o, h => by
    unfold chainGo at h
    cases hf : firstW f b need with
    | none => rw [hf] at h; subst h; exact .inr ⟨rfl, rfl, Nat.le_refl _, by simp⟩
    | some r =>
      rw [hf] at h
      rcases chainGo_cases h with ⟨h1, h2, h3⟩ | ⟨h1, h2, h3, h4⟩
      · refine .inl ⟨h1, h2, ?_⟩
        rw [h3, List.length_append]
        simp
        omega
      · refine .inr ⟨h1, h2, by omega, ?_⟩
        simp
        omega
theorem chainOf_cases {l : List Flt} {need rest : Nat} :
    ((chainOf l need rest).err = 0 ∧ (chainOf l need rest).at_ = 0 ∧ (chainOf l need rest).ws.length = l.length) ∨ ((chainOf l need rest).err = 7 ∧ (chainOf l need rest).ws = [] ∧ (chainOf l need rest).at_ < l.length) := by
  rcases chainGo_cases (l := l) (k := 0) (b := 0) (ws := []) (need := need) (rest := rest) rfl with ⟨h1, h2, h3⟩ | ⟨h1, h2, _, h4⟩
  · exact .inl ⟨h1, h2, by simpa [chainOf] using h3⟩
  · exact .inr ⟨h1, h2, by simpa [chainOf] using h4⟩
end Go.Proofs.Ytbagfapalkmikaa
