import Derived.Test.YtbagfapalkmikaaHoldsM

/- The windows behind a tick, and the first catches of the one that it is in: what FlightHolds counts. -/
namespace Go.Proofs.Ytbagfapalkmikaa
/-- The first tick at which a catch of release n is sure. -/
def firstC (f : Flt) (n : Nat) : Int := match sureL f n with | x :: _ => (x : Int) | [] => 0
def firsts (f : Flt) (s n : Nat) : List Int := (List.range (n - s)).map fun i => firstC f (s + i)
theorem firsts_len {f : Flt} {s n : Nat} : (firsts f s n).length = n - s := by simp [firsts]
theorem firsts_self {f : Flt} {s : Nat} : firsts f s s = [] := by simp [firsts]
theorem firsts_succ {f : Flt} {s n : Nat} (h : s ≤ n) : firsts f s n ++ [firstC f n] = firsts f s (n + 1) := by
  unfold firsts
  rw [show n + 1 - s = (n - s) + 1 by omega, List.range_succ, List.map_append]
  simp [show s + (n - s) = n by omega]
theorem firstC_mem {f : Flt} {n : Nat} (h : goodB f n = true) : firstC f n ∈ ints (sureL f n) := by
  unfold goodB at h
  unfold firstC
  cases hl : sureL f n with
  | nil => rw [hl] at h; simp at h
  | cons x l => simp [ints]
/-- The first catches of good releases prove their window. -/
theorem firsts_proved {f : Flt} {s n : Nat} (h : ∀ r, s ≤ r → r < n → goodB f r = true) : provedB f s (firsts f s n) (firsts f s n).length = true := by
  unfold provedB
  rw [List.all_eq_true]
  intro i hi
  rw [List.mem_range, firsts_len] at hi
  have : (firsts f s n)[i]? = some (firstC f (s + i)) := by simp [firsts, hi]
  rw [this]
  exact decide_eq_true (firstC_mem (h (s + i) (by omega) (by omega)))
theorem firsts_pw {f : Flt} {s t : Nat} (hf : f.ok = true) (hst : s ≤ t) (ht : t ≤ 6000) (h : ∀ r, s ≤ r → r ≤ t → goodB f r = true) : pwB f s t (firsts f s (t + 1)) = true := by
  unfold pwB
  rw [hf, winB_iff.2 (by omega), Int.toNat_natCast, firsts_proved (fun r h1 h2 => h r h1 (by omega)), firsts_len]
  simp
  omega
/-- What ProveWindow accepts holds good releases only. -/
theorem pw_good {f : Flt} {a b : Int} {l : List Int} (h : pwB f a b l = true) : (0 ≤ a ∧ a ≤ b ∧ b ≤ 6000) ∧ ∀ r : Nat, a ≤ r → r ≤ b → goodB f r = true := by
  unfold pwB at h
  simp only [Bool.and_eq_true, decide_eq_true_eq] at h
  obtain ⟨_, hw, hlen, hp⟩ := h
  have hw := winB_iff.1 hw
  refine ⟨by omega, ?_⟩
  intro r h1 h2
  unfold provedB at hp
  rw [List.all_eq_true] at hp
  have hi : r - a.toNat < l.length := by omega
  have := hp (r - a.toNat) (List.mem_range.2 hi)
  rw [List.getElem?_eq_getElem hi] at this
  simp only [decide_eq_true_eq] at this
  rw [show a.toNat + (r - a.toNat) = r by omega] at this
  unfold goodB
  cases hl : sureL f r with
  | nil => rw [hl] at this; simp [ints] at this
  | cons x l => simp
/-- At tick n: k windows lie behind; first holds the first catches of the window that n is inside of. -/
def AtTick (f : Flt) (a b n k : Nat) (first : List Int) : Prop :=
  (first = [] ∧ k ≤ (winsTo f a (b + 1)).length ∧ (winsTo f a (b + 1)).drop k = runsFrom f b n) ∨
  (∃ (s : Nat) (t : Int) (rs : List (Int × Int)), s < n ∧ n ≤ b ∧ goodB f n = true ∧ (winsTo f a (b + 1)).drop k = ((s : Int), t) :: rs ∧ runsFrom f b n = ((n : Int), t) :: rs ∧
    first = firsts f s n ∧ ∀ r, s ≤ r → r < n → goodB f r = true)
theorem atTick_start {f : Flt} {a b : Nat} (h : a ≤ b + 1) : AtTick f a b a 0 [] := .inl ⟨rfl, Nat.zero_le _, by rw [List.drop_zero, winsTo_runs h]⟩
theorem atTick_end {f : Flt} {a b k : Nat} {first : List Int} (h : AtTick f a b (b + 1) k first) : k = (winsTo f a (b + 1)).length := by
  rcases h with ⟨_, hk, h⟩ | ⟨_, _, _, _, h, _⟩
  · rw [runsFrom_end] at h
    have := List.drop_eq_nil_iff.1 h
    omega
  · omega
theorem drop_get {l : List (Int × Int)} {k : Nat} {p : Int × Int} {rs : List (Int × Int)} (h : l.drop k = p :: rs) : l[k]? = some p ∧ l.drop (k + 1) = rs ∧ k + 1 ≤ l.length := by
  have h1 : l[k]? = (l.drop k)[0]? := by simp
  have h2 : l.drop (k + 1) = (l.drop k).drop 1 := by rw [List.drop_drop]
  have h3 : (l.drop k).length = l.length - k := List.length_drop
  rw [h] at h1 h2 h3
  refine ⟨by simpa using h1, by simpa using h2, ?_⟩
  simp at h3
  omega
/-- A release that is not good lies in no window: the next one lies behind it. -/
theorem atTick_bad {f : Flt} {a b n k : Nat} {first : List Int} (hn : n ≤ b) (hg : goodB f n = false) (h : AtTick f a b n k first) :
    first = [] ∧ (∀ p, (winsTo f a (b + 1))[k]? = some p → (n : Int) < p.1) ∧ AtTick f a b (n + 1) k [] := by
  rcases h with ⟨hf, hk, h⟩ | ⟨_, _, _, _, _, h, _⟩
  · rw [runsFrom_bad hn hg] at h
    refine ⟨hf, ?_, .inl ⟨rfl, hk, h⟩⟩
    intro p hp
    have hin := runsFrom_bound (f := f) (b := b) (n := n + 1) (by omega) p (by
      rw [← h]
      refine List.mem_of_getElem? (i := 0) ?_
      simpa using hp)
    omega
  · rw [hg] at h; cases h
/-- A good release lies in the window that is next; at its last tick the first catches prove it. -/
theorem atTick_good {f : Flt} {a b n k : Nat} {first : List Int} (hf : f.ok = true) (hb : b ≤ 6000) (hn : n ≤ b) (hg : goodB f n = true) (h : AtTick f a b n k first) :
    ∃ s t : Nat, (winsTo f a (b + 1))[k]? = some ((s : Int), (t : Int)) ∧ s ≤ n ∧ n ≤ t ∧ t ≤ b ∧
      (n = t → pwB f s t (first ++ [firstC f n]) = true ∧ AtTick f a b (n + 1) (k + 1) []) ∧
      (n < t → AtTick f a b (n + 1) k (first ++ [firstC f n])) := by
  obtain ⟨t, rs, hR, hnt, hcase⟩ := runsFrom_good hn hg
  have htb := (runsFrom_bound (f := f) (b := b) (n := n) (by omega) ((n : Int), t) (by rw [hR]; exact List.mem_cons_self ..)).2.2
  obtain ⟨u, rfl⟩ : ∃ u : Nat, t = (u : Int) := ⟨t.toNat, by omega⟩
  simp only at htb
  have key : ∃ s : Nat, s ≤ n ∧ (winsTo f a (b + 1)).drop k = ((s : Int), (u : Int)) :: rs ∧ first = firsts f s n ∧ ∀ r, s ≤ r → r < n → goodB f r = true := by
    rcases h with ⟨rfl, hk, h⟩ | ⟨s, t', rs', hs, _, _, hW, hR', hfi, hall⟩
    · exact ⟨n, Nat.le_refl _, by rw [h, hR], firsts_self.symm, fun r h1 h2 => by omega⟩
    · rw [hR] at hR'
      injection hR' with h1 h2
      injection h1 with _ h3
      subst h2
      exact ⟨s, by omega, by rw [hW, h3], hfi, hall⟩
  obtain ⟨s, hs, hW, rfl, hall⟩ := key
  obtain ⟨hget, hdrop, hklen⟩ := drop_get hW
  have hall' : ∀ r, s ≤ r → r ≤ n → goodB f r = true := fun r h1 h2 => by
    by_cases hr : r = n
    · rw [hr]; exact hg
    · exact hall r h1 (by omega)
  refine ⟨s, u, hget, hs, by omega, by omega, ?_, ?_⟩
  · intro hnu
    subst hnu
    rw [firsts_succ hs]
    refine ⟨firsts_pw hf hs (by omega) hall', .inl ⟨rfl, hklen, ?_⟩⟩
    rcases hcase with ⟨_, hrs, _⟩ | ⟨hlt, _⟩
    · rw [hdrop, hrs]
    · omega
  · intro hnu
    rw [firsts_succ hs]
    rcases hcase with ⟨hu, _⟩ | ⟨_, hnb, hg2, hR2⟩
    · omega
    · exact .inr ⟨s, (u : Int), rs, by omega, by omega, hg2, hW, hR2, rfl, fun r h1 h2 => hall' r h1 (by omega)⟩
/-- A release at which a catch is sure has a first one. -/
theorem goodB_first {f : Flt} {n : Nat} (h : goodB f n = true) : (ints (sureL f n))[0]? = some (firstC f n) := by
  unfold goodB at h
  unfold firstC
  cases hl : sureL f n with
  | nil => rw [hl] at h; simp at h
  | cons x l => simp [ints]
end Go.Proofs.Ytbagfapalkmikaa
