import Derived.Test.YtbagfapalkmikaaChainM
import Derived.Test.YtbagfapalkmikaaRefW

/- A chain, flight by flight (with the texts HoldsM and HoldsP in it: a claim holds at most 60 files). -/
namespace Go.Proofs.Ytbagfapalkmikaa
/-- One more tick ahead of the windows of the ticks behind it. -/
def frontW (good : Bool) (n : Int) (R : List (Int × Int)) : List (Int × Int) :=
  if good then (match R with
    | (s, t) :: rs => if s = n + 1 then (n, t) :: rs else (n, n) :: (s, t) :: rs
    | [] => [(n, n)]) else R
def runs (f : Flt) (b : Nat) : Nat → List (Int × Int)
  | 0 => []
  | m + 1 => frontW (goodB f (b - m)) ((b - m : Nat) : Int) (runs f b m)
/-- The windows in the ticks from n to b. -/
def runsFrom (f : Flt) (b n : Nat) : List (Int × Int) := runs f b (b + 1 - n)
theorem runsFrom_end {f : Flt} {b : Nat} : runsFrom f b (b + 1) = [] := by unfold runsFrom; rw [Nat.sub_self]; rfl
theorem runsFrom_step {f : Flt} {b n : Nat} (h : n ≤ b) : runsFrom f b n = frontW (goodB f n) n (runsFrom f b (n + 1)) := by
  unfold runsFrom
  rw [show b + 1 - n = (b - n) + 1 by omega, show b + 1 - (n + 1) = b - n by omega]
  show frontW (goodB f (b - (b - n))) ((b - (b - n) : Nat) : Int) _ = _
  rw [show b - (b - n) = n by omega]
/-- All windows from n on lie in the ticks from n to b. -/
theorem runsFrom_in {f : Flt} {b : Nat} : ∀ (m n : Nat), b + 1 - n = m → n ≤ b + 1 → ∀ p ∈ runsFrom f b n, (n : Int) ≤ p.1 ∧ p.1 ≤ p.2 ∧ p.2 ≤ b := by
  intro m
  induction m with
  | zero =>
    intro n hm hn p hp
    obtain rfl : n = b + 1 := by omega
    rw [runsFrom_end] at hp
    cases hp
  | succ m ih =>
    intro n hm hn p hp
    have hi := ih (n + 1) (by omega) (by omega)
    rw [runsFrom_step (by omega)] at hp
    unfold frontW at hp
    cases hg : goodB f n
    · rw [hg, if_neg (by decide)] at hp
      have := hi p hp
      omega
    · rw [hg, if_pos rfl] at hp
      cases hR : runsFrom f b (n + 1) with
      | nil =>
        rw [hR] at hp
        simp at hp
        rw [hp]
        simp
        omega
      | cons q rs =>
        obtain ⟨s, t⟩ := q
        rw [hR] at hp hi
        have hq := hi (s, t) (List.mem_cons_self ..)
        simp only at hp
        split at hp
        · rcases List.mem_cons.1 hp with rfl | hp
          · simp at hq ⊢; omega
          · have := hi p (List.mem_cons_of_mem _ hp); omega
        · rcases List.mem_cons.1 hp with rfl | hp
          · simp; omega
          · have := hi p hp; omega
theorem runsFrom_bound {f : Flt} {b n : Nat} (hn : n ≤ b + 1) : ∀ p ∈ runsFrom f b n, (n : Int) ≤ p.1 ∧ p.1 ≤ p.2 ∧ p.2 ≤ b := runsFrom_in (b + 1 - n) n rfl hn
/-- A good release begins the first window from it on. -/
theorem runsFrom_good {f : Flt} {b n : Nat} (h : n ≤ b) (hg : goodB f n = true) : ∃ t rs, runsFrom f b n = ((n : Int), t) :: rs ∧ (n : Int) ≤ t ∧
    ((t = n ∧ rs = runsFrom f b (n + 1) ∧ (n < b → goodB f (n + 1) = false)) ∨ (n < t ∧ n < b ∧ goodB f (n + 1) = true ∧ runsFrom f b (n + 1) = (((n + 1 : Nat) : Int), t) :: rs)) := by
  have hin := runsFrom_bound (f := f) (b := b) (n := n + 1) (by omega)
  rw [runsFrom_step h, hg]
  unfold frontW
  rw [if_pos rfl]
  by_cases hb : n < b
  · cases hg2 : goodB f (n + 1)
    · have hne : ∀ s t rs, runsFrom f b (n + 1) = (s, t) :: rs → ¬ s = (n : Int) + 1 := by
        intro s t rs hR
        rw [runsFrom_step (by omega), hg2] at hR
        unfold frontW at hR
        rw [if_neg (by decide)] at hR
        have := runsFrom_bound (f := f) (b := b) (n := n + 1 + 1) (by omega) (s, t) (by rw [hR]; exact List.mem_cons_self ..)
        simp at this
        omega
      cases hR : runsFrom f b (n + 1) with
      | nil => exact ⟨n, [], rfl, by omega, .inl ⟨rfl, rfl, fun _ => rfl⟩⟩
      | cons q rs =>
        obtain ⟨s, t⟩ := q
        simp only
        rw [if_neg (hne s t rs hR)]
        exact ⟨n, (s, t) :: rs, rfl, by omega, .inl ⟨rfl, rfl, fun _ => trivial⟩⟩
    · have hR : ∃ t rs, runsFrom f b (n + 1) = (((n + 1 : Nat) : Int), t) :: rs := by
        rw [runsFrom_step (by omega), hg2]
        unfold frontW
        rw [if_pos rfl]
        cases runsFrom f b (n + 1 + 1) with
        | nil => exact ⟨_, _, rfl⟩
        | cons q rs =>
          obtain ⟨s, t⟩ := q
          simp only
          split
          · exact ⟨_, _, rfl⟩
          · exact ⟨_, _, rfl⟩
      obtain ⟨t, rs, hR⟩ := hR
      have hq := hin (((n + 1 : Nat) : Int), t) (by rw [hR]; exact List.mem_cons_self ..)
      rw [hR]
      simp only
      rw [if_pos (by omega)]
      simp at hq
      exact ⟨t, rs, rfl, by omega, .inr ⟨by omega, hb, trivial, rfl⟩⟩
  · obtain rfl : n = b := by omega
    rw [runsFrom_end]
    exact ⟨n, [], rfl, by omega, .inl ⟨rfl, rfl, fun h => absurd h hb⟩⟩
theorem runsFrom_bad {f : Flt} {b n : Nat} (h : n ≤ b) (hg : goodB f n = false) : runsFrom f b n = runsFrom f b (n + 1) := by
  rw [runsFrom_step h, hg]; rfl
/-- The windows below n, and those from n on, make all windows. -/
def Joined (f : Flt) (a b n : Nat) : Prop :=
  ((prevB f a n && goodB f n && decide (n ≤ b)) = false ∧ runsFrom f b a = winsTo f a n ++ runsFrom f b n) ∨
  (prevB f a n = true ∧ goodB f n = true ∧ n ≤ b ∧ ∃ l s t rs, winsTo f a n = l ++ [(s, (n : Int) - 1)] ∧ runsFrom f b n = ((n : Int), t) :: rs ∧ runsFrom f b a = l ++ (s, t) :: rs)
theorem joined_start {f : Flt} {a b : Nat} : Joined f a b a := .inl ⟨by rw [prevB_start]; rfl, by rw [winsTo_start]; rfl⟩
theorem joined_step {f : Flt} {a b n : Nat} (ha : a ≤ n) (hn : n ≤ b) (h : Joined f a b n) : Joined f a b (n + 1) := by
  have hp := prevB_succ (f := f) (a := a) (n := n) ha
  have hw := winsTo_succ (f := f) (a := a) (n := n) ha
  cases hg : goodB f n
  · left
    rw [hg] at hp hw
    refine ⟨by rw [hp]; rfl, ?_⟩
    rw [hw, if_neg (by decide)]
    rcases h with ⟨_, h⟩ | ⟨_, hg2, _⟩
    · rw [h, runsFrom_bad hn hg]
    · rw [hg] at hg2; cases hg2
  · rw [hg] at hp hw
    rw [if_pos rfl] at hw
    obtain ⟨t, rs, hR, hnt, hcase⟩ := runsFrom_good hn hg
    have key : ∃ l s, winsTo f a (n + 1) = l ++ [(s, (n : Int))] ∧ runsFrom f b a = l ++ (s, t) :: rs := by
      rcases h with ⟨hno, h⟩ | ⟨hpv, _, _, l, s, t', rs', hl, hR', h⟩
      · have hpf : prevB f a n = false := by
          rw [hg, decide_eq_true hn, Bool.and_true, Bool.and_true] at hno
          exact hno
        refine ⟨winsTo f a n, n, by rw [hw, addW_new ha hpf], ?_⟩
        rw [h, hR]
      · rw [hR] at hR'
        injection hR' with h1 h2
        injection h1 with _ h3
        subst h2
        subst h3
        refine ⟨l, s, ?_, h⟩
        rw [hw, hl, addW_hit rfl]
    obtain ⟨l, s, hl, hA⟩ := key
    rcases hcase with ⟨rfl, hrs, hgn⟩ | ⟨hlt, hb, hg2, hR2⟩
    · left
      refine ⟨?_, ?_⟩
      · by_cases hb : n < b
        · rw [hgn hb]; simp
        · rw [decide_eq_false (by omega)]; simp
      · rw [hA, hl, ← hrs, List.append_assoc]; rfl
    · right
      refine ⟨hp, hg2, by omega, l, s, t, rs, ?_, hR2, hA⟩
      rw [hl]
      simp
theorem winsTo_runs {f : Flt} {a b : Nat} (hab : a ≤ b + 1) : winsTo f a (b + 1) = runsFrom f b a := by
  have key : ∀ c, a + c ≤ b + 1 → Joined f a b (a + c) := by
    intro c
    induction c with
    | zero => intro _; exact joined_start
    | succ c ih => intro h; have h' : a + c + 1 ≤ b + 1 := h; have := ih (by omega); exact joined_step (n := a + c) (by omega) (by omega) this
  have h := key (b + 1 - a) (by omega)
  rw [show a + (b + 1 - a) = b + 1 by omega] at h
  rcases h with ⟨_, h⟩ | ⟨_, _, h, _⟩
  · rw [h, runsFrom_end, List.append_nil]
  · omega
/-- The first tick at which a catch of release n is sure. -/
def firstC (f : Flt) (n : Nat) : Int := match sureL f n with | x :: _ => (x : Int) | [] => 0
def firsts (f : Flt) (s n : Nat) : List Int := (List.range (n - s)).map fun i => firstC f (s + i)
theorem firsts_len {f : Flt} {s n : Nat} : (firsts f s n).length = n - s := by simp [firsts]
theorem firsts_self {f : Flt} {s : Nat} : firsts f s s = [] := by simp [firsts]
theorem firsts_succ {f : Flt} {s n : Nat} (h : s ≤ n) : firsts f s n ++ [firstC f n] = firsts f s (n + 1) := by
  unfold firsts
  rw [show n + 1 - s = (n - s) + 1 by omega, List.range_succ, List.map_append]
  simp [show s + (n - s) = n by omega]
theorem firstC_mem {f : Flt} {n : Nat} (h : goodB f n = true) : firstC f n ∈ ints (sureL f n) := by
  unfold goodB at h
  unfold firstC
  cases hl : sureL f n with
  | nil => rw [hl] at h; simp at h
  | cons x l => simp [ints]
/-- The first catches of good releases prove their window. -/
theorem firsts_proved {f : Flt} {s n : Nat} (h : ∀ r, s ≤ r → r < n → goodB f r = true) : provedB f s (firsts f s n) (firsts f s n).length = true := by
  unfold provedB
  rw [List.all_eq_true]
  intro i hi
  rw [List.mem_range, firsts_len] at hi
  have : (firsts f s n)[i]? = some (firstC f (s + i)) := by simp [firsts, hi]
  rw [this]
  exact decide_eq_true (firstC_mem (h (s + i) (by omega) (by omega)))
theorem firsts_pw {f : Flt} {s t : Nat} (hf : f.ok = true) (hst : s ≤ t) (ht : t ≤ 6000) (h : ∀ r, s ≤ r → r ≤ t → goodB f r = true) : pwB f s t (firsts f s (t + 1)) = true := by
  unfold pwB
  rw [hf, winB_iff.2 (by omega), Int.toNat_natCast, firsts_proved (fun r h1 h2 => h r h1 (by omega)), firsts_len]
  simp
  omega
/-- What ProveWindow accepts holds good releases only. -/
theorem pw_good {f : Flt} {a b : Int} {l : List Int} (h : pwB f a b l = true) : (0 ≤ a ∧ a ≤ b ∧ b ≤ 6000) ∧ ∀ r : Nat, a ≤ r → r ≤ b → goodB f r = true := by
  unfold pwB at h
  simp only [Bool.and_eq_true, decide_eq_true_eq] at h
  obtain ⟨_, hw, hlen, hp⟩ := h
  have hw := winB_iff.1 hw
  refine ⟨by omega, ?_⟩
  intro r h1 h2
  unfold provedB at hp
  rw [List.all_eq_true] at hp
  have hi : r - a.toNat < l.length := by omega
  have := hp (r - a.toNat) (List.mem_range.2 hi)
  rw [List.getElem?_eq_getElem hi] at this
  simp only [decide_eq_true_eq] at this
  rw [show a.toNat + (r - a.toNat) = r by omega] at this
  unfold goodB
  cases hl : sureL f r with
  | nil => rw [hl] at this; simp [ints] at this
  | cons x l => simp
/-- At tick n: k windows lie behind; first holds the first catches of the window that n is inside of. -/
def AtTick (f : Flt) (a b n k : Nat) (first : List Int) : Prop :=
  (first = [] ∧ k ≤ (winsTo f a (b + 1)).length ∧ (winsTo f a (b + 1)).drop k = runsFrom f b n) ∨
  (∃ (s : Nat) (t : Int) (rs : List (Int × Int)), s < n ∧ n ≤ b ∧ goodB f n = true ∧ (winsTo f a (b + 1)).drop k = ((s : Int), t) :: rs ∧ runsFrom f b n = ((n : Int), t) :: rs ∧
    first = firsts f s n ∧ ∀ r, s ≤ r → r < n → goodB f r = true)
theorem atTick_start {f : Flt} {a b : Nat} (h : a ≤ b + 1) : AtTick f a b a 0 [] := .inl ⟨rfl, Nat.zero_le _, by rw [List.drop_zero, winsTo_runs h]⟩
theorem atTick_end {f : Flt} {a b k : Nat} {first : List Int} (h : AtTick f a b (b + 1) k first) : k = (winsTo f a (b + 1)).length := by
  rcases h with ⟨_, hk, h⟩ | ⟨_, _, _, _, h, _⟩
  · rw [runsFrom_end] at h
    have := List.drop_eq_nil_iff.1 h
    omega
  · omega
theorem drop_get {l : List (Int × Int)} {k : Nat} {p : Int × Int} {rs : List (Int × Int)} (h : l.drop k = p :: rs) : l[k]? = some p ∧ l.drop (k + 1) = rs ∧ k + 1 ≤ l.length := by
  have h1 : l[k]? = (l.drop k)[0]? := by simp
  have h2 : l.drop (k + 1) = (l.drop k).drop 1 := by rw [List.drop_drop]
  have h3 : (l.drop k).length = l.length - k := List.length_drop
  rw [h] at h1 h2 h3
  refine ⟨by simpa using h1, by simpa using h2, ?_⟩
  simp at h3
  omega
/-- A release that is not good lies in no window: the next one lies behind it. -/
theorem atTick_bad {f : Flt} {a b n k : Nat} {first : List Int} (hn : n ≤ b) (hg : goodB f n = false) (h : AtTick f a b n k first) :
    first = [] ∧ (∀ p, (winsTo f a (b + 1))[k]? = some p → (n : Int) < p.1) ∧ AtTick f a b (n + 1) k [] := by
  rcases h with ⟨hf, hk, h⟩ | ⟨_, _, _, _, _, h, _⟩
  · rw [runsFrom_bad hn hg] at h
    refine ⟨hf, ?_, .inl ⟨rfl, hk, h⟩⟩
    intro p hp
    have hin := runsFrom_bound (f := f) (b := b) (n := n + 1) (by omega) p (by
      rw [← h]
      refine List.mem_of_getElem? (i := 0) ?_
      simpa using hp)
    omega
  · rw [hg] at h; cases h
/-- A good release lies in the window that is next; at its last tick the first catches prove it. -/
theorem atTick_good {f : Flt} {a b n k : Nat} {first : List Int} (hf : f.ok = true) (hb : b ≤ 6000) (hn : n ≤ b) (hg : goodB f n = true) (h : AtTick f a b n k first) :
    ∃ s t : Nat, (winsTo f a (b + 1))[k]? = some ((s : Int), (t : Int)) ∧ s ≤ n ∧ n ≤ t ∧ t ≤ b ∧
      (n = t → pwB f s t (first ++ [firstC f n]) = true ∧ AtTick f a b (n + 1) (k + 1) []) ∧
      (n < t → AtTick f a b (n + 1) k (first ++ [firstC f n])) := by
  obtain ⟨t, rs, hR, hnt, hcase⟩ := runsFrom_good hn hg
  have htb := (runsFrom_bound (f := f) (b := b) (n := n) (by omega) ((n : Int), t) (by rw [hR]; exact List.mem_cons_self ..)).2.2
  obtain ⟨u, rfl⟩ : ∃ u : Nat, t = (u : Int) := ⟨t.toNat, by omega⟩
  simp only at htb
  have key : ∃ s : Nat, s ≤ n ∧ (winsTo f a (b + 1)).drop k = ((s : Int), (u : Int)) :: rs ∧ first = firsts f s n ∧ ∀ r, s ≤ r → r < n → goodB f r = true := by
    rcases h with ⟨rfl, hk, h⟩ | ⟨s, t', rs', hs, _, _, hW, hR', hfi, hall⟩
    · exact ⟨n, Nat.le_refl _, by rw [h, hR], firsts_self.symm, fun r h1 h2 => by omega⟩
    · rw [hR] at hR'
      injection hR' with h1 h2
      injection h1 with _ h3
      subst h2
      exact ⟨s, by omega, by rw [hW, h3], hfi, hall⟩
  obtain ⟨s, hs, hW, rfl, hall⟩ := key
  obtain ⟨hget, hdrop, hklen⟩ := drop_get hW
  have hall' : ∀ r, s ≤ r → r ≤ n → goodB f r = true := fun r h1 h2 => by
    by_cases hr : r = n
    · rw [hr]; exact hg
    · exact hall r h1 (by omega)
  refine ⟨s, u, hget, hs, by omega, by omega, ?_, ?_⟩
  · intro hnu
    subst hnu
    rw [firsts_succ hs]
    refine ⟨firsts_pw hf hs (by omega) hall', .inl ⟨rfl, hklen, ?_⟩⟩
    rcases hcase with ⟨_, hrs, _⟩ | ⟨hlt, _⟩
    · rw [hdrop, hrs]
    · omega
  · intro hnu
    rw [firsts_succ hs]
    rcases hcase with ⟨hu, _⟩ | ⟨_, hnb, hg2, hR2⟩
    · omega
    · exact .inr ⟨s, (u : Int), rs, by omega, by omega, hg2, hW, hR2, rfl, fun r h1 h2 => hall' r h1 (by omega)⟩
/-- A release at which a catch is sure has a first one. -/
theorem goodB_first {f : Flt} {n : Nat} (h : goodB f n = true) : (ints (sureL f n))[0]? = some (firstC f n) := by
  unfold goodB at h
  unfold firstC
  cases hl : sureL f n with
  | nil => rw [hl] at h; simp at h
  | cons x l => simp [ints]
inductive ChainS (need rest : Nat) : List Flt → Nat → List (Int × Int) → Prop
  | nil (b : Nat) : ChainS need rest [] b []
  | cons {f : Flt} {fs : List Flt} {b r : Nat} {ws : List (Int × Int)} : firstW f b need = some r → ChainS need rest fs (r + f.most.toNat + rest) ws → ChainS need rest (f :: fs) b ((((r + 1 - need : Nat) : Int), (r : Int)) :: ws)
theorem chainGo_spec {need rest : Nat} : ∀ {l : List Flt} {k b : Nat} {ws0 : List (Int × Int)} {o : Out}, chainGo need rest l k b ws0 = o → o.err = 0 → ∃ ws1, o.ws = ws0 ++ ws1 ∧ ChainS need rest l b ws1
  | [], _, b, ws0, o, h, _ => by subst h; exact ⟨[], by simp [chainGo], .nil b⟩
  | f :: fs, k, b, ws0, o, h, he => by
    unfold chainGo at h
    cases hf : firstW f b need with
    | none => rw [hf] at h; subst h; simp at he
    | some r =>
      rw [hf] at h
      obtain ⟨ws1, h1, h2⟩ := chainGo_spec h he
      exact ⟨_ :: ws1, by rw [h1, List.append_assoc]; rfl, .cons hf h2⟩
theorem addW_apart {ws : List (Int × Int)} {r : Int} (h : ∀ p ∈ ws, p.2 + 1 < r) : addW ws r = ws ++ [(r, r)] := by
  rcases List.eq_nil_or_concat ws with rfl | ⟨l, p, rfl⟩
  · rfl
  · obtain ⟨a, b⟩ := p
    rw [List.concat_eq_append] at h ⊢
    have := h (a, b) (by simp)
    simp only at this
    exact addW_miss (by omega)
theorem findW_spec {f : Flt} {need b : Nat} (hn : 1 ≤ need) : ∀ (m r run q : Nat) (W0 : List (Int × Int)), findW f need m r run = some q → r + m = 6001 → run < need → b + run ≤ r → (∀ t, r - run ≤ t → t < r → goodB f t = true) →
    winsTo f b r = W0 ++ (if run = 0 then [] else [(((r - run : Nat) : Int), (r : Int) - 1)]) → (∀ p ∈ W0, p.2 - p.1 + 1 < need ∧ p.2 + 1 < ((r - run : Nat) : Int)) →
    b + need ≤ q + 1 ∧ q ≤ 6000 ∧ (∀ t, q + 1 - need ≤ t → t ≤ q → goodB f t = true) ∧ ∃ W1, winsTo f b (q + 1) = W1 ++ [(((q + 1 - need : Nat) : Int), (q : Int))] ∧ ∀ p ∈ W1, p.2 - p.1 + 1 < need
  | 0, _, _, _, _, h, _, _, _, _, _, _ => by cases h
  | m + 1, r, run, q, W0, h, hm, hrn, hbr, hgd, hw, hp => by
    have hs := winsTo_succ (f := f) (a := b) (n := r) (by omega)
    have hs1 : goodB f r = true → winsTo f b (r + 1) = W0 ++ [(((r - run : Nat) : Int), (r : Int))] := by
      intro hg
      rw [hs, hg, if_pos rfl, hw]
      by_cases h0 : run = 0
      · rw [if_pos h0, List.append_nil, addW_apart (fun p hpp => by have := (hp p hpp).2; omega)]
        subst h0
        rfl
      · rw [if_neg h0, addW_hit rfl]
    unfold findW at h
    cases hg : goodB f r
    · rw [hg, if_neg (by decide)] at h
      rw [hg, if_neg (by decide), hw] at hs
      refine findW_spec hn m (r + 1) 0 q (W0 ++ (if run = 0 then [] else [(((r - run : Nat) : Int), (r : Int) - 1)])) h (by omega) (by omega) (by omega) (fun t h1 h2 => by omega) (by rw [hs, if_pos rfl, List.append_nil]) ?_
      intro p hpp
      rcases List.mem_append.1 hpp with hpp | hpp
      · have := hp p hpp
        omega
      · by_cases h0 : run = 0
        · rw [if_pos h0] at hpp; cases hpp
        · rw [if_neg h0, List.mem_singleton] at hpp
          subst hpp
          simp only
          omega
    · have hs2 := hs1 hg
      rw [hg, if_pos rfl] at h
      by_cases hneed : run + 1 = need
      · rw [if_pos hneed] at h
        cases h
        refine ⟨by omega, by omega, ?_, W0, by rw [hs2, show r - run = r + 1 - need by omega], fun p hpp => (hp p hpp).1⟩
        intro t h1 h2
        by_cases ht : t = r
        · rw [ht]; exact hg
        · exact hgd t (by omega) (by omega)
      · rw [if_neg hneed] at h
        refine findW_spec hn m (r + 1) (run + 1) q W0 h (by omega) (by omega) (by omega) ?_ ?_ ?_
        · intro t h1 h2
          by_cases ht : t = r
          · rw [ht]; exact hg
          · exact hgd t (by omega) (by omega)
        · rw [hs2, if_neg (by omega), show r + 1 - (run + 1) = r - run by omega]
          simp
        · intro p hpp
          have := hp p hpp
          omega
theorem first_spec {f : Flt} {need b q : Nat} (hn : 1 ≤ need) (h : firstW f b need = some q) :
    b + need ≤ q + 1 ∧ q ≤ 6000 ∧ (∀ t, q + 1 - need ≤ t → t ≤ q → goodB f t = true) ∧ ∃ W1, winsTo f b (q + 1) = W1 ++ [(((q + 1 - need : Nat) : Int), (q : Int))] ∧ ∀ p ∈ W1, p.2 - p.1 + 1 < need := by
  by_cases hb : b ≤ 6000
  · exact findW_spec hn (6001 - b) b 0 q [] h (by omega) (by omega) (by omega) (fun t h1 h2 => by omega) (by rw [winsTo_start]; rfl) (fun p hp => by cases hp)
  · unfold firstW at h
    rw [findW_end (by omega)] at h
    cases h
/-- One round of the law's loop. -/
theorem chainS_round {need rest : Nat} (hn : 1 ≤ need) {l : List Flt} {ws : List (Int × Int)} {i fr : Nat} {f : Flt} (h : ChainS need rest (l.drop i) fr (ws.drop i)) (hf : l[i]? = some f) :
    ∃ s r : Nat, ws[i]? = some ((s : Int), (r : Int)) ∧ fr ≤ s ∧ r + 1 = s + need ∧ r ≤ 6000 ∧ (∀ t, s ≤ t → t ≤ r → goodB f t = true) ∧ (∃ W1, winsTo f fr (r + 1) = W1 ++ [((s : Int), (r : Int))] ∧ ∀ p ∈ W1, p.2 - p.1 + 1 < need) ∧
      ChainS need rest (l.drop (i + 1)) (r + f.most.toNat + rest) (ws.drop (i + 1)) ∧ ∀ p, ws[i + 1]? = some p → ((r + f.most.toNat + rest : Nat) : Int) ≤ p.1 := by
  obtain ⟨hi, rfl⟩ := List.getElem?_eq_some_iff.1 hf
  rw [List.drop_eq_getElem_cons hi] at h
  generalize hw : ws.drop i = wsi at h
  cases h with
  | @cons _ _ _ r ws' h1 h2 =>
    obtain ⟨g1, g2, _⟩ := drop_get hw
    obtain ⟨a1, a2, a3, a4⟩ := first_spec hn h1
    refine ⟨r + 1 - need, r, g1, by omega, by omega, a2, a3, a4, by rw [g2]; exact h2, ?_⟩
    intro p hp
    have hd : ∃ rs, ws.drop (i + 1) = p :: rs := by
      obtain ⟨hj, hpp⟩ := List.getElem?_eq_some_iff.1 hp
      exact ⟨_, by rw [List.drop_eq_getElem_cons hj, hpp]⟩
    obtain ⟨rs, hd⟩ := hd
    rw [g2] at hd
    subst hd
    generalize hfs : l.drop (i + 1) = fs at h2
    cases h2 with
    | @cons f' _ _ r' _ h3 h4 =>
      obtain ⟨b1, _⟩ := first_spec hn h3
      simp only
      omega
end Go.Proofs.Ytbagfapalkmikaa
