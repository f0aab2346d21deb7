import Derived.Test.YtbagfapalkmikaaRefW

/- Windows, counted from the last tick down: they are the same ones. -/
namespace Go.Proofs.Ytbagfapalkmikaa
/-- One more tick ahead of the windows of the ticks behind it. -/
def frontW (good : Bool) (n : Int) (R : List (Int × Int)) : List (Int × Int) :=
  if good then (match R with
    | (s, t) :: rs => if s = n + 1 then (n, t) :: rs else (n, n) :: (s, t) :: rs
    | [] => [(n, n)]) else R
def runs (f : Flt) (b : Nat) : Nat → List (Int × Int)
  | 0 => []
  | m + 1 => frontW (goodB f (b - m)) ((b - m : Nat) : Int) (runs f b m)
/-- The windows in the ticks from n to b. -/
def runsFrom (f : Flt) (b n : Nat) : List (Int × Int) := runs f b (b + 1 - n)
theorem runsFrom_end {f : Flt} {b : Nat} : runsFrom f b (b + 1) = [] := by unfold runsFrom; rw [Nat.sub_self]; rfl
theorem runsFrom_step {f : Flt} {b n : Nat} (h : n ≤ b) : runsFrom f b n = frontW (goodB f n) n (runsFrom f b (n + 1)) := by
  unfold runsFrom
  rw [show b + 1 - n = (b - n) + 1 by omega, show b + 1 - (n + 1) = b - n by omega]
  show frontW (goodB f (b - (b - n))) ((b - (b - n) : Nat) : Int) _ = _
  rw [show b - (b - n) = n by omega]
/-- All windows from n on lie in the ticks from n to b. -/
theorem runsFrom_in {f : Flt} {b : Nat} : ∀ (m n : Nat), b + 1 - n = m → n ≤ b + 1 → ∀ p ∈ runsFrom f b n, (n : Int) ≤ p.1 ∧ p.1 ≤ p.2 ∧ p.2 ≤ b := by
  intro m
  induction m with
  | zero =>
    intro n hm hn p hp
    obtain rfl : n = b + 1 := by omega
    rw [runsFrom_end] at hp
    cases hp
  | succ m ih =>
    intro n hm hn p hp
    have hi := ih (n + 1) (by omega) (by omega)
    rw [runsFrom_step (by omega)] at hp
    unfold frontW at hp
    cases hg : goodB f n
    · rw [hg, if_neg (by decide)] at hp
      have := hi p hp
      omega
    · rw [hg, if_pos rfl] at hp
      cases hR : runsFrom f b (n + 1) with
      | nil =>
        rw [hR] at hp
        simp at hp
        rw [hp]
        simp
        omega
      | cons q rs =>
        obtain ⟨s, t⟩ := q
        rw [hR] at hp hi
        have hq := hi (s, t) (List.mem_cons_self ..)
        simp only at hp
        split at hp
        · rcases List.mem_cons.1 hp with rfl | hp
          · simp at hq ⊢; omega
          · have := hi p (List.mem_cons_of_mem _ hp); omega
        · rcases List.mem_cons.1 hp with rfl | hp
          · simp; omega
          · have := hi p hp; omega
theorem runsFrom_bound {f : Flt} {b n : Nat} (hn : n ≤ b + 1) : ∀ p ∈ runsFrom f b n, (n : Int) ≤ p.1 ∧ p.1 ≤ p.2 ∧ p.2 ≤ b := runsFrom_in (b + 1 - n) n rfl hn
/-- A good release begins the first window from it on. -/
theorem runsFrom_good {f : Flt} {b n : Nat} (h : n ≤ b) (hg : goodB f n = true) : ∃ t rs, runsFrom f b n = ((n : Int), t) :: rs ∧ (n : Int) ≤ t ∧
    ((t = n ∧ rs = runsFrom f b (n + 1) ∧ (n < b → goodB f (n + 1) = false)) ∨ (n < t ∧ n < b ∧ goodB f (n + 1) = true ∧ runsFrom f b (n + 1) = (((n + 1 : Nat) : Int), t) :: rs)) := by
  have hin := runsFrom_bound (f := f) (b := b) (n := n + 1) (by omega)
  rw [runsFrom_step h, hg]
  unfold frontW
  rw [if_pos rfl]
  by_cases hb : n < b
  · cases hg2 : goodB f (n + 1)
    · have hne : ∀ s t rs, runsFrom f b (n + 1) = (s, t) :: rs → ¬ s = (n : Int) + 1 := by
        intro s t rs hR
        rw [runsFrom_step (by omega), hg2] at hR
        unfold frontW at hR
        rw [if_neg (by decide)] at hR
        have := runsFrom_bound (f := f) (b := b) (n := n + 1 + 1) (by omega) (s, t) (by rw [hR]; exact List.mem_cons_self ..)
        simp at this
        omega
      cases hR : runsFrom f b (n + 1) with
      | nil => exact ⟨n, [], rfl, by omega, .inl ⟨rfl, rfl, fun _ => rfl⟩⟩
      | cons q rs =>
        obtain ⟨s, t⟩ := q
        simp only
        rw [if_neg (hne s t rs hR)]
        exact ⟨n, (s, t) :: rs, rfl, by omega, .inl ⟨rfl, rfl, fun _ => trivial⟩⟩
    · have hR : ∃ t rs, runsFrom f b (n + 1) = (((n + 1 : Nat) : Int), t) :: rs := by
        rw [runsFrom_step (by omega), hg2]
        unfold frontW
        rw [if_pos rfl]
        cases runsFrom f b (n + 1 + 1) with
        | nil => exact ⟨_, _, rfl⟩
        | cons q rs =>
          obtain ⟨s, t⟩ := q
          simp only
          split
          · exact ⟨_, _, rfl⟩
          · exact ⟨_, _, rfl⟩
      obtain ⟨t, rs, hR⟩ := hR
      have hq := hin (((n + 1 : Nat) : Int), t) (by rw [hR]; exact List.mem_cons_self ..)
      rw [hR]
      simp only
      rw [if_pos (by omega)]
      simp at hq
      exact ⟨t, rs, rfl, by omega, .inr ⟨by omega, hb, trivial, rfl⟩⟩
  · obtain rfl : n = b := by omega
    rw [runsFrom_end]
    exact ⟨n, [], rfl, by omega, .inl ⟨rfl, rfl, fun h => absurd h hb⟩⟩
theorem runsFrom_bad {f : Flt} {b n : Nat} (h : n ≤ b) (hg : goodB f n = false) : runsFrom f b n = runsFrom f b (n + 1) := by
  rw [runsFrom_step h, hg]; rfl
/-- The windows below n, and those from n on, make all windows. -/
def Joined (f : Flt) (a b n : Nat) : Prop :=
  ((prevB f a n && goodB f n && decide (n ≤ b)) = false ∧ runsFrom f b a = winsTo f a n ++ runsFrom f b n) ∨
  (prevB f a n = true ∧ goodB f n = true ∧ n ≤ b ∧ ∃ l s t rs, winsTo f a n = l ++ [(s, (n : Int) - 1)] ∧ runsFrom f b n = ((n : Int), t) :: rs ∧ runsFrom f b a = l ++ (s, t) :: rs)
theorem joined_start {f : Flt} {a b : Nat} : Joined f a b a := .inl ⟨by rw [prevB_start]; rfl, by rw [winsTo_start]; rfl⟩
theorem joined_step {f : Flt} {a b n : Nat} (ha : a ≤ n) (hn : n ≤ b) (h : Joined f a b n) : Joined f a b (n + 1) := by
  have hp := prevB_succ (f := f) (a := a) (n := n) ha
  have hw := winsTo_succ (f := f) (a := a) (n := n) ha
  cases hg : goodB f n
  · left
    rw [hg] at hp hw
    refine ⟨by rw [hp]; rfl, ?_⟩
    rw [hw, if_neg (by decide)]
    rcases h with ⟨_, h⟩ | ⟨_, hg2, _⟩
    · rw [h, runsFrom_bad hn hg]
    · rw [hg] at hg2; cases hg2
  · rw [hg] at hp hw
    rw [if_pos rfl] at hw
    obtain ⟨t, rs, hR, hnt, hcase⟩ := runsFrom_good hn hg
    have key : ∃ l s, winsTo f a (n + 1) = l ++ [(s, (n : Int))] ∧ runsFrom f b a = l ++ (s, t) :: rs := by
      rcases h with ⟨hno, h⟩ | ⟨hpv, _, _, l, s, t', rs', hl, hR', h⟩
      · have hpf : prevB f a n = false := by
          rw [hg, decide_eq_true hn, Bool.and_true, Bool.and_true] at hno
          exact hno
        refine ⟨winsTo f a n, n, by rw [hw, addW_new ha hpf], ?_⟩
        rw [h, hR]
      · rw [hR] at hR'
        injection hR' with h1 h2
        injection h1 with _ h3
        subst h2
        subst h3
        refine ⟨l, s, ?_, h⟩
        rw [hw, hl, addW_hit rfl]
    obtain ⟨l, s, hl, hA⟩ := key
    rcases hcase with ⟨rfl, hrs, hgn⟩ | ⟨hlt, hb, hg2, hR2⟩
    · left
      refine ⟨?_, ?_⟩
      · by_cases hb : n < b
        · rw [hgn hb]; simp
        · rw [decide_eq_false (by omega)]; simp
      · rw [hA, hl, ← hrs, List.append_assoc]; rfl
    · right
      refine ⟨hp, hg2, by omega, l, s, t, rs, ?_, hR2, hA⟩
      rw [hl]
      simp
theorem winsTo_runs {f : Flt} {a b : Nat} (hab : a ≤ b + 1) : winsTo f a (b + 1) = runsFrom f b a := by
  have key : ∀ c, a + c ≤ b + 1 → Joined f a b (a + c) := by
    intro c
    induction c with
    | zero => intro _; exact joined_start
    | succ c ih => intro h; have h' : a + c + 1 ≤ b + 1 := h; have := ih (by omega); exact joined_step (n := a + c) (by omega) (by omega) this
  have h := key (b + 1 - a) (by omega)
  rw [show a + (b + 1 - a) = b + 1 by omega] at h
  rcases h with ⟨_, h⟩ | ⟨_, _, h, _⟩
  · rw [h, runsFrom_end, List.append_nil]
  · omega
end Go.Proofs.Ytbagfapalkmikaa
