import Derived.Test.YtibaindlbpfecaaGeoC
import Derived.Test.YtibaindlbpfecaaRefB

namespace Go.Proofs.Ytibaindlbpfecaa
open Go.RowKit

theorem bits : ∀ (n : Nat) (σ : Nat → Bool), ∃ s : Nat, s < 2 ^ n ∧ ∀ j, j < n → s.testBit j = σ j := by
  intro n
  induction n with
  | zero => intro σ; exact ⟨0, by simp, by simp⟩
  | succ n ih =>
    intro σ
    obtain ⟨s, hs, hb⟩ := ih (fun j => σ (j + 1))
    refine ⟨2 * s + (σ 0).toNat, ?_, ?_⟩
    · have : (σ 0).toNat ≤ 1 := Bool.toNat_le _
      rw [Nat.pow_succ]; omega
    · intro j hj
      cases j with
      | zero => rw [Nat.testBit_zero]; cases σ 0 <;> simp <;> omega
      | succ j =>
        rw [Nat.testBit_add_one, show (2 * s + (σ 0).toNat) / 2 = s from by have : (σ 0).toNat ≤ 1 := Bool.toNat_le _; omega]
        exact hb j (by omega)
theorem sumV_cons (a : Vec) (l : List Vec) : sumV (a :: l) = a.plus (sumV l) := by
  have key : ∀ (l : List Vec) (a b : Vec), l.foldl Vec.plus (a.plus b) = a.plus (l.foldl Vec.plus b) := by
    intro l
    induction l with
    | nil => intro a b; rfl
    | cons c l ih => intro a b; rw [List.foldl_cons, List.foldl_cons, plus_assoc, ih]
  unfold sumV
  rw [List.foldl_cons, ← key]
  congr 1
  obtain ⟨x, y⟩ := a
  simp [Vec.plus, vecZ]
theorem full_sum {s : Nat} : ∀ (f : List Vec) (i : Nat) (σ : Nat → Bool), (∀ j, j < f.length → s.testBit (i + j) = σ j) → sumV (fullFrom s i f) = sumS σ f := by
  intro f
  induction f with
  | nil => intro i σ _; rfl
  | cons a f ih =>
    intro i σ h
    have h0 := h 0 (by simp)
    have h1 := ih (i + 1) (fun j => σ (j + 1)) (fun j hj => by rw [show i + 1 + j = i + (j + 1) from by omega]; exact h (j + 1) (by simpa using hj))
    rw [fullFrom, sumS, ← h1]
    simp only [Nat.add_zero] at h0
    rw [h0]
    cases σ 0
    · simp [plus_zero]
    · simp [sumV_cons]
theorem restM_eq (s : Nat) (p : Vec) (f : List Vec) : restM s p f = ⟨-(p.x + (sumV (fullFrom s 0 f)).x), -(p.y + (sumV (fullFrom s 0 f)).y)⟩ := by
  unfold restM
  rw [sumV_cons]
  unfold Vec.times Vec.plus
  simp only [Vec.mk.injEq]
  omega
theorem busy_no {s i : Nat} {σ : Nat → Bool} {a Q : Int} {f : List Vec} {F : Vec} (hF : (FF f)[i]? = some F) (h : Slot σ i a Q) (hb : ∀ j, j < f.length → s.testBit j = σ j) : busy s ((i : Int) - 2) = false := by
  unfold busy
  by_cases hi : 2 ≤ i
  · have hl := lt_of_getElem? (FF_get hF hi)
    rw [show ((i : Int) - 2).toNat = i - 2 from by omega, hb _ hl, h.2.2 hi]
    simp
  · rw [show decide (0 ≤ (i : Int) - 2) = false from by simp; omega]; rfl
theorem part_in {i : Nat} {a m n W : Int} (hm : 0 < m) (hW : 0 < W) (h0 : 0 ≤ a) (h1 : a ≤ cap i (m * 1)) (he : m * n = a * W) : inPartB n W (decide (0 ≤ (i : Int) - 2)) = true := by
  unfold inPartB
  have hn : 0 ≤ n := by
    have := Int.mul_nonneg h0 (Int.le_of_lt hW)
    rcases Int.lt_or_le n 0 with h | h
    · have := Int.mul_neg_of_pos_of_neg hm h; omega
    · exact h
  by_cases hi : 2 ≤ i
  · have hc : a ≤ m := by unfold cap at h1; rw [if_neg (by omega)] at h1; omega
    have h2 := Int.mul_le_mul_of_nonneg_right hc (Int.le_of_lt hW)
    have h3 : m * n ≤ m * W := by omega
    have h4 := Int.le_of_mul_le_mul_left h3 hm
    rw [show decide (0 ≤ (i : Int) - 2) = true from by simp; omega]
    simp [inB, hn, h4]
  · have hc : a = 0 := by unfold cap at h1; rw [if_pos (by omega)] at h1; omega
    rw [hc, Int.zero_mul] at he
    have : n = 0 := by
      rcases Int.mul_eq_zero.1 he with h | h
      · omega
      · exact h
    simp [this]
theorem some_of_hit {α β : Type} {g : α → Option β} {l : List α} {x : α} (hx : x ∈ l) (hg : g x ≠ none) : l.findSome? g ≠ none := by
  intro h
  rw [List.findSome?_eq_none_iff] at h
  exact hg (h x hx)
theorem try_hit {f : List Vec} {n s i k : Nat} {r F G : Vec} (hik : k < i) (hF : (FF f)[i]? = some F) (hG : (FF f)[k]? = some G) (h1 : busy s ((i : Int) - 2) = false) (h2 : busy s ((k : Int) - 2) = false)
    (hok : (splitM r F G).ok (decide (0 ≤ (i : Int) - 2)) (decide (0 ≤ (k : Int) - 2)) = true) : tryRow (FF f) n s r i ≠ none := by
  refine some_of_hit (List.mem_range.2 hik) ?_
  unfold tryAt
  rw [hF, hG]
  simp only
  rw [h1, h2, hok]
  simp
theorem cram {m a b W : Int} {r F G : Vec} (hW : F.cross G = W) (ex : m * r.x = a * F.x + b * G.x) (ey : m * r.y = a * F.y + b * G.y) : m * r.cross G = a * W ∧ m * F.cross r = b * W := by
  subst hW
  unfold Vec.cross
  constructor
  · have e1 : m * r.x * G.y = (a * F.x + b * G.x) * G.y := by rw [ex]
    have e2 : m * r.y * G.x = (a * F.y + b * G.y) * G.x := by rw [ey]
    grind
  · have e1 : m * r.x * F.y = (a * F.x + b * G.x) * F.y := by rw [ex]
    have e2 : m * r.y * F.x = (a * F.y + b * G.y) * F.x := by rw [ey]
    grind
/-- Where no direction at right angles to a force, and none along an axis, is weak, the search finds a balance. -/
theorem find_some {f : List Vec} {p : Vec} (hc : ∀ d ∈ nrm f, d.dot p ≤ helpM f d) : findBal p f ≠ none := by
  obtain ⟨σ, i, k, F, G, a, b, m, hm, hF, hG, hD, sa, sb, ex, ey⟩ := vert_all f p 1 (by omega) (fun d hd => by rw [Int.one_mul]; exact hc d hd)
  obtain ⟨s, hs, hb⟩ := bits f.length σ
  have hsum := full_sum (s := s) f 0 σ (fun j hj => by rw [Nat.zero_add]; exact hb j hj)
  have hr := restM_eq s p f
  rw [hsum] at hr
  obtain ⟨r, hre⟩ : ∃ r, restM s p f = r := ⟨_, rfl⟩
  rw [hre] at hr
  obtain ⟨W, hWe⟩ : ∃ W, F.cross G = W := ⟨_, rfl⟩
  obtain ⟨c1, c2⟩ := cram (m := m) (a := a) (b := b) (r := r) hWe (by rw [hr]; simp only; grind) (by rw [hr]; simp only; grind)
  rw [hWe] at hD
  have b1 := busy_no hF sa hb
  have b2 := busy_no hG sb hb
  have p1 := part_in hm hD sa.1 sa.2.1 c1
  have p2 := part_in hm hD sb.1 sb.2.1 c2
  have hil := lt_of_getElem? hF
  have hkl := lt_of_getElem? hG
  simp only [FF, List.length_cons] at hil hkl
  have hset : trySet p f s ≠ none := by
    unfold trySet
    rw [hre]
    rcases Nat.lt_trichotomy k i with h | h | h
    · refine some_of_hit (List.mem_range.2 (show i < f.length + 2 by omega)) (try_hit (f := f) h hF hG b1 b2 ?_)
      unfold splitM
      rw [if_neg (by omega), hWe]
      unfold Shr.ok
      simp only
      rw [p1, p2, decide_eq_true hD]
      rfl
    · subst h
      rw [hF] at hG
      cases hG
      exfalso
      unfold Vec.cross at hWe
      rw [Int.mul_comm F.x] at hWe
      omega
    · refine some_of_hit (List.mem_range.2 (show k < f.length + 2 by omega)) (try_hit (f := f) h hG hF b2 b1 ?_)
      unfold splitM
      have e1 := cross_swap F G
      have e2 := cross_swap F r
      have e3 := cross_swap r G
      rw [if_pos (by omega), e1, e2, e3, hWe]
      unfold Shr.ok
      simp only [Int.neg_neg]
      rw [p1, p2, decide_eq_true hD]
      rfl
  exact some_of_hit (List.mem_range.2 hs) hset
/-- What is a balance leaves no direction weak. -/
theorem fold_low {d : Vec} {w : Int} : ∀ (f : List Vec) (ps : List Int) (a : Vec), ps.length = f.length → (∀ x ∈ ps, 0 ≤ x ∧ x ≤ w) → d.dot a ≤ d.dot ((List.zip f ps).foldl plusStep a) + w * helpM f d := by
  intro f
  induction f with
  | nil => intro ps a _ _; simp [help_nil]
  | cons v f ih =>
    intro ps a hl hp
    cases ps with
    | nil => simp at hl
    | cons x ps =>
      have h1 := ih ps (plusStep a (v, x)) (by simpa using hl) (fun y hy => hp y (List.mem_cons_of_mem _ hy))
      obtain ⟨h2, h3⟩ := hp x (by simp)
      rw [List.zip_cons_cons, List.foldl_cons, help_cons, Int.mul_add]
      have e : d.dot (plusStep a (v, x)) = d.dot a + x * d.dot v := by unfold plusStep Vec.plus Vec.times Vec.dot; simp only; grind
      rw [e] at h1
      have h4 : -(x * d.dot v) ≤ w * max 0 (-(d.dot v)) := by
        have g1 := Int.mul_le_mul_of_nonneg_left (Int.le_max_right 0 (-(d.dot v))) h2
        have g2 := Int.mul_le_mul_of_nonneg_right h3 (Int.le_max_left 0 (-(d.dot v)))
        rw [Int.mul_neg] at g1
        omega
      omega
theorem balBy_sound {p : Vec} {f : List Vec} {w : Int} {ps : List Int} (h : balByB p f w ps = true) (d : Vec) : d.dot p ≤ helpM f d := by
  simp only [balByB, Bool.and_eq_true, decide_eq_true_eq, inB_true, List.all_eq_true] at h
  obtain ⟨⟨h1, _⟩, h2, h3, h4⟩ := h
  have := fold_low (d := d) (w := w) f ps (p.times w) h2 h3
  unfold balSum at h4
  rw [h4, dot_times] at this
  have e : d.dot vecZ = 0 := by simp [Vec.dot, vecZ]
  rw [e] at this
  have h5 : w * d.dot p ≤ w * helpM f d := by omega
  exact Int.le_of_mul_le_mul_left h5 (by omega)

/-- The sum of the forces, each with a number. -/
def tot : (Nat → Int) → List Vec → Vec
  | _, [] => vecZ
  | g, h :: f => (h.times (g 0)).plus (tot (fun j => g (j + 1)) f)
theorem tot_add (g1 g2 : Nat → Int) : ∀ (f : List Vec), (tot (fun j => g1 j + g2 j) f) = (tot g1 f).plus (tot g2 f) := by
  intro f
  induction f generalizing g1 g2 with
  | nil => simp [tot, vecZ, Vec.plus]
  | cons a f ih =>
    rw [tot, tot, tot, ih]
    unfold Vec.times Vec.plus
    simp only [Vec.mk.injEq]
    constructor <;> grind
theorem tot_zero : ∀ (f : List Vec) (g : Nat → Int), (∀ j, j < f.length → g j = 0) → tot g f = vecZ := by
  intro f
  induction f with
  | nil => intro g _; rfl
  | cons a f ih =>
    intro g h
    rw [tot, ih _ (fun j hj => h (j + 1) (by simpa using hj)), h 0 (by simp)]
    simp [Vec.times, Vec.plus, vecZ]
theorem tot_congr : ∀ (f : List Vec) (g1 g2 : Nat → Int), (∀ j, j < f.length → g1 j = g2 j) → tot g1 f = tot g2 f := by
  intro f
  induction f with
  | nil => intro _ _ _; rfl
  | cons a f ih =>
    intro g1 g2 h
    rw [tot, tot, ih _ _ (fun j hj => h (j + 1) (by simpa using hj)), h 0 (by simp)]
theorem tot_one : ∀ (f : List Vec) (t : Nat) (F : Vec) (c : Int), f[t]? = some F → tot (fun j => if j = t then c else 0) f = F.times c := by
  intro f
  induction f with
  | nil => intro t F c h; simp at h
  | cons a f ih =>
    intro t F c h
    cases t with
    | zero =>
      simp at h
      subst h
      rw [tot, tot_zero _ _ (fun j _ => by simp)]
      simp [Vec.times, Vec.plus, vecZ]
    | succ t =>
      have e : (fun j => if j + 1 = t + 1 then c else 0) = fun j => if j = t then c else 0 := by funext j; simp
      rw [tot, e, ih t F c (by simpa using h)]
      simp [Vec.times, Vec.plus]
theorem tot_set : ∀ (f : List Vec) (σ : Nat → Bool) (c : Int), tot (fun j => if σ j = true then c else 0) f = (sumS σ f).times c := by
  intro f
  induction f with
  | nil => intro σ c; simp [tot, sumS, Vec.times, vecZ]
  | cons a f ih =>
    intro σ c
    have := ih (fun j => σ (j + 1)) c
    rw [tot, this, sumS]
    cases σ 0
    · simp [Vec.times, Vec.plus, vecZ]
    · simp only [if_true]
      unfold Vec.times Vec.plus
      simp only [Vec.mk.injEq]
      constructor <;> grind
theorem fold_tot : ∀ (f : List Vec) (g : Nat → Int) (a : Vec), (List.zip f ((List.range f.length).map g)).foldl plusStep a = a.plus (tot g f) := by
  intro f
  induction f with
  | nil => intro g a; obtain ⟨x, y⟩ := a; simp [tot, Vec.plus, vecZ]
  | cons v f ih =>
    intro g a
    rw [List.length_cons, List.range_succ_eq_map, List.map_cons, List.zip_cons_cons, List.foldl_cons, List.map_map, tot]
    have := ih (g ∘ Nat.succ) (plusStep a (v, g 0))
    rw [this]
    unfold plusStep
    rw [plus_assoc]
    rfl
/-- One of the two others, as a number for each force. -/
def oneOf (i : Nat) (c : Int) : Nat → Int := fun j => if (j : Int) = (i : Int) - 2 then c else 0
theorem tot_oneOf {f : List Vec} {i : Nat} {F : Vec} {c : Int} (hF : (FF f)[i]? = some F) (hc : i < 2 → c = 0) : tot (oneOf i c) f = F.times c := by
  by_cases hi : 2 ≤ i
  · rw [← tot_one f (i - 2) F c (FF_get hF hi)]
    refine tot_congr f _ _ fun j hj => ?_
    unfold oneOf
    by_cases h : j = i - 2
    · rw [if_pos (by omega), if_pos h]
    · rw [if_neg (by omega), if_neg h]
  · rw [hc (by omega), tot_zero f _ (fun j _ => by unfold oneOf; split <;> rfl)]
    simp [Vec.times, vecZ]
theorem FF_vb {f : List Vec} {i : Nat} {F : Vec} (hf : ∀ v ∈ f, VB v 500000) (hF : (FF f)[i]? = some F) : VB F 500000 := by
  match i, hF with
  | 0, h => simp [FF] at h; subst h; unfold VB; simp only; omega
  | 1, h => simp [FF] at h; subst h; unfold VB; simp only; omega
  | j + 2, h => exact hf F (List.mem_of_getElem? (by simpa [FF] using h))
theorem split_parts {r F G : Vec} : (splitM r F G).whole * r.x = (splitM r F G).first * F.x + (splitM r F G).second * G.x ∧ (splitM r F G).whole * r.y = (splitM r F G).first * F.y + (splitM r F G).second * G.y := by
  unfold splitM
  split
  · simp only; unfold Vec.cross; constructor <;> grind
  · simp only; unfold Vec.cross; constructor <;> grind
theorem part_of {n W : Int} {b : Bool} (h : inPartB n W b = true) : (b = false → n = 0) ∧ (n = 0 ∨ (0 ≤ n ∧ n ≤ W)) := by
  unfold inPartB at h
  simp only [Bool.or_eq_true, decide_eq_true_eq, Bool.and_eq_true, inB_true] at h
  constructor
  · intro hb; rcases h with h | h
    · exact h
    · rw [hb] at h; cases h.1
  · rcases h with h | h
    · exact .inl h
    · exact .inr h.2
theorem find_sound {f : List Vec} {p : Vec} {w : Int} {ps : List Int} (hf : ∀ v ∈ f, VB v 500000) (h : findBal p f = some (w, ps)) : balByB p f w ps = true := by
  unfold findBal at h
  obtain ⟨s, _, h⟩ := List.exists_of_findSome?_eq_some h
  unfold trySet at h
  obtain ⟨i, _, h⟩ := List.exists_of_findSome?_eq_some h
  unfold tryRow at h
  obtain ⟨k, hk, h⟩ := List.exists_of_findSome?_eq_some h
  have hki := List.mem_range.1 hk
  unfold tryAt at h
  change (match (FF f)[i]?, (FF f)[k]? with | some f1, some g1 => _ | _, _ => none) = some (w, ps) at h
  cases hF : (FF f)[i]? with
  | none => rw [hF] at h; simp at h
  | some F =>
    cases hG : (FF f)[k]? with
    | none => rw [hF, hG] at h; simp at h
    | some G =>
      rw [hF, hG] at h
      simp only at h
      split at h
      · cases h
      · rename_i hb
        split at h
        · rename_i hok
          simp only [Option.some.injEq, Prod.mk.injEq] at h
          obtain ⟨rfl, rfl⟩ := h
          simp only [Bool.or_eq_true, not_or, Bool.not_eq_true] at hb
          obtain ⟨hb1, hb2⟩ := hb
          unfold Shr.ok at hok
          simp only [Bool.and_eq_true, decide_eq_true_eq] at hok
          obtain ⟨hW, hp1, hp2⟩ := hok
          obtain ⟨q1, q2⟩ := part_of hp1
          obtain ⟨q3, q4⟩ := part_of hp2
          obtain ⟨ex, ey⟩ := split_parts (r := restM s p f) (F := F) (G := G)
          have hwb : (splitM (restM s p f) F G).whole ≤ 500000000000 := by
            obtain ⟨_, c1, c2⟩ := (FF_vb hf hF).smc (FF_vb hf hG) (by omega)
            unfold splitM
            split <;> simp only <;> omega
          generalize splitM (restM s p f) F G = S at *
          have hpt : S.parts f.length s ((i : Int) - 2) ((k : Int) - 2) = (List.range f.length).map (S.part s ((i : Int) - 2) ((k : Int) - 2)) := rfl
          have hin : ∀ j : Nat, 0 ≤ S.part s ((i : Int) - 2) ((k : Int) - 2) j ∧ S.part s ((i : Int) - 2) ((k : Int) - 2) j ≤ S.whole := by
            intro j
            unfold Shr.part
            split
            · omega
            · split
              · omega
              · split <;> omega
          have bit : ∀ (j : Nat) (i : Nat), busy s ((i : Int) - 2) = false → (j : Int) = (i : Int) - 2 → s.testBit j = false := by
            intro j i hb e
            unfold busy at hb
            rw [← e] at hb
            simpa using hb
          have hS : balSum p f S.whole (S.parts f.length s ((i : Int) - 2) ((k : Int) - 2)) = vecZ := by
            unfold balSum
            rw [hpt, fold_tot]
            have e1 : tot (S.part s ((i : Int) - 2) ((k : Int) - 2)) f = ((sumS (fun j => s.testBit j) f).times S.whole).plus ((F.times S.first).plus (G.times S.second)) := by
              rw [← tot_set, ← tot_oneOf hF (fun hi => q1 (by simp; omega)), ← tot_oneOf hG (fun hi => q3 (by simp; omega)), ← tot_add, ← tot_add]
              refine tot_congr f _ _ fun j hj => ?_
              unfold Shr.part oneOf
              have b1 := bit j i hb1
              have b2 := bit j k hb2
              by_cases hs : s.testBit j = true
              · rw [if_pos hs, if_pos hs, if_neg (fun e => by rw [b1 e] at hs; cases hs), if_neg (fun e => by rw [b2 e] at hs; cases hs)]; omega
              · rw [if_neg hs, if_neg hs]
                by_cases hi : (j : Int) = (i : Int) - 2
                · rw [if_pos hi, if_pos hi, if_neg (by omega)]; omega
                · rw [if_neg hi, if_neg hi]; split <;> omega
            rw [e1]
            have hr := restM_eq s p f
            rw [full_sum f 0 (fun j => s.testBit j) (fun j _ => by rw [Nat.zero_add])] at hr
            rw [hr] at ex ey
            unfold Vec.times Vec.plus vecZ
            simp only [Vec.mk.injEq] at *
            constructor <;> grind
          unfold balByB
          rw [hS]
          simp only [Shr.parts_length, Bool.and_eq_true, decide_eq_true_eq, inB_true, List.all_eq_true]
          refine ⟨⟨by omega, hwb⟩, trivial, fun x hx => ?_, trivial⟩
          rw [hpt] at hx
          obtain ⟨j, _, rfl⟩ := List.mem_map.1 hx
          exact hin j
        · cases h

/-- The three ways to say that forces balance a push are one. -/
theorem nrm_ways {f : List Vec} {d : Vec} (h : d ∈ nrm f) : d ∈ waysL f := by
  unfold waysL
  exact List.mem_append_left _ h
theorem bal_all {f : List Vec} {p : Vec} (hf : ∀ v ∈ f, VB v 500000) (h : ∀ d ∈ waysL f, d.dot p ≤ helpM f d) (d : Vec) : d.dot p ≤ helpM f d := by
  have := find_some (f := f) (p := p) (fun d hd => h d (nrm_ways hd))
  cases hb : findBal p f with
  | none => exact absurd hb this
  | some r => exact balBy_sound (find_sound (w := r.1) (ps := r.2) hf hb) d
theorem bal_find {f : List Vec} {p : Vec} (hf : ∀ v ∈ f, VB v 500000) : findBal p f ≠ none ↔ ∀ d ∈ waysL f, d.dot p ≤ helpM f d := by
  constructor
  · intro h d _
    cases hb : findBal p f with
    | none => exact absurd hb h
    | some r => exact balBy_sound (find_sound (w := r.1) (ps := r.2) hf hb) d
  · exact fun h => find_some (fun d hd => h d (nrm_ways hd))
theorem nrm_ref {f : List Vec} : ∀ d ∈ nrm f, d ∈ refWays f := by
  have key : ∀ (f ws : List Vec), (∀ d ∈ ws, d ∈ f.foldl addWays ws) ∧ ∀ v ∈ f, v.turned ∈ f.foldl addWays ws ∧ v.turned.times (-1) ∈ f.foldl addWays ws := by
    intro f
    induction f with
    | nil => intro ws; exact ⟨fun d h => h, by simp⟩
    | cons a f ih =>
      intro ws
      obtain ⟨h1, h2⟩ := ih (addWays ws a)
      refine ⟨fun d hd => h1 d (by unfold addWays; exact List.mem_append_left _ hd), fun v hv => ?_⟩
      rcases List.mem_cons.1 hv with rfl | hv
      · constructor
        · exact h1 _ (by unfold addWays Vec.turned; simp)
        · exact h1 _ (by unfold addWays Vec.turned Vec.times; simp)
      · exact h2 v hv
  intro d hd
  obtain ⟨h1, h2⟩ := key f ways0
  rw [refWays_eq]
  simp only [nrm, turnsM, List.mem_append, List.mem_flatMap] at hd
  rcases hd with hd | ⟨v, hv, hd⟩
  · exact h1 d hd
  · simp at hd
    rcases hd with rfl | rfl
    · exact (h2 v hv).1
    · exact (h2 v hv).2
theorem balancesB_iff {f : List Vec} {p : Vec} (hf : ∀ v ∈ f, VB v 500000) : balancesB f p = true ↔ ∀ d ∈ waysL f, d.dot p ≤ helpM f d := by
  unfold balancesB
  rw [List.all_eq_true]
  constructor
  · intro h
    have h' : ∀ d ∈ nrm f, d.dot p ≤ helpM f d := fun d hd => by have := h d (nrm_ref d hd); unfold weakInB at this; simpa using this
    exact (bal_find hf).1 (find_some h')
  · intro h d _
    have := bal_all hf h d
    unfold weakInB
    simpa using this
theorem bad_bal {a : Int} {f : List Vec} {p : Vec} (hf : ∀ v ∈ f, VB v 500000) : badB a f p = !balancesB f (p.times a) := by
  cases h : badB a f p with
  | false => rw [(balancesB_iff hf).2 (bad_no.1 h)]; rfl
  | true =>
    cases hb : balancesB f (p.times a) with
    | false => rfl
    | true => rw [bad_no.2 ((balancesB_iff hf).1 hb)] at h; cases h
end Go.Proofs.Ytibaindlbpfecaa
