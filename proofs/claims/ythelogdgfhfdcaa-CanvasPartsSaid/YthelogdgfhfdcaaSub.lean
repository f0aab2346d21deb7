/- Rows of the call's own whose elements hold slices of the call's own. -/
import Derived.Test.YthelogdgfhfdcaaHeads
namespace Go.Proofs.Ythelogdgfhfdcaa
open Go.RowKit

theorem RS.grown {α : Type} {enc : α → List Value} {sz : Nat} {w w' : World} {B : Nat} {row : Option Nat} {A : Option Addr} {l : List α} (h : RS enc sz w B A l) (hg : w.grownBy w' row) (hB : B ≤ w.heap.size) (hne : ∀ ad, A = some ad → some ad.block ≠ row) : RS enc sz w' B A l := by
  rcases h with rfl | ⟨b, off, rfl, hlt, hc⟩
  · exact .inl rfl
  · exact .inr ⟨b, off, rfl, hlt, fun k x hk j v hv => (World.cell?_of_block (hg.block b (by omega) (hne _ rfl))).trans (hc k x hk j v hv)⟩

/-- The j-th pair is the address and the capacity of the slice of the j-th element; none of them lies in the row itself. -/
def Subs {α β : Type} (enc : β → List Value) (sz : Nat) (sub : α → List β) (w : World) (own : Option Nat) (t : List α) (cs : List (Option Addr × Nat)) : Prop :=
  cs.length = t.length ∧ ∀ (j : Nat) (x : α) (a : Option Addr × Nat), t[j]? = some x → cs[j]? = some a → (sub x).length ≤ a.2 ∧ a.2 ≤ maxLen ∧ RS enc sz w w.heap.size a.1 (sub x) ∧ (sub x = [] ∨ ∀ ad, a.1 = some ad → some ad.block ≠ own)
section
variable {α β : Type} {enc : β → List Value} {sz : Nat} {sub : α → List β} {w w' : World} {own own' : Option Nat} {t : List α} {cs : List (Option Addr × Nat)}
theorem Subs.nil : Subs enc sz sub w own ([] : List α) [] := ⟨rfl, fun j x a h => by simp at h⟩
theorem Subs.below (h : Subs enc sz sub w own t cs) (hb : Below w.heap.size w w') : Subs enc sz sub w' own t cs :=
  ⟨h.1, fun j x a hx ha => by obtain ⟨h1, h2, h3, h4⟩ := h.2 j x a hx ha; exact ⟨h1, h2, h3.to hb, h4⟩⟩
theorem RS.lt {A : Option Addr} {l : List β} {B : Nat} (h : RS enc sz w B A l) (hl : l ≠ []) : ∀ ad, A = some ad → ad.block < B := by
  rcases h with h0 | ⟨b, off, rfl, hb, _⟩
  · exact absurd h0 hl
  · intro ad e; cases e; exact hb
theorem Subs.grown (h : Subs enc sz sub w own t cs) (hg : w.grownBy w' own) {g : Nat} (hn : own = some g ∨ w.heap.size ≤ g) : Subs enc sz sub w' (some g) t cs :=
  ⟨h.1, fun j x a hx ha => by
    obtain ⟨h1, h2, h3, h4⟩ := h.2 j x a hx ha
    rcases h4 with h4 | h4
    · exact ⟨h1, h2, .inl h4, .inl h4⟩
    · refine ⟨h1, h2, (h3.grown hg (Nat.le_refl _) h4).more hg.size, ?_⟩
      rcases Classical.em (sub x = []) with h0 | h0
      · exact .inl h0
      · right
        intro ad e
        rcases hn with rfl | hn
        · exact h4 ad e
        · have := h3.lt h0 ad e
          intro he
          injection he with he
          omega⟩
theorem Subs.snoc (h : Subs enc sz sub w own t cs) {x : α} {A : Option Addr} {c : Nat} (h1 : (sub x).length ≤ c) (h2 : c ≤ maxLen) (h3 : RS enc sz w w.heap.size A (sub x)) (h4 : sub x = [] ∨ ∀ ad, A = some ad → some ad.block ≠ own) : Subs enc sz sub w own (t ++ [x]) (cs ++ [(A, c)]) := by
  refine ⟨by simp [h.1], fun j y a hy ha => ?_⟩
  by_cases hj : j < t.length
  · rw [List.getElem?_append_left hj] at hy
    rw [List.getElem?_append_left (by rw [h.1]; exact hj)] at ha
    exact h.2 j y a hy ha
  · have hj2 : j = t.length := by
      have := lt_of_getElem? hy
      simp at this; omega
    subst hj2
    rw [List.getElem?_append_right (Nat.le_refl _), Nat.sub_self] at hy
    rw [List.getElem?_append_right (by rw [h.1]; exact Nat.le_refl _), h.1, Nat.sub_self] at ha
    simp only [List.getElem?_cons_zero, Option.some.injEq] at hy ha
    subst hy ha
    exact ⟨h1, h2, h3, h4⟩
end

def encR (p : List Int) (a : Option Addr × Nat) : List Value := [.slice a.1 p.length a.2]
def encH (h : Head) (a : Option Addr × Nat) : List Value := [.int .i64 h.area, .int .i64 h.bears, .slice a.1 h.guys.length a.2]
/-- The cells of all elements, each with its slice. -/
def flat2 {α : Type} (enc : α → Option Addr × Nat → List Value) (t : List α) (cs : List (Option Addr × Nat)) : List Value := (List.zipWith enc t cs).flatten
theorem flat2_snoc {α : Type} {enc : α → Option Addr × Nat → List Value} {t : List α} {cs : List (Option Addr × Nat)} (h : cs.length = t.length) (x : α) (a : Option Addr × Nat) : flat2 enc (t ++ [x]) (cs ++ [a]) = flat2 enc t cs ++ enc x a := by
  unfold flat2
  rw [List.zipWith_append h.symm]
  simp
theorem flat2_get {α : Type} {enc : α → Option Addr × Nat → List Value} {sz : Nat} (hs : ∀ x a, (enc x a).length = sz) : ∀ (t : List α) (cs : List (Option Addr × Nat)) (k : Nat) (x : α) (a : Option Addr × Nat), t[k]? = some x → cs[k]? = some a → ∀ j v, (enc x a)[j]? = some v → (flat2 enc t cs)[k * sz + j]? = some v := by
  intro t
  induction t with
  | nil => intro cs k x a h; simp at h
  | cons y t ih =>
    intro cs k x a ht hc j v hv
    cases cs with
    | nil => simp at hc
    | cons b cs =>
      show ((enc y b :: List.zipWith enc t cs).flatten)[_]? = _
      rw [List.flatten_cons]
      cases k with
      | zero =>
        simp only [List.getElem?_cons_zero, Option.some.injEq] at ht hc
        subst ht hc
        have hj : j < (enc y b).length := lt_of_getElem? hv
        rw [Nat.zero_mul, Nat.zero_add, List.getElem?_append_left hj]; exact hv
      | succ k =>
        have ht' : t[k]? = some x := by simpa using ht
        have hc' : cs[k]? = some a := by simpa using hc
        rw [List.getElem?_append_right (by rw [hs, Nat.add_mul, Nat.one_mul]; omega), hs, show (k + 1) * sz + j - sz = k * sz + j from by rw [Nat.add_mul, Nat.one_mul]; omega]
        exact ih cs k x a ht' hc' j v hv

/-- The slice at A reads as these lists of numbers. -/
def RR (w : World) (B : Nat) (A : Option Addr) (t : List (List Int)) : Prop :=
  t = [] ∨ ∃ b off, A = some ⟨b, off, none⟩ ∧ b < B ∧ ∀ k p, t[k]? = some p → ∃ A' c', w.cell? ⟨b, off + k, none⟩ = some (.slice A' p.length c') ∧ p.length ≤ c' ∧ c' ≤ maxLen ∧ RS encI 1 w B A' p
theorem RR.at_ {w : World} {B : Nat} {A : Option Addr} {t : List (List Int)} (h : RR w B A t) {k : Nat} {p : List Int} (hk : t[k]? = some p) :
    ∃ b off A' c', A = some ⟨b, off, none⟩ ∧ b < B ∧ w.cell? ⟨b, off + k, none⟩ = some (.slice A' p.length c') ∧ p.length ≤ c' ∧ c' ≤ maxLen ∧ RS encI 1 w B A' p := by
  rcases h with rfl | ⟨b, off, hA, hb, hc⟩
  · simp at hk
  · obtain ⟨A', c', h⟩ := hc k p hk
    exact ⟨b, off, A', c', hA, hb, h⟩
theorem RR.below {w w' : World} {B B' : Nat} {A : Option Addr} {t : List (List Int)} (h : RR w B A t) (hb : Below B' w w') (hB : B ≤ B') : RR w' B A t := by
  rcases h with rfl | ⟨b, off, hA, hlt, hc⟩
  · exact .inl rfl
  · refine .inr ⟨b, off, hA, hlt, fun k p hk => ?_⟩
    obtain ⟨A', c', h0, h3, h4, h5⟩ := hc k p hk
    exact ⟨A', c', (hb.cell (p := ⟨b, _, none⟩) (by show b < B'; omega)).trans h0, h3, h4, h5.below hb hB⟩
theorem RR.more {w : World} {B B' : Nat} {A : Option Addr} {t : List (List Int)} (h : RR w B A t) (hB : B ≤ B') : RR w B' A t := by
  rcases h with rfl | ⟨b, off, hA, hlt, hc⟩
  · exact .inl rfl
  · refine .inr ⟨b, off, hA, by omega, fun k p hk => ?_⟩
    obtain ⟨A', c', h0, h3, h4, h5⟩ := hc k p hk
    exact ⟨A', c', h0, h3, h4, h5.more hB⟩
theorem RR.to {W0 w1 : World} {A : Option Addr} {t : List (List Int)} (h : RR W0 W0.heap.size A t) (hb : Below W0.heap.size W0 w1) : RR w1 w1.heap.size A t := (h.below hb (Nat.le_refl _)).more hb.size
theorem RR.of_own {w : World} {base e n c : Nat} {A : Option Addr} {t : List (List Int)} {cs : List (Option Addr × Nat)} {own : Option Nat}
    (h : w.ownsRow base e 1 (.slice A n c) n (flat2 encR t cs)) (hn : n = t.length) (hs : Subs encI 1 id w own t cs) : RR w w.heap.size A t := by
  rcases t with _ | ⟨x, t⟩
  · exact .inl rfl
  · right
    obtain ⟨g, cap, hv, _, hlt⟩ := h.form (by rw [hn]; simp)
    have hA : A = some ⟨g, 0, none⟩ := by injection hv
    subst hA
    refine ⟨g, 0, rfl, hlt, fun k p hk => ?_⟩
    obtain ⟨a, ha⟩ := getElem?_lt (l := cs) (k := k) (by rw [hs.1]; exact lt_of_getElem? hk)
    obtain ⟨h1, h2, h3, _⟩ := hs.2 k p a hk ha
    refine ⟨a.1, a.2, ?_, h1, h2, h3⟩
    have := h.cells (g := g) rfl (k * 1 + 0) _ (flat2_get (enc := encR) (fun _ _ => rfl) _ _ k p a hk ha 0 (.slice a.1 p.length a.2) rfl)
    rw [Addr.add_lit] at this
    simpa using this
theorem RH.of_own {w : World} {base e n c : Nat} {A : Option Addr} {t : List Head} {cs : List (Option Addr × Nat)} {own : Option Nat}
    (h : w.ownsRow base e 3 (.slice A n c) n (flat2 encH t cs)) (hn : n = t.length) (hs : Subs encG 5 Head.guys w own t cs) : RH w w.heap.size A t := by
  rcases t with _ | ⟨x, t⟩
  · exact .inl rfl
  · right
    obtain ⟨g, cap, hv, _, hlt⟩ := h.form (by rw [hn]; simp)
    have hA : A = some ⟨g, 0, none⟩ := by injection hv
    subst hA
    refine ⟨g, 0, rfl, hlt, fun k p hk => ?_⟩
    obtain ⟨a, ha⟩ := getElem?_lt (l := cs) (k := k) (by rw [hs.1]; exact lt_of_getElem? hk)
    obtain ⟨h1, h2, h3, _⟩ := hs.2 k p a hk ha
    have key : ∀ j v, (encH p a)[j]? = some v → w.cell? ⟨g, 0 + k * 3 + j, none⟩ = some v := by
      intro j v hj
      have := h.cells (g := g) rfl (k * 3 + j) v (flat2_get (enc := encH) (fun _ _ => rfl) _ _ k p a hk ha j v hj)
      rw [Addr.add_lit] at this
      rw [← this]
      congr 2
      omega
    exact ⟨a.1, a.2, key 0 _ rfl, key 1 _ rfl, key 2 _ rfl, h1, h2, h3⟩
end Go.Proofs.Ythelogdgfhfdcaa
