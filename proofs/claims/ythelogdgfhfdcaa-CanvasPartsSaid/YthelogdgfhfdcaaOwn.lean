/- Rows that a call makes by append, and the lists that they read as. -/
import Derived.Test.YthelogdgfhfdcaaHeld
import Derived.Deep.AppendLies
import Derived.Maps.AppendAt
namespace Go.Proofs.Ythelogdgfhfdcaa
open Go.RowKit

theorem flat_get {α : Type} {enc : α → List Value} {sz : Nat} (hs : ∀ x, (enc x).length = sz) : ∀ (l : List α) (k : Nat) (x : α), l[k]? = some x → ∀ j v, (enc x)[j]? = some v → (l.flatMap enc)[k * sz + j]? = some v := by
  intro l
  induction l with
  | nil => intro k x h; simp at h
  | cons a l ih =>
    intro k x h j v hv
    rw [List.flatMap_cons]
    cases k with
    | zero =>
      simp only [List.getElem?_cons_zero, Option.some.injEq] at h
      subst h
      have hj : j < (enc a).length := by rw [List.getElem?_eq_some_iff] at hv; exact hv.1
      rw [Nat.zero_mul, Nat.zero_add, List.getElem?_append_left hj]; exact hv
    | succ k =>
      have h' : l[k]? = some x := by simpa using h
      rw [List.getElem?_append_right (by rw [hs, Nat.add_mul, Nat.one_mul]; omega), hs, show (k + 1) * sz + j - sz = k * sz + j from by rw [Nat.add_mul, Nat.one_mul]; omega]
      exact ih k x h' j v hv

/-- A row of the call's own reads as the list that it was made of. -/
theorem RS.of_own {α : Type} {enc : α → List Value} {sz : Nat} (hs : ∀ x, (enc x).length = sz) {w : World} {base e n : Nat} {A : Option Addr} {c : Nat} {l : List α}
    (h : w.ownsRow base e sz (.slice A n c) n (l.flatMap enc)) (hn : n = l.length) : RS enc sz w w.heap.size A l := by
  rcases l with _ | ⟨a, l⟩
  · exact .inl rfl
  · right
    have hpos : 0 < n := by rw [hn]; simp
    obtain ⟨g, cap, hv, _, hlt⟩ := h.form hpos
    have hA : A = some ⟨g, 0, none⟩ := by injection hv
    subst hA
    refine ⟨g, 0, rfl, hlt, fun k x hk j v hj => ?_⟩
    have := h.cells (g := g) rfl (k * sz + j) v (flat_get hs _ k x hk j v hj)
    rw [Addr.add_lit] at this
    simpa using this

/-- Every row of the call's own is a slice. -/
theorem own_slice {w : World} {base e sz n : Nat} {v : Value} {xs : List Value} (h : w.ownsRow base e sz v n xs) : ∃ A c, v = .slice A n c ∧ n ≤ c ∧ c ≤ maxLen := by
  rcases h.2 with ⟨rfl, rfl⟩ | ⟨g, cap, cur, rfl, _, _, h1, h2, _⟩
  · exact ⟨none, 0, rfl, Nat.le_refl _, Nat.zero_le _⟩
  · exact ⟨_, _, rfl, h1, h2⟩
theorem flat_snoc {α : Type} {enc : α → List Value} {l : List α} {k : Nat} {x : α} (h : l[k]? = some x) : (l.take (k + 1)).flatMap enc = (l.take k).flatMap enc ++ enc x := by
  rw [List.take_add_one, h]; simp
theorem shB_refl (B : Nat) (W0 : World) : (∀ b o, b < B → W0.drew.cell? ⟨b, o, none⟩ = W0.cell? ⟨b, o, none⟩) ∧ Below B W0 W0.drew := ⟨fun _ _ _ => rfl, (Below.refl _ _).drew⟩
theorem shB_of {B : Nat} {W0 w1 : World} (h : Below B W0 w1) : (∀ b o, b < B → w1.cell? ⟨b, o, none⟩ = W0.cell? ⟨b, o, none⟩) ∧ Below B W0 w1 := ⟨fun b o hb => h.cell (p := ⟨b, o, none⟩) hb, h⟩
theorem shB_alloc {B : Nat} {W0 w1 : World} (h : Below B W0 w1) (hB : B ≤ W0.heap.size) (o : Obj) : (∀ b i, b < B → (w1.alloc o).cell? ⟨b, i, none⟩ = W0.cell? ⟨b, i, none⟩) ∧ Below B W0 (w1.alloc o) := shB_of (h.alloc (Nat.le_trans hB h.size) o)
theorem shB_first {B : Nat} (W0 : World) (hB : B ≤ W0.heap.size) (o : Obj) : (∀ b i, b < B → (W0.alloc o).drew.cell? ⟨b, i, none⟩ = W0.cell? ⟨b, i, none⟩) ∧ Below B W0 (W0.alloc o).drew := shB_of (((Below.refl B W0).alloc hB o).drew)
/-- What an append leaves: below the first block of the call's own nothing has turned. -/
theorem app_below {B e sz n : Nat} {a w w1 : World} {v : Value} {xs : List Value} (h : Below B a w) (hB : B ≤ w.heap.size) (hown : w.ownsRow B e sz v n xs) (hg : w.grownBy w1 v.ownBlock) : Below B a w1 :=
  h.grown hg hB (fun k hk => (hown.lt k hk).1)
theorem own_below {B e sz n : Nat} {w w1 : World} {v : Value} {xs : List Value} (h : w.ownsRow B e sz v n xs) (hb : Below w.heap.size w w1) : w1.ownsRow B e sz v n xs := by
  have hlt := h.lt
  obtain ⟨h1, h2⟩ := h
  refine ⟨h1, ?_⟩
  rcases h2 with h2 | ⟨g, cap, cur, hv, hg, hh, r⟩
  · exact .inl h2
  · exact .inr ⟨g, cap, cur, hv, hg, by rw [hb.block g (hlt g (by rw [hv]; rfl)).2]; exact hh, r⟩
end Go.Proofs.Ythelogdgfhfdcaa
