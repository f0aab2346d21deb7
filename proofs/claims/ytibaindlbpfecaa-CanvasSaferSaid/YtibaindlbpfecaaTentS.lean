import Derived.Test.YtibaindlbpfecaaTentO
import Derived.Test.YtibaindlbpfecaaProvA

/- A tent in blocks of its own, and stores into it. -/
namespace Go.Proofs.Ytibaindlbpfecaa
open Go.RowKit
structure OT (w : World) (B g : Nat) (t : List Head) (cs : List (Option Addr × Nat)) : Prop where
  blk : ∃ us, Blk w g 43 us
  low : B ≤ g
  len : cs.length = t.length
  head : ∀ (k : Nat) (x : Head) (a : Option Addr × Nat), t[k]? = some x → cs[k]? = some a → w.cell? ⟨g, k * 3, none⟩ = some (.int .i64 x.area) ∧ w.cell? ⟨g, k * 3 + 1, none⟩ = some (.int .i64 x.bears) ∧ w.cell? ⟨g, k * 3 + 2, none⟩ = some (.slice a.1 x.guys.length a.2) ∧ x.guys.length ≤ a.2 ∧ a.2 ≤ maxLen ∧ RS encG 5 w w.heap.size a.1 x.guys
  rows : ∀ (k : Nat) (x : Head) (a : Option Addr × Nat), t[k]? = some x → cs[k]? = some a → w.ownsRow B 45 5 (.slice a.1 x.guys.length a.2) x.guys.length (x.guys.flatMap encG) ∧ ∀ g', a.1 = some ⟨g', 0, none⟩ → g' ≠ g ∧ ∀ (j : Nat) (a' : Option Addr × Nat), j ≠ k → cs[j]? = some a' → ∀ ad : Addr, a'.1 = some ad → ad.block ≠ g'
theorem OT.at_ {w : World} {B g : Nat} {t : List Head} {cs : List (Option Addr × Nat)} (h : OT w B g t cs) {k : Nat} {x : Head} (hk : t[k]? = some x) : ∃ a, cs[k]? = some a := by
  obtain ⟨a, ha⟩ := getElem?_lt (l := cs) (k := k) (by rw [h.len]; exact lt_of_getElem? hk)
  exact ⟨a, ha⟩
theorem OT.rh {w : World} {B g : Nat} {t : List Head} {cs : List (Option Addr × Nat)} (h : OT w B g t cs) : RH w w.heap.size (some ⟨g, 0, none⟩) t := by
  obtain ⟨us, hb⟩ := h.blk
  refine .inr ⟨g, 0, rfl, hb.lt, fun k x hk => ?_⟩
  obtain ⟨a, ha⟩ := h.at_ hk
  obtain ⟨h1, h2, h3, h4, h5, h6⟩ := h.head k x a hk ha
  exact ⟨a.1, a.2, by simpa using h1, by simpa using h2, by simpa using h3, h4, h5, h6⟩
theorem OT.to {w w' : World} {B g : Nat} {t : List Head} {cs : List (Option Addr × Nat)} (h : OT w B g t cs) (hb : Below w.heap.size w w') : OT w' B g t cs := by
  obtain ⟨us, hk⟩ := h.blk
  refine ⟨⟨us, hk.below hb hk.lt⟩, h.low, h.len, fun k x a hx ha => ?_, fun k x a hx ha => ?_⟩
  · obtain ⟨h1, h2, h3, h4, h5, h6⟩ := h.head k x a hx ha
    exact ⟨cell_after hb h1, cell_after hb h2, cell_after hb h3, h4, h5, h6.to hb⟩
  · obtain ⟨h1, h2⟩ := h.rows k x a hx ha
    exact ⟨own_below h1 hb, h2⟩
theorem set_get {α : Type} {l : List α} {i k : Nat} {u y : α} (h : (l.set i u)[k]? = some y) : (k = i ∧ y = u ∧ i < l.length) ∨ (k ≠ i ∧ l[k]? = some y) := by
  by_cases hk : k = i
  · subst hk
    have hl : k < l.length := by
      have := lt_of_getElem? h
      simpa using this
    rw [List.getElem?_set_self hl] at h
    cases h
    exact .inl ⟨rfl, rfl, hl⟩
  · rw [List.getElem?_set_ne (Ne.symm hk)] at h
    exact .inr ⟨hk, h⟩
theorem OT.row {w : World} {B g : Nat} {t : List Head} {cs : List (Option Addr × Nat)} (h : OT w B g t cs) {i : Nat} {x : Head} {a : Option Addr × Nat} (hi : t[i]? = some x) (ha : cs[i]? = some a) (hne : x.guys ≠ []) : ∃ (g' : Nat) (us : Array Value), a.1 = some ⟨g', 0, none⟩ ∧ Blk w g' 45 us ∧ B ≤ g' ∧ g' ≠ g ∧ ∀ (j : Nat) (a' : Option Addr × Nat), j ≠ i → cs[j]? = some a' → ∀ ad : Addr, a'.1 = some ad → ad.block ≠ g' := by
  obtain ⟨h1, h2⟩ := h.rows i x a hi ha
  rcases own_blk h1 with h3 | ⟨g', us, e, hl, hk⟩
  · exact absurd (List.eq_nil_of_length_eq_zero h3) hne
  · exact ⟨g', us, e, hk, hl, (h2 g' e).1, (h2 g' e).2⟩
theorem rows_at {w : World} {B : Nat} {n c : Nat} {A : Option Addr} {e sz : Nat} {xs : List Value} (h : w.ownsRow B e sz (.slice A n c) n xs) {ad : Addr} (ha : A = some ad) : A = some ⟨ad.block, 0, none⟩ := by
  rcases h.2 with ⟨h1, _⟩ | ⟨g, cap, cur, e1, _⟩
  · simp only [Value.slice.injEq] at h1
    rw [h1.1] at ha
    cases ha
  · simp only [Value.slice.injEq] at e1
    rw [e1.1] at ha
    cases ha
    exact e1.1
theorem OT.area_rh {w : World} {B g : Nat} {t : List Head} {cs : List (Option Addr × Nat)} (h : OT w B g t cs) {i : Nat} {x : Head} (hi : t[i]? = some x) (v : Int) : RH (w.setCell ⟨g, i * 3, none⟩ (.int .i64 v)) (w.setCell ⟨g, i * 3, none⟩ (.int .i64 v)).heap.size (some ⟨g, 0, none⟩) (t.set i { x with area := v }) := by
  obtain ⟨us, hk⟩ := h.blk
  have hS := hk.set_ (i * 3) (.int .i64 v)
  have hfar : ∀ (o : Nat) (u : Value), o ≠ i * 3 → w.cell? ⟨g, o, none⟩ = some u → (w.setCell ⟨g, i * 3, none⟩ (.int .i64 v)).cell? ⟨g, o, none⟩ = some u := by
    intro o u ho hu
    rw [hS.cell, Array.getElem?_setIfInBounds_ne (Ne.symm ho), ← hk.cell]
    exact hu
  refine .inr ⟨g, 0, rfl, hS.lt, fun k y hy => ?_⟩
  have hold : ∃ z, t[k]? = some z ∧ z.guys = y.guys ∧ z.bears = y.bears ∧ (k ≠ i → z.area = y.area) ∧ (k = i → y.area = v) := by
    rcases set_get hy with ⟨rfl, rfl, _⟩ | ⟨hne, hz⟩
    · exact ⟨x, hi, rfl, rfl, fun e => absurd rfl e, fun _ => rfl⟩
    · exact ⟨y, hz, rfl, rfl, fun _ => rfl, fun e => absurd e hne⟩
  obtain ⟨z, hz, e1, e2, e3, e4⟩ := hold
  obtain ⟨a, ha⟩ := h.at_ hz
  obtain ⟨h1, h2, h3, h4, h5, h6⟩ := h.head k z a hz ha
  rw [e1] at h3 h4 h6
  rw [e2] at h2
  refine ⟨a.1, a.2, ?_, by simpa using hfar _ _ (by omega) h2, by simpa using hfar _ _ (by omega) h3, h4, h5, ?_⟩
  · by_cases hki : k = i
    · subst hki
      rw [e4 rfl]
      have hc : k * 3 < us.size := by
        rw [hk.cell] at h1
        rcases Nat.lt_or_ge (k * 3) us.size with h7 | h7
        · exact h7
        · rw [Array.getElem?_eq_none h7] at h1
          cases h1
      have : (w.setCell ⟨g, k * 3, none⟩ (.int .i64 v)).cell? ⟨g, k * 3, none⟩ = some (.int .i64 v) := by
        rw [hS.cell]
        simp [hc]
      simpa using this
    · rw [← e3 hki]
      simpa using hfar _ _ (by omega) h1
  · refine (RS.set_far h6 (fun ad e _ => ?_) _).more (by simp)
    obtain ⟨o1, o2⟩ := h.rows k z a hz ha
    exact (o2 _ (rows_at o1 e)).1
theorem OT.of {w : World} {base n c : Nat} {A : Option Addr} {t : List Head} {cs : List (Option Addr × Nat)} (hown : w.ownsRow base 43 3 (.slice A n c) n (flat2 encH t cs)) (hn : n = t.length) (hne : t ≠ []) (hs : Subs encG 5 Head.guys w (Value.slice A n c).ownBlock t cs) (hr : OwnRows base w (Value.slice A n c).ownBlock t cs) : ∃ g, A = some ⟨g, 0, none⟩ ∧ OT w base g t cs := by
  have hpos : 0 < n := by rw [hn]; exact List.length_pos_iff.2 hne
  rcases own_blk hown with h0 | ⟨g, us, rfl, hb, hk⟩
  · omega
  · refine ⟨g, rfl, ⟨us, hk⟩, hb, hs.1, fun k x a hx ha => ?_, fun k x a hx ha => ?_⟩
    · obtain ⟨h1, h2, h3, _⟩ := hs.2 k x a hx ha
      have key : ∀ j v, (encH x a)[j]? = some v → w.cell? ⟨g, k * 3 + j, none⟩ = some v := by
        intro j v hj
        have := hown.cells (g := g) rfl (k * 3 + j) v (flat2_get (enc := encH) (fun _ _ => rfl) _ _ k x a hx ha j v hj)
        rw [Addr.add_lit] at this
        rw [← this]
        congr 2
        omega
      exact ⟨key 0 _ rfl, key 1 _ rfl, key 2 _ rfl, h1, h2, h3⟩
    · obtain ⟨h1, h2⟩ := hr.2 k x a hx ha
      refine ⟨h1, fun g' e => ⟨fun e' => (h2 g' e).1 (by rw [e']; rfl), fun j a' hj ha' ad e2 => ?_⟩⟩
      rcases Nat.lt_or_ge j k with hjk | hjk
      · exact Nat.ne_of_lt ((h2 g' e).2 j a' hjk ha' ad e2)
      · obtain ⟨x', hx'⟩ : ∃ x', t[j]? = some x' := getElem?_lt (by rw [← hs.1]; exact lt_of_getElem? ha')
        obtain ⟨h3, h4⟩ := hr.2 j x' a' hx' ha'
        exact Nat.ne_of_gt ((h4 _ (rows_at h3 e2)).2 k a (by omega) ha _ e)
theorem RS.put_depth {w : World} {g : Nat} {us : Array Value} {l : List Guy} (h : RS encG 5 w w.heap.size (some ⟨g, 0, none⟩) l) (hk : Blk w g 45 us) {j : Nat} {y : Guy} (hj : l[j]? = some y) (v : Int) :
    RS encG 5 (w.setCell ⟨g, j * 5 + 4, none⟩ (.int .i64 v)) (w.setCell ⟨g, j * 5 + 4, none⟩ (.int .i64 v)).heap.size (some ⟨g, 0, none⟩) (l.set j { y with depth := v }) := by
  have hS := hk.set_ (j * 5 + 4) (.int .i64 v)
  have hcell : ∀ (k : Nat) (z : Guy), l[k]? = some z → ∀ r u, (encG z)[r]? = some u → us[k * 5 + r]? = some u := by
    intro k z hz r u hu
    obtain ⟨b, off, e, _, hc⟩ := h.at_ hz
    cases e
    have := hc r u hu
    rw [← hk.cell]
    simpa using this
  refine .inr ⟨g, 0, rfl, by simpa using hk.lt, fun k z hz r u hu => ?_⟩
  rw [show (⟨g, 0 + k * 5 + r, none⟩ : Addr) = ⟨g, k * 5 + r, none⟩ by simp, hS.cell]
  rcases set_get hz with ⟨rfl, rfl, _⟩ | ⟨hne, hz⟩
  · have h4 := hcell k y hj 4 _ rfl
    have hlt : k * 5 + 4 < us.size := by
      rcases Nat.lt_or_ge (k * 5 + 4) us.size with h7 | h7
      · exact h7
      · rw [Array.getElem?_eq_none h7] at h4
        cases h4
    match r, hu with
    | 0, hu => rw [Array.getElem?_setIfInBounds_ne (by omega)]; exact hcell k y hj 0 u hu
    | 1, hu => rw [Array.getElem?_setIfInBounds_ne (by omega)]; exact hcell k y hj 1 u hu
    | 2, hu => rw [Array.getElem?_setIfInBounds_ne (by omega)]; exact hcell k y hj 2 u hu
    | 3, hu => rw [Array.getElem?_setIfInBounds_ne (by omega)]; exact hcell k y hj 3 u hu
    | 4, hu =>
      simp [encG] at hu
      subst hu
      simp [hlt]
    | r + 5, hu => simp [encG] at hu
  · have hr : r < 5 := by
      have := lt_of_getElem? hu
      simpa [encG] using this
    rw [Array.getElem?_setIfInBounds_ne (by omega)]
    exact hcell k z hz r u hu
theorem OT.depth_rh {w : World} {B g : Nat} {t : List Head} {cs : List (Option Addr × Nat)} (h : OT w B g t cs) {i : Nat} {x : Head} {g' c : Nat} (hi : t[i]? = some x) (ha0 : cs[i]? = some (some ⟨g', 0, none⟩, c)) {j : Nat} {y : Guy} (hj : x.guys[j]? = some y) (v : Int) :
    RH (w.setCell ⟨g', j * 5 + 4, none⟩ (.int .i64 v)) (w.setCell ⟨g', j * 5 + 4, none⟩ (.int .i64 v)).heap.size (some ⟨g, 0, none⟩) (t.set i { x with guys := x.guys.set j { y with depth := v } }) := by
  have hne0 : x.guys ≠ [] := fun e => by rw [e] at hj; simp at hj
  obtain ⟨g2, us, e0, hkr, _, hgg, hoth⟩ := h.row hi ha0 hne0
  cases e0
  obtain ⟨hs, hk⟩ := h.blk
  have hkS := hk.far (p := ⟨g', j * 5 + 4, none⟩) (Ne.symm hgg) (.int .i64 v)
  have hfar : ∀ (o : Nat) (u : Value), w.cell? ⟨g, o, none⟩ = some u → (w.setCell ⟨g', j * 5 + 4, none⟩ (.int .i64 v)).cell? ⟨g, o, none⟩ = some u := by
    intro o u hu
    rw [hkS.cell, ← hk.cell]
    exact hu
  refine .inr ⟨g, 0, rfl, hkS.lt, fun k z hz => ?_⟩
  rcases set_get hz with ⟨rfl, rfl, _⟩ | ⟨hki, hz⟩
  · obtain ⟨h1, h2, h3, h4, h5, h6⟩ := h.head k x _ hi ha0
    refine ⟨some ⟨g', 0, none⟩, c, by simpa using hfar _ _ h1, by simpa using hfar _ _ h2, ?_, by simpa using h4, h5, RS.put_depth h6 hkr hj v⟩
    have := hfar _ _ h3
    simpa using this
  · obtain ⟨a, ha⟩ := h.at_ hz
    obtain ⟨h1, h2, h3, h4, h5, h6⟩ := h.head k z a hz ha
    exact ⟨a.1, a.2, by simpa using hfar _ _ h1, by simpa using hfar _ _ h2, by simpa using hfar _ _ h3, h4, h5, (RS.set_far h6 (fun ad e _ => hoth k a hki ha ad e) _).more (by simp)⟩
theorem OT.more_rh {w w3 : World} {B g : Nat} {t : List Head} {cs : List (Option Addr × Nat)} (h : OT w B g t cs) {i : Nat} {x : Head} {A : Option Addr} {c : Nat} (hi : t[i]? = some x) (ha0 : cs[i]? = some (A, c)) {y : Guy} {A4 : Option Addr} {c4 : Nat}
    (hrow : w3.ownsRow B 45 5 (.slice A4 (x.guys.length + 1) c4) (x.guys.length + 1) ((x.guys ++ [y]).flatMap encG)) (hg : w.grownBy w3 (Value.slice A x.guys.length c).ownBlock) (hfr : A4 = A ∨ ∀ ad : Addr, A4 = some ad → w.heap.size ≤ ad.block) :
    RH (w3.setCell ⟨g, i * 3 + 2, none⟩ (.slice A4 (x.guys.length + 1) c4)) (w3.setCell ⟨g, i * 3 + 2, none⟩ (.slice A4 (x.guys.length + 1) c4)).heap.size (some ⟨g, 0, none⟩) (t.set i { x with guys := x.guys ++ [y] }) := by
  obtain ⟨o1, o2⟩ := h.rows i x _ hi ha0
  obtain ⟨us, hk⟩ := h.blk
  have hog : some g ≠ (Value.slice A x.guys.length c).ownBlock := by
    intro e
    cases hA : A with
    | none => rw [hA] at e; cases e
    | some ad =>
      rw [hA] at e
      have := rows_at o1 hA
      have h2 := (o2 _ this).1
      have := Option.some.inj e
      exact h2 this.symm
  have hk3 := hk.grown hg hog
  have hS := hk3.set_ (i * 3 + 2) (.slice A4 (x.guys.length + 1) c4)
  have hfar : ∀ (o : Nat) (u : Value), o ≠ i * 3 + 2 → w.cell? ⟨g, o, none⟩ = some u → (w3.setCell ⟨g, i * 3 + 2, none⟩ (.slice A4 (x.guys.length + 1) c4)).cell? ⟨g, o, none⟩ = some u := by
    intro o u ho hu
    rw [hS.cell, Array.getElem?_setIfInBounds_ne (Ne.symm ho), ← hk.cell]
    exact hu
  refine .inr ⟨g, 0, rfl, hS.lt, fun k z hz => ?_⟩
  rcases set_get hz with ⟨rfl, rfl, _⟩ | ⟨hki, hz⟩
  · obtain ⟨h1, h2, h3, h4, h5, h6⟩ := h.head k x _ hi ha0
    obtain ⟨A5, c5, e5, hc5, hc6⟩ := own_slice hrow
    cases e5
    refine ⟨A4, c4, by simpa using hfar _ _ (by omega) h1, by simpa using hfar _ _ (by omega) h2, ?_, by simpa using hc5, hc6, ?_⟩
    · have hc : k * 3 + 2 < us.size := by
        rw [hk.cell] at h3
        rcases Nat.lt_or_ge (k * 3 + 2) us.size with h7 | h7
        · exact h7
        · rw [Array.getElem?_eq_none h7] at h3
          cases h3
      have : (w3.setCell ⟨g, k * 3 + 2, none⟩ (.slice A4 (x.guys.length + 1) c4)).cell? ⟨g, k * 3 + 2, none⟩ = some (.slice A4 (x.guys.length + 1) c4) := by
        rw [hS.cell]
        simp [hc]
      simpa using this
    · refine (RS.set_far (RS.of_own (enc := encG) (sz := 5) (fun _ => rfl) hrow (by simp)) (fun ad e _ => ?_) _).more (by simp)
      rcases hfr with h7 | h7
      · rw [h7] at e
        exact (o2 _ (rows_at o1 e)).1
      · have := h7 ad e
        have := hk.lt
        show ad.block ≠ g
        omega
  · obtain ⟨a, ha⟩ := h.at_ hz
    obtain ⟨h1, h2, h3, h4, h5, h6⟩ := h.head k z a hz ha
    obtain ⟨p1, p2⟩ := h.rows k z a hz ha
    refine ⟨a.1, a.2, by simpa using hfar _ _ (by omega) h1, by simpa using hfar _ _ (by omega) h2, by simpa using hfar _ _ (by omega) h3, h4, h5, ?_⟩
    refine (RS.set_far (RS.more (RS.grown h6 hg (Nat.le_refl _) ?_) hg.size) (fun ad e _ => (p2 _ (rows_at p1 e)).1) _).more (by simp)
    intro ad e he
    cases hA : A with
    | none => rw [hA] at he; cases he
    | some ad0 =>
      rw [hA] at he
      exact (o2 _ (rows_at o1 hA)).2 k a hki ha ad e (Option.some.inj he)
end Go.Proofs.Ytibaindlbpfecaa
