import Derived.Test.YtibaindlbpfecaaClone

namespace Go.Proofs.Ytibaindlbpfecaa
open Go.RowKit

def zeroG : List Value := [.int .i64 0, .int .i64 0, .int .i64 0, .int .i64 0, .int .i64 0]
theorem setCells_blk {w : World} {g : Nat} {t : TypeId} : ∀ (vs : List Value) (o : Nat) (cs : Array Value), Blk w g t cs → ∃ cs', Blk (w.setCells g o vs) g t cs' ∧ cs'.size = cs.size := by
  intro vs
  induction vs generalizing w with
  | nil => intro o cs h; exact ⟨cs, h, rfl⟩
  | cons v vs ih =>
    intro o cs h
    obtain ⟨cs', h1, h2⟩ := ih (o + 1) _ (h.set_ o v)
    exact ⟨cs', h1, by rw [h2]; simp⟩
theorem setCells_below {w a : World} {g B : Nat} : ∀ (vs : List Value) (o : Nat), B ≤ g → Below B a w → Below B a (w.setCells g o vs) := by
  intro vs
  induction vs generalizing w with
  | nil => intro o _ h; exact h
  | cons v vs ih => intro o hB h; exact ih (o + 1) hB (h.setCell (p := ⟨g, o, none⟩) hB v)
theorem flat_at (gs : List Guy) {i : Nat} {x : Guy} (hx : gs[i]? = some x) {j : Nat} {v : Value} (hv : (encG x)[j]? = some v) : (gs.flatMap encG)[i * 5 + j]? = some v := flat_get (enc := encG) (sz := 5) (fun _ => rfl) gs i x hx j v hv

def DeletePost (gs1 gs2 : List Guy) (g cap : Nat) (w : World) (e : Ending) (w' : World) : Prop :=
  e = .returned (.slice (some ⟨g, 0, none⟩) (gs1.length + gs2.length) cap) ∧ RS encG 5 w' w'.heap.size (some ⟨g, 0, none⟩) (gs1 ++ gs2) ∧ Below g w w'
set_option maxRecDepth 100000 in
set_option maxHeartbeats 1000000 in
theorem delete_any (gs1 gs2 : List Guy) (x : Guy) (g cap : Nat) (cur : Array Value) (w : World) (hk : Blk w g 45 cur) (hsz : cur.size = cap * 5) (hcap : gs1.length + 1 + gs2.length ≤ cap) (hcm : cap ≤ maxLen) (hcur : cur.toList.take ((gs1.length + 1 + gs2.length) * 5) = (gs1 ++ x :: gs2).flatMap encG) :
    Calls Try.prog 111 #[.slice (some ⟨g, 0, none⟩) (gs1.length + 1 + gs2.length) cap, .int .i64 gs1.length, .int .i64 ((gs1.length : Int) + 1)] w (DeletePost gs1 gs2 g cap w) := by
  obtain ⟨i0, hi0, hz0, hz1, hz2⟩ := info_parts infoCG
  obtain ⟨p, hp⟩ : ∃ p, gs1.length = p := ⟨_, rfl⟩
  obtain ⟨m, hm⟩ : ∃ m, gs2.length = m := ⟨_, rfl⟩
  rw [hp, hm] at hcap hcur ⊢
  unfold maxLen at hcm
  have hget : ∀ j u, ((gs1 ++ x :: gs2).flatMap encG)[j]? = some u → w.cell? ⟨g, j, none⟩ = some u := by
    intro j u hj
    rw [← hcur] at hj
    have hlt := lt_of_getElem? hj
    rw [List.length_take] at hlt
    rw [List.getElem?_take_of_lt (by omega)] at hj
    rw [hk.cell]; simpa using hj
  obtain ⟨A, hA, hsrc⟩ : ∃ A : Addr, (if cap = p + 1 then some (⟨g, 0, none⟩ : Addr) else some ⟨g, (p + 1) * 5, none⟩) = some A ∧ Hid (∀ t u, (gs2.flatMap encG)[t]? = some u → w.drew.cell? (A.add t) = some u) := by
    by_cases h : cap = p + 1
    · refine ⟨⟨g, 0, none⟩, by simp [h], fun t u hu => ?_⟩
      have : gs2 = [] := List.eq_nil_of_length_eq_zero (by omega)
      rw [this] at hu
      simp at hu
    · refine ⟨⟨g, (p + 1) * 5, none⟩, by simp [h], fun t u hu => ?_⟩
      rw [Addr.add_lit]
      refine hget _ u ?_
      rw [List.flatMap_append, List.flatMap_cons, List.getElem?_append_right (by rw [guys_len, hp]; omega), guys_len, hp, show (p + 1) * 5 + t - p * 5 = 5 + t from by omega, List.getElem?_append_right (by simp [encG]), show 5 + t - (encG x).length = t from by simp [encG]]
      exact hu
  have s1 : Hid ((gs2.flatMap encG).length = m * 5) := by show _ = _; rw [guys_len, hm]
  have s3 : Hid (∀ t, t < (gs2.flatMap encG).length → (w.drew.cell? ⟨g, 0 + p * 5 + t, none⟩).isSome = true ∧ w.drew.frozen? ⟨g, 0 + p * 5 + t, none⟩ = false) := by
    intro t ht
    rw [s1.out] at ht
    refine ⟨?_, hk.drew.frozen _⟩
    rw [hk.drew.cell, Array.getElem?_eq_getElem (by omega)]; rfl
  obtain ⟨W1, hW1⟩ : ∃ W1, W1 = w.drew.setCells g (0 + p * 5) (gs2.flatMap encG) := ⟨_, rfl⟩
  obtain ⟨cs1, hk1, hs1⟩ : ∃ cs1, Blk W1 g 45 cs1 ∧ cs1.size = cap * 5 := by
    rw [hW1]
    obtain ⟨cs', h1, h2⟩ := setCells_blk (gs2.flatMap encG) (0 + p * 5) cur hk.drew
    exact ⟨cs', h1, by rw [h2, hsz]⟩
  have hcl : ∀ ty c', (Builtin.clear_ #[41] ty #[.slice (some ⟨g, (p + m) * 5, none⟩) 1 c']).run Try.prog W1 = .ok (.tuple #[]) (W1.setCells g ((p + m) * 5) zeroG) := by
    intro ty c'
    have hst := run_storeCells_cells (P := Try.prog) g ((p + m) * 5) zeroG 0 W1 (fun j hj => by rw [hk1.cell, Array.getElem?_eq_getElem (by simp [zeroG] at hj; omega)]; rfl) (fun j _ => hk1.frozen _) (by intro v hv; simp [zeroG] at hv; subst hv; rfl)
    simp only [Nat.add_zero] at hst
    have hzv : ∀ w, (zeroValue 45).run Try.prog w = .ok (.agg #[.int .i64 0, .int .i64 0, .int .i64 0, .int .i64 0, .int .i64 0]) w := fun w => by kernel_rfl
    have hzc : (Builtin.zeroCells (Value.agg #[.int .i64 0, .int .i64 0, .int .i64 0, .int .i64 0, .int .i64 0]).cells 1).toList = zeroG := by kernel_rfl
    simp [Builtin.clear_, run_underlying Try.underlying41, hzv, hzc, hst]
  have hcl' : ∀ ty c', (Builtin.clear_ #[41] ty #[.slice (some ⟨g, (p + m) * 5, none⟩) (p + 1 + m - (p + m)) c']).run Try.prog W1 = .ok (.tuple #[]) (W1.setCells g ((p + m) * 5) zeroG) := by
    intro ty c'
    rw [show p + 1 + m - (p + m) = 1 from by omega]
    exact hcl ty c'
  clear hcl
  have X : Hid (W1 = w.drew.setCells g (0 + p * 5) (gs2.flatMap encG)) := hW1
  have hfin : DeletePost gs1 gs2 g cap w (.returned (.slice (some ⟨g, 0, none⟩) (p + m) cap)) (W1.setCells g ((p + m) * 5) zeroG) := by
    subst hp hm
    refine ⟨rfl, ?_, ?_⟩
    · obtain ⟨cs2, hk2, _⟩ := setCells_blk zeroG ((gs1.length + gs2.length) * 5) cs1 hk1
      refine .inr ⟨g, 0, rfl, hk2.lt, fun i y hy j v hv => ?_⟩
      have hj : j < 5 := lt_of_getElem? hv
      have hil := lt_of_getElem? hy
      rw [List.length_append] at hil
      rw [World.cell?_setCells_out g zeroG _ W1 _ (fun _ _ => .inl (by show 0 + i * 5 + j < _; omega)), hW1]
      by_cases hi : i < gs1.length
      · rw [World.cell?_setCells_out g _ _ _ _ (fun _ _ => .inl (by show 0 + i * 5 + j < _; omega))]
        show w.cell? _ = _
        rw [Nat.zero_add]
        refine hget _ v (flat_at _ ?_ hv)
        rw [List.getElem?_append_left hi] at hy ⊢
        exact hy
      · rw [List.getElem?_append_right (by omega)] at hy
        have hf := flat_at gs2 hy hv
        have hlt := lt_of_getElem? hf
        have h1 := World.cell?_setCells_in g (gs2.flatMap encG) (0 + gs1.length * 5) w.drew (fun t ht => (s3.out t ht).1) ((i - gs1.length) * 5 + j) hlt
        rw [show 0 + gs1.length * 5 + ((i - gs1.length) * 5 + j) = 0 + i * 5 + j from by omega] at h1
        rw [h1, ← hf, List.getElem?_eq_getElem hlt]
    · exact setCells_below _ _ (Nat.le_refl _) (by rw [hW1]; exact setCells_below _ _ (Nat.le_refl _) (Below.refl _ _).drew)
  have Hfin := Lib.hid hfin
  have i1 : (p : Int) ≤ (p : Int) + 1 := by omega
  have i2 : (p : Int) + 1 ≤ (cap : Int) := by omega
  have i3 : (0 : Int) ≤ (p : Int) := by omega
  have i4 : (p : Int) ≤ (cap : Int) := by omega
  have i5 : (p : Int) + 1 ≤ ((p + 1 + m : Nat) : Int) := by omega
  have i6 : ((p + 1 + m : Nat) : Int) ≤ (cap : Int) := by omega
  have i7 : (p : Int) + 1 ≤ (p : Int) + 1 + (m : Int) := by omega
  have i8 : (p : Int) + 1 + (m : Int) ≤ (cap : Int) := by omega
  have i9 : (0 : Int) ≤ (p : Int) + 1 := by omega
  have e1 : ((p : Int) == (p : Int) + 1) = false := by simp <;> omega
  clear hW1 hget hcur hk hk1 hfin hs1 hsz hp hm
  go_enter Try.func111, Try.ntmps111
  go_wp2_with fail
  go_region_law (refine step_append_room rfl (.tmp 22) (.tmp 25) 41 rfl 45 i0 5 Try.underlying41 hi0 hz1 g 0 p cap (by simp [Act.eval, Act.put]) A m (cap - (p + 1)) (gs2.flatMap encG) (by simp [Act.eval, Act.put]) s1.out hsrc.out (guys_one gs2) (by omega) s3.out ?_; rw [← X.out])
  go_wp2
  go_ret
  exact Hfin.out
end Go.Proofs.Ytibaindlbpfecaa
