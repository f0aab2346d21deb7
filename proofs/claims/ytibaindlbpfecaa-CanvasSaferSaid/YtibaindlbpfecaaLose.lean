import Derived.Test.YtibaindlbpfecaaSpares
import Derived.Test.YtibaindlbpfecaaFrame

namespace Go.Proofs.Ytibaindlbpfecaa
open Go.RowKit

theorem Spares_none (A : Option Addr) (c : Nat) (l : List Tst) (A' : Option Addr) (c' : Nat) (t : List Head) (A2 : Option Addr) (c2 : Nat) (wind : List Vec) (w : World) (hr : RS encT 4 w w.heap.size A l) (hl : l.length ≤ maxLen) (ht : RH w w.heap.size A' t) (htl : t.length ≤ maxLen) (hw : RS encV 2 w w.heap.size A2 wind) (hwl : wind.length ≤ maxLen) (hE : windyE l t wind = 0) (hs : standsB l t wind = false) :
    Calls Try.prog 41 #[.slice A l.length c, .slice A' t.length c', .slice A2 wind.length c2] w fun e w' => e = .returned (.tuple #[.slice none 0 0, .int .i64 7]) ∧ Below w.heap.size w w' := by
  obtain ⟨k, ho⟩ : ∃ k, wkO l t wind = some k := by
    cases ho : wkO l t wind with
    | none => rw [stands_none.2 ho] at hs; cases hs
    | some k => exact ⟨k, rfl⟩
  have HW := Lib.hid (fun W hr ht hw => (show wkI l t wind = k from by unfold wkI; rw [ho]) ▸ Weakest_ok A c l A' c' t A2 c2 wind W hr hl ht htl hw hwl hE)
  obtain ⟨zk, hzk⟩ : ∃ x, wkK l t wind = x := ⟨_, rfl⟩
  obtain ⟨u, hu⟩ : ∃ x, wkW l t wind = x := ⟨_, rfl⟩
  rw [hzk, hu] at HW
  have h0 : (0 : Int) ≤ (k : Int) := by omega
  clear hE hs ho hzk hu
  go_enter Try.func41, Try.ntmps41
  go_wp2_with (go_at_call 42; refine (HW.out _ hr ht hw).mono ?_; rintro e w1 ⟨rfl, hb1⟩)
  go_ret2
  exact ⟨rfl, hb1.alloc hb1.size _⟩

theorem flat2_cells {P : Nat → Value → Prop} : ∀ (t : List Head) (cs : List (Option Addr × Nat)) (off : Nat), (∀ k x a, t[k]? = some x → cs[k]? = some a → ∀ r v, (encH x a)[r]? = some v → P (off + k * 3 + r) v) → ∀ j u, (flat2 encH t cs)[j]? = some u → P (off + j) u := by
  intro t
  induction t with
  | nil => intro cs off _ j u h; simp [flat2] at h
  | cons x t ih =>
    intro cs off hc j u h
    cases cs with
    | nil => simp [flat2] at h
    | cons a cs =>
      have hf : flat2 encH (x :: t) (a :: cs) = encH x a ++ flat2 encH t cs := by simp [flat2]
      rw [hf] at h
      have h3 : (encH x a).length = 3 := rfl
      by_cases hj : j < 3
      · rw [List.getElem?_append_left (by rw [h3]; exact hj)] at h
        have := hc 0 x a rfl rfl j u h
        simpa using this
      · rw [List.getElem?_append_right (by rw [h3]; omega), h3] at h
        have := ih cs (off + 3) (fun k y b hk hb r v hv => by
          have := hc (k + 1) y b (by simpa using hk) (by simpa using hb) r v hv
          rw [show off + 3 + k * 3 + r = off + (k + 1) * 3 + r from by omega]; exact this) (j - 3) u h
        rw [show off + 3 + (j - 3) = off + j from by omega] at this
        exact this
theorem flat2_len : ∀ (t : List Head) (cs : List (Option Addr × Nat)), cs.length = t.length → (flat2 encH t cs).length = t.length * 3 := by
  intro t
  induction t with
  | nil => intro cs _; simp [flat2]
  | cons x t ih =>
    intro cs h
    cases cs with
    | nil => simp at h
    | cons a cs =>
      have hf : flat2 encH (x :: t) (a :: cs) = encH x a ++ flat2 encH t cs := by simp [flat2]
      rw [hf, List.length_append, ih cs (by simpa using h)]
      simp [encH]; omega
theorem flat2_one : ∀ (t : List Head) (cs : List (Option Addr × Nat)), ∀ u ∈ flat2 encH t cs, u.oneCell' = true := by
  intro t
  induction t with
  | nil => intro cs u h; simp [flat2] at h
  | cons x t ih =>
    intro cs u h
    cases cs with
    | nil => simp [flat2] at h
    | cons a cs =>
      have hf : flat2 encH (x :: t) (a :: cs) = encH x a ++ flat2 encH t cs := by simp [flat2]
      rw [hf, List.mem_append] at h
      rcases h with h | h
      · simp [encH] at h
        rcases h with rfl | rfl | rfl <;> rfl
      · exact ih cs u h
/-- The cells of a tent, with where the guys of each head lie. -/
theorem RH.cells_of {w : World} {B b off : Nat} {t : List Head} (h : RH w B (some ⟨b, off, none⟩) t) : ∃ cs : List (Option Addr × Nat), cs.length = t.length ∧
    (∀ (j : Nat) (u : Value), (flat2 encH t cs)[j]? = some u → w.cell? ⟨b, off + j, none⟩ = some u) ∧ ∀ (k : Nat) (x : Head) (a : Option Addr × Nat), t[k]? = some x → cs[k]? = some a → x.guys.length ≤ a.2 ∧ a.2 ≤ maxLen ∧ RS encG 5 w B a.1 x.guys := by
  obtain ⟨cs, hl, hq⟩ := list_of (n := t.length) (Q := fun i (a : Option Addr × Nat) => ∀ x, t[i]? = some x → (∀ r v, (encH x a)[r]? = some v → w.cell? ⟨b, off + i * 3 + r, none⟩ = some v) ∧ x.guys.length ≤ a.2 ∧ a.2 ≤ maxLen ∧ RS encG 5 w B a.1 x.guys) (fun i hi => by
    obtain ⟨x, hx⟩ := getElem?_lt hi
    obtain ⟨b', off', A', c', hA, hb, x0, x1, x2, g1, g2, g3⟩ := h.at_ hx
    obtain ⟨rfl, rfl⟩ : b = b' ∧ off = off' := by simpa using hA
    refine ⟨(A', c'), fun y hy => ?_⟩
    rw [hx] at hy
    cases hy
    refine ⟨fun r v hv => ?_, g1, g2, g3⟩
    match r, hv with
    | 0, hv => simp [encH] at hv; subst hv; exact x0
    | 1, hv => simp [encH] at hv; subst hv; exact x1
    | 2, hv => simp [encH] at hv; subst hv; exact x2
    | r + 3, hv => simp [encH] at hv)
  refine ⟨cs, hl, ?_, fun k x a hk ha => (hq k a ha x hk).2⟩
  have := flat2_cells (P := fun j u => w.cell? ⟨b, j, none⟩ = some u) t cs off (fun k x a hk ha r v hv => (hq k a ha x hk).1 r v hv)
  exact this
theorem infoRH : (Try.prog.info? 64).map (fun i => (i.zero, i.size, i.bytes)) = some (some (.agg #[.int .i64 0, .int .i64 0, .slice none 0 0]), 3, 40) := by kernel_rfl
theorem infoRG : (Try.prog.info? 28).map (fun i => (i.zero, i.size, i.bytes)) = some (some (.agg #[.int .i64 0, .int .i64 0, .int .i64 0, .int .i64 0, .int .i64 0]), 5, 40) := by kernel_rfl

theorem empty_own {w : World} {e : TypeId} {base g : Nat} (sz : Nat) (h : Blk w g e #[]) (hb : base ≤ g) : w.ownsRow base e sz (.slice (some ⟨g, 0, none⟩) 0 0) 0 [] :=
  ⟨by simp, .inr ⟨g, 0, #[], rfl, hb, h, Nat.le_refl _, Nat.zero_le _, by simp, by simp⟩⟩
theorem RS.dropN {α : Type} {enc : α → List Value} {sz B b off : Nat} {w : World} {l : List α} (h : RS enc sz w B (some ⟨b, off, none⟩) l) (n : Nat) : RS enc sz w B (some ⟨b, off + n * sz, none⟩) (l.drop n) := by
  rcases h with rfl | ⟨b', off', hA, hb, hc⟩
  · exact .inl (by simp)
  · cases hA
    refine .inr ⟨b, off + n * sz, rfl, hb, fun k x hk j v hv => ?_⟩
    rw [List.getElem?_drop] at hk
    have := hc (n + k) x hk j v hv
    rw [Nat.add_mul, ← Nat.add_assoc] at this
    exact this
def WoPost (t : List Head) (w : World) (e : Ending) (w' : World) : Prop := ∃ A c, e = .returned (.slice A t.length c) ∧ RH w' w'.heap.size A t ∧ t.length ≤ c ∧ c ≤ maxLen ∧ Below w.heap.size w w'
theorem lose_fin {w W3 : World} {g1 X i k : Nat} {cur1 : Array Value} {t : List Head} {cs : List (Option Addr × Nat)} {h : Head} {A10 : Option Addr} {c10 nn : Nat} (hX : X ≠ g1) (kG3 : Blk W3 g1 64 cur1) (hgw : w.heap.size ≤ g1) (hXw : w.heap.size ≤ X)
    (hcur : ∀ (j : Nat) (u : Value), (flat2 encH t cs)[j]? = some u → cur1[j]? = some u) (hcl : cs.length = t.length) (hsub : ∀ (k : Nat) (x : Head) (a : Option Addr × Nat), t[k]? = some x → cs[k]? = some a → x.guys.length ≤ a.2 ∧ a.2 ≤ maxLen ∧ RS encG 5 w w.heap.size a.1 x.guys)
    (hsz : i * 3 + 2 < cur1.size) (hB : Below w.heap.size w W3) (hrs : RS encG 5 W3 W3.heap.size A10 (h.lose k).guys) (hA : ∀ ad, A10 = some ad → ad.block ≠ g1 ∧ ad.block ≠ X) (hc : nn ≤ c10) (hcm : c10 ≤ maxLen) (hn : nn = (h.lose k).guys.length) :
    RH ((((W3.setCell ⟨X, 2, none⟩ (.slice A10 nn c10)).setCell ⟨g1, i * 3, none⟩ (.int .i64 h.area)).setCell ⟨g1, i * 3 + 1, none⟩ (.int .i64 h.bears)).setCell ⟨g1, i * 3 + 2, none⟩ (.slice A10 nn c10)) ((((W3.setCell ⟨X, 2, none⟩ (.slice A10 nn c10)).setCell ⟨g1, i * 3, none⟩ (.int .i64 h.area)).setCell ⟨g1, i * 3 + 1, none⟩ (.int .i64 h.bears)).setCell ⟨g1, i * 3 + 2, none⟩ (.slice A10 nn c10)).heap.size (some ⟨g1, 0, none⟩) (t.set i (h.lose k)) ∧ Below w.heap.size w ((((W3.setCell ⟨X, 2, none⟩ (.slice A10 nn c10)).setCell ⟨g1, i * 3, none⟩ (.int .i64 h.area)).setCell ⟨g1, i * 3 + 1, none⟩ (.int .i64 h.bears)).setCell ⟨g1, i * 3 + 2, none⟩ (.slice A10 nn c10)) := by
  have hBF : Below w.heap.size w ((((W3.setCell ⟨X, 2, none⟩ (.slice A10 nn c10)).setCell ⟨g1, i * 3, none⟩ (.int .i64 h.area)).setCell ⟨g1, i * 3 + 1, none⟩ (.int .i64 h.bears)).setCell ⟨g1, i * 3 + 2, none⟩ (.slice A10 nn c10)) := (((hB.setCell (p := ⟨X, 2, none⟩) hXw _).setCell (p := ⟨g1, i * 3, none⟩) hgw _).setCell (p := ⟨g1, i * 3 + 1, none⟩) hgw _).setCell (p := ⟨g1, i * 3 + 2, none⟩) hgw _
  have kF := (((kG3.far (p := ⟨X, 2, none⟩) (Ne.symm hX) (.slice A10 nn c10)).set_ (i * 3) (.int .i64 h.area)).set_ (i * 3 + 1) (.int .i64 h.bears)).set_ (i * 3 + 2) (.slice A10 nn c10)
  refine ⟨.inr ⟨g1, 0, rfl, kF.lt, fun j x hx => ?_⟩, hBF⟩
  rw [List.getElem?_set] at hx
  by_cases hj : i = j
  · subst hj
    rw [if_pos rfl] at hx
    split at hx
    · cases hx
      refine ⟨A10, c10, ?_, ?_, ?_, by rw [← hn]; exact hc, hcm, ?_⟩
      · rw [kF.cell, Nat.zero_add, Array.getElem?_setIfInBounds_ne (by omega), Array.getElem?_setIfInBounds_ne (by omega), Array.getElem?_setIfInBounds_self_of_lt (by omega)]; rfl
      · rw [kF.cell, Nat.zero_add, Array.getElem?_setIfInBounds_ne (by omega), Array.getElem?_setIfInBounds_self_of_lt (by rw [Array.size_setIfInBounds]; omega)]; rfl
      · rw [kF.cell, Nat.zero_add, Array.getElem?_setIfInBounds_self_of_lt (by rw [Array.size_setIfInBounds, Array.size_setIfInBounds]; omega), hn]
      · exact RS.more (RS.far (RS.far (RS.far (RS.far hrs (p := ⟨X, 2, none⟩) (fun ad e => (hA ad e).2) _) (p := ⟨g1, i * 3, none⟩) (fun ad e => (hA ad e).1) _) (p := ⟨g1, i * 3 + 1, none⟩) (fun ad e => (hA ad e).1) _) (p := ⟨g1, i * 3 + 2, none⟩) (fun ad e => (hA ad e).1) _) (by simp)
    · cases hx
  · rw [if_neg hj] at hx
    obtain ⟨a, ha⟩ := getElem?_lt (l := cs) (k := j) (by rw [hcl]; exact lt_of_getElem? hx)
    obtain ⟨g2, g3, g4⟩ := hsub j x a hx ha
    have hq : ∀ r v, (encH x a)[r]? = some v → cur1[j * 3 + r]? = some v := fun r v hv => hcur _ _ (flat2_get (enc := encH) (sz := 3) (fun _ _ => rfl) t cs j x a hx ha r v hv)
    have z0 := hq 0 _ rfl
    have z1 := hq 1 _ rfl
    have z2 := hq 2 _ rfl
    have cell : ∀ r v, r < 3 → cur1[j * 3 + r]? = some v → ((((W3.setCell ⟨X, 2, none⟩ (.slice A10 nn c10)).setCell ⟨g1, i * 3, none⟩ (.int .i64 h.area)).setCell ⟨g1, i * 3 + 1, none⟩ (.int .i64 h.bears)).setCell ⟨g1, i * 3 + 2, none⟩ (.slice A10 nn c10)).cell? ⟨g1, 0 + j * 3 + r, none⟩ = some v := by
      intro r v hr hv
      rw [kF.cell, Nat.zero_add]
      rw [Array.getElem?_setIfInBounds_ne (by omega), Array.getElem?_setIfInBounds_ne (by omega), Array.getElem?_setIfInBounds_ne (by omega)]
      exact hv
    exact ⟨a.1, a.2, cell 0 _ (by omega) z0, cell 1 _ (by omega) z1, cell 2 _ (by omega) z2, g2, g3, g4.to hBF⟩
set_option maxRecDepth 100000 in
set_option maxHeartbeats 2000000 in
theorem refWithout_any (A : Option Addr) (c : Nat) (t : List Head) (i k : Nat) (h : Head) (hh : t[i]? = some h) (hk : k < h.guys.length) (hl : h.guys.length ≤ 8) (htl : t.length ≤ 100) (w : World) (ht : RH w w.heap.size A t) :
    Calls Try.prog 46 #[.slice A t.length c, .int .i64 i, .int .i64 k] w (WoPost (t.set i (h.lose k)) w) := by
  obtain ⟨i0, hi0, hz0, hz1, hz2⟩ := info_parts infoRH
  obtain ⟨j0, hj0, hy0, hy1, hy2⟩ := info_parts infoRG
  obtain ⟨b, off, A3, c3, rfl, hb, x0, x1, x2, hg1, hg2, hg⟩ := ht.at_ hh
  obtain ⟨cs, hcl, hcells, hsub⟩ := ht.cells_of
  obtain ⟨gg, hgg⟩ := getElem?_lt hk
  obtain ⟨b3, o3, rfl, hb3, _⟩ := hg.at_ hgg
  have hil := lt_of_getElem? hh
  have hB := (Below.refl w.heap.size w).alloc (Nat.le_refl _) (.cells #[] 64)
  have hown : (w.alloc (.cells #[] 64)).ownsRow w.heap.size 64 3 (.slice (some ⟨w.heap.size, 0, none⟩) 0 0) 0 [] := empty_own 3 (Blk.new w _ #[]) (Nat.le_refl _)
  have hnews : ∀ ad, (some (⟨b, off, none⟩ : Addr)) = some ad → ∀ j u, (flat2 encH t cs)[j]? = some u → (w.alloc (.cells #[] 64)).cell? (ad.add j) = some u := by
    intro ad e j u hj
    cases e
    rw [Addr.add_lit]
    exact (hB.cell (p := ⟨b, off + j, none⟩) (by show b < _; omega)).trans (hcells j u hj)
  have Hcells := Lib.hid hcells
  have Hsub := Lib.hid hsub
  have Hg := Lib.hid hg
  have Hh := Lib.hid hh
  unfold maxLen at hg2
  clear hcells hsub hg ht
  go_enter Try.func46, Try.ntmps46
  go_wp2_with (at_builtin; refine wpList_append_any rfl _ _ 24 rfl w.heap.size 64 i0 _ 3 40 Try.underlying24 hi0 hz0 hz1 hz2 rfl (by decide) (.slice (some ⟨w.heap.size, 0, none⟩) 0 0) 0 [] rfl hown (some ⟨b, off, none⟩) t.length c (flat2 encH t cs) rfl (flat2_len t cs hcl) (fun e => by cases e) hnews (flat2_one t cs) ?c3 ?c4 ?c5 ?_)
  case c3 => unfold maxLen; omega
  case c4 => omega
  case c5 => simp
  intro v1 w1 hown1 hgrow1
  have hB1 : Below w.heap.size w w1 := app_below hB (by simp) hown hgrow1
  try rw [Nat.zero_add, List.nil_append] at hown1
  obtain ⟨g1, cap1, cur1, rfl, hbg1, hk1, hn1, hm1, hs1, htk1⟩ := own_form hown1 (by omega)
  obtain ⟨a, ha⟩ := getElem?_lt (l := cs) (k := i) (by omega)
  have hq : ∀ r v, (encH h a)[r]? = some v → (flat2 encH t cs)[i * 3 + r]? = some v := fun r v hv => flat2_get (enc := encH) (sz := 3) (fun _ _ => rfl) t cs i h a Hh.out ha r v hv
  have ha2 : a = (some ⟨b3, o3, none⟩, c3) := by
    have e1 := Hcells.out _ _ (hq 2 _ rfl)
    rw [← Nat.add_assoc, x2] at e1
    obtain ⟨a1, a2⟩ := a
    simp at e1
    rw [e1.1, e1.2]
  subst ha2
  have hget : ∀ j u, (flat2 encH t cs)[j]? = some u → w1.cell? ⟨g1, j, none⟩ = some u := by
    intro j u hj
    rw [← htk1] at hj
    have hlt := lt_of_getElem? hj
    rw [List.length_take] at hlt
    rw [List.getElem?_take_of_lt (by omega)] at hj
    rw [hk1.cell]; simpa using hj
  have r0 := hget _ _ (hq 0 _ rfl)
  have r1 := hget _ _ (hq 1 _ rfl)
  have r2 := hget _ _ (hq 2 _ rfl)
  simp only [Nat.add_zero] at r0
  have q0 := (hk1.cell _).symm.trans r0
  have q1 := (hk1.cell _).symm.trans r1
  have q2 := (hk1.cell _).symm.trans r2
  have f0 := hk1.frozen (i * 3)
  have f1 := hk1.frozen (i * 3 + 1)
  have f2 := hk1.frozen (i * 3 + 2)
  have gz := hk1.lt
  have Hq := Lib.hid hq
  have Hget := Lib.hid hget
  have hi3 : i * 3 + 2 < cur1.size := by omega
  have Hcur : Hid (∀ (j : Nat) (u : Value), (flat2 encH t cs)[j]? = some u → cur1[j]? = some u) := by
    intro j u hj
    rw [← htk1] at hj
    have hlt := lt_of_getElem? hj
    rw [List.length_take] at hlt
    rw [List.getElem?_take_of_lt (by omega)] at hj
    simpa using hj
  have hB2 := hB1.alloc hB1.size (.cells #[.int .i64 h.area, .int .i64 h.bears, .slice (some ⟨b3, o3, none⟩) h.guys.length c3] 64)
  have kX := Blk.new w1 64 #[.int .i64 h.area, .int .i64 h.bears, .slice (some ⟨b3, o3, none⟩) h.guys.length c3]
  have kG := hk1.alloc (.cells #[.int .i64 h.area, .int .i64 h.bears, .slice (some ⟨b3, o3, none⟩) h.guys.length c3] 64)
  clear hown1 hown hgrow1 hnews hB hq hget htk1 hgg x0 x1 x2 ha hk1
  go_wp2
  refine name_world (motive := fun W => Code.wp _ _ _ _ W) _ ?_
  intro W0 hW
  have hWc := hW.cell
  have hWz := hW.size
  have hWb := hW.below (hB2)
  have kX0 := hW.blk kX
  have kG0 := hW.blk kG
  have gs0 : RS encG 5 W0 W0.heap.size (some ⟨b3, o3, none⟩) h.guys := Hg.out.to hWb
  have y0 := kX0.cell 0
  have y1 := kX0.cell 1
  have y2 := kX0.cell 2
  have yz := kX0.lt
  simp at y0 y1 y2
  have hgz : g1 < W0.heap.size := kG0.lt
  obtain ⟨AA, hA, hsrc⟩ : ∃ AA : Addr, (if c3 = k + 1 then (some ⟨b3, o3, none⟩ : Option Addr) else some ⟨b3, o3 + (k + 1) * 5, none⟩) = some AA ∧ Hid (∀ W : World, RS encG 5 W W.heap.size (some ⟨b3, o3, none⟩) h.guys → ∀ ad, some AA = some ad → ∀ j u, ((h.guys.drop (k + 1)).flatMap encG)[j]? = some u → W.cell? (ad.add j) = some u) := by
    by_cases hc : c3 = k + 1
    · refine ⟨⟨b3, o3, none⟩, by simp [hc], fun W _ ad _ j u hu => ?_⟩
      have : h.guys.drop (k + 1) = [] := List.drop_of_length_le (by omega)
      rw [this] at hu
      simp at hu
    · exact ⟨⟨b3, o3 + (k + 1) * 5, none⟩, by simp [hc], fun W hW ad e => (RS.news (sz := 5) (fun _ => rfl) (hW.dropN (k + 1))).2 ad e⟩
  have O1 := (empty_own (base := W0.heap.size) 5 (Blk.new W0 28 #[]) (Nat.le_refl _)).drew
  have K1 := (kX0.alloc (.cells #[] 28)).drew
  have G1 := (kG0.alloc (.cells #[] 28)).drew
  have N1 := Lib.hid (RS.news (sz := 5) (fun _ => rfl) (rs_drew ((gs0.to ((Below.refl _ _).alloc (Nat.le_refl _) (.cells #[] 28))).takeN k))).2
  have L1 : ((h.guys.take k).flatMap encG).length = k * 5 := by rw [guys_len, List.length_take]; congr 1; omega
  have L2 : ((h.guys.drop (k + 1)).flatMap encG).length = (h.guys.length - (k + 1)) * 5 := by rw [guys_len, List.length_drop]
  have i1 : (0 : Int) ≤ (k : Int) := by omega
  have i2 : (k : Int) ≤ (h.guys.length : Int) := by omega
  have i3 : (k : Int) ≤ (c3 : Int) := by omega
  have i4 : (k : Int) + 1 ≤ (h.guys.length : Int) := by omega
  have i5 : (h.guys.length : Int) ≤ (c3 : Int) := by omega
  have i6 : (k : Int) + 1 ≤ (c3 : Int) := by omega
  have i7 : (0 : Int) ≤ (k : Int) + 1 := by omega
  have n1 : IntKind.i64.wrap ((k : Int) + 1) = (k : Int) + 1 := IntWalk.i64_in _ (by omega)
  clear hWc hWz
  have hne1 : ¬ g1 = w1.heap.size := by omega
  have hne2 : ¬ w1.heap.size = g1 := by omega
  have tk1 : True := trivial
  have hBW : w1.heap.size ≤ W0.heap.size := by omega
  go_region_law (first | ((have := tk1; clear this tk1; refine step_append_any (by rfl) _ _ _ (by rfl) W0.heap.size 28 j0 _ 5 40 Try.underlying62 hj0 hy0 hy1 hy2 rfl (by omega) (.slice (some ⟨W0.heap.size, 0, none⟩) 0 0) 0 [] (by rfl) O1 (some ⟨b3, o3, none⟩) k c3 ((h.guys.take k).flatMap encG) (by rfl) L1 (fun e => by cases e) N1.out (guys_one _) (by unfold maxLen; omega) (by omega) (by simp) ?_); intro v2 w2 hown2 hgrow2; have hB3 : Below W0.heap.size W0 w2 := app_below (((Below.refl _ W0).alloc (Nat.le_refl _) _).drew) (by simp) O1 hgrow2; have hB3' : Below w1.heap.size W0 w2 := hB3.mono hBW; (try rw [Nat.zero_add] at hown2); (try rw [List.nil_append] at hown2); obtain ⟨A8, c8, rfl, hq8, hq9⟩ := own_slice hown2; have kX2 := K1.grown hgrow2 (by simp [Value.ownBlock]; omega); have kG2 := G1.grown hgrow2 (by simp [Value.ownBlock]; omega); have x0 := kX2.cell 2; simp at x0; have xz2 := kX2.lt) | ((refine step_append_any (by rfl) _ _ _ (by rfl) W0.heap.size 28 j0 _ 5 40 Try.underlying62 hj0 hy0 hy1 hy2 rfl (by omega) (.slice A8 k c8) k ((h.guys.take k).flatMap encG) (by rfl) hown2 (some AA) (h.guys.length - (k + 1)) (c3 - (k + 1)) ((h.guys.drop (k + 1)).flatMap encG) (by rfl) L2 (fun e => by cases e) (hsrc.out _ (gs0.to hB3)) (guys_one _) (by unfold maxLen; omega) (by omega) hB3.size ?_); intro v3 w3 hown3 hgrow3; have hB4 : Below W0.heap.size W0 w3 := app_below hB3 hB3.size hown2 hgrow3; have hB4' : Below w1.heap.size W0 w3 := hB4.mono hBW; obtain ⟨A10, c10, rfl, hq10, hq11⟩ := own_slice hown3; have kX3 := kX2.grown hgrow3 (fun e => by have := (hown2.lt _ e.symm).1; omega); have kG3 := kG2.grown hgrow3 (fun e => by have := (hown2.lt _ e.symm).1; omega); have x1 := kX3.cell 0; have x2 := kX3.cell 1; have x3 := kX3.cell 2; have xf := kX3.frozen 2; have xz := kX3.lt; simp at x1 x2 x3; have r0 := (kG3.cell _).trans q0; have r1 := (kG3.cell _).trans q1; have r2 := (kG3.cell _).trans q2; have g0 := kG3.frozen (i * 3); have g2 := kG3.frozen (i * 3 + 1); have g3 := kG3.frozen (i * 3 + 2); have gz3 := kG3.lt))
  all_goals
    go_wp2
    go_ret
    have hlen : k + (h.guys.length - (k + 1)) = (h.lose k).guys.length := by rw [lose_len hk]; omega
    have hrs3 : RS encG 5 w3 w3.heap.size A10 (h.lose k).guys := RS.of_own (enc := encG) (sz := 5) (fun _ => rfl) (by rw [show (h.lose k).guys.flatMap encG = (h.guys.take k).flatMap encG ++ (h.guys.drop (k + 1)).flatMap encG from by unfold Head.lose; rw [List.flatMap_append]]; exact hown3) hlen
    have hf := lose_fin (k := k) (nn := k + (h.guys.length - (k + 1))) hne2 kG3 hbg1 hB1.size Hcur.out hcl Hsub.out hi3 (hWb.trans (hB4.mono hWb.size)) hrs3 (fun ad e => by have := (hown3.lt ad.block (by rw [e]; rfl)).1; omega) hq10 hq11 hlen
    exact ⟨some ⟨g1, 0, none⟩, cap1, by rw [List.length_set]; rfl, hf.1, by rw [List.length_set]; exact hn1, hm1, hf.2⟩
end Go.Proofs.Ytibaindlbpfecaa
