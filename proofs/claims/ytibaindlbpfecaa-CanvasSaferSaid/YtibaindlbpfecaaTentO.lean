import Derived.Test.YtibaindlbpfecaaPartsA

/- The law's copy of a tent, with its own blocks: the heads' row and each guys' row, all different. -/
namespace Go.Proofs.Ytibaindlbpfecaa
open Go.RowKit
theorem own_mono {w : World} {B base e sz n : Nat} {v : Value} {xs : List Value} (h : w.ownsRow base e sz v n xs) (hB : B ≤ base) : w.ownsRow B e sz v n xs := by
  refine ⟨h.1, ?_⟩
  rcases h.2 with h1 | ⟨g, cap, cur, e1, h0, h2⟩
  · exact .inl h1
  · exact .inr ⟨g, cap, cur, e1, Nat.le_trans hB h0, h2⟩
theorem own_elsewhere {w w' : World} {own : Option Nat} {base e sz n c : Nat} {A : Option Addr} {xs : List Value} (h : w.ownsRow base e sz (.slice A n c) n xs) (hg : w.grownBy w' own) (hne : ∀ g, A = some ⟨g, 0, none⟩ → some g ≠ own) : w'.ownsRow base e sz (.slice A n c) n xs := by
  refine ⟨h.1, ?_⟩
  rcases h.2 with h1 | ⟨g, cap, cur, e1, h0, hb, h2⟩
  · exact .inl h1
  · have e2 := e1
    simp only [Value.slice.injEq] at e2
    exact .inr ⟨g, cap, cur, e1, h0, Blk.grown hb hg (hne g e2.1), h2⟩
def OwnRows (B : Nat) (w : World) (own : Option Nat) (t : List Head) (cs : List (Option Addr × Nat)) : Prop :=
  (∀ a ∈ cs, ∀ ad : Addr, a.1 = some ad → ad.block < w.heap.size) ∧ ∀ (j : Nat) (x : Head) (a : Option Addr × Nat), t[j]? = some x → cs[j]? = some a → w.ownsRow B 45 5 (.slice a.1 x.guys.length a.2) x.guys.length (x.guys.flatMap encG) ∧ ∀ g, a.1 = some ⟨g, 0, none⟩ → some g ≠ own ∧ ∀ (j' : Nat) (a' : Option Addr × Nat), j' < j → cs[j']? = some a' → ∀ ad : Addr, a'.1 = some ad → ad.block < g
theorem OwnRows.nil {B : Nat} {w : World} {own : Option Nat} : OwnRows B w own [] [] := ⟨fun a h => by simp at h, fun j x a h => by simp at h⟩
theorem OwnRows.below {B : Nat} {w w' : World} {own : Option Nat} {t : List Head} {cs : List (Option Addr × Nat)} (h : OwnRows B w own t cs) (hb : Below w.heap.size w w') : OwnRows B w' own t cs := by
  refine ⟨fun a ha ad e => Nat.lt_of_lt_of_le (h.1 a ha ad e) hb.size, fun j x a hx ha => ?_⟩
  obtain ⟨h1, h2⟩ := h.2 j x a hx ha
  exact ⟨own_below h1 hb, h2⟩
theorem OwnRows.grown {B : Nat} {w w' : World} {own : Option Nat} {t : List Head} {cs : List (Option Addr × Nat)} (h : OwnRows B w own t cs) (hg : w.grownBy w' own) {g : Nat} (hn : own = some g ∨ w.heap.size ≤ g) : OwnRows B w' (some g) t cs := by
  refine ⟨fun a ha ad e => Nat.lt_of_lt_of_le (h.1 a ha ad e) hg.size, fun j x a hx ha => ?_⟩
  obtain ⟨h1, h2⟩ := h.2 j x a hx ha
  refine ⟨own_elsewhere h1 hg fun g' e => (h2 g' e).1, fun g' e => ⟨fun e' => ?_, (h2 g' e).2⟩⟩
  rcases hn with h3 | h3
  · exact (h2 g' e).1 (e'.trans h3.symm)
  · have := h.1 a (List.mem_of_getElem? ha) _ e
    have := Option.some.inj e'
    simp only at *
    omega
theorem OwnRows.snoc {B : Nat} {w : World} {own : Option Nat} {t : List Head} {cs : List (Option Addr × Nat)} (h : OwnRows B w own t cs) (hl : cs.length = t.length) {x : Head} {A : Option Addr} {c : Nat} (hlt : ∀ ad : Addr, A = some ad → ad.block < w.heap.size)
    (hown : w.ownsRow B 45 5 (.slice A x.guys.length c) x.guys.length (x.guys.flatMap encG)) (hn : ∀ g, A = some ⟨g, 0, none⟩ → some g ≠ own ∧ ∀ a ∈ cs, ∀ ad : Addr, a.1 = some ad → ad.block < g) : OwnRows B w own (t ++ [x]) (cs ++ [(A, c)]) := by
  refine ⟨fun a ha ad e => ?_, fun j y a hy ha => ?_⟩
  · rcases List.mem_append.1 ha with h1 | h1
    · exact h.1 a h1 ad e
    · rw [List.mem_singleton.1 h1] at e
      exact hlt ad e
  · by_cases hj : j < t.length
    · rw [List.getElem?_append_left hj] at hy
      rw [List.getElem?_append_left (by omega)] at ha
      obtain ⟨h1, h2⟩ := h.2 j y a hy ha
      refine ⟨h1, fun g e => ⟨(h2 g e).1, fun j' a' hj' ha' => ?_⟩⟩
      rw [List.getElem?_append_left (by omega)] at ha'
      exact (h2 g e).2 j' a' hj' ha'
    · rw [List.getElem?_append_right (by omega)] at hy
      rw [List.getElem?_append_right (by omega)] at ha
      have hj2 : j = t.length := by
        rcases Nat.eq_zero_or_pos (j - t.length) with h1 | h1
        · omega
        · rw [List.getElem?_eq_none (by simp; omega)] at hy
          cases hy
      subst hj2
      rw [hl, Nat.sub_self] at ha
      rw [Nat.sub_self] at hy
      simp at hy ha
      subst hy
      subst ha
      refine ⟨hown, fun g e => ⟨(hn g e).1, fun j' a' hj' ha' => ?_⟩⟩
      rw [List.getElem?_append_left (by omega)] at ha'
      exact (hn g e).2 a' (List.mem_of_getElem? ha')
theorem own_blk {w : World} {base e sz n c : Nat} {A : Option Addr} {xs : List Value} (h : w.ownsRow base e sz (.slice A n c) n xs) : n = 0 ∨ ∃ (g : Nat) (us : Array Value), A = some ⟨g, 0, none⟩ ∧ base ≤ g ∧ Blk w g e us := by
  rcases h.2 with ⟨_, h1⟩ | ⟨g, cap, cur, e1, hb, hg, _⟩
  · exact .inl h1
  · simp only [Value.slice.injEq] at e1
    exact .inr ⟨g, cur, e1.1, hb, hg⟩
def TentOwn (t : List Head) (w : World) (e : Ending) (w' : World) : Prop := ∃ A c cs, e = .returned (.slice A t.length c) ∧ w'.ownsRow w.heap.size 43 3 (.slice A t.length c) t.length (flat2 encH t cs) ∧ Subs encG 5 Head.guys w' (Value.slice A t.length c).ownBlock t cs ∧ OwnRows w.heap.size w' (Value.slice A t.length c).ownBlock t cs ∧ Below w.heap.size w w'

set_option maxRecDepth 100000 in
set_option maxHeartbeats 2000000 in
theorem Tent_own (A : Option Addr) (c : Nat) (t : List Head) (w : World) (ht : RH w w.heap.size A t) (htl : t.length ≤ 1000) (hgl : ∀ h ∈ t, h.guys.length ≤ 1000) :
    Calls Try.prog 18 #[.slice A t.length c] w (TentOwn t w) := by
  obtain ⟨i0, hi0, hz0, hz1, hz2⟩ := info_parts infoCG
  obtain ⟨j0, hj0, hy0, hy1, hy2⟩ := info_parts infoCH
  have Hgl := Lib.hid hgl
  clear hgl
  go_enter Try.func18, Try.ntmps18
  go_wp2
  go_loopw [3, 4] (fun v i wr => ∃ (k : Nat) (cs : List (Option Addr × Nat)), k ≤ t.length ∧ i = .int .i64 k ∧ wr.ownsRow w.heap.size 43 3 v k (flat2 encH (t.take k) cs) ∧ Subs encG 5 Head.guys wr v.ownBlock (t.take k) cs ∧ OwnRows w.heap.size wr v.ownBlock (t.take k) cs ∧ Below w.heap.size w wr) (fun _ i _ => t.length - (intOf i).toNat)
  case atStart => exact ⟨0, [], Nat.zero_le _, rfl, World.ownsRow_nil _ _ _ _, Subs.nil, OwnRows.nil, Below.refl _ _⟩
  case round =>
    obtain ⟨k, cs, hk, rfl, hown, hsub, hrows, hB⟩ := hrel
    obtain ⟨wo, hwo⟩ : ∃ x, x = wr := ⟨_, rfl⟩
    subst hwo
    have hBz := hB.size
    by_cases hlt : k < t.length
    · obtain ⟨h, hh⟩ := getElem?_lt hlt
      have hgl := Hgl.out h (List.mem_of_getElem? hh)
      obtain ⟨b, off, A2, c2, rfl, hb, x0, x1, x2, hg1, hg2, hg⟩ := (ht.below hB (Nat.le_refl _)).at_ hh
      unfold maxLen at hg2
      have Hh := Lib.hid hh
      have HB0 := Lib.hid ((Below.refl wo.heap.size wo).alloc (Nat.le_refl _) (.cells #[.int .i64 h.area, .int .i64 h.bears, .slice none 0 0] 43))
      have Kw := Lib.hid (Blk.new wo 43 #[.int .i64 h.area, .int .i64 h.bears, .slice none 0 0])
      have Hown := Lib.hid hown
      have Hsub := Lib.hid hsub
      have Hrows := Lib.hid hrows
      clear hh hown hsub hrows
      have hbz : b < wo.heap.size := by omega
      go_wp2
      go_region
      go_wp2
      refine name_world (motive := fun W => Code.wp _ _ _ _ W) _ ?_
      intro W0 hW
      have hWc := hW.cell
      have hWz := hW.size
      have hWb := hW.below (HB0.out.drew)
      have kW := hW.blk Kw.out.drew
      clear hWc hWz
      have hXz : wo.heap.size < W0.heap.size := kW.lt
      go_loopw [6] (fun j wr => ∃ (m : Nat) (u : Value), m ≤ h.guys.length ∧ j = .int .i64 m ∧ wr.ownsRow W0.heap.size 45 5 u m ((h.guys.take m).flatMap encG) ∧ Blk wr wo.heap.size 43 #[.int .i64 h.area, .int .i64 h.bears, u] ∧ W0.grownBy wr (some wo.heap.size)) (fun j _ => h.guys.length - (intOf j).toNat)
      case atStart => exact ⟨0, .slice none 0 0, Nat.zero_le _, rfl, World.ownsRow_nil _ _ _ _, kW, World.grownBy.refl _ _⟩
      case round =>
        obtain ⟨m, u, hm, rfl, hrow, hM, hO⟩ := hrel
        have hM0 := hM.cell 0
        have hM1 := hM.cell 1
        have hM2 := hM.cell 2
        have hMf := hM.frozen 2
        have hMz := hM.lt
        have hOz := hO.size
        simp at hM0 hM1 hM2
        have hgM : some wo.heap.size ≠ u.ownBlock := fun e => by have := (hrow.lt _ e.symm).1; omega
        have hBX : Below wo.heap.size wo wr := below_of_only hWb hO (Nat.le_refl _) (by omega)
        have z2 : wr.cell? ⟨b, off + k * 3 + 2, none⟩ = some (.slice A2 h.guys.length c2) := (hBX.cell (p := ⟨b, _, none⟩) (by show b < _; omega)).trans x2
        by_cases hlt2 : m < h.guys.length
        · obtain ⟨g, hgm⟩ := getElem?_lt hlt2
          obtain ⟨b2, off2, rfl, hb2, hc⟩ := (hg.below hBX hBz).at_ hgm
          obtain ⟨y0, y1, y2, y3, y4⟩ := five_cells hc
          have Hg := Lib.hid hgm
          have Hrow := Lib.hid hrow
          have HM := Lib.hid hM
          clear hgm hc hg hrow ht hM x2 x0 x1
          go_wp2_with (at_builtin; refine wpList_append_own _ rfl _ _ 41 rfl W0.heap.size 45 i0 _ 5 40 Try.underlying41 hi0 hz0 hz1 hz2 rfl (by decide) u m _ rfl ((Hrow.out.alloc (.cells #[.int .i64 g.x, .int .i64 g.y, .int .i64 g.down, .int .i64 g.soil, .int .i64 g.depth] 28)).alloc (.cells #[.int .i64 g.x, .int .i64 g.y, .int .i64 g.down, .int .i64 g.soil, .int .i64 g.depth] 45)) ⟨wr.heap.size + 1, 0, none⟩ 1 1 [.int .i64 g.x, .int .i64 g.y, .int .i64 g.down, .int .i64 g.soil, .int .i64 g.depth] rfl rfl ?c1 ?c2 ?c3 ?c4 ?c5 ?_)
          case c1 => exact World.news_of_block (cs := #[.int .i64 g.x, .int .i64 g.y, .int .i64 g.down, .int .i64 g.soil, .int .i64 g.depth]) (t := 45) (fr := (0, 0)) (by simpa using heap_alloc_new (wr.alloc (.cells #[.int .i64 g.x, .int .i64 g.y, .int .i64 g.down, .int .i64 g.soil, .int .i64 g.depth] 28)) (.cells #[.int .i64 g.x, .int .i64 g.y, .int .i64 g.down, .int .i64 g.soil, .int .i64 g.depth] 45))
          case c2 => simp [Value.oneCell']
          case c3 => unfold maxLen; omega
          case c4 => omega
          case c5 => simp; omega
          intro v2 w3 hrow2 hgrow2 _
          obtain ⟨A4, c4, rfl, _, _⟩ := own_slice hrow2
          have hM2' := ((HM.out.alloc (.cells #[.int .i64 g.x, .int .i64 g.y, .int .i64 g.down, .int .i64 g.soil, .int .i64 g.depth] 28)).alloc (.cells #[.int .i64 g.x, .int .i64 g.y, .int .i64 g.down, .int .i64 g.soil, .int .i64 g.depth] 45)).grown hgrow2 hgM
          have m2 := hM2'.cell 2
          have mf := hM2'.frozen 2
          have mz := hM2'.lt
          simp at m2
          have hO2 := only_append (only_alloc (only_alloc hO (.cells #[.int .i64 g.x, .int .i64 g.y, .int .i64 g.down, .int .i64 g.soil, .int .i64 g.depth] 28)) (.cells #[.int .i64 g.x, .int .i64 g.y, .int .i64 g.down, .int .i64 g.soil, .int .i64 g.depth] 45)) ((Hrow.out.alloc _).alloc _) hgrow2
          clear hgrow2
          go_wp2
          refine ⟨⟨m + 1, .slice A4 (m + 1) c4, by omega, by go_num, ?_, (show Blk _ _ _ #[_, _, _] from by simpa using hM2'.set_ 2 _), only_setCell hO2 (.inl rfl) _⟩, by simp [intOf]; omega⟩
          rw [flat_snoc Hg.out]
          exact ownsRow_setCell_below hrow2 (by show wo.heap.size < _; omega) _
        · obtain ⟨A3, c3, rfl, hc3, hc4⟩ := own_slice hrow
          obtain rfl : m = h.guys.length := by omega
          rw [List.take_of_length_le (Nat.le_refl _)] at hrow
          have hrs : RS encG 5 wr wr.heap.size A3 h.guys := RS.of_own (enc := encG) (sz := 5) (fun _ => rfl) hrow rfl
          have hfr := own_fresh hrow
          have Hr3 := Lib.hid hrow
          have hltr := hrow.lt
          have hown2 := own_below Hown.out hBX
          have hsub2 := Hsub.out.below hBX
          have hrows2 := Hrows.out.below hBX
          have hlt0 := Hown.out.lt
          have hB2 := hB.trans (hBX.mono hBz)
          have hBs := (Below.refl _ wr).alloc (Nat.le_refl _) (.cells #[.int .i64 h.area, .int .i64 h.bears, .slice A3 h.guys.length c3] 43)
          clear hM hg ht hrow
          go_wp2_with (at_builtin; go_loud (refine wpList_append_lies _ rfl _ _ 36 rfl w.heap.size 43 j0 _ 3 40 Try.underlying36 hj0 hy0 hy1 hy2 rfl (by decide) _ _ _ rfl (hown2.alloc _) ⟨wr.heap.size, 0, none⟩ 1 1 [.int .i64 h.area, .int .i64 h.bears, .slice A3 h.guys.length c3] rfl rfl ?c1 ?c2 (by decide) ?c3 ?c4 ?c5 (wr.heap.size + 1) (by simp) ?_))
          case c1 => exact World.news_of_block (cs := #[.int .i64 h.area, .int .i64 h.bears, .slice A3 h.guys.length c3]) (t := 43) (fr := (0, 0)) (heap_alloc_new wr _)
          case c2 => simp [Value.oneCell']
          case c3 => unfold maxLen; omega
          case c4 => omega
          case c5 => simp; omega
          intro g cap w3 hown3 hgrow3 hor hlt3
          have hB3 := app_belowL (hB2.alloc (by omega) (.cells #[.int .i64 h.area, .int .i64 h.bears, .slice A3 h.guys.length c3] 43)) (Nat.le_refl _) (by simp; omega) (hown2.alloc _) hgrow3
          go_wp2
          refine ⟨⟨k + 1, cs ++ [(A3, c3)], by omega, by go_num, ?_, ?_, ?_, hB3⟩, by simp [intOf]; omega⟩
          · rw [take_snoc' Hh.out, flat2_snoc (hsub2.1)]
            exact hown3
          · rw [take_snoc' Hh.out]
            refine Subs.grown (Subs.snoc (hsub2.below hBs) hc3 hc4 (hrs.to hBs) (.inr fun ad e he => ?_)) hgrow3 (hor.imp id (fun e => by simp; omega))
            have := hfr ad e
            have := (hlt0 _ he.symm).2
            omega
          · rw [take_snoc' Hh.out]
            refine OwnRows.grown (OwnRows.snoc (hrows2.below hBs) hsub2.1 (fun ad e => by have := (hltr ad.block (by rw [e]; rfl)).2; have := hBs.size; omega) (own_below (own_mono Hr3.out (by omega)) hBs) fun g e => ⟨fun he => ?_, fun a ha ad e2 => ?_⟩) hgrow3 (hor.imp id (fun e => by simp; omega))
            · have := (hlt0 _ he.symm).2
              have := hfr _ e
              simp only at *
              omega
            · have := Hrows.out.1 a ha ad e2
              have := hfr _ e
              simp only at *
              omega
    · go_wp2
      obtain ⟨A1, c1, rfl, hc1, hc2⟩ := own_slice hown
      obtain rfl : k = t.length := by omega
      go_ret
      rw [List.take_of_length_le (Nat.le_refl _)] at hown hsub hrows
      exact ⟨A1, c1, cs, rfl, hown, hsub, hrows, hB⟩
end Go.Proofs.Ytibaindlbpfecaa
