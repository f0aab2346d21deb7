import Derived.Test.YtkeicglphmnilaaProvA

namespace Go.Proofs.Ytkeicglphmnilaa
open Go.RowKit

section
variable {P : Program} {w : World}
/-- As step_append_any, and the new row lies where the old one did, or in a new block. -/
theorem step_append_at {ops : Array Oper} {o : Oper} {a : Act} {K : Act → World → Prop} {Q : Exit → Act → World → Prop} {E : Prop} (hgd : o.guard = none) (s x : Operand) (t : TypeId)
    (ho : o.op = .call { callee := .builtin .append, args := #[s, x], argTypes := #[t, t] })
    (base : Nat) (e : TypeId) (i : TypeInfo) (z : Value) (size bytes : Nat) (ht : P.underlying t = some (.slice e)) (hi : P.info? e = some i) (hz : i.zero = some z)
    (hsize : i.size = size) (hby : i.bytes = bytes) (hzs : z.cells.size = size) (hsz : 0 < size)
    (v : Value) (n : Nat) (xs : List Value) (hs : a.eval s = v) (hown : w.ownsRow base e size v n xs)
    (ao : Option Addr) (m c : Nat) (news : List Value) (hx : a.eval x = .slice ao m c) (hl : news.length = m * size) (hnone : ao = none → m = 0) (hnews : ∀ ad, ao = some ad → ∀ j u, news[j]? = some u → w.cell? (ad.add j) = some u) (h1 : ∀ u ∈ news, u.oneCell' = true)
    (h63 : n + m ≤ maxLen) (hbytes : (n + m) * bytes ≤ 140737488355328) (hbase : base ≤ w.heap.size)
    (h : ∀ v' w', w'.ownsRow base e size v' (n + m) (xs ++ news) → w.grownBy w' v.ownBlock → (v'.ownBlock = v.ownBlock ∨ v'.ownBlock = some w.heap.size) → K (a.put o.dst v') w') :
    if Region.wanted o (yielded ops a.tmps) = true then Oper.wp P o a w K Q else E := by
  have hw : Region.wanted o (yielded ops a.tmps) = true := by simp [Region.wanted, hgd]
  rw [if_pos hw]
  have key : ∃ v' w', (Builtin.append_ #[t, t] o.type #[v, .slice ao m c]).run P w = .ok v' w' ∧ w'.ownsRow base e size v' (n + m) (xs ++ news) ∧ w.grownBy w' v.ownBlock ∧ (v'.ownBlock = v.ownBlock ∨ v'.ownBlock = some w.heap.size) := by
    cases ao with
    | some ad =>
      obtain ⟨v', w', hr, h2, h3, _, h5⟩ := run_append_own_at (P := P) w base t o.type e i z size bytes ht hi hz hsize hby hzs hsz v n xs hown ad m c news hl (hnews ad rfl) h1 h63 hbytes hbase
      exact ⟨v', w', hr, h2, h3, h5⟩
    | none =>
      obtain rfl := hnone rfl
      have hnews : news = [] := List.eq_nil_of_length_eq_zero (by simpa using hl)
      subst hnews
      obtain ⟨A, c', rfl, hle, _⟩ := own_slice hown
      exact ⟨_, w, run_append_nothing (P := P) w t t o.type e i ht hi A n c' hle _ (Src.ofNil w ht c), by simpa using hown, World.grownBy.refl _ _, .inl rfl⟩
  obtain ⟨v', w', hr, h2, h3, h4⟩ := key
  unfold Oper.wp execOp
  simp only [ho, resolve, invoke, builtin, Sem.run_bind, Sem.run_pure, Result.andThen_ok, List.map_toArray, List.map_cons, List.map_nil, hs, hx, hr]
  exact h v' w' h2 h3 h4
/-- An empty block is a row of the call's own. -/
theorem own_of_empty {e : TypeId} {base g : Nat} (sz : Nat) (h : Blk w g e #[]) (hb : base ≤ g) : w.ownsRow base e sz (.slice (some ⟨g, 0, none⟩) 0 0) 0 [] :=
  ⟨by simp, .inr ⟨g, 0, #[], rfl, hb, h, Nat.le_refl _, Nat.zero_le _, by simp, by simp⟩⟩
end
theorem proves_skip (A : Option Addr) (c : Nat) (l : List Tst) (A' : Option Addr) (c' : Nat) (t : List Head) (head : Int) (push way : Vec) (whole : Int) (A9 : Option Addr) (c9 : Nat) (ps : List Int) (own : Bool) (at_ by_ : Int) (w : World) (hl : l.length ≤ maxLen) (ht : RH w w.heap.size A' t) (htl : t.length ≤ maxLen) (hpl : ps.length ≤ maxLen)
    (hs : fewB l t = false ∨ 12 < ps.length) :
    Calls Try.prog 4 #[.slice A l.length c, .slice A' t.length c', .int .i64 head, .agg #[.int .i64 push.x, .int .i64 push.y], .agg #[.int .i64 way.x, .int .i64 way.y], .agg #[.int .i64 whole, .slice A9 ps.length c9], .bool own, .int .u8 at_, .int .i64 by_] w fun e w' => e = .returned (.bool true) ∧ Below w.heap.size w w' := by
  obtain ⟨fb, hfb⟩ : ∃ b, fewB l t = b := ⟨_, rfl⟩
  have HFew := Lib.hid (fun W h => hfb ▸ Few_any A c l A' c' t W h hl htl)
  have hB := (((Below.refl w.heap.size w).alloc (Nat.le_refl _) (.cells #[.int .i64 push.x, .int .i64 push.y] 49)).alloc (by simp) (.cells #[.int .i64 way.x, .int .i64 way.y] 49)).alloc (by simp <;> omega) (.cells #[.int .i64 whole, .slice A9 ps.length c9] 52)
  have kB := Blk.new ((w.alloc (.cells #[.int .i64 push.x, .int .i64 push.y] 49)).alloc (.cells #[.int .i64 way.x, .int .i64 way.y] 49)) 52 #[.int .i64 whole, .slice A9 ps.length c9]
  simp only [World.size_alloc] at kB
  have ht1 := ht.to hB
  rw [hfb] at hs
  unfold maxLen at hpl
  clear hfb ht
  cases fb
  · clear hs
    go_enter Try.func4, Try.ntmps4
    go_wp2_with (first | (go_at_call 14; refine (HFew.out _ ht1).mono ?_; rintro e w1 ⟨rfl, hb1⟩) | (go_at_call 20; refine (wakes_any _).mono ?_; rintro e w2 ⟨rfl, hb2⟩; obtain ⟨hc2, hf2⟩ := bcell hb2))
    go_ret
    exact ⟨rfl, hB.trans ((sh_next hb1 hb2).mono hB.size)⟩
  · have h12 : 12 < ps.length := by simpa using hs
    clear hs
    go_enter Try.func4, Try.ntmps4
    go_wp2_with (first | (go_at_call 14; refine (HFew.out _ ht1).mono ?_; rintro e w1 ⟨rfl, hb1⟩; have kB1 := kB.below hb1 kB.lt; have x0 := kB1.cell 0; have x1 := kB1.cell 1; simp at x0 x1) | (go_at_call 20; refine (wakes_any _).mono ?_; rintro e w2 ⟨rfl, hb2⟩; obtain ⟨hc2, hf2⟩ := bcell hb2))
    go_ret
    exact ⟨rfl, hB.trans ((sh_next hb1 hb2).mono hB.size)⟩

set_option linter.unusedSimpArgs false in
set_option maxRecDepth 100000 in
set_option maxHeartbeats 32000000 in
theorem proves_main (A : Option Addr) (c : Nat) (l : List Tst) (A' : Option Addr) (c' : Nat) (t : List Head) (head : Int) (push way : Vec) (whole : Int) (A9 : Option Addr) (c9 : Nat) (ps : List Int) (own : Bool) (at_ by_ : Int) (hat : 0 ≤ at_ ∧ at_ ≤ 255) (w : World) (hr : RS encT 4 w w.heap.size A l) (ht : RH w w.heap.size A' t) (hrp : RS encI 1 w w.heap.size A9 ps)
    (hf : fewB l t = true) (h12 : ps.length ≤ 12) :
    Calls Try.prog 4 #[.slice A l.length c, .slice A' t.length c', .int .i64 head, .agg #[.int .i64 push.x, .int .i64 push.y], .agg #[.int .i64 way.x, .int .i64 way.y], .agg #[.int .i64 whole, .slice A9 ps.length c9], .bool own, .int .u8 at_, .int .i64 by_] w fun e w' => e = .returned (.bool true) ∧ Below w.heap.size w w' := by
  obtain ⟨i0, hi0, hz0, hz1, hz2⟩ := info_parts infoI
  obtain ⟨hg10, hl45, ht15⟩ := fewB_iff.1 hf
  have hlm : l.length ≤ maxLen := by show _ ≤ _; unfold maxLen; omega
  have htm : t.length ≤ maxLen := by show _ ≤ _; unfold maxLen; omega
  have HFew := Lib.hid (fun W h => hf ▸ Few_any A c l A' c' t W h hlm htm)
  have HTent := Lib.hid (fun W h => Tent_any A' c' t W h (by omega) (fun x hx => by have := hg10 x hx; omega))
  have HTests := Lib.hid (fun W h => Tests_any A c l W h (by omega))
  obtain ⟨z, hz⟩ : ∃ z, headE l t head push.corner = z := ⟨_, rfl⟩
  have HAsk := Lib.hid (fun W hr ht => hz ▸ asked_any A c l A' c' t head push.corner W hr hlm ht htm)
  have Hz := Lib.hid hz
  obtain ⟨rt, hrt⟩ : ∃ b, (z == 0) = b := ⟨_, rfl⟩
  have hB := (((Below.refl w.heap.size w).alloc (Nat.le_refl _) (.cells #[.int .i64 push.x, .int .i64 push.y] 49)).alloc (by simp) (.cells #[.int .i64 way.x, .int .i64 way.y] 49)).alloc (by simp <;> omega) (.cells #[.int .i64 whole, .slice A9 ps.length c9] 52)
  have kP := ((Blk.new w 49 #[.int .i64 push.x, .int .i64 push.y]).alloc (.cells #[.int .i64 way.x, .int .i64 way.y] 49)).alloc (.cells #[.int .i64 whole, .slice A9 ps.length c9] 52)
  have kY := (Blk.new (w.alloc (.cells #[.int .i64 push.x, .int .i64 push.y] 49)) 49 #[.int .i64 way.x, .int .i64 way.y]).alloc (.cells #[.int .i64 whole, .slice A9 ps.length c9] 52)
  have kB := Blk.new ((w.alloc (.cells #[.int .i64 push.x, .int .i64 push.y] 49)).alloc (.cells #[.int .i64 way.x, .int .i64 way.y] 49)) 52 #[.int .i64 whole, .slice A9 ps.length c9]
  simp only [World.size_alloc] at kB kY
  have hr1 := hr.to hB
  have ht1 := ht.to hB
  have hp1 := hrp.to hB
  have Hat := Lib.hid hat
  have Hrt := Lib.hid hrt
  clear hf hr ht hrp hg10 hat hz
  go_enter Try.func4, Try.ntmps4
  go_upto_region 4 with (first | (go_at_call 14; refine (HFew.out _ ht1).mono ?_; rintro e w1 ⟨rfl, hb1⟩; have kB1 := kB.below hb1 kB.lt; have kP1 := kP.below hb1 kP.lt; have x0 := kB1.cell 0; have x1 := kB1.cell 1; have x2 := kP1.cell 0; have x3 := kP1.cell 1; simp at x0 x1 x2 x3) | (go_at_call 23; refine (refCorner_any push _).mono ?_; rintro e w2 ⟨rfl, hb2⟩) | (go_at_call 22; refine (HAsk.out _ ((hr1.to hb1).to hb2) ((ht1.to hb1).to hb2)).mono ?_; rintro e w3 ⟨rfl, hb3⟩))
  have b1 := sh_next hb1 hb2
  have b2 := b1.trans (hb3.mono b1.size)
  have kY4 := kY.below b2 kY.lt
  have kP4 := kP.below b2 kP.lt
  have kB4 := kB.below b2 kB.lt
  have hr2 := hr1.to b2
  have ht2 := ht1.to b2
  have hp2 := hp1.to b2
  have hB1 := hB.trans (b2.mono hB.size)
  clear hr1 ht1 hp1 hB kP kP1 kB kB1 kY hb1 hb2 hb3 b1 b2 x0 x1 x2 x3
  refine name_world (motive := fun W => Code.wp _ _ _ _ W) _ ?_
  intro W0 hW
  have hWc := hW.cell
  have hWz := hW.size
  have hWb := hW.below (hB1)
  have hr0 : RS encT 4 W0 W0.heap.size A l := by rw [hW.eq.out]; exact hr2
  have ht0 : RH W0 W0.heap.size A' t := by rw [hW.eq.out]; exact ht2
  have hp0 : RS encI 1 W0 W0.heap.size A9 ps := by rw [hW.eq.out]; exact hp2
  have kP := hW.blk kP4
  have kY := hW.blk kY4
  have kB := hW.blk kB4
  have y0 := kB.cell 0
  have y1 := kB.cell 1
  simp at y0 y1
  have kz := kB.lt
  clear hWc hWz hr2 ht2 hp2 kP4 kY4 kB4 hB1
  go_cut [20] (fun s20 wx => ∃ (X : Nat) (A10 : Option Addr) (c10 : Nat), s20 = .pointer (some ⟨X, 0, none⟩) ∧ W0.heap.size ≤ X ∧ Blk wx X 55 #[.int .i64 whole, .slice A10 ps.length c10] ∧ RS encI 1 wx wx.heap.size A10 ps ∧ Below W0.heap.size W0 wx)
  case first =>
    as_aux_lemma =>
      have O1 := own_of_empty (base := W0.heap.size) 1 (Blk.new W0 3 #[]).drew (Nat.le_refl _)
      have E2 := Blk.new (W0.alloc (.cells #[.int .i64 0, .slice none 0 0] 55)) 3 #[]
      rw [World.size_alloc W0] at E2
      have O2 := own_of_empty (base := W0.heap.size) 1 E2.drew (Nat.le_succ _)
      have O3 := own_of_empty (base := W0.heap.size) 1 ((Blk.new W0 3 #[]).alloc (.cells #[.int .i64 0, .slice none 0 0] 55)).drew (Nat.le_refl _)
      have N1 := RS.news (sz := 1) (fun _ => rfl) (show RS encI 1 (W0.alloc (.cells #[] 3)).drew (W0.alloc (.cells #[] 3)).drew.heap.size A9 ps from hp0.to ((Below.refl _ _).alloc (Nat.le_refl _) _).drew)
      have N2 := RS.news (sz := 1) (fun _ => rfl) (show RS encI 1 ((W0.alloc (.cells #[.int .i64 0, .slice none 0 0] 55)).alloc (.cells #[] 3)).drew ((W0.alloc (.cells #[.int .i64 0, .slice none 0 0] 55)).alloc (.cells #[] 3)).drew.heap.size A9 ps from hp0.to (((Below.refl _ _).alloc (Nat.le_refl _) _).alloc (by simp) _).drew)
      have N3 := RS.news (sz := 1) (fun _ => rfl) (show RS encI 1 ((W0.alloc (.cells #[] 3)).alloc (.cells #[.int .i64 0, .slice none 0 0] 55)).drew ((W0.alloc (.cells #[] 3)).alloc (.cells #[.int .i64 0, .slice none 0 0] 55)).drew.heap.size A9 ps from hp0.to (((Below.refl _ _).alloc (Nat.le_refl _) _).alloc (by simp) _).drew)
      have N1 := Lib.hid N1
      have N2 := Lib.hid N2
      have N3 := Lib.hid N3
      have K2 := ((Blk.new W0 55 #[.int .i64 0, .slice none 0 0]).alloc (.cells #[] 3)).drew
      have E3 := Blk.new (W0.alloc (.cells #[] 3)) 55 #[.int .i64 0, .slice none 0 0]
      rw [World.size_alloc W0] at E3
      have K3 := E3.drew
      go_region_held3 (fun w' => (∀ b o, b < W0.heap.size → w'.cell? ⟨b, o, none⟩ = W0.cell? ⟨b, o, none⟩) ∧ Below W0.heap.size W0 w') (first | with_reducible exact sh_refl _ | (with_reducible refine sh_of ?_; with_reducible assumption) | (with_reducible refine sh_alloc ?_ _; with_reducible assumption) | with_reducible exact sh_first _ _ | (refine sh_of ?_; repeat' (first | with_reducible assumption | with_reducible exact Below.refl _ _ | with_reducible refine Below.drew ?_ | with_reducible refine Below.alloc ?_ (by simp <;> omega) _ | with_reducible refine Below.setCell ?_ (by simp <;> omega) _)))
        (first | ((refine step_append_at (by rfl) _ _ _ (by rfl) W0.heap.size 3 i0 _ 1 8 Try.underlying50 hi0 hz0 hz1 hz2 rfl (by omega) (.slice (some ⟨W0.heap.size, 0, none⟩) 0 0) 0 [] (by rfl) O1 A9 ps.length c9 (ps.flatMap encI) (by rfl) (ints_len ps) N1.out.1 N1.out.2 (ints_one ps) (by unfold maxLen; omega) (by omega) (by simp <;> omega) ?_); intro v2 w11 hown2 hgrow2 hat2; have hB11 : Below W0.heap.size W0 w11 := app_below (((Below.refl _ W0).alloc (Nat.le_refl _) _).drew) (by simp <;> omega) O1 hgrow2; rw [Nat.zero_add, List.nil_append] at hown2; obtain ⟨A10, c10, rfl, hq10, hq11⟩ := own_slice hown2; have hrp6 : RS encI 1 w11 w11.heap.size A10 ps := RS.of_own (enc := encI) (sz := 1) (fun _ => rfl) hown2 rfl; have hbx := hgrow2.size) | ((refine step_append_at (by rfl) _ _ _ (by rfl) W0.heap.size 3 i0 _ 1 8 Try.underlying50 hi0 hz0 hz1 hz2 rfl (by omega) (.slice (some ⟨W0.heap.size + 1, 0, none⟩) 0 0) 0 [] (by rfl) O2 A9 ps.length c9 (ps.flatMap encI) (by rfl) (ints_len ps) N2.out.1 N2.out.2 (ints_one ps) (by unfold maxLen; omega) (by omega) (by simp <;> omega) ?_); intro v2 w11 hown2 hgrow2 hat2; have hB11 : Below W0.heap.size W0 w11 := app_below (((Below.refl _ W0).alloc (Nat.le_refl _) _).alloc (by simp) _).drew (by simp <;> omega) O2 hgrow2; rw [Nat.zero_add, List.nil_append] at hown2; obtain ⟨A10, c10, rfl, hq10, hq11⟩ := own_slice hown2; have hrp6 : RS encI 1 w11 w11.heap.size A10 ps := RS.of_own (enc := encI) (sz := 1) (fun _ => rfl) hown2 rfl; have hbx := hgrow2.size; have kBx := K2.grown hgrow2 (by simp [Value.ownBlock] <;> omega); have bq0 := kBx.cell 0; have bq1 := kBx.cell 1; have bf0 := kBx.frozen 0; have bf1 := kBx.frozen 1; have bz := kBx.lt; simp at bq0 bq1) | ((refine step_append_at (by rfl) _ _ _ (by rfl) W0.heap.size 3 i0 _ 1 8 Try.underlying50 hi0 hz0 hz1 hz2 rfl (by omega) (.slice (some ⟨W0.heap.size, 0, none⟩) 0 0) 0 [] (by rfl) O3 A9 ps.length c9 (ps.flatMap encI) (by rfl) (ints_len ps) N3.out.1 N3.out.2 (ints_one ps) (by unfold maxLen; omega) (by omega) (by simp <;> omega) ?_); intro v2 w11 hown2 hgrow2 hat2; have hB11 : Below W0.heap.size W0 w11 := app_below (((Below.refl _ W0).alloc (Nat.le_refl _) _).alloc (by simp) _).drew (by simp <;> omega) O3 hgrow2; rw [Nat.zero_add, List.nil_append] at hown2; obtain ⟨A10, c10, rfl, hq10, hq11⟩ := own_slice hown2; have hrp6 : RS encI 1 w11 w11.heap.size A10 ps := RS.of_own (enc := encI) (sz := 1) (fun _ => rfl) hown2 rfl; have hbx := hgrow2.size; have kBx := K3.grown hgrow2 (by simp [Value.ownBlock] <;> omega); have bq0 := kBx.cell 0; have bq1 := kBx.cell 1; have bf0 := kBx.frozen 0; have bf1 := kBx.frozen 1; have bz := kBx.lt; simp at bq0 bq1))
      all_goals
        go_wp2_with fail
        go_meet
      · exact ⟨_, A10, c10, rfl, by have := hB11.size; omega, Blk.new _ _ _, hrp6.to ((Below.refl _ _).alloc (Nat.le_refl _) _), hB11.alloc hB11.size _⟩
      · obtain ⟨g1, g2, g3⟩ := box_close (wh := whole) (c5 := c10) kBx hrp6 (fun ad e => by subst e; simp [Value.ownBlock] at hat2; omega) hB11 (by omega)
        exact ⟨_, A10, c10, rfl, by omega, g1, g2, g3⟩
      · obtain ⟨g1, g2, g3⟩ := box_close (wh := whole) (c5 := c10) kBx hrp6 (fun ad e => by subst e; simp [Value.ownBlock] at hat2; omega) hB11 (by omega)
        exact ⟨_, A10, c10, rfl, by omega, g1, g2, g3⟩
  case rest =>
    obtain ⟨X, A10, c10, rfl, hX, kX, hrx, hBx⟩ := hcut
    obtain ⟨Wa, hWa⟩ : ∃ y, y = W0 := ⟨_, rfl⟩
    subst hWa
    obtain ⟨orr, horr⟩ : ∃ b, (own && rt) = b := ⟨_, rfl⟩
    have Horr := Lib.hid horr
    go_upto_region 5 with fail
    go_cut [55] (fun s55 wx => s55 = .bool orr ∧ Blk wx X 55 #[.int .i64 whole, .slice A10 ps.length c10] ∧ RS encI 1 wx wx.heap.size A10 ps ∧ Below Wa.heap.size Wa wx)
    case first =>
      subst horr
      cases own <;> cases rt
      all_goals
        go_wp2_with fail
        go_meet
        exact ⟨rfl, kX, hrx, hBx⟩
    case rest =>
    obtain ⟨rfl, kX, hrx, hBx⟩ := hcut
    clear horr
    go_upto_if 55 with fail
    go_cut [20] (fun s20 wx => ∃ (whx : Int) (psx : List Int) (A11 : Option Addr) (c11 : Nat), s20 = .pointer (some ⟨X, 0, none⟩) ∧ psx.length ≤ 12 ∧ Blk wx X 55 #[.int .i64 whx, .slice A11 psx.length c11] ∧ RS encI 1 wx wx.heap.size A11 psx ∧ Below Wa.heap.size Wa wx)
    case first =>
      cases orr
      · go_wp2_with fail
        go_meet
        exact ⟨whole, ps, A10, c10, rfl, h12, kX, hrx, hBx⟩
      · obtain ⟨rfl, rfl⟩ : own = true ∧ rt = true := by simpa using Horr.out
        have hz0 : headE l t head push.corner = 0 := by rw [Hz.out]; simpa using Hrt.out
        obtain ⟨whb, psb, er, hI⟩ := balIs_ex l t head push
        have HBal : Hid (∀ (W : World) (B : Option Addr) (b1 : Nat) (B' : Option Addr) (b2 : Nat), RS encT 4 W W.heap.size B l → RH W W.heap.size B' t → Calls Try.prog 24 #[.slice B l.length b1, .slice B' t.length b2, .int .i64 head, .agg #[.int .i64 push.x, .int .i64 push.y]] W fun e w' => ∃ A c, e = .returned (.tuple #[.agg #[.int .i64 whb, .slice A psb.length c], .int .i64 er]) ∧ RSF w' w'.heap.size A psb ∧ (∀ ad, A = some ad → W.heap.size ≤ ad.block) ∧ Below W.heap.size W w') := fun W B b1 B' b2 h1 h2 => (Balanced_own hI B b1 B' b2 W h1 hlm h2 htm).mono fun e w' ⟨A, c, h1, h2, _, _, h5, h6⟩ => ⟨A, c, h1, h2, h6, h5⟩
        obtain ⟨hp8, hcases⟩ := bal_facts hI hz0
        clear hI hz0
        have hmx : Try.prog.follows .mixedOrders = true := by kernel_rfl
        go_upto_region 6 with fail
        have kP6 := kP.below hBx kP.lt
        have hr6 := hr0.to hBx
        have ht6 := ht0.to hBx
        refine name_world (motive := fun W => Code.wp _ _ _ _ W) _ ?_
        intro W0 hW
        have kP6 := hW.blk kP6
        have kX6 := hW.blk kX
        have hr6 := hr6.to (hW.below (Below.refl _ _))
        have ht6 := ht6.to (hW.below (Below.refl _ _))
        have hB6 := hW.below hBx
        have hX6 := kX6.lt
        clear hW
        go_cut [21, 22] (fun s21 s22 wx => ∃ (G : Nat) (A5 : Option Addr) (c5 : Nat), s21 = .pointer (some ⟨G, 0, none⟩) ∧ s22 = .int .i64 er ∧ Blk wx G 55 #[.int .i64 whb, .slice A5 psb.length c5] ∧ RSF wx wx.heap.size A5 psb ∧ (∀ ad, A5 = some ad → psb ≠ [] → W0.heap.size ≤ ad.block ∧ ad.block ≠ G) ∧ Blk wx X 55 #[.int .i64 whole, .slice A10 ps.length c10] ∧ W0.heap.size ≤ G ∧ Below W0.heap.size W0 wx)
        case first =>
          as_aux_lemma =>
            refine (wpIn_wide (n := 9)).1 ?_
            have hLast := trivial
            refine region_rest (S := (fun w' => Blk w' (w.heap.size) 49 #[.int .i64 push.x, .int .i64 push.y] ∧ Blk w' (X) 55 #[.int .i64 whole, .slice A10 ps.length c10] ∧ Below W0.heap.size W0 w')) hmx ?_ (fun hHeld => ?_)
            · exact ⟨kP6.drew, kX6.drew, (Below.refl W0.heap.size W0).drew⟩
            change RestIn _ _ _ _ _ _ _ 14 #[false, false, false, false, false, false, false, false, false, false, false, false, false, false] _ (World.drew _)
            refine rest_take (i := 0) (v := _) all_wide (noDefers_of (by kernel_rfl)) rfl (by kernel_rfl) (by kernel_rfl) (by kernel_rfl) (fun _ _ _ h => h) (Or.inl ⟨by rfl, by intro w hSw; clear hSw; go_simp; first | done | with_reducible rfl⟩) hHeld ?_
            change RestIn _ _ _ _ _ _ _ 13 #[true, false, false, false, false, false, false, false, false, false, false, false, false, false] _ _
            try simp only [Act.put, List.setIfInBounds_toArray, List.set_cons_zero, List.set_cons_succ, List.getElem_toArray, List.getElem_cons_zero, List.getElem_cons_succ]
            refine rest_take (i := 2) (v := _) all_wide (noDefers_of (by kernel_rfl)) rfl (by kernel_rfl) (by kernel_rfl) (by kernel_rfl) (fun _ _ _ h => h) (Or.inl ⟨by rfl, by intro w hSw; clear hSw; go_simp; first | done | with_reducible rfl⟩) hHeld ?_
            change RestIn _ _ _ _ _ _ _ 12 #[true, false, true, false, false, false, false, false, false, false, false, false, false, false] _ _
            try simp only [Act.put, List.setIfInBounds_toArray, List.set_cons_zero, List.set_cons_succ, List.getElem_toArray, List.getElem_cons_zero, List.getElem_cons_succ]
            refine rest_take (i := 4) (v := _) all_wide (noDefers_of (by kernel_rfl)) rfl (by kernel_rfl) (by kernel_rfl) (by kernel_rfl) (fun _ _ _ h => h) (Or.inl ⟨by rfl, by intro w hSw; clear hSw; go_simp; first | done | with_reducible rfl⟩) hHeld ?_
            change RestIn _ _ _ _ _ _ _ 11 #[true, false, true, false, true, false, false, false, false, false, false, false, false, false] _ _
            try simp only [Act.put, List.setIfInBounds_toArray, List.set_cons_zero, List.set_cons_succ, List.getElem_toArray, List.getElem_cons_zero, List.getElem_cons_succ]
            refine rest_take (i := 5) (v := _) all_wide (noDefers_of (by kernel_rfl)) rfl (by kernel_rfl) (by kernel_rfl) (by kernel_rfl) (fun _ _ _ h => h) (Or.inl ⟨by rfl, by intro w hSw; (obtain ⟨q0, q1, _⟩ := hSw; have q0x0 := q0.cell 0; have q0x1 := q0.cell 1; have q1x0 := q1.cell 0; have q1x1 := q1.cell 1; simp at q0x0 q0x1 q1x0 q1x1); go_simp; first | done | with_reducible rfl⟩) hHeld ?_
            change RestIn _ _ _ _ _ _ _ 10 #[true, false, true, false, true, true, false, false, false, false, false, false, false, false] _ _
            try simp only [Act.put, List.setIfInBounds_toArray, List.set_cons_zero, List.set_cons_succ, List.getElem_toArray, List.getElem_cons_zero, List.getElem_cons_succ]
            refine rest_ready (rs := [1, 11]) (by kernel_rfl) (by simp) ?_
            refine AllRest.cons rfl (fun K hK => ?_) ?_
            · have hNow := (hHeld.2.2)
              clear hLast
              have hLast := hNow
              go_simp
              gi_wp2_with ((refine ⟨trivial, ?_⟩; gi_at_call 17; (refine (callsIn_wide.2 (HTests.out _ (hr6.to hNow))).mono ?_); rintro e wn ⟨A3, c3, rfl, hs2, _, _, hb⟩))
              refine hK.out _ _ ?_ (fun hHeld' => ?_)
              · exact ⟨hHeld.1.below hb hHeld.1.lt, hHeld.2.1.below hb hHeld.2.1.lt, (hHeld.2.2).trans (hb.mono (hHeld.2.2).size)⟩
              clear hK K
              change RestIn _ _ _ _ _ _ _ 9 #[true, true, true, false, true, true, false, false, false, false, false, false, false, false] _ _
              try simp only [Act.put, List.setIfInBounds_toArray, List.set_cons_zero, List.set_cons_succ, List.getElem_toArray, List.getElem_cons_zero, List.getElem_cons_succ]
              clear hHeld
              have hHeld := hHeld'
              clear hHeld'
              have hNow := (hHeld.2.2)
              try have kN := kN.below hb kN.lt
              refine rest_ready (rs := [3, 11]) (by kernel_rfl) (by simp) ?_
              refine AllRest.cons rfl (fun K hK => ?_) ?_
              · have hNow := (hHeld.2.2)
                clear hLast
                have hLast := hNow
                go_simp
                gi_wp2_with ((refine ⟨trivial, ?_⟩; gi_at_call 18; (refine (callsIn_wide.2 (HTent.out _ (ht6.to hNow))).mono ?_); rintro e wn ⟨A4, c4, rfl, hs3, _, _, hb⟩))
                refine hK.out _ _ ?_ (fun hHeld' => ?_)
                · exact ⟨hHeld.1.below hb hHeld.1.lt, hHeld.2.1.below hb hHeld.2.1.lt, (hHeld.2.2).trans (hb.mono (hHeld.2.2).size)⟩
                clear hK K
                change RestIn _ _ _ _ _ _ _ 8 #[true, true, true, true, true, true, false, false, false, false, false, false, false, false] _ _
                try simp only [Act.put, List.setIfInBounds_toArray, List.set_cons_zero, List.set_cons_succ, List.getElem_toArray, List.getElem_cons_zero, List.getElem_cons_succ]
                clear hHeld
                have hHeld := hHeld'
                clear hHeld'
                have hNow := (hHeld.2.2)
                have hs2 := hs2.to hb
                try have kN := kN.below hb kN.lt
                refine rest_ready (rs := [6, 11]) (by kernel_rfl) (by simp) ?_
                refine AllRest.cons rfl (fun K hK => ?_) ?_
                · have hNow := (hHeld.2.2)
                  clear hLast
                  have hLast := hNow
                  go_simp
                  gi_wp2_with ((refine ⟨trivial, ?_⟩; gi_at_call 25; (with_reducible refine (callsIn_wide.2 (Vector_any push _)).mono ?_); rintro e wn ⟨rfl, hb⟩))
                  refine hK.out _ _ ?_ (fun hHeld' => ?_)
                  · exact ⟨hHeld.1.below hb hHeld.1.lt, hHeld.2.1.below hb hHeld.2.1.lt, (hHeld.2.2).trans (hb.mono (hHeld.2.2).size)⟩
                  clear hK K
                  change RestIn _ _ _ _ _ _ _ 7 #[true, true, true, true, true, true, true, false, false, false, false, false, false, false] _ _
                  try simp only [Act.put, List.setIfInBounds_toArray, List.set_cons_zero, List.set_cons_succ, List.getElem_toArray, List.getElem_cons_zero, List.getElem_cons_succ]
                  clear hHeld
                  have hHeld := hHeld'
                  clear hHeld'
                  have hNow := (hHeld.2.2)
                  have hs2 := hs2.to hb
                  have hs3 := hs3.to hb
                  try have kN := kN.below hb kN.lt
                  refine rest_ready (rs := [7, 11]) (by kernel_rfl) (by simp) ?_
                  refine AllRest.cons rfl (fun K hK => ?_) ?_
                  · have hNow := (hHeld.2.2)
                    clear hLast
                    have hLast := hNow
                    go_simp
                    gi_wp2_with ((refine ⟨trivial, ?_⟩; gi_at_call 24; (with_reducible refine (callsIn_wide.2 (HBal.out _ A3 c3 A4 c4 hs2 hs3)).mono ?_); rintro e wn ⟨A5, c5, rfl, hsf, hq3, hb⟩))
                    refine hK.out _ _ ?_ (fun hHeld' => ?_)
                    · exact ⟨hHeld.1.below hb hHeld.1.lt, hHeld.2.1.below hb hHeld.2.1.lt, (hHeld.2.2).trans (hb.mono (hHeld.2.2).size)⟩
                    clear hK K
                    change RestIn _ _ _ _ _ _ _ 6 #[true, true, true, true, true, true, true, true, false, false, false, false, false, false] _ _
                    try simp only [Act.put, List.setIfInBounds_toArray, List.set_cons_zero, List.set_cons_succ, List.getElem_toArray, List.getElem_cons_zero, List.getElem_cons_succ]
                    clear hHeld
                    have hHeld := hHeld'
                    clear hHeld'
                    have hNow := (hHeld.2.2)
                    have hz7 := hNow.size
                    have hq4 := fun (ad : Addr) (e : A5 = some ad) => Nat.le_trans hLast.size (hq3 ad e)
                    try have hfar := fun (ad : Addr) (e : A5 = some ad) => Nat.ne_of_gt (Nat.lt_of_lt_of_le kN.lt (hq3 ad e))
                    try have kN := kN.below hb kN.lt
                    refine rest_take (i := 8) (v := _) all_wide (noDefers_of (by kernel_rfl)) rfl (by kernel_rfl) (by kernel_rfl) (by kernel_rfl) (fun _ _ _ h => h) (Or.inl ⟨by rfl, by intro w hSw; clear hSw; go_simp; first | done | with_reducible rfl⟩) hHeld ?_
                    change RestIn _ _ _ _ _ _ _ 5 #[true, true, true, true, true, true, true, true, true, false, false, false, false, false] _ _
                    try simp only [Act.put, List.setIfInBounds_toArray, List.set_cons_zero, List.set_cons_succ, List.getElem_toArray, List.getElem_cons_zero, List.getElem_cons_succ]
                    refine rest_take (i := 9) (v := _) all_wide (noDefers_of (by kernel_rfl)) rfl (by kernel_rfl) (by kernel_rfl) (by kernel_rfl) (fun _ _ _ h => h) (Or.inl ⟨by rfl, by intro w hSw; clear hSw; go_simp; first | done | with_reducible rfl⟩) hHeld ?_
                    change RestIn _ _ _ _ _ _ _ 4 #[true, true, true, true, true, true, true, true, true, true, false, false, false, false] _ _
                    try simp only [Act.put, List.setIfInBounds_toArray, List.set_cons_zero, List.set_cons_succ, List.getElem_toArray, List.getElem_cons_zero, List.getElem_cons_succ]
                    refine rest_take (i := 10) (v := _) all_wide (noDefers_of (by kernel_rfl)) rfl (by kernel_rfl) (by kernel_rfl) (by kernel_rfl) (fun _ _ _ h => h) (Or.inl ⟨by rfl, by intro w hSw; clear hSw; go_simp; first | done | with_reducible rfl⟩) hHeld ?_
                    change RestIn _ _ _ _ _ _ _ 3 #[true, true, true, true, true, true, true, true, true, true, true, false, false, false] _ _
                    try simp only [Act.put, List.setIfInBounds_toArray, List.set_cons_zero, List.set_cons_succ, List.getElem_toArray, List.getElem_cons_zero, List.getElem_cons_succ]
                    refine rest_ready (rs := [11]) (by kernel_rfl) (by simp) ?_
                    refine AllRest.cons rfl (fun K hK => ?_) AllRest.nil
                    have kNg := (hHeld.2.2).size
                    have kN := blk_new_of (hHeld.2.2) 55 #[.int .i64 0, .slice none 0 0]
                    have hOld := (hHeld.2.2)
                    go_simp
                    refine hK.out _ _ ?_ (fun hHeld' => ?_)
                    · exact (fun (hbel : Below W0.heap.size W0 _) => ⟨kP6.below hbel kP6.lt, kX6.below hbel kX6.lt, hbel⟩) ((hHeld.2.2).alloc (hHeld.2.2).size _)
                    clear hK K
                    change RestIn _ _ _ _ _ _ _ 2 #[true, true, true, true, true, true, true, true, true, true, true, true, false, false] _ _
                    try simp only [Act.put, List.setIfInBounds_toArray, List.set_cons_zero, List.set_cons_succ, List.getElem_toArray, List.getElem_cons_zero, List.getElem_cons_succ]
                    clear hHeld
                    have hHeld := hHeld'
                    clear hHeld'
                    have hNow := (hHeld.2.2)
                    try simp at kNg
                    try have hs2 := hs2.to ((Below.refl _ _).alloc (Nat.le_refl _) (.cells #[.int .i64 0, .slice none 0 0] 55))
                    try have hs3 := hs3.to ((Below.refl _ _).alloc (Nat.le_refl _) (.cells #[.int .i64 0, .slice none 0 0] 55))
                    refine rest_ready (rs := [12]) (by kernel_rfl) (by simp) ?_
                    refine AllRest.cons rfl (fun K hK => ?_) AllRest.nil
                    have kNc0 := kN.cell 0
                    have kNc1 := kN.cell 1
                    have kNf0 := kN.frozen 0
                    have kNf1 := kN.frozen 1
                    have kNl := kN.lt
                    try simp at kNc0
                    try simp at kNc1
                    try simp at kNf0
                    try simp at kNf1
                    try simp at kNl
                    have hNow := (hHeld.2.2)
                    go_simp
                    refine hK.out _ _ ?_ (fun hHeld' => ?_)
                    · (refine (fun (hbel : Below W0.heap.size W0 _) => ⟨kP6.below hbel kP6.lt, kX6.below hbel kX6.lt, hbel⟩) ?_; repeat' (first | with_reducible exact hNow | with_reducible exact hOld | with_reducible refine Below.setCell ?_ (by (try simp) <;> omega) _ | with_reducible refine Below.alloc ?_ (by (try simp) <;> omega) _))
                    clear hK K
                    change RestIn _ _ _ _ _ _ _ 1 #[true, true, true, true, true, true, true, true, true, true, true, true, true, false] _ _
                    try simp only [Act.put, List.setIfInBounds_toArray, List.set_cons_zero, List.set_cons_succ, List.getElem_toArray, List.getElem_cons_zero, List.getElem_cons_succ]
                    clear hHeld
                    have hHeld := hHeld'
                    clear hHeld'
                    have hNow := (hHeld.2.2)
                    refine rest_take (i := 13) (v := _) all_wide (noDefers_of (by kernel_rfl)) rfl (by kernel_rfl) (by kernel_rfl) (by kernel_rfl) (fun _ _ _ h => h) (Or.inl ⟨by rfl, by intro w hSw; clear hSw; go_simp; first | done | with_reducible rfl⟩) hHeld ?_
                    change RestIn _ _ _ _ _ _ _ 0 #[true, true, true, true, true, true, true, true, true, true, true, true, true, true] _ _
                    try simp only [Act.put, List.setIfInBounds_toArray, List.set_cons_zero, List.set_cons_succ, List.getElem_toArray, List.getElem_cons_zero, List.getElem_cons_succ]
                    refine rest_done (by kernel_rfl) ?_
                    go_wp2_with fail
                    go_meet
                    first | exact ⟨_, A5, c5, rfl, rfl, Blk.new _ _ _, hsf.to ((Below.refl _ _).alloc (Nat.le_refl _) _), fun ad e h => ⟨hq4 ad e, hsf.ne ad e h⟩, hHeld.2.1, hz7, hHeld.2.2⟩ | exact ⟨_, A5, c5, rfl, rfl, (kN.set_ 0 (.int .i64 whb)).set_ 1 (.slice A5 psb.length c5), ((hsf.set_far (p := ⟨_, 0, none⟩) (fun ad e _ => hfar ad e) _).set_far (p := ⟨_, 1, none⟩) (fun ad e _ => hfar ad e) _).more (by simp), fun ad e _ => ⟨hq4 ad e, hfar ad e⟩, hHeld.2.1, (by first | exact kNg | exact Nat.le_refl _ | omega), hHeld.2.2⟩
                  refine AllRest.cons rfl (fun K hK => ?_) ?_
                  · have kNg := (hHeld.2.2).size
                    have kN := blk_new_of (hHeld.2.2) 55 #[.int .i64 0, .slice none 0 0]
                    have hOld := (hHeld.2.2)
                    go_simp
                    refine hK.out _ _ ?_ (fun hHeld' => ?_)
                    · exact (fun (hbel : Below W0.heap.size W0 _) => ⟨kP6.below hbel kP6.lt, kX6.below hbel kX6.lt, hbel⟩) ((hHeld.2.2).alloc (hHeld.2.2).size _)
                    clear hK K
                    change RestIn _ _ _ _ _ _ _ 6 #[true, true, true, true, true, true, true, false, false, false, false, true, false, false] _ _
                    try simp only [Act.put, List.setIfInBounds_toArray, List.set_cons_zero, List.set_cons_succ, List.getElem_toArray, List.getElem_cons_zero, List.getElem_cons_succ]
                    clear hHeld
                    have hHeld := hHeld'
                    clear hHeld'
                    have hNow := (hHeld.2.2)
                    try simp at kNg
                    try have hs2 := hs2.to ((Below.refl _ _).alloc (Nat.le_refl _) (.cells #[.int .i64 0, .slice none 0 0] 55))
                    try have hs3 := hs3.to ((Below.refl _ _).alloc (Nat.le_refl _) (.cells #[.int .i64 0, .slice none 0 0] 55))
                    refine rest_ready (rs := [7]) (by kernel_rfl) (by simp) ?_
                    refine AllRest.cons rfl (fun K hK => ?_) AllRest.nil
                    have hNow := (hHeld.2.2)
                    clear hLast
                    have hLast := hNow
                    go_simp
                    gi_wp2_with ((refine ⟨trivial, ?_⟩; gi_at_call 24; (with_reducible refine (callsIn_wide.2 (HBal.out _ A3 c3 A4 c4 hs2 hs3)).mono ?_); rintro e wn ⟨A5, c5, rfl, hsf, hq3, hb⟩))
                    refine hK.out _ _ ?_ (fun hHeld' => ?_)
                    · exact ⟨hHeld.1.below hb hHeld.1.lt, hHeld.2.1.below hb hHeld.2.1.lt, (hHeld.2.2).trans (hb.mono (hHeld.2.2).size)⟩
                    clear hK K
                    change RestIn _ _ _ _ _ _ _ 5 #[true, true, true, true, true, true, true, true, false, false, false, true, false, false] _ _
                    try simp only [Act.put, List.setIfInBounds_toArray, List.set_cons_zero, List.set_cons_succ, List.getElem_toArray, List.getElem_cons_zero, List.getElem_cons_succ]
                    clear hHeld
                    have hHeld := hHeld'
                    clear hHeld'
                    have hNow := (hHeld.2.2)
                    have hz7 := hNow.size
                    have hq4 := fun (ad : Addr) (e : A5 = some ad) => Nat.le_trans hLast.size (hq3 ad e)
                    try have hfar := fun (ad : Addr) (e : A5 = some ad) => Nat.ne_of_gt (Nat.lt_of_lt_of_le kN.lt (hq3 ad e))
                    try have kN := kN.below hb kN.lt
                    refine rest_take (i := 8) (v := _) all_wide (noDefers_of (by kernel_rfl)) rfl (by kernel_rfl) (by kernel_rfl) (by kernel_rfl) (fun _ _ _ h => h) (Or.inl ⟨by rfl, by intro w hSw; clear hSw; go_simp; first | done | with_reducible rfl⟩) hHeld ?_
                    change RestIn _ _ _ _ _ _ _ 4 #[true, true, true, true, true, true, true, true, true, false, false, true, false, false] _ _
                    try simp only [Act.put, List.setIfInBounds_toArray, List.set_cons_zero, List.set_cons_succ, List.getElem_toArray, List.getElem_cons_zero, List.getElem_cons_succ]
                    refine rest_take (i := 9) (v := _) all_wide (noDefers_of (by kernel_rfl)) rfl (by kernel_rfl) (by kernel_rfl) (by kernel_rfl) (fun _ _ _ h => h) (Or.inl ⟨by rfl, by intro w hSw; clear hSw; go_simp; first | done | with_reducible rfl⟩) hHeld ?_
                    change RestIn _ _ _ _ _ _ _ 3 #[true, true, true, true, true, true, true, true, true, true, false, true, false, false] _ _
                    try simp only [Act.put, List.setIfInBounds_toArray, List.set_cons_zero, List.set_cons_succ, List.getElem_toArray, List.getElem_cons_zero, List.getElem_cons_succ]
                    refine rest_take (i := 10) (v := _) all_wide (noDefers_of (by kernel_rfl)) rfl (by kernel_rfl) (by kernel_rfl) (by kernel_rfl) (fun _ _ _ h => h) (Or.inl ⟨by rfl, by intro w hSw; clear hSw; go_simp; first | done | with_reducible rfl⟩) hHeld ?_
                    change RestIn _ _ _ _ _ _ _ 2 #[true, true, true, true, true, true, true, true, true, true, true, true, false, false] _ _
                    try simp only [Act.put, List.setIfInBounds_toArray, List.set_cons_zero, List.set_cons_succ, List.getElem_toArray, List.getElem_cons_zero, List.getElem_cons_succ]
                    refine rest_ready (rs := [12]) (by kernel_rfl) (by simp) ?_
                    refine AllRest.cons rfl (fun K hK => ?_) AllRest.nil
                    have kNc0 := kN.cell 0
                    have kNc1 := kN.cell 1
                    have kNf0 := kN.frozen 0
                    have kNf1 := kN.frozen 1
                    have kNl := kN.lt
                    try simp at kNc0
                    try simp at kNc1
                    try simp at kNf0
                    try simp at kNf1
                    try simp at kNl
                    have hNow := (hHeld.2.2)
                    go_simp
                    refine hK.out _ _ ?_ (fun hHeld' => ?_)
                    · (refine (fun (hbel : Below W0.heap.size W0 _) => ⟨kP6.below hbel kP6.lt, kX6.below hbel kX6.lt, hbel⟩) ?_; repeat' (first | with_reducible exact hNow | with_reducible exact hOld | with_reducible refine Below.setCell ?_ (by (try simp) <;> omega) _ | with_reducible refine Below.alloc ?_ (by (try simp) <;> omega) _))
                    clear hK K
                    change RestIn _ _ _ _ _ _ _ 1 #[true, true, true, true, true, true, true, true, true, true, true, true, true, false] _ _
                    try simp only [Act.put, List.setIfInBounds_toArray, List.set_cons_zero, List.set_cons_succ, List.getElem_toArray, List.getElem_cons_zero, List.getElem_cons_succ]
                    clear hHeld
                    have hHeld := hHeld'
                    clear hHeld'
                    have hNow := (hHeld.2.2)
                    refine rest_take (i := 13) (v := _) all_wide (noDefers_of (by kernel_rfl)) rfl (by kernel_rfl) (by kernel_rfl) (by kernel_rfl) (fun _ _ _ h => h) (Or.inl ⟨by rfl, by intro w hSw; clear hSw; go_simp; first | done | with_reducible rfl⟩) hHeld ?_
                    change RestIn _ _ _ _ _ _ _ 0 #[true, true, true, true, true, true, true, true, true, true, true, true, true, true] _ _
                    try simp only [Act.put, List.setIfInBounds_toArray, List.set_cons_zero, List.set_cons_succ, List.getElem_toArray, List.getElem_cons_zero, List.getElem_cons_succ]
                    refine rest_done (by kernel_rfl) ?_
                    go_wp2_with fail
                    go_meet
                    first | exact ⟨_, A5, c5, rfl, rfl, Blk.new _ _ _, hsf.to ((Below.refl _ _).alloc (Nat.le_refl _) _), fun ad e h => ⟨hq4 ad e, hsf.ne ad e h⟩, hHeld.2.1, hz7, hHeld.2.2⟩ | exact ⟨_, A5, c5, rfl, rfl, (kN.set_ 0 (.int .i64 whb)).set_ 1 (.slice A5 psb.length c5), ((hsf.set_far (p := ⟨_, 0, none⟩) (fun ad e _ => hfar ad e) _).set_far (p := ⟨_, 1, none⟩) (fun ad e _ => hfar ad e) _).more (by simp), fun ad e _ => ⟨hq4 ad e, hfar ad e⟩, hHeld.2.1, (by first | exact kNg | exact Nat.le_refl _ | omega), hHeld.2.2⟩
                  exact AllRest.nil
                refine AllRest.cons rfl (fun K hK => ?_) ?_
                · have kNg := (hHeld.2.2).size
                  have kN := blk_new_of (hHeld.2.2) 55 #[.int .i64 0, .slice none 0 0]
                  have hOld := (hHeld.2.2)
                  go_simp
                  refine hK.out _ _ ?_ (fun hHeld' => ?_)
                  · exact (fun (hbel : Below W0.heap.size W0 _) => ⟨kP6.below hbel kP6.lt, kX6.below hbel kX6.lt, hbel⟩) ((hHeld.2.2).alloc (hHeld.2.2).size _)
                  clear hK K
                  change RestIn _ _ _ _ _ _ _ 7 #[true, true, true, true, true, true, false, false, false, false, false, true, false, false] _ _
                  try simp only [Act.put, List.setIfInBounds_toArray, List.set_cons_zero, List.set_cons_succ, List.getElem_toArray, List.getElem_cons_zero, List.getElem_cons_succ]
                  clear hHeld
                  have hHeld := hHeld'
                  clear hHeld'
                  have hNow := (hHeld.2.2)
                  try simp at kNg
                  try have hs2 := hs2.to ((Below.refl _ _).alloc (Nat.le_refl _) (.cells #[.int .i64 0, .slice none 0 0] 55))
                  try have hs3 := hs3.to ((Below.refl _ _).alloc (Nat.le_refl _) (.cells #[.int .i64 0, .slice none 0 0] 55))
                  refine rest_ready (rs := [6]) (by kernel_rfl) (by simp) ?_
                  refine AllRest.cons rfl (fun K hK => ?_) AllRest.nil
                  have hNow := (hHeld.2.2)
                  clear hLast
                  have hLast := hNow
                  go_simp
                  gi_wp2_with ((refine ⟨trivial, ?_⟩; gi_at_call 25; (with_reducible refine (callsIn_wide.2 (Vector_any push _)).mono ?_); rintro e wn ⟨rfl, hb⟩))
                  refine hK.out _ _ ?_ (fun hHeld' => ?_)
                  · exact ⟨hHeld.1.below hb hHeld.1.lt, hHeld.2.1.below hb hHeld.2.1.lt, (hHeld.2.2).trans (hb.mono (hHeld.2.2).size)⟩
                  clear hK K
                  change RestIn _ _ _ _ _ _ _ 6 #[true, true, true, true, true, true, true, false, false, false, false, true, false, false] _ _
                  try simp only [Act.put, List.setIfInBounds_toArray, List.set_cons_zero, List.set_cons_succ, List.getElem_toArray, List.getElem_cons_zero, List.getElem_cons_succ]
                  clear hHeld
                  have hHeld := hHeld'
                  clear hHeld'
                  have hNow := (hHeld.2.2)
                  have hs2 := hs2.to hb
                  have hs3 := hs3.to hb
                  try have kN := kN.below hb kN.lt
                  refine rest_ready (rs := [7]) (by kernel_rfl) (by simp) ?_
                  refine AllRest.cons rfl (fun K hK => ?_) AllRest.nil
                  have hNow := (hHeld.2.2)
                  clear hLast
                  have hLast := hNow
                  go_simp
                  gi_wp2_with ((refine ⟨trivial, ?_⟩; gi_at_call 24; (with_reducible refine (callsIn_wide.2 (HBal.out _ A3 c3 A4 c4 hs2 hs3)).mono ?_); rintro e wn ⟨A5, c5, rfl, hsf, hq3, hb⟩))
                  refine hK.out _ _ ?_ (fun hHeld' => ?_)
                  · exact ⟨hHeld.1.below hb hHeld.1.lt, hHeld.2.1.below hb hHeld.2.1.lt, (hHeld.2.2).trans (hb.mono (hHeld.2.2).size)⟩
                  clear hK K
                  change RestIn _ _ _ _ _ _ _ 5 #[true, true, true, true, true, true, true, true, false, false, false, true, false, false] _ _
                  try simp only [Act.put, List.setIfInBounds_toArray, List.set_cons_zero, List.set_cons_succ, List.getElem_toArray, List.getElem_cons_zero, List.getElem_cons_succ]
                  clear hHeld
                  have hHeld := hHeld'
                  clear hHeld'
                  have hNow := (hHeld.2.2)
                  have hz7 := hNow.size
                  have hq4 := fun (ad : Addr) (e : A5 = some ad) => Nat.le_trans hLast.size (hq3 ad e)
                  try have hfar := fun (ad : Addr) (e : A5 = some ad) => Nat.ne_of_gt (Nat.lt_of_lt_of_le kN.lt (hq3 ad e))
                  try have kN := kN.below hb kN.lt
                  refine rest_take (i := 8) (v := _) all_wide (noDefers_of (by kernel_rfl)) rfl (by kernel_rfl) (by kernel_rfl) (by kernel_rfl) (fun _ _ _ h => h) (Or.inl ⟨by rfl, by intro w hSw; clear hSw; go_simp; first | done | with_reducible rfl⟩) hHeld ?_
                  change RestIn _ _ _ _ _ _ _ 4 #[true, true, true, true, true, true, true, true, true, false, false, true, false, false] _ _
                  try simp only [Act.put, List.setIfInBounds_toArray, List.set_cons_zero, List.set_cons_succ, List.getElem_toArray, List.getElem_cons_zero, List.getElem_cons_succ]
                  refine rest_take (i := 9) (v := _) all_wide (noDefers_of (by kernel_rfl)) rfl (by kernel_rfl) (by kernel_rfl) (by kernel_rfl) (fun _ _ _ h => h) (Or.inl ⟨by rfl, by intro w hSw; clear hSw; go_simp; first | done | with_reducible rfl⟩) hHeld ?_
                  change RestIn _ _ _ _ _ _ _ 3 #[true, true, true, true, true, true, true, true, true, true, false, true, false, false] _ _
                  try simp only [Act.put, List.setIfInBounds_toArray, List.set_cons_zero, List.set_cons_succ, List.getElem_toArray, List.getElem_cons_zero, List.getElem_cons_succ]
                  refine rest_take (i := 10) (v := _) all_wide (noDefers_of (by kernel_rfl)) rfl (by kernel_rfl) (by kernel_rfl) (by kernel_rfl) (fun _ _ _ h => h) (Or.inl ⟨by rfl, by intro w hSw; clear hSw; go_simp; first | done | with_reducible rfl⟩) hHeld ?_
                  change RestIn _ _ _ _ _ _ _ 2 #[true, true, true, true, true, true, true, true, true, true, true, true, false, false] _ _
                  try simp only [Act.put, List.setIfInBounds_toArray, List.set_cons_zero, List.set_cons_succ, List.getElem_toArray, List.getElem_cons_zero, List.getElem_cons_succ]
                  refine rest_ready (rs := [12]) (by kernel_rfl) (by simp) ?_
                  refine AllRest.cons rfl (fun K hK => ?_) AllRest.nil
                  have kNc0 := kN.cell 0
                  have kNc1 := kN.cell 1
                  have kNf0 := kN.frozen 0
                  have kNf1 := kN.frozen 1
                  have kNl := kN.lt
                  try simp at kNc0
                  try simp at kNc1
                  try simp at kNf0
                  try simp at kNf1
                  try simp at kNl
                  have hNow := (hHeld.2.2)
                  go_simp
                  refine hK.out _ _ ?_ (fun hHeld' => ?_)
                  · (refine (fun (hbel : Below W0.heap.size W0 _) => ⟨kP6.below hbel kP6.lt, kX6.below hbel kX6.lt, hbel⟩) ?_; repeat' (first | with_reducible exact hNow | with_reducible exact hOld | with_reducible refine Below.setCell ?_ (by (try simp) <;> omega) _ | with_reducible refine Below.alloc ?_ (by (try simp) <;> omega) _))
                  clear hK K
                  change RestIn _ _ _ _ _ _ _ 1 #[true, true, true, true, true, true, true, true, true, true, true, true, true, false] _ _
                  try simp only [Act.put, List.setIfInBounds_toArray, List.set_cons_zero, List.set_cons_succ, List.getElem_toArray, List.getElem_cons_zero, List.getElem_cons_succ]
                  clear hHeld
                  have hHeld := hHeld'
                  clear hHeld'
                  have hNow := (hHeld.2.2)
                  refine rest_take (i := 13) (v := _) all_wide (noDefers_of (by kernel_rfl)) rfl (by kernel_rfl) (by kernel_rfl) (by kernel_rfl) (fun _ _ _ h => h) (Or.inl ⟨by rfl, by intro w hSw; clear hSw; go_simp; first | done | with_reducible rfl⟩) hHeld ?_
                  change RestIn _ _ _ _ _ _ _ 0 #[true, true, true, true, true, true, true, true, true, true, true, true, true, true] _ _
                  try simp only [Act.put, List.setIfInBounds_toArray, List.set_cons_zero, List.set_cons_succ, List.getElem_toArray, List.getElem_cons_zero, List.getElem_cons_succ]
                  refine rest_done (by kernel_rfl) ?_
                  go_wp2_with fail
                  go_meet
                  first | exact ⟨_, A5, c5, rfl, rfl, Blk.new _ _ _, hsf.to ((Below.refl _ _).alloc (Nat.le_refl _) _), fun ad e h => ⟨hq4 ad e, hsf.ne ad e h⟩, hHeld.2.1, hz7, hHeld.2.2⟩ | exact ⟨_, A5, c5, rfl, rfl, (kN.set_ 0 (.int .i64 whb)).set_ 1 (.slice A5 psb.length c5), ((hsf.set_far (p := ⟨_, 0, none⟩) (fun ad e _ => hfar ad e) _).set_far (p := ⟨_, 1, none⟩) (fun ad e _ => hfar ad e) _).more (by simp), fun ad e _ => ⟨hq4 ad e, hfar ad e⟩, hHeld.2.1, (by first | exact kNg | exact Nat.le_refl _ | omega), hHeld.2.2⟩
                exact AllRest.nil
              refine AllRest.cons rfl (fun K hK => ?_) ?_
              · have kNg := (hHeld.2.2).size
                have kN := blk_new_of (hHeld.2.2) 55 #[.int .i64 0, .slice none 0 0]
                have hOld := (hHeld.2.2)
                go_simp
                refine hK.out _ _ ?_ (fun hHeld' => ?_)
                · exact (fun (hbel : Below W0.heap.size W0 _) => ⟨kP6.below hbel kP6.lt, kX6.below hbel kX6.lt, hbel⟩) ((hHeld.2.2).alloc (hHeld.2.2).size _)
                clear hK K
                change RestIn _ _ _ _ _ _ _ 8 #[true, true, true, false, true, true, false, false, false, false, false, true, false, false] _ _
                try simp only [Act.put, List.setIfInBounds_toArray, List.set_cons_zero, List.set_cons_succ, List.getElem_toArray, List.getElem_cons_zero, List.getElem_cons_succ]
                clear hHeld
                have hHeld := hHeld'
                clear hHeld'
                have hNow := (hHeld.2.2)
                try simp at kNg
                try have hs2 := hs2.to ((Below.refl _ _).alloc (Nat.le_refl _) (.cells #[.int .i64 0, .slice none 0 0] 55))
                try have hs3 := hs3.to ((Below.refl _ _).alloc (Nat.le_refl _) (.cells #[.int .i64 0, .slice none 0 0] 55))
                refine rest_ready (rs := [3]) (by kernel_rfl) (by simp) ?_
                refine AllRest.cons rfl (fun K hK => ?_) AllRest.nil
                have hNow := (hHeld.2.2)
                clear hLast
                have hLast := hNow
                go_simp
                gi_wp2_with ((refine ⟨trivial, ?_⟩; gi_at_call 18; (refine (callsIn_wide.2 (HTent.out _ (ht6.to hNow))).mono ?_); rintro e wn ⟨A4, c4, rfl, hs3, _, _, hb⟩))
                refine hK.out _ _ ?_ (fun hHeld' => ?_)
                · exact ⟨hHeld.1.below hb hHeld.1.lt, hHeld.2.1.below hb hHeld.2.1.lt, (hHeld.2.2).trans (hb.mono (hHeld.2.2).size)⟩
                clear hK K
                change RestIn _ _ _ _ _ _ _ 7 #[true, true, true, true, true, true, false, false, false, false, false, true, false, false] _ _
                try simp only [Act.put, List.setIfInBounds_toArray, List.set_cons_zero, List.set_cons_succ, List.getElem_toArray, List.getElem_cons_zero, List.getElem_cons_succ]
                clear hHeld
                have hHeld := hHeld'
                clear hHeld'
                have hNow := (hHeld.2.2)
                have hs2 := hs2.to hb
                try have kN := kN.below hb kN.lt
                refine rest_ready (rs := [6]) (by kernel_rfl) (by simp) ?_
                refine AllRest.cons rfl (fun K hK => ?_) AllRest.nil
                have hNow := (hHeld.2.2)
                clear hLast
                have hLast := hNow
                go_simp
                gi_wp2_with ((refine ⟨trivial, ?_⟩; gi_at_call 25; (with_reducible refine (callsIn_wide.2 (Vector_any push _)).mono ?_); rintro e wn ⟨rfl, hb⟩))
                refine hK.out _ _ ?_ (fun hHeld' => ?_)
                · exact ⟨hHeld.1.below hb hHeld.1.lt, hHeld.2.1.below hb hHeld.2.1.lt, (hHeld.2.2).trans (hb.mono (hHeld.2.2).size)⟩
                clear hK K
                change RestIn _ _ _ _ _ _ _ 6 #[true, true, true, true, true, true, true, false, false, false, false, true, false, false] _ _
                try simp only [Act.put, List.setIfInBounds_toArray, List.set_cons_zero, List.set_cons_succ, List.getElem_toArray, List.getElem_cons_zero, List.getElem_cons_succ]
                clear hHeld
                have hHeld := hHeld'
                clear hHeld'
                have hNow := (hHeld.2.2)
                have hs2 := hs2.to hb
                have hs3 := hs3.to hb
                try have kN := kN.below hb kN.lt
                refine rest_ready (rs := [7]) (by kernel_rfl) (by simp) ?_
                refine AllRest.cons rfl (fun K hK => ?_) AllRest.nil
                have hNow := (hHeld.2.2)
                clear hLast
                have hLast := hNow
                go_simp
                gi_wp2_with ((refine ⟨trivial, ?_⟩; gi_at_call 24; (with_reducible refine (callsIn_wide.2 (HBal.out _ A3 c3 A4 c4 hs2 hs3)).mono ?_); rintro e wn ⟨A5, c5, rfl, hsf, hq3, hb⟩))
                refine hK.out _ _ ?_ (fun hHeld' => ?_)
                · exact ⟨hHeld.1.below hb hHeld.1.lt, hHeld.2.1.below hb hHeld.2.1.lt, (hHeld.2.2).trans (hb.mono (hHeld.2.2).size)⟩
                clear hK K
                change RestIn _ _ _ _ _ _ _ 5 #[true, true, true, true, true, true, true, true, false, false, false, true, false, false] _ _
                try simp only [Act.put, List.setIfInBounds_toArray, List.set_cons_zero, List.set_cons_succ, List.getElem_toArray, List.getElem_cons_zero, List.getElem_cons_succ]
                clear hHeld
                have hHeld := hHeld'
                clear hHeld'
                have hNow := (hHeld.2.2)
                have hz7 := hNow.size
                have hq4 := fun (ad : Addr) (e : A5 = some ad) => Nat.le_trans hLast.size (hq3 ad e)
                try have hfar := fun (ad : Addr) (e : A5 = some ad) => Nat.ne_of_gt (Nat.lt_of_lt_of_le kN.lt (hq3 ad e))
                try have kN := kN.below hb kN.lt
                refine rest_take (i := 8) (v := _) all_wide (noDefers_of (by kernel_rfl)) rfl (by kernel_rfl) (by kernel_rfl) (by kernel_rfl) (fun _ _ _ h => h) (Or.inl ⟨by rfl, by intro w hSw; clear hSw; go_simp; first | done | with_reducible rfl⟩) hHeld ?_
                change RestIn _ _ _ _ _ _ _ 4 #[true, true, true, true, true, true, true, true, true, false, false, true, false, false] _ _
                try simp only [Act.put, List.setIfInBounds_toArray, List.set_cons_zero, List.set_cons_succ, List.getElem_toArray, List.getElem_cons_zero, List.getElem_cons_succ]
                refine rest_take (i := 9) (v := _) all_wide (noDefers_of (by kernel_rfl)) rfl (by kernel_rfl) (by kernel_rfl) (by kernel_rfl) (fun _ _ _ h => h) (Or.inl ⟨by rfl, by intro w hSw; clear hSw; go_simp; first | done | with_reducible rfl⟩) hHeld ?_
                change RestIn _ _ _ _ _ _ _ 3 #[true, true, true, true, true, true, true, true, true, true, false, true, false, false] _ _
                try simp only [Act.put, List.setIfInBounds_toArray, List.set_cons_zero, List.set_cons_succ, List.getElem_toArray, List.getElem_cons_zero, List.getElem_cons_succ]
                refine rest_take (i := 10) (v := _) all_wide (noDefers_of (by kernel_rfl)) rfl (by kernel_rfl) (by kernel_rfl) (by kernel_rfl) (fun _ _ _ h => h) (Or.inl ⟨by rfl, by intro w hSw; clear hSw; go_simp; first | done | with_reducible rfl⟩) hHeld ?_
                change RestIn _ _ _ _ _ _ _ 2 #[true, true, true, true, true, true, true, true, true, true, true, true, false, false] _ _
                try simp only [Act.put, List.setIfInBounds_toArray, List.set_cons_zero, List.set_cons_succ, List.getElem_toArray, List.getElem_cons_zero, List.getElem_cons_succ]
                refine rest_ready (rs := [12]) (by kernel_rfl) (by simp) ?_
                refine AllRest.cons rfl (fun K hK => ?_) AllRest.nil
                have kNc0 := kN.cell 0
                have kNc1 := kN.cell 1
                have kNf0 := kN.frozen 0
                have kNf1 := kN.frozen 1
                have kNl := kN.lt
                try simp at kNc0
                try simp at kNc1
                try simp at kNf0
                try simp at kNf1
                try simp at kNl
                have hNow := (hHeld.2.2)
                go_simp
                refine hK.out _ _ ?_ (fun hHeld' => ?_)
                · (refine (fun (hbel : Below W0.heap.size W0 _) => ⟨kP6.below hbel kP6.lt, kX6.below hbel kX6.lt, hbel⟩) ?_; repeat' (first | with_reducible exact hNow | with_reducible exact hOld | with_reducible refine Below.setCell ?_ (by (try simp) <;> omega) _ | with_reducible refine Below.alloc ?_ (by (try simp) <;> omega) _))
                clear hK K
                change RestIn _ _ _ _ _ _ _ 1 #[true, true, true, true, true, true, true, true, true, true, true, true, true, false] _ _
                try simp only [Act.put, List.setIfInBounds_toArray, List.set_cons_zero, List.set_cons_succ, List.getElem_toArray, List.getElem_cons_zero, List.getElem_cons_succ]
                clear hHeld
                have hHeld := hHeld'
                clear hHeld'
                have hNow := (hHeld.2.2)
                refine rest_take (i := 13) (v := _) all_wide (noDefers_of (by kernel_rfl)) rfl (by kernel_rfl) (by kernel_rfl) (by kernel_rfl) (fun _ _ _ h => h) (Or.inl ⟨by rfl, by intro w hSw; clear hSw; go_simp; first | done | with_reducible rfl⟩) hHeld ?_
                change RestIn _ _ _ _ _ _ _ 0 #[true, true, true, true, true, true, true, true, true, true, true, true, true, true] _ _
                try simp only [Act.put, List.setIfInBounds_toArray, List.set_cons_zero, List.set_cons_succ, List.getElem_toArray, List.getElem_cons_zero, List.getElem_cons_succ]
                refine rest_done (by kernel_rfl) ?_
                go_wp2_with fail
                go_meet
                first | exact ⟨_, A5, c5, rfl, rfl, Blk.new _ _ _, hsf.to ((Below.refl _ _).alloc (Nat.le_refl _) _), fun ad e h => ⟨hq4 ad e, hsf.ne ad e h⟩, hHeld.2.1, hz7, hHeld.2.2⟩ | exact ⟨_, A5, c5, rfl, rfl, (kN.set_ 0 (.int .i64 whb)).set_ 1 (.slice A5 psb.length c5), ((hsf.set_far (p := ⟨_, 0, none⟩) (fun ad e _ => hfar ad e) _).set_far (p := ⟨_, 1, none⟩) (fun ad e _ => hfar ad e) _).more (by simp), fun ad e _ => ⟨hq4 ad e, hfar ad e⟩, hHeld.2.1, (by first | exact kNg | exact Nat.le_refl _ | omega), hHeld.2.2⟩
              exact AllRest.nil
            refine AllRest.cons rfl (fun K hK => ?_) ?_
            · have kNg := (hHeld.2.2).size
              have kN := blk_new_of (hHeld.2.2) 55 #[.int .i64 0, .slice none 0 0]
              have hOld := (hHeld.2.2)
              go_simp
              refine hK.out _ _ ?_ (fun hHeld' => ?_)
              · exact (fun (hbel : Below W0.heap.size W0 _) => ⟨kP6.below hbel kP6.lt, kX6.below hbel kX6.lt, hbel⟩) ((hHeld.2.2).alloc (hHeld.2.2).size _)
              clear hK K
              change RestIn _ _ _ _ _ _ _ 9 #[true, false, true, false, true, true, false, false, false, false, false, true, false, false] _ _
              try simp only [Act.put, List.setIfInBounds_toArray, List.set_cons_zero, List.set_cons_succ, List.getElem_toArray, List.getElem_cons_zero, List.getElem_cons_succ]
              clear hHeld
              have hHeld := hHeld'
              clear hHeld'
              have hNow := (hHeld.2.2)
              try simp at kNg
              try have hs2 := hs2.to ((Below.refl _ _).alloc (Nat.le_refl _) (.cells #[.int .i64 0, .slice none 0 0] 55))
              try have hs3 := hs3.to ((Below.refl _ _).alloc (Nat.le_refl _) (.cells #[.int .i64 0, .slice none 0 0] 55))
              refine rest_ready (rs := [1]) (by kernel_rfl) (by simp) ?_
              refine AllRest.cons rfl (fun K hK => ?_) AllRest.nil
              have hNow := (hHeld.2.2)
              clear hLast
              have hLast := hNow
              go_simp
              gi_wp2_with ((refine ⟨trivial, ?_⟩; gi_at_call 17; (refine (callsIn_wide.2 (HTests.out _ (hr6.to hNow))).mono ?_); rintro e wn ⟨A3, c3, rfl, hs2, _, _, hb⟩))
              refine hK.out _ _ ?_ (fun hHeld' => ?_)
              · exact ⟨hHeld.1.below hb hHeld.1.lt, hHeld.2.1.below hb hHeld.2.1.lt, (hHeld.2.2).trans (hb.mono (hHeld.2.2).size)⟩
              clear hK K
              change RestIn _ _ _ _ _ _ _ 8 #[true, true, true, false, true, true, false, false, false, false, false, true, false, false] _ _
              try simp only [Act.put, List.setIfInBounds_toArray, List.set_cons_zero, List.set_cons_succ, List.getElem_toArray, List.getElem_cons_zero, List.getElem_cons_succ]
              clear hHeld
              have hHeld := hHeld'
              clear hHeld'
              have hNow := (hHeld.2.2)
              try have kN := kN.below hb kN.lt
              refine rest_ready (rs := [3]) (by kernel_rfl) (by simp) ?_
              refine AllRest.cons rfl (fun K hK => ?_) AllRest.nil
              have hNow := (hHeld.2.2)
              clear hLast
              have hLast := hNow
              go_simp
              gi_wp2_with ((refine ⟨trivial, ?_⟩; gi_at_call 18; (refine (callsIn_wide.2 (HTent.out _ (ht6.to hNow))).mono ?_); rintro e wn ⟨A4, c4, rfl, hs3, _, _, hb⟩))
              refine hK.out _ _ ?_ (fun hHeld' => ?_)
              · exact ⟨hHeld.1.below hb hHeld.1.lt, hHeld.2.1.below hb hHeld.2.1.lt, (hHeld.2.2).trans (hb.mono (hHeld.2.2).size)⟩
              clear hK K
              change RestIn _ _ _ _ _ _ _ 7 #[true, true, true, true, true, true, false, false, false, false, false, true, false, false] _ _
              try simp only [Act.put, List.setIfInBounds_toArray, List.set_cons_zero, List.set_cons_succ, List.getElem_toArray, List.getElem_cons_zero, List.getElem_cons_succ]
              clear hHeld
              have hHeld := hHeld'
              clear hHeld'
              have hNow := (hHeld.2.2)
              have hs2 := hs2.to hb
              try have kN := kN.below hb kN.lt
              refine rest_ready (rs := [6]) (by kernel_rfl) (by simp) ?_
              refine AllRest.cons rfl (fun K hK => ?_) AllRest.nil
              have hNow := (hHeld.2.2)
              clear hLast
              have hLast := hNow
              go_simp
              gi_wp2_with ((refine ⟨trivial, ?_⟩; gi_at_call 25; (with_reducible refine (callsIn_wide.2 (Vector_any push _)).mono ?_); rintro e wn ⟨rfl, hb⟩))
              refine hK.out _ _ ?_ (fun hHeld' => ?_)
              · exact ⟨hHeld.1.below hb hHeld.1.lt, hHeld.2.1.below hb hHeld.2.1.lt, (hHeld.2.2).trans (hb.mono (hHeld.2.2).size)⟩
              clear hK K
              change RestIn _ _ _ _ _ _ _ 6 #[true, true, true, true, true, true, true, false, false, false, false, true, false, false] _ _
              try simp only [Act.put, List.setIfInBounds_toArray, List.set_cons_zero, List.set_cons_succ, List.getElem_toArray, List.getElem_cons_zero, List.getElem_cons_succ]
              clear hHeld
              have hHeld := hHeld'
              clear hHeld'
              have hNow := (hHeld.2.2)
              have hs2 := hs2.to hb
              have hs3 := hs3.to hb
              try have kN := kN.below hb kN.lt
              refine rest_ready (rs := [7]) (by kernel_rfl) (by simp) ?_
              refine AllRest.cons rfl (fun K hK => ?_) AllRest.nil
              have hNow := (hHeld.2.2)
              clear hLast
              have hLast := hNow
              go_simp
              gi_wp2_with ((refine ⟨trivial, ?_⟩; gi_at_call 24; (with_reducible refine (callsIn_wide.2 (HBal.out _ A3 c3 A4 c4 hs2 hs3)).mono ?_); rintro e wn ⟨A5, c5, rfl, hsf, hq3, hb⟩))
              refine hK.out _ _ ?_ (fun hHeld' => ?_)
              · exact ⟨hHeld.1.below hb hHeld.1.lt, hHeld.2.1.below hb hHeld.2.1.lt, (hHeld.2.2).trans (hb.mono (hHeld.2.2).size)⟩
              clear hK K
              change RestIn _ _ _ _ _ _ _ 5 #[true, true, true, true, true, true, true, true, false, false, false, true, false, false] _ _
              try simp only [Act.put, List.setIfInBounds_toArray, List.set_cons_zero, List.set_cons_succ, List.getElem_toArray, List.getElem_cons_zero, List.getElem_cons_succ]
              clear hHeld
              have hHeld := hHeld'
              clear hHeld'
              have hNow := (hHeld.2.2)
              have hz7 := hNow.size
              have hq4 := fun (ad : Addr) (e : A5 = some ad) => Nat.le_trans hLast.size (hq3 ad e)
              try have hfar := fun (ad : Addr) (e : A5 = some ad) => Nat.ne_of_gt (Nat.lt_of_lt_of_le kN.lt (hq3 ad e))
              try have kN := kN.below hb kN.lt
              refine rest_take (i := 8) (v := _) all_wide (noDefers_of (by kernel_rfl)) rfl (by kernel_rfl) (by kernel_rfl) (by kernel_rfl) (fun _ _ _ h => h) (Or.inl ⟨by rfl, by intro w hSw; clear hSw; go_simp; first | done | with_reducible rfl⟩) hHeld ?_
              change RestIn _ _ _ _ _ _ _ 4 #[true, true, true, true, true, true, true, true, true, false, false, true, false, false] _ _
              try simp only [Act.put, List.setIfInBounds_toArray, List.set_cons_zero, List.set_cons_succ, List.getElem_toArray, List.getElem_cons_zero, List.getElem_cons_succ]
              refine rest_take (i := 9) (v := _) all_wide (noDefers_of (by kernel_rfl)) rfl (by kernel_rfl) (by kernel_rfl) (by kernel_rfl) (fun _ _ _ h => h) (Or.inl ⟨by rfl, by intro w hSw; clear hSw; go_simp; first | done | with_reducible rfl⟩) hHeld ?_
              change RestIn _ _ _ _ _ _ _ 3 #[true, true, true, true, true, true, true, true, true, true, false, true, false, false] _ _
              try simp only [Act.put, List.setIfInBounds_toArray, List.set_cons_zero, List.set_cons_succ, List.getElem_toArray, List.getElem_cons_zero, List.getElem_cons_succ]
              refine rest_take (i := 10) (v := _) all_wide (noDefers_of (by kernel_rfl)) rfl (by kernel_rfl) (by kernel_rfl) (by kernel_rfl) (fun _ _ _ h => h) (Or.inl ⟨by rfl, by intro w hSw; clear hSw; go_simp; first | done | with_reducible rfl⟩) hHeld ?_
              change RestIn _ _ _ _ _ _ _ 2 #[true, true, true, true, true, true, true, true, true, true, true, true, false, false] _ _
              try simp only [Act.put, List.setIfInBounds_toArray, List.set_cons_zero, List.set_cons_succ, List.getElem_toArray, List.getElem_cons_zero, List.getElem_cons_succ]
              refine rest_ready (rs := [12]) (by kernel_rfl) (by simp) ?_
              refine AllRest.cons rfl (fun K hK => ?_) AllRest.nil
              have kNc0 := kN.cell 0
              have kNc1 := kN.cell 1
              have kNf0 := kN.frozen 0
              have kNf1 := kN.frozen 1
              have kNl := kN.lt
              try simp at kNc0
              try simp at kNc1
              try simp at kNf0
              try simp at kNf1
              try simp at kNl
              have hNow := (hHeld.2.2)
              go_simp
              refine hK.out _ _ ?_ (fun hHeld' => ?_)
              · (refine (fun (hbel : Below W0.heap.size W0 _) => ⟨kP6.below hbel kP6.lt, kX6.below hbel kX6.lt, hbel⟩) ?_; repeat' (first | with_reducible exact hNow | with_reducible exact hOld | with_reducible refine Below.setCell ?_ (by (try simp) <;> omega) _ | with_reducible refine Below.alloc ?_ (by (try simp) <;> omega) _))
              clear hK K
              change RestIn _ _ _ _ _ _ _ 1 #[true, true, true, true, true, true, true, true, true, true, true, true, true, false] _ _
              try simp only [Act.put, List.setIfInBounds_toArray, List.set_cons_zero, List.set_cons_succ, List.getElem_toArray, List.getElem_cons_zero, List.getElem_cons_succ]
              clear hHeld
              have hHeld := hHeld'
              clear hHeld'
              have hNow := (hHeld.2.2)
              refine rest_take (i := 13) (v := _) all_wide (noDefers_of (by kernel_rfl)) rfl (by kernel_rfl) (by kernel_rfl) (by kernel_rfl) (fun _ _ _ h => h) (Or.inl ⟨by rfl, by intro w hSw; clear hSw; go_simp; first | done | with_reducible rfl⟩) hHeld ?_
              change RestIn _ _ _ _ _ _ _ 0 #[true, true, true, true, true, true, true, true, true, true, true, true, true, true] _ _
              try simp only [Act.put, List.setIfInBounds_toArray, List.set_cons_zero, List.set_cons_succ, List.getElem_toArray, List.getElem_cons_zero, List.getElem_cons_succ]
              refine rest_done (by kernel_rfl) ?_
              go_wp2_with fail
              go_meet
              first | exact ⟨_, A5, c5, rfl, rfl, Blk.new _ _ _, hsf.to ((Below.refl _ _).alloc (Nat.le_refl _) _), fun ad e h => ⟨hq4 ad e, hsf.ne ad e h⟩, hHeld.2.1, hz7, hHeld.2.2⟩ | exact ⟨_, A5, c5, rfl, rfl, (kN.set_ 0 (.int .i64 whb)).set_ 1 (.slice A5 psb.length c5), ((hsf.set_far (p := ⟨_, 0, none⟩) (fun ad e _ => hfar ad e) _).set_far (p := ⟨_, 1, none⟩) (fun ad e _ => hfar ad e) _).more (by simp), fun ad e _ => ⟨hq4 ad e, hfar ad e⟩, hHeld.2.1, (by first | exact kNg | exact Nat.le_refl _ | omega), hHeld.2.2⟩
            exact AllRest.nil
        case rest =>
          as_aux_lemma =>
            obtain ⟨G, A5, c5, rfl, rfl, kG, hsf, hfr, kX7, hG, hN⟩ := hcut
            have hBB := hB6.trans (hN.mono hB6.size)
            have z0 := kX7.cell 0; have zf0 := kX7.frozen 0; have z1 := kX7.cell 1; have zf1 := kX7.frozen 1; have zl := kX7.lt; simp at z0 z1
            rcases hcases with ⟨rfl, rfl⟩ | ⟨rfl, hps⟩
            · have g0 := kG.cell 0; have gf0 := kG.frozen 0; have g1 := kG.cell 1; have gf1 := kG.frozen 1; have gl := kG.lt; simp at g0 g1
              go_wp2_with (go_at_call 26; refine (in_any _ _ _ _).mono ?_; rintro e w5 ⟨rfl, rfl⟩)
              go_meet
              obtain ⟨b1, b2, b3⟩ := box_put (wh := whb) (c5 := c5) kX7 hsf.1 (fun ad e h => absurd rfl h) hBB hX
              exact ⟨whb, [], A5, c5, rfl, by simp, b1, b2, b3⟩
            · by_cases hne : psb = []
              · subst hne
                have g0 := kG.cell 0; have gf0 := kG.frozen 0; have g1 := kG.cell 1; have gf1 := kG.frozen 1; have gl := kG.lt; simp at g0 g1
                go_wp2_with (go_at_call 26; refine (in_any _ _ _ _).mono ?_; rintro e w5 ⟨rfl, rfl⟩)
                go_meet
                obtain ⟨b1, b2, b3⟩ := box_put (wh := whb) (c5 := c5) kX7 hsf.1 (fun ad e h => absurd rfl h) hBB hX
                exact ⟨whb, [], A5, c5, rfl, by simp, b1, b2, b3⟩
              · have hlen : 0 < psb.length := List.length_pos_iff.2 hne
                have d1 : decide ((0 : Int) < (psb.length : Int)) = true := decide_eq_true (by omega)
                have d1' : decide (0 < psb.length) = true := decide_eq_true hlen
                have g0 := kG.cell 0; have gf0 := kG.frozen 0; have g1 := kG.cell 1; have gf1 := kG.frozen 1; have gl := kG.lt; simp at g0 g1
                cases hby : inB by_ (-1000) 1000
                · have HI := Lib.hid (fun (W : World) => hby ▸ in_any by_ (-1000) 1000 W)
                  go_wp2_with (go_at_call 26; refine (HI.out _).mono ?_; rintro e w5 ⟨rfl, rfl⟩)
                  go_meet
                  obtain ⟨b1, b2, b3⟩ := box_put (wh := whb) (c5 := c5) kX7 hsf.1 (fun ad e h => by have := (hfr ad e h).1; omega) hBB hX
                  exact ⟨whb, psb, A5, c5, rfl, by omega, b1, b2, b3⟩
                · as_aux_lemma =>
                    have HI := Lib.hid (fun (W : World) => hby ▸ in_any by_ (-1000) 1000 W)
                    obtain ⟨g, cs, hA5, hgl, kg⟩ := hsf.2.resolve_left hne
                    subst hA5
                    obtain ⟨hg1, hg2⟩ := hfr _ rfl hne
                    simp only at hg1 hg2
                    have hatb := Hat.out
                    obtain ⟨k, hk, hkl⟩ : ∃ k : Nat, at_.tmod (psb.length : Int) = (k : Int) ∧ k < psb.length := ⟨at_.toNat % psb.length, by
                      conv => lhs; rw [← Int.toNat_of_nonneg hatb.1]
                      exact (Int.ofNat_tmod _ _).symm, Nat.mod_lt _ hlen⟩
                    obtain ⟨p, hp⟩ := getElem?_lt hkl
                    obtain ⟨hp1, hp2⟩ := hps p (List.mem_of_getElem? hp)
                    have hby' := inB_true.1 hby
                    obtain ⟨b, off, e, _, hc⟩ := hsf.1.at_ hp
                    cases e
                    have ck := hc 0 _ rfl
                    simp only [Nat.zero_add, Nat.mul_one, Nat.add_zero] at ck
                    clear hc
                    have cf := kg.frozen k
                    have cl := kg.lt
                    have v1 : IntKind.i64.wrap at_ = at_ := IntWalk.i64_in _ (by omega)
                    have v2 : IntKind.i64.wrap (k : Int) = (k : Int) := IntWalk.i64_in _ (by omega)
                    have v3 : IntKind.i64.wrap (p + by_) = p + by_ := IntWalk.i64_in _ (by omega)
                    have e1 : (psb.length : Int) ≠ 0 := by omega
                    have e0 : ((psb.length : Int) == 0) = false := beq_eq_false_iff_ne.2 e1
                    have i1 : (k : Int) < (psb.length : Int) := by omega
                    have Hp := Lib.hid hp
                    clear hp
                    go_upto_region 8 with (go_at_call 26; refine (HI.out _).mono ?_; rintro e w5 ⟨rfl, rfl⟩)
                    refine wp_region_still_tail 13 (by kernel_rfl) (by kernel_rfl) ?_
                    change wpStill _ _ (World.drew _) _ _ _
                    simp only [List.take_succ_cons, List.take_zero, List.drop_succ_cons, List.drop_zero]
                    repeat still_step
                    refine wpStill_nil ?_
                    change wpList _ _ _ _ _ (World.drew _)
                    go_upto_region 9 with fail
                    have kG9 := (kG.far (p := ⟨g, k, none⟩) (Ne.symm hg2) (.int .i64 (p + by_))).drew
                    have kX9 := (kX7.far (p := ⟨g, k, none⟩) (by simp only; omega) (.int .i64 (p + by_))).drew
                    have hr9 := RS.put hsf.1 kg hkl (p + by_)
                    have hB9 := (hBB.setCell (p := ⟨g, k, none⟩) (by have := hB6.size; dsimp only; omega) (.int .i64 (p + by_))).drew
                    refine name_world (motive := fun W => Code.wp _ _ _ _ W) _ ?_
                    intro W9 hW9
                    have kG9 := hW9.blk kG9
                    have kX9 := hW9.blk kX9
                    have hr9 : RS encI 1 W9 W9.heap.size (some ⟨g, 0, none⟩) (psb.set k (p + by_)) := by rw [hW9.eq.out]; exact hr9
                    have hB9 := hW9.below hB9
                    clear hW9 z0 z1 g0 g1 zf0 zf1 gf0 gf1 zl gl ck cf cl kG kX7 kg hsf
                    have y0 := kG9.cell 0; have yf0 := kG9.frozen 0; have y1 := kG9.cell 1; have yf1 := kG9.frozen 1; have yl := kG9.lt; simp at y0 y1
                    have r0 := kX9.cell 0; have rf0 := kX9.frozen 0; have r1 := kX9.cell 1; have rf1 := kX9.frozen 1; have rl := kX9.lt; simp at r0 r1
                    go_wp2_with fail
                    go_meet
                    obtain ⟨b1, b2, b3⟩ := box_put (wh := whb) (c5 := c5) kX9 hr9 (fun ad e h => by cases e; simp only; omega) hB9 hX
                    simp only [List.length_set] at b1 b2 b3
                    refine ⟨whb, psb.set k (p + by_), some ⟨g, 0, none⟩, c5, rfl, by rw [List.length_set]; omega, ?_, b2, b3⟩
                    rw [List.length_set]
                    exact b1
    case rest =>
      obtain ⟨whx, psx, A11, c11, rfl, h12x, kX2, hrx2, hBx2⟩ := hcut
      obtain ⟨bw, bb, hPB, hPW, hcs⟩ := proves_both l t head push way whx psx hlm htm (by unfold maxLen; omega)
      have HPB := Lib.hid hPB
      have HPW := Lib.hid hPW
      have HCS := Lib.hid hcs
      have hmx : Try.prog.follows .mixedOrders = true := by kernel_rfl
      clear hPB hPW hcs y0 y1
      go_upto_region 11 with fail
      go_upto_if 93 with fail
      go_cut [23, 24] (fun s23 s24 wx => s23 = .bool bw ∧ s24 = .bool bb ∧ Blk wx X 55 #[.int .i64 whx, .slice A11 psx.length c11] ∧ RS encI 1 wx wx.heap.size A11 psx ∧ Below Wa.heap.size Wa wx)
      case first =>
        as_aux_lemma =>
          cases rt
          · have hz0 : headE l t head push.corner ≠ 0 := by rw [Hz.out]; simpa using Hrt.out
            rcases HCS.out with ⟨_, rfl, rfl⟩ | ⟨h, _⟩
            · go_wp2_with fail
              go_meet
              exact ⟨rfl, rfl, kX2, hrx2, hBx2⟩
            · exact absurd h hz0
          · have hz0 : headE l t head push.corner = 0 := by rw [Hz.out]; simpa using Hrt.out
            rcases HCS.out with ⟨h, _⟩ | ⟨_, k, x, f, rfl, hx, hff, hbw, hbb⟩
            · exact absurd hz0 h
            obtain ⟨hin, hok, hhk, har, hfl, hfv⟩ := asked_ok hz0 hx hff
            have ppb := (Vec.corner_iff.1 hin).times (n := x.area) (q := 1000) (by omega)
            have s1 : Sm (x.area * push.x) := by have := ppb.1; simp only [Vec.times] at this; unfold Sm; omega
            have s2 : Sm (x.area * push.y) := by have := ppb.2; simp only [Vec.times] at this; unfold Sm; omega
            have HFo : Hid (∀ (W : World) (A3 : Option Addr) (c3 : Nat), RS encT 4 W W.heap.size A l → RS encG 5 W W.heap.size A3 x.guys → Calls Try.prog 27 #[.slice A l.length c, .agg #[.int .i64 x.area, .int .i64 x.bears, .slice A3 x.guys.length c3]] W fun e w' => ∃ A1 c1, e = .returned (.slice A1 f.length c1) ∧ RS encV 2 w' w'.heap.size A1 f ∧ (∀ ad, A1 = some ad → W.heap.size ≤ ad.block) ∧ Below W.heap.size W w') := fun W A3 c3 h1 h2 => by
              subst hff
              refine (refForces_own A c l A3 c3 x W h1 hlm hok hhk h2).mono ?_
              rintro e w' ⟨A1, c1, rfl, h3, h4, h5⟩
              exact ⟨A1, c1, by rw [forcesM_length], h3, h4, h5⟩
            have HIW : Hid (∀ (W : World) (B : Option Addr) (b1 : Nat), RS encV 2 W W.heap.size B f → Calls Try.prog 29 #[.slice B f.length b1, .agg #[.int .i64 (push.times x.area).x, .int .i64 (push.times x.area).y], .agg #[.int .i64 way.x, .int .i64 way.y]] W fun e w' => e = .returned (.bool bw) ∧ Below W.heap.size W w') := fun W B b1 h => by rw [hbw]; exact refIsWeak_any B b1 f (push.times x.area) way W h (by omega) hfv (ppb.mono (by omega))
            have HIB : Hid (∀ (W : World) (B : Option Addr) (b1 : Nat) (B' : Option Addr) (b2 : Nat), RS encV 2 W W.heap.size B f → RS encI 1 W W.heap.size B' psx → Calls Try.prog 30 #[.slice B f.length b1, .agg #[.int .i64 (push.times x.area).x, .int .i64 (push.times x.area).y], .agg #[.int .i64 whx, .slice B' psx.length b2]] W fun e w' => e = .returned (.bool bb) ∧ Below W.heap.size W w') := fun W B b1 B' b2 h1 h2 => by rw [hbb]; exact refIsBalance_any B B' b1 b2 f (push.times x.area) whx psx W h1 hfl hfv (ppb.mono (by omega)) h2 (by unfold maxLen; omega)
            have hkt := lt_of_getElem? hx
            have hktI : (k : Int) < (t.length : Int) := by omega
            clear hin hok hhk har hfl hfv hff hbw hbb ppb hz0 HCS HPB HPW
            go_upto_region 12 with fail
            have kP12 := kP.below hBx2 kP.lt
            have kY12 := kY.below hBx2 kY.lt
            have hr12 := hr0.to hBx2
            have ht12 := ht0.to hBx2
            refine name_world (motive := fun W => Code.wp _ _ _ _ W) _ ?_
            intro W0 hW
            have kP12 := hW.blk kP12
            have kY12 := hW.blk kY12
            have kX12 := hW.blk kX2
            have hr12 := hr12.to (hW.below (Below.refl _ _))
            have ht12 := ht12.to (hW.below (Below.refl _ _))
            have hrx12 := hrx2.to (hW.below (Below.refl _ _))
            have hB12 := hW.below hBx2
            obtain ⟨b, off, A6, c6, rfl, hb6, x0, x1, x2, hg1, hg2, hg⟩ := ht12.at_ hx
            clear hW hx kP kY kX2 hr0 ht0 hrx2 hBx2
            go_cut [25, 26] (fun s25 s26 wx => ∃ (A7 : Option Addr) (c7 V : Nat), s25 = .slice A7 f.length c7 ∧ s26 = .pointer (some ⟨V, 0, none⟩) ∧ RS encV 2 wx wx.heap.size A7 f ∧ Blk wx V 49 #[.int .i64 (push.times x.area).x, .int .i64 (push.times x.area).y] ∧ Below W0.heap.size W0 wx)
            case first =>
              as_aux_lemma =>
                refine (wpIn_wide (n := 9)).1 ?_
                have hLast := trivial
                refine region_rest (S := (fun w' => Blk w' (w.heap.size) 49 #[.int .i64 push.x, .int .i64 push.y] ∧ w'.cell? ⟨b, off + k * 3, none⟩ = some (.int .i64 x.area) ∧ w'.cell? ⟨b, off + k * 3 + 1, none⟩ = some (.int .i64 x.bears) ∧ w'.cell? ⟨b, off + k * 3 + 2, none⟩ = some (.slice A6 x.guys.length c6) ∧ Below W0.heap.size W0 w')) hmx ?_ (fun hHeld => ?_)
                · exact ⟨kP12.drew, x0, x1, x2, (Below.refl W0.heap.size W0).drew⟩
                change RestIn _ _ _ _ _ _ _ 16 #[false, false, false, false, false, false, false, false, false, false, false, false, false, false, false, false] _ (World.drew _)
                refine rest_take (i := 0) (v := _) all_wide (noDefers_of (by kernel_rfl)) rfl (by kernel_rfl) (by kernel_rfl) (by kernel_rfl) (fun _ _ _ h => h) (Or.inl ⟨by rfl, by intro w hSw; clear hSw; go_simp; first | done | with_reducible rfl⟩) hHeld ?_
                change RestIn _ _ _ _ _ _ _ 15 #[true, false, false, false, false, false, false, false, false, false, false, false, false, false, false, false] _ _
                try simp only [Act.put, List.setIfInBounds_toArray, List.set_cons_zero, List.set_cons_succ, List.getElem_toArray, List.getElem_cons_zero, List.getElem_cons_succ]
                refine rest_take (i := 1) (v := _) all_wide (noDefers_of (by kernel_rfl)) rfl (by kernel_rfl) (by kernel_rfl) (by kernel_rfl) (fun _ _ _ h => h) (Or.inl ⟨by rfl, by intro w hSw; clear hSw; go_simp; first | done | with_reducible rfl⟩) hHeld ?_
                change RestIn _ _ _ _ _ _ _ 14 #[true, true, false, false, false, false, false, false, false, false, false, false, false, false, false, false] _ _
                try simp only [Act.put, List.setIfInBounds_toArray, List.set_cons_zero, List.set_cons_succ, List.getElem_toArray, List.getElem_cons_zero, List.getElem_cons_succ]
                refine rest_take (i := 2) (v := _) all_wide (noDefers_of (by kernel_rfl)) rfl (by kernel_rfl) (by kernel_rfl) (by kernel_rfl) (fun _ _ _ h => h) (Or.inl ⟨by rfl, by intro w hSw; clear hSw; go_simp; first | done | with_reducible rfl⟩) hHeld ?_
                change RestIn _ _ _ _ _ _ _ 13 #[true, true, true, false, false, false, false, false, false, false, false, false, false, false, false, false] _ _
                try simp only [Act.put, List.setIfInBounds_toArray, List.set_cons_zero, List.set_cons_succ, List.getElem_toArray, List.getElem_cons_zero, List.getElem_cons_succ]
                refine rest_take (i := 3) (v := _) all_wide (noDefers_of (by kernel_rfl)) rfl (by kernel_rfl) (by kernel_rfl) (by kernel_rfl) (fun _ _ _ h => h) (Or.inl ⟨by rfl, by intro w hSw; clear hSw; go_simp; first | done | with_reducible rfl⟩) hHeld ?_
                change RestIn _ _ _ _ _ _ _ 12 #[true, true, true, true, false, false, false, false, false, false, false, false, false, false, false, false] _ _
                try simp only [Act.put, List.setIfInBounds_toArray, List.set_cons_zero, List.set_cons_succ, List.getElem_toArray, List.getElem_cons_zero, List.getElem_cons_succ]
                refine rest_take (i := 4) (v := _) all_wide (noDefers_of (by kernel_rfl)) rfl (by kernel_rfl) (by kernel_rfl) (by kernel_rfl) (fun _ _ _ h => h) (Or.inl ⟨by rfl, by intro w hSw; (obtain ⟨q0, q1, q2, q3, _⟩ := hSw; have q0x0 := q0.cell 0; have q0x1 := q0.cell 1; simp at q0x0 q0x1); go_simp; first | done | with_reducible rfl⟩) hHeld ?_
                change RestIn _ _ _ _ _ _ _ 11 #[true, true, true, true, true, false, false, false, false, false, false, false, false, false, false, false] _ _
                try simp only [Act.put, List.setIfInBounds_toArray, List.set_cons_zero, List.set_cons_succ, List.getElem_toArray, List.getElem_cons_zero, List.getElem_cons_succ]
                refine rest_take (i := 6) (v := _) all_wide (noDefers_of (by kernel_rfl)) rfl (by kernel_rfl) (by kernel_rfl) (by kernel_rfl) (fun _ _ _ h => h) (Or.inl ⟨by rfl, by intro w hSw; (obtain ⟨q0, q1, q2, q3, _⟩ := hSw; have q0x0 := q0.cell 0; have q0x1 := q0.cell 1; simp at q0x0 q0x1); go_simp; first | done | with_reducible rfl⟩) hHeld ?_
                change RestIn _ _ _ _ _ _ _ 10 #[true, true, true, true, true, false, true, false, false, false, false, false, false, false, false, false] _ _
                try simp only [Act.put, List.setIfInBounds_toArray, List.set_cons_zero, List.set_cons_succ, List.getElem_toArray, List.getElem_cons_zero, List.getElem_cons_succ]
                refine rest_take (i := 7) (v := _) all_wide (noDefers_of (by kernel_rfl)) rfl (by kernel_rfl) (by kernel_rfl) (by kernel_rfl) (fun _ _ _ h => h) (Or.inl ⟨by rfl, by intro w hSw; clear hSw; go_simp; first | done | with_reducible rfl⟩) hHeld ?_
                change RestIn _ _ _ _ _ _ _ 9 #[true, true, true, true, true, false, true, true, false, false, false, false, false, false, false, false] _ _
                try simp only [Act.put, List.setIfInBounds_toArray, List.set_cons_zero, List.set_cons_succ, List.getElem_toArray, List.getElem_cons_zero, List.getElem_cons_succ]
                refine rest_take (i := 8) (v := _) all_wide (noDefers_of (by kernel_rfl)) rfl (by kernel_rfl) (by kernel_rfl) (by kernel_rfl) (fun _ _ _ h => h) (Or.inl ⟨by rfl, by intro w hSw; clear hSw; go_simp; first | done | with_reducible rfl⟩) hHeld ?_
                change RestIn _ _ _ _ _ _ _ 8 #[true, true, true, true, true, false, true, true, true, false, false, false, false, false, false, false] _ _
                try simp only [Act.put, List.setIfInBounds_toArray, List.set_cons_zero, List.set_cons_succ, List.getElem_toArray, List.getElem_cons_zero, List.getElem_cons_succ]
                refine rest_take (i := 9) (v := _) all_wide (noDefers_of (by kernel_rfl)) rfl (by kernel_rfl) (by kernel_rfl) (by kernel_rfl) (fun _ _ _ h => h) (Or.inl ⟨by rfl, by intro w hSw; clear hSw; go_simp; first | done | with_reducible rfl⟩) hHeld ?_
                change RestIn _ _ _ _ _ _ _ 7 #[true, true, true, true, true, false, true, true, true, true, false, false, false, false, false, false] _ _
                try simp only [Act.put, List.setIfInBounds_toArray, List.set_cons_zero, List.set_cons_succ, List.getElem_toArray, List.getElem_cons_zero, List.getElem_cons_succ]
                refine rest_take (i := 10) (v := _) all_wide (noDefers_of (by kernel_rfl)) rfl (by kernel_rfl) (by kernel_rfl) (by kernel_rfl) (fun _ _ _ h => h) (Or.inl ⟨by rfl, by intro w hSw; clear hSw; go_simp; first | done | with_reducible rfl⟩) hHeld ?_
                change RestIn _ _ _ _ _ _ _ 6 #[true, true, true, true, true, false, true, true, true, true, true, false, false, false, false, false] _ _
                try simp only [Act.put, List.setIfInBounds_toArray, List.set_cons_zero, List.set_cons_succ, List.getElem_toArray, List.getElem_cons_zero, List.getElem_cons_succ]
                refine rest_take (i := 11) (v := _) all_wide (noDefers_of (by kernel_rfl)) rfl (by kernel_rfl) (by kernel_rfl) (by kernel_rfl) (fun _ _ _ h => h) (Or.inl ⟨by rfl, by intro w hSw; (obtain ⟨q0, q1, q2, q3, _⟩ := hSw; have q0x0 := q0.cell 0; have q0x1 := q0.cell 1; simp at q0x0 q0x1); go_simp; first | done | with_reducible rfl⟩) hHeld ?_
                change RestIn _ _ _ _ _ _ _ 5 #[true, true, true, true, true, false, true, true, true, true, true, true, false, false, false, false] _ _
                try simp only [Act.put, List.setIfInBounds_toArray, List.set_cons_zero, List.set_cons_succ, List.getElem_toArray, List.getElem_cons_zero, List.getElem_cons_succ]
                refine rest_ready (rs := [5, 13]) (by kernel_rfl) (by simp) ?_
                refine AllRest.cons rfl (fun K hK => ?_) ?_
                · have hNow := (hHeld.2.2.2.2)
                  clear hLast
                  have hLast := hNow
                  go_simp
                  gi_wp2_with ((refine ⟨trivial, ?_⟩; gi_at_call 27; (refine (callsIn_wide.2 (HFo.out _ A6 c6 (hr12.to hNow) (hg.to hNow))).mono ?_); rintro e wn ⟨A7, c7, rfl, hrs, hq3, hb⟩))
                  refine hK.out _ _ ?_ (fun hHeld' => ?_)
                  · exact ⟨hHeld.1.below hb hHeld.1.lt, cell_after hb hHeld.2.1, cell_after hb hHeld.2.2.1, cell_after hb hHeld.2.2.2.1, (hHeld.2.2.2.2).trans (hb.mono (hHeld.2.2.2.2).size)⟩
                  clear hK K
                  change RestIn _ _ _ _ _ _ _ 4 #[true, true, true, true, true, true, true, true, true, true, true, true, false, false, false, false] _ _
                  try simp only [Act.put, List.setIfInBounds_toArray, List.set_cons_zero, List.set_cons_succ, List.getElem_toArray, List.getElem_cons_zero, List.getElem_cons_succ]
                  clear hHeld
                  have hHeld := hHeld'
                  clear hHeld'
                  have hNow := (hHeld.2.2.2.2)
                  try have hfar := fun (ad : Addr) (e : A7 = some ad) (_ : f ≠ []) => Nat.ne_of_gt (Nat.lt_of_lt_of_le kV.lt (hq3 ad e))
                  try have kV := kV.below hb kV.lt
                  refine rest_ready (rs := [12, 13]) (by kernel_rfl) (by simp) ?_
                  refine AllRest.cons rfl (fun K hK => ?_) ?_
                  · have hNow := (hHeld.2.2.2.2)
                    clear hLast
                    have hLast := hNow
                    go_simp
                    gi_wp2_with ((refine ⟨trivial, ?_⟩; gi_at_call 28; (refine (callsIn_wide.2 (refTimes_any push x.area _ s1 s2)).mono ?_); rintro e wn ⟨rfl, hb⟩))
                    refine hK.out _ _ ?_ (fun hHeld' => ?_)
                    · exact ⟨hHeld.1.below hb hHeld.1.lt, cell_after hb hHeld.2.1, cell_after hb hHeld.2.2.1, cell_after hb hHeld.2.2.2.1, (hHeld.2.2.2.2).trans (hb.mono (hHeld.2.2.2.2).size)⟩
                    clear hK K
                    change RestIn _ _ _ _ _ _ _ 3 #[true, true, true, true, true, true, true, true, true, true, true, true, true, false, false, false] _ _
                    try simp only [Act.put, List.setIfInBounds_toArray, List.set_cons_zero, List.set_cons_succ, List.getElem_toArray, List.getElem_cons_zero, List.getElem_cons_succ]
                    clear hHeld
                    have hHeld := hHeld'
                    clear hHeld'
                    have hNow := (hHeld.2.2.2.2)
                    have hrs := hrs.to hb
                    try have kV := kV.below hb kV.lt
                    refine rest_ready (rs := [13]) (by kernel_rfl) (by simp) ?_
                    refine AllRest.cons rfl (fun K hK => ?_) AllRest.nil
                    have kVg := (hHeld.2.2.2.2).size
                    have kV := blk_new_of (hHeld.2.2.2.2) 49 #[.int .i64 0, .int .i64 0]
                    have hOld := (hHeld.2.2.2.2)
                    go_simp
                    refine hK.out _ _ ?_ (fun hHeld' => ?_)
                    · exact (fun (hbel : Below W0.heap.size W0 _) => ⟨kP12.below hbel kP12.lt, cell_after hbel x0, cell_after hbel x1, cell_after hbel x2, hbel⟩) ((hHeld.2.2.2.2).alloc (hHeld.2.2.2.2).size _)
                    clear hK K
                    change RestIn _ _ _ _ _ _ _ 2 #[true, true, true, true, true, true, true, true, true, true, true, true, true, true, false, false] _ _
                    try simp only [Act.put, List.setIfInBounds_toArray, List.set_cons_zero, List.set_cons_succ, List.getElem_toArray, List.getElem_cons_zero, List.getElem_cons_succ]
                    clear hHeld
                    have hHeld := hHeld'
                    clear hHeld'
                    have hNow := (hHeld.2.2.2.2)
                    try simp at kVg
                    try have hrs0 := hrs
                    try have hfar := RS.ne_size hrs
                    try have hrs := hrs.to ((Below.refl _ _).alloc (Nat.le_refl _) (.cells #[.int .i64 0, .int .i64 0] 49))
                    refine rest_take (i := 14) (v := _) all_wide (noDefers_of (by kernel_rfl)) rfl (by kernel_rfl) (by kernel_rfl) (by kernel_rfl) (fun _ _ _ h => h) (Or.inl ⟨by rfl, by intro w hSw; clear hSw; go_simp; first | done | with_reducible rfl⟩) hHeld ?_
                    change RestIn _ _ _ _ _ _ _ 1 #[true, true, true, true, true, true, true, true, true, true, true, true, true, true, true, false] _ _
                    try simp only [Act.put, List.setIfInBounds_toArray, List.set_cons_zero, List.set_cons_succ, List.getElem_toArray, List.getElem_cons_zero, List.getElem_cons_succ]
                    refine rest_ready (rs := [15]) (by kernel_rfl) (by simp) ?_
                    refine AllRest.cons rfl (fun K hK => ?_) AllRest.nil
                    have kVc0 := kV.cell 0
                    have kVc1 := kV.cell 1
                    have kVf0 := kV.frozen 0
                    have kVf1 := kV.frozen 1
                    have kVl := kV.lt
                    try simp at kVc0
                    try simp at kVc1
                    try simp at kVf0
                    try simp at kVf1
                    try simp at kVl
                    have hNow := (hHeld.2.2.2.2)
                    go_simp
                    refine hK.out _ _ ?_ (fun hHeld' => ?_)
                    · (refine (fun (hbel : Below W0.heap.size W0 _) => ⟨kP12.below hbel kP12.lt, cell_after hbel x0, cell_after hbel x1, cell_after hbel x2, hbel⟩) ?_; repeat' (first | with_reducible exact hNow | with_reducible exact hOld | with_reducible refine Below.setCell ?_ (by (try simp) <;> omega) _ | with_reducible refine Below.alloc ?_ (by (try simp) <;> omega) _))
                    clear hK K
                    change RestIn _ _ _ _ _ _ _ 0 #[true, true, true, true, true, true, true, true, true, true, true, true, true, true, true, true] _ _
                    try simp only [Act.put, List.setIfInBounds_toArray, List.set_cons_zero, List.set_cons_succ, List.getElem_toArray, List.getElem_cons_zero, List.getElem_cons_succ]
                    clear hHeld
                    have hHeld := hHeld'
                    clear hHeld'
                    have hNow := (hHeld.2.2.2.2)
                    refine rest_done (by kernel_rfl) ?_
                    go_wp2_with fail
                    go_meet
                    first | exact ⟨A7, c7, _, rfl, rfl, hrs0.to ((Below.refl _ _).alloc (Nat.le_refl _) _), Blk.new _ _ _, hHeld.2.2.2.2⟩ | exact ⟨A7, c7, _, rfl, rfl, ((RS.set_far hrs (p := ⟨_, 0, none⟩) hfar _).set_far (p := ⟨_, 1, none⟩) hfar _).more (by simp), (kV.set_ 0 (.int .i64 (push.times x.area).x)).set_ 1 (.int .i64 (push.times x.area).y), hHeld.2.2.2.2⟩
                  refine AllRest.cons rfl (fun K hK => ?_) ?_
                  · have kVg := (hHeld.2.2.2.2).size
                    have kV := blk_new_of (hHeld.2.2.2.2) 49 #[.int .i64 0, .int .i64 0]
                    have hOld := (hHeld.2.2.2.2)
                    go_simp
                    refine hK.out _ _ ?_ (fun hHeld' => ?_)
                    · exact (fun (hbel : Below W0.heap.size W0 _) => ⟨kP12.below hbel kP12.lt, cell_after hbel x0, cell_after hbel x1, cell_after hbel x2, hbel⟩) ((hHeld.2.2.2.2).alloc (hHeld.2.2.2.2).size _)
                    clear hK K
                    change RestIn _ _ _ _ _ _ _ 3 #[true, true, true, true, true, true, true, true, true, true, true, true, false, true, false, false] _ _
                    try simp only [Act.put, List.setIfInBounds_toArray, List.set_cons_zero, List.set_cons_succ, List.getElem_toArray, List.getElem_cons_zero, List.getElem_cons_succ]
                    clear hHeld
                    have hHeld := hHeld'
                    clear hHeld'
                    have hNow := (hHeld.2.2.2.2)
                    try simp at kVg
                    try have hrs0 := hrs
                    try have hfar := RS.ne_size hrs
                    try have hrs := hrs.to ((Below.refl _ _).alloc (Nat.le_refl _) (.cells #[.int .i64 0, .int .i64 0] 49))
                    refine rest_ready (rs := [12]) (by kernel_rfl) (by simp) ?_
                    refine AllRest.cons rfl (fun K hK => ?_) AllRest.nil
                    have hNow := (hHeld.2.2.2.2)
                    clear hLast
                    have hLast := hNow
                    go_simp
                    gi_wp2_with ((refine ⟨trivial, ?_⟩; gi_at_call 28; (refine (callsIn_wide.2 (refTimes_any push x.area _ s1 s2)).mono ?_); rintro e wn ⟨rfl, hb⟩))
                    refine hK.out _ _ ?_ (fun hHeld' => ?_)
                    · exact ⟨hHeld.1.below hb hHeld.1.lt, cell_after hb hHeld.2.1, cell_after hb hHeld.2.2.1, cell_after hb hHeld.2.2.2.1, (hHeld.2.2.2.2).trans (hb.mono (hHeld.2.2.2.2).size)⟩
                    clear hK K
                    change RestIn _ _ _ _ _ _ _ 2 #[true, true, true, true, true, true, true, true, true, true, true, true, true, true, false, false] _ _
                    try simp only [Act.put, List.setIfInBounds_toArray, List.set_cons_zero, List.set_cons_succ, List.getElem_toArray, List.getElem_cons_zero, List.getElem_cons_succ]
                    clear hHeld
                    have hHeld := hHeld'
                    clear hHeld'
                    have hNow := (hHeld.2.2.2.2)
                    have hrs := hrs.to hb
                    try have kV := kV.below hb kV.lt
                    refine rest_take (i := 14) (v := _) all_wide (noDefers_of (by kernel_rfl)) rfl (by kernel_rfl) (by kernel_rfl) (by kernel_rfl) (fun _ _ _ h => h) (Or.inl ⟨by rfl, by intro w hSw; clear hSw; go_simp; first | done | with_reducible rfl⟩) hHeld ?_
                    change RestIn _ _ _ _ _ _ _ 1 #[true, true, true, true, true, true, true, true, true, true, true, true, true, true, true, false] _ _
                    try simp only [Act.put, List.setIfInBounds_toArray, List.set_cons_zero, List.set_cons_succ, List.getElem_toArray, List.getElem_cons_zero, List.getElem_cons_succ]
                    refine rest_ready (rs := [15]) (by kernel_rfl) (by simp) ?_
                    refine AllRest.cons rfl (fun K hK => ?_) AllRest.nil
                    have kVc0 := kV.cell 0
                    have kVc1 := kV.cell 1
                    have kVf0 := kV.frozen 0
                    have kVf1 := kV.frozen 1
                    have kVl := kV.lt
                    try simp at kVc0
                    try simp at kVc1
                    try simp at kVf0
                    try simp at kVf1
                    try simp at kVl
                    have hNow := (hHeld.2.2.2.2)
                    go_simp
                    refine hK.out _ _ ?_ (fun hHeld' => ?_)
                    · (refine (fun (hbel : Below W0.heap.size W0 _) => ⟨kP12.below hbel kP12.lt, cell_after hbel x0, cell_after hbel x1, cell_after hbel x2, hbel⟩) ?_; repeat' (first | with_reducible exact hNow | with_reducible exact hOld | with_reducible refine Below.setCell ?_ (by (try simp) <;> omega) _ | with_reducible refine Below.alloc ?_ (by (try simp) <;> omega) _))
                    clear hK K
                    change RestIn _ _ _ _ _ _ _ 0 #[true, true, true, true, true, true, true, true, true, true, true, true, true, true, true, true] _ _
                    try simp only [Act.put, List.setIfInBounds_toArray, List.set_cons_zero, List.set_cons_succ, List.getElem_toArray, List.getElem_cons_zero, List.getElem_cons_succ]
                    clear hHeld
                    have hHeld := hHeld'
                    clear hHeld'
                    have hNow := (hHeld.2.2.2.2)
                    refine rest_done (by kernel_rfl) ?_
                    go_wp2_with fail
                    go_meet
                    first | exact ⟨A7, c7, _, rfl, rfl, hrs0.to ((Below.refl _ _).alloc (Nat.le_refl _) _), Blk.new _ _ _, hHeld.2.2.2.2⟩ | exact ⟨A7, c7, _, rfl, rfl, ((RS.set_far hrs (p := ⟨_, 0, none⟩) hfar _).set_far (p := ⟨_, 1, none⟩) hfar _).more (by simp), (kV.set_ 0 (.int .i64 (push.times x.area).x)).set_ 1 (.int .i64 (push.times x.area).y), hHeld.2.2.2.2⟩
                  exact AllRest.nil
                refine AllRest.cons rfl (fun K hK => ?_) ?_
                · have kVg := (hHeld.2.2.2.2).size
                  have kV := blk_new_of (hHeld.2.2.2.2) 49 #[.int .i64 0, .int .i64 0]
                  have hOld := (hHeld.2.2.2.2)
                  go_simp
                  refine hK.out _ _ ?_ (fun hHeld' => ?_)
                  · exact (fun (hbel : Below W0.heap.size W0 _) => ⟨kP12.below hbel kP12.lt, cell_after hbel x0, cell_after hbel x1, cell_after hbel x2, hbel⟩) ((hHeld.2.2.2.2).alloc (hHeld.2.2.2.2).size _)
                  clear hK K
                  change RestIn _ _ _ _ _ _ _ 4 #[true, true, true, true, true, false, true, true, true, true, true, true, false, true, false, false] _ _
                  try simp only [Act.put, List.setIfInBounds_toArray, List.set_cons_zero, List.set_cons_succ, List.getElem_toArray, List.getElem_cons_zero, List.getElem_cons_succ]
                  clear hHeld
                  have hHeld := hHeld'
                  clear hHeld'
                  have hNow := (hHeld.2.2.2.2)
                  try simp at kVg
                  try have hrs0 := hrs
                  try have hfar := RS.ne_size hrs
                  try have hrs := hrs.to ((Below.refl _ _).alloc (Nat.le_refl _) (.cells #[.int .i64 0, .int .i64 0] 49))
                  refine rest_ready (rs := [5]) (by kernel_rfl) (by simp) ?_
                  refine AllRest.cons rfl (fun K hK => ?_) AllRest.nil
                  have hNow := (hHeld.2.2.2.2)
                  clear hLast
                  have hLast := hNow
                  go_simp
                  gi_wp2_with ((refine ⟨trivial, ?_⟩; gi_at_call 27; (refine (callsIn_wide.2 (HFo.out _ A6 c6 (hr12.to hNow) (hg.to hNow))).mono ?_); rintro e wn ⟨A7, c7, rfl, hrs, hq3, hb⟩))
                  refine hK.out _ _ ?_ (fun hHeld' => ?_)
                  · exact ⟨hHeld.1.below hb hHeld.1.lt, cell_after hb hHeld.2.1, cell_after hb hHeld.2.2.1, cell_after hb hHeld.2.2.2.1, (hHeld.2.2.2.2).trans (hb.mono (hHeld.2.2.2.2).size)⟩
                  clear hK K
                  change RestIn _ _ _ _ _ _ _ 3 #[true, true, true, true, true, true, true, true, true, true, true, true, false, true, false, false] _ _
                  try simp only [Act.put, List.setIfInBounds_toArray, List.set_cons_zero, List.set_cons_succ, List.getElem_toArray, List.getElem_cons_zero, List.getElem_cons_succ]
                  clear hHeld
                  have hHeld := hHeld'
                  clear hHeld'
                  have hNow := (hHeld.2.2.2.2)
                  try have hfar := fun (ad : Addr) (e : A7 = some ad) (_ : f ≠ []) => Nat.ne_of_gt (Nat.lt_of_lt_of_le kV.lt (hq3 ad e))
                  try have kV := kV.below hb kV.lt
                  refine rest_ready (rs := [12]) (by kernel_rfl) (by simp) ?_
                  refine AllRest.cons rfl (fun K hK => ?_) AllRest.nil
                  have hNow := (hHeld.2.2.2.2)
                  clear hLast
                  have hLast := hNow
                  go_simp
                  gi_wp2_with ((refine ⟨trivial, ?_⟩; gi_at_call 28; (refine (callsIn_wide.2 (refTimes_any push x.area _ s1 s2)).mono ?_); rintro e wn ⟨rfl, hb⟩))
                  refine hK.out _ _ ?_ (fun hHeld' => ?_)
                  · exact ⟨hHeld.1.below hb hHeld.1.lt, cell_after hb hHeld.2.1, cell_after hb hHeld.2.2.1, cell_after hb hHeld.2.2.2.1, (hHeld.2.2.2.2).trans (hb.mono (hHeld.2.2.2.2).size)⟩
                  clear hK K
                  change RestIn _ _ _ _ _ _ _ 2 #[true, true, true, true, true, true, true, true, true, true, true, true, true, true, false, false] _ _
                  try simp only [Act.put, List.setIfInBounds_toArray, List.set_cons_zero, List.set_cons_succ, List.getElem_toArray, List.getElem_cons_zero, List.getElem_cons_succ]
                  clear hHeld
                  have hHeld := hHeld'
                  clear hHeld'
                  have hNow := (hHeld.2.2.2.2)
                  have hrs := hrs.to hb
                  try have kV := kV.below hb kV.lt
                  refine rest_take (i := 14) (v := _) all_wide (noDefers_of (by kernel_rfl)) rfl (by kernel_rfl) (by kernel_rfl) (by kernel_rfl) (fun _ _ _ h => h) (Or.inl ⟨by rfl, by intro w hSw; clear hSw; go_simp; first | done | with_reducible rfl⟩) hHeld ?_
                  change RestIn _ _ _ _ _ _ _ 1 #[true, true, true, true, true, true, true, true, true, true, true, true, true, true, true, false] _ _
                  try simp only [Act.put, List.setIfInBounds_toArray, List.set_cons_zero, List.set_cons_succ, List.getElem_toArray, List.getElem_cons_zero, List.getElem_cons_succ]
                  refine rest_ready (rs := [15]) (by kernel_rfl) (by simp) ?_
                  refine AllRest.cons rfl (fun K hK => ?_) AllRest.nil
                  have kVc0 := kV.cell 0
                  have kVc1 := kV.cell 1
                  have kVf0 := kV.frozen 0
                  have kVf1 := kV.frozen 1
                  have kVl := kV.lt
                  try simp at kVc0
                  try simp at kVc1
                  try simp at kVf0
                  try simp at kVf1
                  try simp at kVl
                  have hNow := (hHeld.2.2.2.2)
                  go_simp
                  refine hK.out _ _ ?_ (fun hHeld' => ?_)
                  · (refine (fun (hbel : Below W0.heap.size W0 _) => ⟨kP12.below hbel kP12.lt, cell_after hbel x0, cell_after hbel x1, cell_after hbel x2, hbel⟩) ?_; repeat' (first | with_reducible exact hNow | with_reducible exact hOld | with_reducible refine Below.setCell ?_ (by (try simp) <;> omega) _ | with_reducible refine Below.alloc ?_ (by (try simp) <;> omega) _))
                  clear hK K
                  change RestIn _ _ _ _ _ _ _ 0 #[true, true, true, true, true, true, true, true, true, true, true, true, true, true, true, true] _ _
                  try simp only [Act.put, List.setIfInBounds_toArray, List.set_cons_zero, List.set_cons_succ, List.getElem_toArray, List.getElem_cons_zero, List.getElem_cons_succ]
                  clear hHeld
                  have hHeld := hHeld'
                  clear hHeld'
                  have hNow := (hHeld.2.2.2.2)
                  refine rest_done (by kernel_rfl) ?_
                  go_wp2_with fail
                  go_meet
                  first | exact ⟨A7, c7, _, rfl, rfl, hrs0.to ((Below.refl _ _).alloc (Nat.le_refl _) _), Blk.new _ _ _, hHeld.2.2.2.2⟩ | exact ⟨A7, c7, _, rfl, rfl, ((RS.set_far hrs (p := ⟨_, 0, none⟩) hfar _).set_far (p := ⟨_, 1, none⟩) hfar _).more (by simp), (kV.set_ 0 (.int .i64 (push.times x.area).x)).set_ 1 (.int .i64 (push.times x.area).y), hHeld.2.2.2.2⟩
                exact AllRest.nil
            case rest =>
              as_aux_lemma =>
                obtain ⟨A7, c7, V, rfl, rfl, hrs, kV, hB13⟩ := hcut
                have kY13 := kY12.below hB13 kY12.lt
                have kX13 := kX12.below hB13 kX12.lt
                have hrx13 := hrx12.to hB13
                have hBB := hB12.trans (hB13.mono hB12.size)
                clear kP12 kY12 kX12 hr12 ht12 hrx12 hB12 hB13 x0 x1 x2 hg
                go_upto_region 13 with fail
                refine name_world (motive := fun W => Code.wp _ _ _ _ W) _ ?_
                intro W0 hW
                have kY13 := hW.blk kY13
                have kX13 := hW.blk kX13
                have kV13 := hW.blk kV
                have hrs := hrs.to (hW.below (Below.refl _ _))
                have hrx13 := hrx13.to (hW.below (Below.refl _ _))
                have hBB := hW.below hBB
                clear hW kV
                refine (wpIn_wide (n := 9)).1 ?_
                have hLast := trivial
                refine region_rest (S := (fun w' => Blk w' (V) 49 #[.int .i64 (push.times x.area).x, .int .i64 (push.times x.area).y] ∧ Blk w' (w.heap.size + 1) 49 #[.int .i64 way.x, .int .i64 way.y] ∧ Blk w' (X) 55 #[.int .i64 whx, .slice A11 psx.length c11] ∧ Below W0.heap.size W0 w')) hmx ?_ (fun hHeld => ?_)
                · exact ⟨kV13.drew, kY13.drew, kX13.drew, (Below.refl W0.heap.size W0).drew⟩
                change RestIn _ _ _ _ _ _ _ 14 #[false, false, false, false, false, false, false, false, false, false, false, false, false, false] _ (World.drew _)
                refine rest_take (i := 0) (v := _) all_wide (noDefers_of (by kernel_rfl)) rfl (by kernel_rfl) (by kernel_rfl) (by kernel_rfl) (fun _ _ _ h => h) (Or.inl ⟨by rfl, by intro w hSw; clear hSw; go_simp; first | done | with_reducible rfl⟩) hHeld ?_
                change RestIn _ _ _ _ _ _ _ 13 #[true, false, false, false, false, false, false, false, false, false, false, false, false, false] _ _
                try simp only [Act.put, List.setIfInBounds_toArray, List.set_cons_zero, List.set_cons_succ, List.getElem_toArray, List.getElem_cons_zero, List.getElem_cons_succ]
                refine rest_take (i := 1) (v := _) all_wide (noDefers_of (by kernel_rfl)) rfl (by kernel_rfl) (by kernel_rfl) (by kernel_rfl) (fun _ _ _ h => h) (Or.inl ⟨by rfl, by intro w hSw; (obtain ⟨q0, q1, q2, _⟩ := hSw; have q0x0 := q0.cell 0; have q0x1 := q0.cell 1; have q1x0 := q1.cell 0; have q1x1 := q1.cell 1; have q2x0 := q2.cell 0; have q2x1 := q2.cell 1; simp at q0x0 q0x1 q1x0 q1x1 q2x0 q2x1); go_simp; first | done | with_reducible rfl⟩) hHeld ?_
                change RestIn _ _ _ _ _ _ _ 12 #[true, true, false, false, false, false, false, false, false, false, false, false, false, false] _ _
                try simp only [Act.put, List.setIfInBounds_toArray, List.set_cons_zero, List.set_cons_succ, List.getElem_toArray, List.getElem_cons_zero, List.getElem_cons_succ]
                refine rest_take (i := 2) (v := _) all_wide (noDefers_of (by kernel_rfl)) rfl (by kernel_rfl) (by kernel_rfl) (by kernel_rfl) (fun _ _ _ h => h) (Or.inl ⟨by rfl, by intro w hSw; (obtain ⟨q0, q1, q2, _⟩ := hSw; have q0x0 := q0.cell 0; have q0x1 := q0.cell 1; have q1x0 := q1.cell 0; have q1x1 := q1.cell 1; have q2x0 := q2.cell 0; have q2x1 := q2.cell 1; simp at q0x0 q0x1 q1x0 q1x1 q2x0 q2x1); go_simp; first | done | with_reducible rfl⟩) hHeld ?_
                change RestIn _ _ _ _ _ _ _ 11 #[true, true, true, false, false, false, false, false, false, false, false, false, false, false] _ _
                try simp only [Act.put, List.setIfInBounds_toArray, List.set_cons_zero, List.set_cons_succ, List.getElem_toArray, List.getElem_cons_zero, List.getElem_cons_succ]
                refine rest_take (i := 4) (v := _) all_wide (noDefers_of (by kernel_rfl)) rfl (by kernel_rfl) (by kernel_rfl) (by kernel_rfl) (fun _ _ _ h => h) (Or.inl ⟨by rfl, by intro w hSw; clear hSw; go_simp; first | done | with_reducible rfl⟩) hHeld ?_
                change RestIn _ _ _ _ _ _ _ 10 #[true, true, true, false, true, false, false, false, false, false, false, false, false, false] _ _
                try simp only [Act.put, List.setIfInBounds_toArray, List.set_cons_zero, List.set_cons_succ, List.getElem_toArray, List.getElem_cons_zero, List.getElem_cons_succ]
                refine rest_take (i := 5) (v := _) all_wide (noDefers_of (by kernel_rfl)) rfl (by kernel_rfl) (by kernel_rfl) (by kernel_rfl) (fun _ _ _ h => h) (Or.inl ⟨by rfl, by intro w hSw; (obtain ⟨q0, q1, q2, _⟩ := hSw; have q0x0 := q0.cell 0; have q0x1 := q0.cell 1; have q1x0 := q1.cell 0; have q1x1 := q1.cell 1; have q2x0 := q2.cell 0; have q2x1 := q2.cell 1; simp at q0x0 q0x1 q1x0 q1x1 q2x0 q2x1); go_simp; first | done | with_reducible rfl⟩) hHeld ?_
                change RestIn _ _ _ _ _ _ _ 9 #[true, true, true, false, true, true, false, false, false, false, false, false, false, false] _ _
                try simp only [Act.put, List.setIfInBounds_toArray, List.set_cons_zero, List.set_cons_succ, List.getElem_toArray, List.getElem_cons_zero, List.getElem_cons_succ]
                refine rest_take (i := 6) (v := _) all_wide (noDefers_of (by kernel_rfl)) rfl (by kernel_rfl) (by kernel_rfl) (by kernel_rfl) (fun _ _ _ h => h) (Or.inl ⟨by rfl, by intro w hSw; clear hSw; go_simp; first | done | with_reducible rfl⟩) hHeld ?_
                change RestIn _ _ _ _ _ _ _ 8 #[true, true, true, false, true, true, true, false, false, false, false, false, false, false] _ _
                try simp only [Act.put, List.setIfInBounds_toArray, List.set_cons_zero, List.set_cons_succ, List.getElem_toArray, List.getElem_cons_zero, List.getElem_cons_succ]
                refine rest_take (i := 7) (v := _) all_wide (noDefers_of (by kernel_rfl)) rfl (by kernel_rfl) (by kernel_rfl) (by kernel_rfl) (fun _ _ _ h => h) (Or.inl ⟨by rfl, by intro w hSw; (obtain ⟨q0, q1, q2, _⟩ := hSw; have q0x0 := q0.cell 0; have q0x1 := q0.cell 1; have q1x0 := q1.cell 0; have q1x1 := q1.cell 1; have q2x0 := q2.cell 0; have q2x1 := q2.cell 1; simp at q0x0 q0x1 q1x0 q1x1 q2x0 q2x1); go_simp; first | done | with_reducible rfl⟩) hHeld ?_
                change RestIn _ _ _ _ _ _ _ 7 #[true, true, true, false, true, true, true, true, false, false, false, false, false, false] _ _
                try simp only [Act.put, List.setIfInBounds_toArray, List.set_cons_zero, List.set_cons_succ, List.getElem_toArray, List.getElem_cons_zero, List.getElem_cons_succ]
                refine rest_take (i := 8) (v := _) all_wide (noDefers_of (by kernel_rfl)) rfl (by kernel_rfl) (by kernel_rfl) (by kernel_rfl) (fun _ _ _ h => h) (Or.inl ⟨by rfl, by intro w hSw; clear hSw; go_simp; first | done | with_reducible rfl⟩) hHeld ?_
                change RestIn _ _ _ _ _ _ _ 6 #[true, true, true, false, true, true, true, true, true, false, false, false, false, false] _ _
                try simp only [Act.put, List.setIfInBounds_toArray, List.set_cons_zero, List.set_cons_succ, List.getElem_toArray, List.getElem_cons_zero, List.getElem_cons_succ]
                refine rest_take (i := 9) (v := _) all_wide (noDefers_of (by kernel_rfl)) rfl (by kernel_rfl) (by kernel_rfl) (by kernel_rfl) (fun _ _ _ h => h) (Or.inl ⟨by rfl, by intro w hSw; (obtain ⟨q0, q1, q2, _⟩ := hSw; have q0x0 := q0.cell 0; have q0x1 := q0.cell 1; have q1x0 := q1.cell 0; have q1x1 := q1.cell 1; have q2x0 := q2.cell 0; have q2x1 := q2.cell 1; simp at q0x0 q0x1 q1x0 q1x1 q2x0 q2x1); go_simp; first | done | with_reducible rfl⟩) hHeld ?_
                change RestIn _ _ _ _ _ _ _ 5 #[true, true, true, false, true, true, true, true, true, true, false, false, false, false] _ _
                try simp only [Act.put, List.setIfInBounds_toArray, List.set_cons_zero, List.set_cons_succ, List.getElem_toArray, List.getElem_cons_zero, List.getElem_cons_succ]
                refine rest_take (i := 10) (v := _) all_wide (noDefers_of (by kernel_rfl)) rfl (by kernel_rfl) (by kernel_rfl) (by kernel_rfl) (fun _ _ _ h => h) (Or.inl ⟨by rfl, by intro w hSw; clear hSw; go_simp; first | done | with_reducible rfl⟩) hHeld ?_
                change RestIn _ _ _ _ _ _ _ 4 #[true, true, true, false, true, true, true, true, true, true, true, false, false, false] _ _
                try simp only [Act.put, List.setIfInBounds_toArray, List.set_cons_zero, List.set_cons_succ, List.getElem_toArray, List.getElem_cons_zero, List.getElem_cons_succ]
                refine rest_ready (rs := [3]) (by kernel_rfl) (by simp) ?_
                refine AllRest.cons rfl (fun K hK => ?_) AllRest.nil
                have hNow := (hHeld.2.2.2)
                clear hLast
                have hLast := hNow
                go_simp
                gi_wp2_with ((refine ⟨trivial, ?_⟩; gi_at_call 29; (refine (callsIn_wide.2 (HIW.out _ A7 c7 (hrs.to hNow))).mono ?_); rintro e wn ⟨rfl, hb⟩))
                refine hK.out _ _ ?_ (fun hHeld' => ?_)
                · exact ⟨hHeld.1.below hb hHeld.1.lt, hHeld.2.1.below hb hHeld.2.1.lt, hHeld.2.2.1.below hb hHeld.2.2.1.lt, (hHeld.2.2.2).trans (hb.mono (hHeld.2.2.2).size)⟩
                clear hK K
                change RestIn _ _ _ _ _ _ _ 3 #[true, true, true, true, true, true, true, true, true, true, true, false, false, false] _ _
                try simp only [Act.put, List.setIfInBounds_toArray, List.set_cons_zero, List.set_cons_succ, List.getElem_toArray, List.getElem_cons_zero, List.getElem_cons_succ]
                clear hHeld
                have hHeld := hHeld'
                clear hHeld'
                have hNow := (hHeld.2.2.2)
                refine rest_ready (rs := [11]) (by kernel_rfl) (by simp) ?_
                refine AllRest.cons rfl (fun K hK => ?_) AllRest.nil
                have hNow := (hHeld.2.2.2)
                clear hLast
                have hLast := hNow
                go_simp
                gi_wp2_with ((refine ⟨trivial, ?_⟩; gi_at_call 30; (refine (callsIn_wide.2 (HIB.out _ A7 c7 A11 c11 (hrs.to hNow) (hrx13.to hNow))).mono ?_); rintro e wn ⟨rfl, hb⟩))
                refine hK.out _ _ ?_ (fun hHeld' => ?_)
                · exact ⟨hHeld.1.below hb hHeld.1.lt, hHeld.2.1.below hb hHeld.2.1.lt, hHeld.2.2.1.below hb hHeld.2.2.1.lt, (hHeld.2.2.2).trans (hb.mono (hHeld.2.2.2).size)⟩
                clear hK K
                change RestIn _ _ _ _ _ _ _ 2 #[true, true, true, true, true, true, true, true, true, true, true, true, false, false] _ _
                try simp only [Act.put, List.setIfInBounds_toArray, List.set_cons_zero, List.set_cons_succ, List.getElem_toArray, List.getElem_cons_zero, List.getElem_cons_succ]
                clear hHeld
                have hHeld := hHeld'
                clear hHeld'
                have hNow := (hHeld.2.2.2)
                refine rest_take (i := 12) (v := _) all_wide (noDefers_of (by kernel_rfl)) rfl (by kernel_rfl) (by kernel_rfl) (by kernel_rfl) (fun _ _ _ h => h) (Or.inl ⟨by rfl, by intro w hSw; clear hSw; go_simp; first | done | with_reducible rfl⟩) hHeld ?_
                change RestIn _ _ _ _ _ _ _ 1 #[true, true, true, true, true, true, true, true, true, true, true, true, true, false] _ _
                try simp only [Act.put, List.setIfInBounds_toArray, List.set_cons_zero, List.set_cons_succ, List.getElem_toArray, List.getElem_cons_zero, List.getElem_cons_succ]
                refine rest_take (i := 13) (v := _) all_wide (noDefers_of (by kernel_rfl)) rfl (by kernel_rfl) (by kernel_rfl) (by kernel_rfl) (fun _ _ _ h => h) (Or.inl ⟨by rfl, by intro w hSw; clear hSw; go_simp; first | done | with_reducible rfl⟩) hHeld ?_
                change RestIn _ _ _ _ _ _ _ 0 #[true, true, true, true, true, true, true, true, true, true, true, true, true, true] _ _
                try simp only [Act.put, List.setIfInBounds_toArray, List.set_cons_zero, List.set_cons_succ, List.getElem_toArray, List.getElem_cons_zero, List.getElem_cons_succ]
                refine rest_done (by kernel_rfl) ?_
                go_wp2_with fail
                go_meet
                exact ⟨rfl, rfl, hHeld.2.2.1, hrx13.to hNow, hBB.trans (hNow.mono hBB.size)⟩
      case rest =>
        as_aux_lemma =>
          obtain ⟨rfl, rfl, kX3, hrx3, hBx3⟩ := hcut
          go_upto_region 14 with fail
          have kP14 := kP.below hBx3 kP.lt
          have kY14 := kY.below hBx3 kY.lt
          have hr14 := hr0.to hBx3
          have ht14 := ht0.to hBx3
          have HBE := Lib.hid (hWb.trans (hBx3.mono hWb.size))
          refine name_world (motive := fun W => Code.wp _ _ _ _ W) _ ?_
          intro W0 hW
          have HBE := Lib.hid (hW.below HBE.out)
          have kP14 := hW.blk kP14
          have kY14 := hW.blk kY14
          have kX14 := hW.blk kX3
          have hr14 := hr14.to (hW.below (Below.refl _ _))
          have ht14 := ht14.to (hW.below (Below.refl _ _))
          have hrx14 := hrx3.to (hW.below (Below.refl _ _))
          clear hW kP kY kX3 hr0 ht0 hrx3 hBx3 kX2 hrx2 hBx2 HCS
          refine (wpIn_wide (n := 9)).1 ?_
          have hLast := trivial
          refine region_rest (S := (fun w' => Blk w' (w.heap.size) 49 #[.int .i64 push.x, .int .i64 push.y] ∧ Blk w' (w.heap.size + 1) 49 #[.int .i64 way.x, .int .i64 way.y] ∧ Blk w' (X) 55 #[.int .i64 whx, .slice A11 psx.length c11] ∧ Below W0.heap.size W0 w')) hmx ?_ (fun hHeld => ?_)
          · exact ⟨kP14.drew, kY14.drew, kX14.drew, (Below.refl W0.heap.size W0).drew⟩
          change RestIn _ _ _ _ _ _ _ 35 #[false, false, false, false, false, false, false, false, false, false, false, false, false, false, false, false, false, false, false, false, false, false, false, false, false, false, false, false, false, false, false, false, false, false, false] _ (World.drew _)
          refine rest_take (i := 0) (v := _) all_wide (noDefers_of (by kernel_rfl)) rfl (by kernel_rfl) (by kernel_rfl) (by kernel_rfl) (fun _ _ _ h => h) (Or.inl ⟨by rfl, by intro w hSw; clear hSw; go_simp; first | done | with_reducible rfl⟩) hHeld ?_
          change RestIn _ _ _ _ _ _ _ 34 #[true, false, false, false, false, false, false, false, false, false, false, false, false, false, false, false, false, false, false, false, false, false, false, false, false, false, false, false, false, false, false, false, false, false, false] _ _
          try simp only [Act.put, List.setIfInBounds_toArray, List.set_cons_zero, List.set_cons_succ, List.getElem_toArray, List.getElem_cons_zero, List.getElem_cons_succ]
          refine rest_take (i := 2) (v := _) all_wide (noDefers_of (by kernel_rfl)) rfl (by kernel_rfl) (by kernel_rfl) (by kernel_rfl) (fun _ _ _ h => h) (Or.inl ⟨by rfl, by intro w hSw; clear hSw; go_simp; first | done | with_reducible rfl⟩) hHeld ?_
          change RestIn _ _ _ _ _ _ _ 33 #[true, false, true, false, false, false, false, false, false, false, false, false, false, false, false, false, false, false, false, false, false, false, false, false, false, false, false, false, false, false, false, false, false, false, false] _ _
          try simp only [Act.put, List.setIfInBounds_toArray, List.set_cons_zero, List.set_cons_succ, List.getElem_toArray, List.getElem_cons_zero, List.getElem_cons_succ]
          refine rest_take (i := 4) (v := _) all_wide (noDefers_of (by kernel_rfl)) rfl (by kernel_rfl) (by kernel_rfl) (by kernel_rfl) (fun _ _ _ h => h) (Or.inl ⟨by rfl, by intro w hSw; clear hSw; go_simp; first | done | with_reducible rfl⟩) hHeld ?_
          change RestIn _ _ _ _ _ _ _ 32 #[true, false, true, false, true, false, false, false, false, false, false, false, false, false, false, false, false, false, false, false, false, false, false, false, false, false, false, false, false, false, false, false, false, false, false] _ _
          try simp only [Act.put, List.setIfInBounds_toArray, List.set_cons_zero, List.set_cons_succ, List.getElem_toArray, List.getElem_cons_zero, List.getElem_cons_succ]
          refine rest_take (i := 5) (v := _) all_wide (noDefers_of (by kernel_rfl)) rfl (by kernel_rfl) (by kernel_rfl) (by kernel_rfl) (fun _ _ _ h => h) (Or.inl ⟨by rfl, by intro w hSw; (obtain ⟨q0, q1, q2, _⟩ := hSw; have q0x0 := q0.cell 0; have q0x1 := q0.cell 1; have q1x0 := q1.cell 0; have q1x1 := q1.cell 1; have q2x0 := q2.cell 0; have q2x1 := q2.cell 1; simp at q0x0 q0x1 q1x0 q1x1 q2x0 q2x1); go_simp; first | done | with_reducible rfl⟩) hHeld ?_
          change RestIn _ _ _ _ _ _ _ 31 #[true, false, true, false, true, true, false, false, false, false, false, false, false, false, false, false, false, false, false, false, false, false, false, false, false, false, false, false, false, false, false, false, false, false, false] _ _
          try simp only [Act.put, List.setIfInBounds_toArray, List.set_cons_zero, List.set_cons_succ, List.getElem_toArray, List.getElem_cons_zero, List.getElem_cons_succ]
          refine rest_take (i := 7) (v := _) all_wide (noDefers_of (by kernel_rfl)) rfl (by kernel_rfl) (by kernel_rfl) (by kernel_rfl) (fun _ _ _ h => h) (Or.inl ⟨by rfl, by intro w hSw; clear hSw; go_simp; first | done | with_reducible rfl⟩) hHeld ?_
          change RestIn _ _ _ _ _ _ _ 30 #[true, false, true, false, true, true, false, true, false, false, false, false, false, false, false, false, false, false, false, false, false, false, false, false, false, false, false, false, false, false, false, false, false, false, false] _ _
          try simp only [Act.put, List.setIfInBounds_toArray, List.set_cons_zero, List.set_cons_succ, List.getElem_toArray, List.getElem_cons_zero, List.getElem_cons_succ]
          refine rest_take (i := 8) (v := _) all_wide (noDefers_of (by kernel_rfl)) rfl (by kernel_rfl) (by kernel_rfl) (by kernel_rfl) (fun _ _ _ h => h) (Or.inl ⟨by rfl, by intro w hSw; (obtain ⟨q0, q1, q2, _⟩ := hSw; have q0x0 := q0.cell 0; have q0x1 := q0.cell 1; have q1x0 := q1.cell 0; have q1x1 := q1.cell 1; have q2x0 := q2.cell 0; have q2x1 := q2.cell 1; simp at q0x0 q0x1 q1x0 q1x1 q2x0 q2x1); go_simp; first | done | with_reducible rfl⟩) hHeld ?_
          change RestIn _ _ _ _ _ _ _ 29 #[true, false, true, false, true, true, false, true, true, false, false, false, false, false, false, false, false, false, false, false, false, false, false, false, false, false, false, false, false, false, false, false, false, false, false] _ _
          try simp only [Act.put, List.setIfInBounds_toArray, List.set_cons_zero, List.set_cons_succ, List.getElem_toArray, List.getElem_cons_zero, List.getElem_cons_succ]
          refine rest_take (i := 10) (v := _) all_wide (noDefers_of (by kernel_rfl)) rfl (by kernel_rfl) (by kernel_rfl) (by kernel_rfl) (fun _ _ _ h => h) (Or.inl ⟨by rfl, by intro w hSw; clear hSw; go_simp; first | done | with_reducible rfl⟩) hHeld ?_
          change RestIn _ _ _ _ _ _ _ 28 #[true, false, true, false, true, true, false, true, true, false, true, false, false, false, false, false, false, false, false, false, false, false, false, false, false, false, false, false, false, false, false, false, false, false, false] _ _
          try simp only [Act.put, List.setIfInBounds_toArray, List.set_cons_zero, List.set_cons_succ, List.getElem_toArray, List.getElem_cons_zero, List.getElem_cons_succ]
          refine rest_take (i := 11) (v := _) all_wide (noDefers_of (by kernel_rfl)) rfl (by kernel_rfl) (by kernel_rfl) (by kernel_rfl) (fun _ _ _ h => h) (Or.inl ⟨by rfl, by intro w hSw; (obtain ⟨q0, q1, q2, _⟩ := hSw; have q0x0 := q0.cell 0; have q0x1 := q0.cell 1; have q1x0 := q1.cell 0; have q1x1 := q1.cell 1; have q2x0 := q2.cell 0; have q2x1 := q2.cell 1; simp at q0x0 q0x1 q1x0 q1x1 q2x0 q2x1); go_simp; first | done | with_reducible rfl⟩) hHeld ?_
          change RestIn _ _ _ _ _ _ _ 27 #[true, false, true, false, true, true, false, true, true, false, true, true, false, false, false, false, false, false, false, false, false, false, false, false, false, false, false, false, false, false, false, false, false, false, false] _ _
          try simp only [Act.put, List.setIfInBounds_toArray, List.set_cons_zero, List.set_cons_succ, List.getElem_toArray, List.getElem_cons_zero, List.getElem_cons_succ]
          refine rest_take (i := 15) (v := _) all_wide (noDefers_of (by kernel_rfl)) rfl (by kernel_rfl) (by kernel_rfl) (by kernel_rfl) (fun _ _ _ h => h) (Or.inl ⟨by rfl, by intro w hSw; clear hSw; go_simp; first | done | with_reducible rfl⟩) hHeld ?_
          change RestIn _ _ _ _ _ _ _ 26 #[true, false, true, false, true, true, false, true, true, false, true, true, false, false, false, true, false, false, false, false, false, false, false, false, false, false, false, false, false, false, false, false, false, false, false] _ _
          try simp only [Act.put, List.setIfInBounds_toArray, List.set_cons_zero, List.set_cons_succ, List.getElem_toArray, List.getElem_cons_zero, List.getElem_cons_succ]
          refine rest_ready (rs := [1, 9]) (by kernel_rfl) (by simp) ?_
          refine AllRest.cons rfl (fun K hK => ?_) ?_
          · have hNow := (hHeld.2.2.2)
            clear hLast
            have hLast := hNow
            go_simp
            gi_wp2_with ((refine ⟨trivial, ?_⟩; gi_at_call 17; (refine (callsIn_wide.2 (HTests.out _ (hr14.to hNow))).mono ?_); rintro e wn ⟨A3, c3, rfl, hs2, _, _, hb⟩))
            refine hK.out _ _ ?_ (fun hHeld' => ?_)
            · exact ⟨hHeld.1.below hb hHeld.1.lt, hHeld.2.1.below hb hHeld.2.1.lt, hHeld.2.2.1.below hb hHeld.2.2.1.lt, (hHeld.2.2.2).trans (hb.mono (hHeld.2.2.2).size)⟩
            clear hK K
            change RestIn _ _ _ _ _ _ _ 25 #[true, true, true, false, true, true, false, true, true, false, true, true, false, false, false, true, false, false, false, false, false, false, false, false, false, false, false, false, false, false, false, false, false, false, false] _ _
            try simp only [Act.put, List.setIfInBounds_toArray, List.set_cons_zero, List.set_cons_succ, List.getElem_toArray, List.getElem_cons_zero, List.getElem_cons_succ]
            clear hHeld
            have hHeld := hHeld'
            clear hHeld'
            have hNow := (hHeld.2.2.2)
            try have kE := kE.below hb kE.lt
            refine rest_ready (rs := [3, 9]) (by kernel_rfl) (by simp) ?_
            refine AllRest.cons rfl (fun K hK => ?_) ?_
            · have hNow := (hHeld.2.2.2)
              clear hLast
              have hLast := hNow
              go_simp
              gi_wp2_with ((refine ⟨trivial, ?_⟩; gi_at_call 18; (refine (callsIn_wide.2 (HTent.out _ (ht14.to hNow))).mono ?_); rintro e wn ⟨A4, c4, rfl, hs3, _, _, hb⟩))
              refine hK.out _ _ ?_ (fun hHeld' => ?_)
              · exact ⟨hHeld.1.below hb hHeld.1.lt, hHeld.2.1.below hb hHeld.2.1.lt, hHeld.2.2.1.below hb hHeld.2.2.1.lt, (hHeld.2.2.2).trans (hb.mono (hHeld.2.2.2).size)⟩
              clear hK K
              change RestIn _ _ _ _ _ _ _ 24 #[true, true, true, true, true, true, false, true, true, false, true, true, false, false, false, true, false, false, false, false, false, false, false, false, false, false, false, false, false, false, false, false, false, false, false] _ _
              try simp only [Act.put, List.setIfInBounds_toArray, List.set_cons_zero, List.set_cons_succ, List.getElem_toArray, List.getElem_cons_zero, List.getElem_cons_succ]
              clear hHeld
              have hHeld := hHeld'
              clear hHeld'
              have hNow := (hHeld.2.2.2)
              have hs2 := hs2.to hb
              try have kE := kE.below hb kE.lt
              refine rest_ready (rs := [6, 9]) (by kernel_rfl) (by simp) ?_
              refine AllRest.cons rfl (fun K hK => ?_) ?_
              · have hNow := (hHeld.2.2.2)
                clear hLast
                have hLast := hNow
                go_simp
                gi_wp2_with ((refine ⟨trivial, ?_⟩; gi_at_call 25; (with_reducible refine (callsIn_wide.2 (Vector_any push _)).mono ?_); rintro e wn ⟨rfl, hb⟩))
                refine hK.out _ _ ?_ (fun hHeld' => ?_)
                · exact ⟨hHeld.1.below hb hHeld.1.lt, hHeld.2.1.below hb hHeld.2.1.lt, hHeld.2.2.1.below hb hHeld.2.2.1.lt, (hHeld.2.2.2).trans (hb.mono (hHeld.2.2.2).size)⟩
                clear hK K
                change RestIn _ _ _ _ _ _ _ 23 #[true, true, true, true, true, true, true, true, true, false, true, true, false, false, false, true, false, false, false, false, false, false, false, false, false, false, false, false, false, false, false, false, false, false, false] _ _
                try simp only [Act.put, List.setIfInBounds_toArray, List.set_cons_zero, List.set_cons_succ, List.getElem_toArray, List.getElem_cons_zero, List.getElem_cons_succ]
                clear hHeld
                have hHeld := hHeld'
                clear hHeld'
                have hNow := (hHeld.2.2.2)
                have hs2 := hs2.to hb
                have hs3 := hs3.to hb
                try have kE := kE.below hb kE.lt
                refine rest_ready (rs := [9]) (by kernel_rfl) (by simp) ?_
                refine AllRest.cons rfl (fun K hK => ?_) AllRest.nil
                have kEg := (hHeld.2.2.2).size
                have kE := blk_new_of (hHeld.2.2.2) 3 #[]
                have hOld := (hHeld.2.2.2)
                go_simp
                refine hK.out _ _ ?_ (fun hHeld' => ?_)
                · exact (fun (hbel : Below W0.heap.size W0 _) => ⟨kP14.below hbel kP14.lt, kY14.below hbel kY14.lt, kX14.below hbel kX14.lt, hbel⟩) ((hHeld.2.2.2).alloc (hHeld.2.2.2).size _)
                clear hK K
                change RestIn _ _ _ _ _ _ _ 22 #[true, true, true, true, true, true, true, true, true, true, true, true, false, false, false, true, false, false, false, false, false, false, false, false, false, false, false, false, false, false, false, false, false, false, false] _ _
                try simp only [Act.put, List.setIfInBounds_toArray, List.set_cons_zero, List.set_cons_succ, List.getElem_toArray, List.getElem_cons_zero, List.getElem_cons_succ]
                clear hHeld
                have hHeld := hHeld'
                clear hHeld'
                have hNow := (hHeld.2.2.2)
                try simp at kEg
                try have hs2 := hs2.to ((Below.refl _ _).alloc (Nat.le_refl _) (.cells #[] 3))
                try have hs3 := hs3.to ((Below.refl _ _).alloc (Nat.le_refl _) (.cells #[] 3))
                refine rest_ready (rs := [12]) (by kernel_rfl) (by simp) ?_
                refine AllRest.cons rfl (fun K hK => ?_) AllRest.nil
                refine step_append_in (by rfl) _ _ _ (by rfl) W0.heap.size 3 i0 _ 1 8 Try.underlying50 hi0 hz0 hz1 hz2 rfl (by omega) _ 0 [] (by rfl) (own_of_empty 1 kE (by first | exact kEg | exact Nat.le_refl _ | omega)) A11 psx.length c11 (psx.flatMap encI) (by rfl) (ints_len psx) (RS.news (sz := 1) (fun _ => rfl) (hrx14.to hNow)).1 (RS.news (sz := 1) (fun _ => rfl) (hrx14.to hNow)).2 (ints_one psx) (by unfold maxLen; omega) (by omega) hNow.size ?_
                intro v2 w11 hown2 hgrow2 hat2
                rw [Nat.zero_add, List.nil_append] at hown2
                obtain ⟨A12, c12, rfl, hq10, hq11⟩ := own_slice hown2
                have hrp : RS encI 1 w11 w11.heap.size A12 psx := RS.of_own (enc := encI) (sz := 1) (fun _ => rfl) hown2 rfl
                have hs2 := (RS.keptE hs2 kE hgrow2).more hgrow2.size
                have hs3 := (RH.keptE hs3 kE hgrow2).more hgrow2.size
                have hB15 := below_grownE hNow kE (by first | exact kEg | exact Nat.le_refl _ | omega) hNow.size hgrow2
                refine hK.out _ _ ?_ (fun hHeld' => ?_)
                · exact ⟨kP14.below hB15 kP14.lt, kY14.below hB15 kY14.lt, kX14.below hB15 kX14.lt, hB15⟩
                clear hK K
                change RestIn _ _ _ _ _ _ _ 21 #[true, true, true, true, true, true, true, true, true, true, true, true, true, false, false, true, false, false, false, false, false, false, false, false, false, false, false, false, false, false, false, false, false, false, false] _ _
                try simp only [Act.put, List.setIfInBounds_toArray, List.set_cons_zero, List.set_cons_succ, List.getElem_toArray, List.getElem_cons_zero, List.getElem_cons_succ]
                clear hHeld
                have hHeld := hHeld'
                clear hHeld'
                have hNow := (hHeld.2.2.2)
                skip
                refine rest_take (i := 13) (v := _) all_wide (noDefers_of (by kernel_rfl)) rfl (by kernel_rfl) (by kernel_rfl) (by kernel_rfl) (fun _ _ _ h => h) (Or.inl ⟨by rfl, by intro w hSw; clear hSw; go_simp; first | done | with_reducible rfl⟩) hHeld ?_
                change RestIn _ _ _ _ _ _ _ 20 #[true, true, true, true, true, true, true, true, true, true, true, true, true, true, false, true, false, false, false, false, false, false, false, false, false, false, false, false, false, false, false, false, false, false, false] _ _
                try simp only [Act.put, List.setIfInBounds_toArray, List.set_cons_zero, List.set_cons_succ, List.getElem_toArray, List.getElem_cons_zero, List.getElem_cons_succ]
                refine rest_ready (rs := [14]) (by kernel_rfl) (by simp) ?_
                refine AllRest.cons rfl (fun K hK => ?_) AllRest.nil
                have hNow := (hHeld.2.2.2)
                clear hLast
                have hLast := hNow
                go_simp
                gi_wp2_with ((refine ⟨trivial, ?_⟩; gi_at_call 31; (refine (callsIn_wide.2 (HPB.out A3 c3 A4 c4 A12 c12 _ hs2 hs3 hrp)).mono ?_); rintro e wn ⟨rfl, hb⟩))
                refine hK.out _ _ ?_ (fun hHeld' => ?_)
                · exact ⟨hHeld.1.below hb hHeld.1.lt, hHeld.2.1.below hb hHeld.2.1.lt, hHeld.2.2.1.below hb hHeld.2.2.1.lt, (hHeld.2.2.2).trans (hb.mono (hHeld.2.2.2).size)⟩
                clear hK K
                change RestIn _ _ _ _ _ _ _ 19 #[true, true, true, true, true, true, true, true, true, true, true, true, true, true, true, true, false, false, false, false, false, false, false, false, false, false, false, false, false, false, false, false, false, false, false] _ _
                try simp only [Act.put, List.setIfInBounds_toArray, List.set_cons_zero, List.set_cons_succ, List.getElem_toArray, List.getElem_cons_zero, List.getElem_cons_succ]
                clear hHeld
                have hHeld := hHeld'
                clear hHeld'
                have hNow := (hHeld.2.2.2)
                try have kE := kE.below hb kE.lt
                refine rest_take (i := 16) (v := _) all_wide (noDefers_of (by kernel_rfl)) rfl (by kernel_rfl) (by kernel_rfl) (by kernel_rfl) (fun _ _ _ h => h) (Or.inl ⟨by rfl, by intro w hSw; clear hSw; go_simp; first | done | with_reducible rfl⟩) hHeld ?_
                change RestIn _ _ _ _ _ _ _ 18 #[true, true, true, true, true, true, true, true, true, true, true, true, true, true, true, true, true, false, false, false, false, false, false, false, false, false, false, false, false, false, false, false, false, false, false] _ _
                try simp only [Act.put, List.setIfInBounds_toArray, List.set_cons_zero, List.set_cons_succ, List.getElem_toArray, List.getElem_cons_zero, List.getElem_cons_succ]
                refine rest_take (i := 17) (v := _) all_wide (noDefers_of (by kernel_rfl)) rfl (by kernel_rfl) (by kernel_rfl) (by kernel_rfl) (fun _ _ _ h => h) (Or.inl ⟨by rfl, by intro w hSw; clear hSw; go_simp; first | done | with_reducible rfl⟩) hHeld ?_
                change RestIn _ _ _ _ _ _ _ 17 #[true, true, true, true, true, true, true, true, true, true, true, true, true, true, true, true, true, true, false, false, false, false, false, false, false, false, false, false, false, false, false, false, false, false, false] _ _
                try simp only [Act.put, List.setIfInBounds_toArray, List.set_cons_zero, List.set_cons_succ, List.getElem_toArray, List.getElem_cons_zero, List.getElem_cons_succ]
                refine rest_take (i := 18) (v := _) all_wide (noDefers_of (by kernel_rfl)) rfl (by kernel_rfl) (by kernel_rfl) (by kernel_rfl) (fun _ _ _ h => h) (Or.inl ⟨by rfl, by intro w hSw; clear hSw; go_simp; first | done | with_reducible rfl⟩) hHeld ?_
                change RestIn _ _ _ _ _ _ _ 16 #[true, true, true, true, true, true, true, true, true, true, true, true, true, true, true, true, true, true, true, false, false, false, false, false, false, false, false, false, false, false, false, false, false, false, false] _ _
                try simp only [Act.put, List.setIfInBounds_toArray, List.set_cons_zero, List.set_cons_succ, List.getElem_toArray, List.getElem_cons_zero, List.getElem_cons_succ]
                refine rest_take (i := 20) (v := _) all_wide (noDefers_of (by kernel_rfl)) rfl (by kernel_rfl) (by kernel_rfl) (by kernel_rfl) (fun _ _ _ h => h) (Or.inl ⟨by rfl, by intro w hSw; clear hSw; go_simp; first | done | with_reducible rfl⟩) hHeld ?_
                change RestIn _ _ _ _ _ _ _ 15 #[true, true, true, true, true, true, true, true, true, true, true, true, true, true, true, true, true, true, true, false, true, false, false, false, false, false, false, false, false, false, false, false, false, false, false] _ _
                try simp only [Act.put, List.setIfInBounds_toArray, List.set_cons_zero, List.set_cons_succ, List.getElem_toArray, List.getElem_cons_zero, List.getElem_cons_succ]
                refine rest_take (i := 22) (v := _) all_wide (noDefers_of (by kernel_rfl)) rfl (by kernel_rfl) (by kernel_rfl) (by kernel_rfl) (fun _ _ _ h => h) (Or.inl ⟨by rfl, by intro w hSw; clear hSw; go_simp; first | done | with_reducible rfl⟩) hHeld ?_
                change RestIn _ _ _ _ _ _ _ 14 #[true, true, true, true, true, true, true, true, true, true, true, true, true, true, true, true, true, true, true, false, true, false, true, false, false, false, false, false, false, false, false, false, false, false, false] _ _
                try simp only [Act.put, List.setIfInBounds_toArray, List.set_cons_zero, List.set_cons_succ, List.getElem_toArray, List.getElem_cons_zero, List.getElem_cons_succ]
                refine rest_take (i := 23) (v := _) all_wide (noDefers_of (by kernel_rfl)) rfl (by kernel_rfl) (by kernel_rfl) (by kernel_rfl) (fun _ _ _ h => h) (Or.inl ⟨by rfl, by intro w hSw; (obtain ⟨q0, q1, q2, _⟩ := hSw; have q0x0 := q0.cell 0; have q0x1 := q0.cell 1; have q1x0 := q1.cell 0; have q1x1 := q1.cell 1; have q2x0 := q2.cell 0; have q2x1 := q2.cell 1; simp at q0x0 q0x1 q1x0 q1x1 q2x0 q2x1); go_simp; first | done | with_reducible rfl⟩) hHeld ?_
                change RestIn _ _ _ _ _ _ _ 13 #[true, true, true, true, true, true, true, true, true, true, true, true, true, true, true, true, true, true, true, false, true, false, true, true, false, false, false, false, false, false, false, false, false, false, false] _ _
                try simp only [Act.put, List.setIfInBounds_toArray, List.set_cons_zero, List.set_cons_succ, List.getElem_toArray, List.getElem_cons_zero, List.getElem_cons_succ]
                refine rest_take (i := 25) (v := _) all_wide (noDefers_of (by kernel_rfl)) rfl (by kernel_rfl) (by kernel_rfl) (by kernel_rfl) (fun _ _ _ h => h) (Or.inl ⟨by rfl, by intro w hSw; (obtain ⟨q0, q1, q2, _⟩ := hSw; have q0x0 := q0.cell 0; have q0x1 := q0.cell 1; have q1x0 := q1.cell 0; have q1x1 := q1.cell 1; have q2x0 := q2.cell 0; have q2x1 := q2.cell 1; simp at q0x0 q0x1 q1x0 q1x1 q2x0 q2x1); go_simp; first | done | with_reducible rfl⟩) hHeld ?_
                change RestIn _ _ _ _ _ _ _ 12 #[true, true, true, true, true, true, true, true, true, true, true, true, true, true, true, true, true, true, true, false, true, false, true, true, false, true, false, false, false, false, false, false, false, false, false] _ _
                try simp only [Act.put, List.setIfInBounds_toArray, List.set_cons_zero, List.set_cons_succ, List.getElem_toArray, List.getElem_cons_zero, List.getElem_cons_succ]
                refine rest_take (i := 28) (v := _) all_wide (noDefers_of (by kernel_rfl)) rfl (by kernel_rfl) (by kernel_rfl) (by kernel_rfl) (fun _ _ _ h => h) (Or.inl ⟨by rfl, by intro w hSw; clear hSw; go_simp; first | done | with_reducible rfl⟩) hHeld ?_
                change RestIn _ _ _ _ _ _ _ 11 #[true, true, true, true, true, true, true, true, true, true, true, true, true, true, true, true, true, true, true, false, true, false, true, true, false, true, false, false, true, false, false, false, false, false, false] _ _
                try simp only [Act.put, List.setIfInBounds_toArray, List.set_cons_zero, List.set_cons_succ, List.getElem_toArray, List.getElem_cons_zero, List.getElem_cons_succ]
                refine rest_ready (rs := [19]) (by kernel_rfl) (by simp) ?_
                refine AllRest.cons rfl (fun K hK => ?_) AllRest.nil
                have hNow := (hHeld.2.2.2)
                clear hLast
                have hLast := hNow
                go_simp
                gi_wp2_with ((refine ⟨trivial, ?_⟩; gi_at_call 17; (refine (callsIn_wide.2 (HTests.out _ (hr14.to hNow))).mono ?_); rintro e wn ⟨A3, c3, rfl, hs2, _, _, hb⟩))
                refine hK.out _ _ ?_ (fun hHeld' => ?_)
                · exact ⟨hHeld.1.below hb hHeld.1.lt, hHeld.2.1.below hb hHeld.2.1.lt, hHeld.2.2.1.below hb hHeld.2.2.1.lt, (hHeld.2.2.2).trans (hb.mono (hHeld.2.2.2).size)⟩
                clear hK K
                change RestIn _ _ _ _ _ _ _ 10 #[true, true, true, true, true, true, true, true, true, true, true, true, true, true, true, true, true, true, true, true, true, false, true, true, false, true, false, false, true, false, false, false, false, false, false] _ _
                try simp only [Act.put, List.setIfInBounds_toArray, List.set_cons_zero, List.set_cons_succ, List.getElem_toArray, List.getElem_cons_zero, List.getElem_cons_succ]
                clear hHeld
                have hHeld := hHeld'
                clear hHeld'
                have hNow := (hHeld.2.2.2)
                try have kE := kE.below hb kE.lt
                refine rest_ready (rs := [21]) (by kernel_rfl) (by simp) ?_
                refine AllRest.cons rfl (fun K hK => ?_) AllRest.nil
                have hNow := (hHeld.2.2.2)
                clear hLast
                have hLast := hNow
                go_simp
                gi_wp2_with ((refine ⟨trivial, ?_⟩; gi_at_call 18; (refine (callsIn_wide.2 (HTent.out _ (ht14.to hNow))).mono ?_); rintro e wn ⟨A4, c4, rfl, hs3, _, _, hb⟩))
                refine hK.out _ _ ?_ (fun hHeld' => ?_)
                · exact ⟨hHeld.1.below hb hHeld.1.lt, hHeld.2.1.below hb hHeld.2.1.lt, hHeld.2.2.1.below hb hHeld.2.2.1.lt, (hHeld.2.2.2).trans (hb.mono (hHeld.2.2.2).size)⟩
                clear hK K
                change RestIn _ _ _ _ _ _ _ 9 #[true, true, true, true, true, true, true, true, true, true, true, true, true, true, true, true, true, true, true, true, true, true, true, true, false, true, false, false, true, false, false, false, false, false, false] _ _
                try simp only [Act.put, List.setIfInBounds_toArray, List.set_cons_zero, List.set_cons_succ, List.getElem_toArray, List.getElem_cons_zero, List.getElem_cons_succ]
                clear hHeld
                have hHeld := hHeld'
                clear hHeld'
                have hNow := (hHeld.2.2.2)
                have hs2 := hs2.to hb
                try have kE := kE.below hb kE.lt
                refine rest_ready (rs := [24]) (by kernel_rfl) (by simp) ?_
                refine AllRest.cons rfl (fun K hK => ?_) AllRest.nil
                have hNow := (hHeld.2.2.2)
                clear hLast
                have hLast := hNow
                go_simp
                gi_wp2_with ((refine ⟨trivial, ?_⟩; gi_at_call 25; (with_reducible refine (callsIn_wide.2 (Vector_any push _)).mono ?_); rintro e wn ⟨rfl, hb⟩))
                refine hK.out _ _ ?_ (fun hHeld' => ?_)
                · exact ⟨hHeld.1.below hb hHeld.1.lt, hHeld.2.1.below hb hHeld.2.1.lt, hHeld.2.2.1.below hb hHeld.2.2.1.lt, (hHeld.2.2.2).trans (hb.mono (hHeld.2.2.2).size)⟩
                clear hK K
                change RestIn _ _ _ _ _ _ _ 8 #[true, true, true, true, true, true, true, true, true, true, true, true, true, true, true, true, true, true, true, true, true, true, true, true, true, true, false, false, true, false, false, false, false, false, false] _ _
                try simp only [Act.put, List.setIfInBounds_toArray, List.set_cons_zero, List.set_cons_succ, List.getElem_toArray, List.getElem_cons_zero, List.getElem_cons_succ]
                clear hHeld
                have hHeld := hHeld'
                clear hHeld'
                have hNow := (hHeld.2.2.2)
                have hs2 := hs2.to hb
                have hs3 := hs3.to hb
                try have kE := kE.below hb kE.lt
                refine rest_ready (rs := [26]) (by kernel_rfl) (by simp) ?_
                refine AllRest.cons rfl (fun K hK => ?_) AllRest.nil
                have hNow := (hHeld.2.2.2)
                clear hLast
                have hLast := hNow
                go_simp
                gi_wp2_with ((refine ⟨trivial, ?_⟩; gi_at_call 25; (with_reducible refine (callsIn_wide.2 (Vector_any way _)).mono ?_); rintro e wn ⟨rfl, hb⟩))
                refine hK.out _ _ ?_ (fun hHeld' => ?_)
                · exact ⟨hHeld.1.below hb hHeld.1.lt, hHeld.2.1.below hb hHeld.2.1.lt, hHeld.2.2.1.below hb hHeld.2.2.1.lt, (hHeld.2.2.2).trans (hb.mono (hHeld.2.2.2).size)⟩
                clear hK K
                change RestIn _ _ _ _ _ _ _ 7 #[true, true, true, true, true, true, true, true, true, true, true, true, true, true, true, true, true, true, true, true, true, true, true, true, true, true, true, false, true, false, false, false, false, false, false] _ _
                try simp only [Act.put, List.setIfInBounds_toArray, List.set_cons_zero, List.set_cons_succ, List.getElem_toArray, List.getElem_cons_zero, List.getElem_cons_succ]
                clear hHeld
                have hHeld := hHeld'
                clear hHeld'
                have hNow := (hHeld.2.2.2)
                have hs2 := hs2.to hb
                have hs3 := hs3.to hb
                try have kE := kE.below hb kE.lt
                refine rest_ready (rs := [27]) (by kernel_rfl) (by simp) ?_
                refine AllRest.cons rfl (fun K hK => ?_) AllRest.nil
                have hNow := (hHeld.2.2.2)
                clear hLast
                have hLast := hNow
                go_simp
                gi_wp2_with ((refine ⟨trivial, ?_⟩; gi_at_call 32; (refine (callsIn_wide.2 (HPW.out A3 c3 A4 c4 _ hs2 hs3)).mono ?_); rintro e wn ⟨rfl, hb⟩))
                refine hK.out _ _ ?_ (fun hHeld' => ?_)
                · exact ⟨hHeld.1.below hb hHeld.1.lt, hHeld.2.1.below hb hHeld.2.1.lt, hHeld.2.2.1.below hb hHeld.2.2.1.lt, (hHeld.2.2.2).trans (hb.mono (hHeld.2.2.2).size)⟩
                clear hK K
                change RestIn _ _ _ _ _ _ _ 6 #[true, true, true, true, true, true, true, true, true, true, true, true, true, true, true, true, true, true, true, true, true, true, true, true, true, true, true, true, true, false, false, false, false, false, false] _ _
                try simp only [Act.put, List.setIfInBounds_toArray, List.set_cons_zero, List.set_cons_succ, List.getElem_toArray, List.getElem_cons_zero, List.getElem_cons_succ]
                clear hHeld
                have hHeld := hHeld'
                clear hHeld'
                have hNow := (hHeld.2.2.2)
                try have kE := kE.below hb kE.lt
                refine rest_take (i := 29) (v := _) all_wide (noDefers_of (by kernel_rfl)) rfl (by kernel_rfl) (by kernel_rfl) (by kernel_rfl) (fun _ _ _ h => h) (Or.inl ⟨by rfl, by intro w hSw; clear hSw; go_simp; first | done | with_reducible rfl⟩) hHeld ?_
                change RestIn _ _ _ _ _ _ _ 5 #[true, true, true, true, true, true, true, true, true, true, true, true, true, true, true, true, true, true, true, true, true, true, true, true, true, true, true, true, true, true, false, false, false, false, false] _ _
                try simp only [Act.put, List.setIfInBounds_toArray, List.set_cons_zero, List.set_cons_succ, List.getElem_toArray, List.getElem_cons_zero, List.getElem_cons_succ]
                refine rest_take (i := 30) (v := _) all_wide (noDefers_of (by kernel_rfl)) rfl (by kernel_rfl) (by kernel_rfl) (by kernel_rfl) (fun _ _ _ h => h) (Or.inl ⟨by rfl, by intro w hSw; clear hSw; go_simp; first | done | with_reducible rfl⟩) hHeld ?_
                change RestIn _ _ _ _ _ _ _ 4 #[true, true, true, true, true, true, true, true, true, true, true, true, true, true, true, true, true, true, true, true, true, true, true, true, true, true, true, true, true, true, true, false, false, false, false] _ _
                try simp only [Act.put, List.setIfInBounds_toArray, List.set_cons_zero, List.set_cons_succ, List.getElem_toArray, List.getElem_cons_zero, List.getElem_cons_succ]
                refine rest_take (i := 31) (v := _) all_wide (noDefers_of (by kernel_rfl)) rfl (by kernel_rfl) (by kernel_rfl) (by kernel_rfl) (fun _ _ _ h => h) (Or.inl ⟨by rfl, by intro w hSw; clear hSw; go_simp; first | done | with_reducible rfl⟩) hHeld ?_
                change RestIn _ _ _ _ _ _ _ 3 #[true, true, true, true, true, true, true, true, true, true, true, true, true, true, true, true, true, true, true, true, true, true, true, true, true, true, true, true, true, true, true, true, false, false, false] _ _
                try simp only [Act.put, List.setIfInBounds_toArray, List.set_cons_zero, List.set_cons_succ, List.getElem_toArray, List.getElem_cons_zero, List.getElem_cons_succ]
                refine rest_ready (rs := [32]) (by kernel_rfl) (by simp) ?_
                refine AllRest.cons rfl (fun K hK => ?_) AllRest.nil
                have hNow := (hHeld.2.2.2)
                clear hLast
                have hLast := hNow
                go_simp
                gi_wp2_with ((refine ⟨trivial, ?_⟩; gi_at_call 20; (with_reducible refine (callsIn_wide.2 (wakes_any _)).mono ?_); rintro e wn ⟨rfl, hb⟩))
                refine hK.out _ _ ?_ (fun hHeld' => ?_)
                · exact ⟨hHeld.1.below hb hHeld.1.lt, hHeld.2.1.below hb hHeld.2.1.lt, hHeld.2.2.1.below hb hHeld.2.2.1.lt, (hHeld.2.2.2).trans (hb.mono (hHeld.2.2.2).size)⟩
                clear hK K
                change RestIn _ _ _ _ _ _ _ 2 #[true, true, true, true, true, true, true, true, true, true, true, true, true, true, true, true, true, true, true, true, true, true, true, true, true, true, true, true, true, true, true, true, true, false, false] _ _
                try simp only [Act.put, List.setIfInBounds_toArray, List.set_cons_zero, List.set_cons_succ, List.getElem_toArray, List.getElem_cons_zero, List.getElem_cons_succ]
                clear hHeld
                have hHeld := hHeld'
                clear hHeld'
                have hNow := (hHeld.2.2.2)
                try have kE := kE.below hb kE.lt
                refine rest_take (i := 33) (v := _) all_wide (noDefers_of (by kernel_rfl)) rfl (by kernel_rfl) (by kernel_rfl) (by kernel_rfl) (fun _ _ _ h => h) (Or.inl ⟨by rfl, by intro w hSw; clear hSw; go_simp; first | done | with_reducible rfl⟩) hHeld ?_
                change RestIn _ _ _ _ _ _ _ 1 #[true, true, true, true, true, true, true, true, true, true, true, true, true, true, true, true, true, true, true, true, true, true, true, true, true, true, true, true, true, true, true, true, true, true, false] _ _
                try simp only [Act.put, List.setIfInBounds_toArray, List.set_cons_zero, List.set_cons_succ, List.getElem_toArray, List.getElem_cons_zero, List.getElem_cons_succ]
                refine rest_take (i := 34) (v := _) all_wide (noDefers_of (by kernel_rfl)) rfl (by kernel_rfl) (by kernel_rfl) (by kernel_rfl) (fun _ _ _ h => h) (Or.inl ⟨by rfl, by intro w hSw; clear hSw; go_simp; first | done | with_reducible rfl⟩) hHeld ?_
                change RestIn _ _ _ _ _ _ _ 0 #[true, true, true, true, true, true, true, true, true, true, true, true, true, true, true, true, true, true, true, true, true, true, true, true, true, true, true, true, true, true, true, true, true, true, true] _ _
                try simp only [Act.put, List.setIfInBounds_toArray, List.set_cons_zero, List.set_cons_succ, List.getElem_toArray, List.getElem_cons_zero, List.getElem_cons_succ]
                refine rest_done (by kernel_rfl) ?_
                go_wp2_with fail
                go_ret
                exact ⟨rfl, HBE.out.trans (hNow.mono HBE.out.size)⟩
              refine AllRest.cons rfl (fun K hK => ?_) ?_
              · have kEg := (hHeld.2.2.2).size
                have kE := blk_new_of (hHeld.2.2.2) 3 #[]
                have hOld := (hHeld.2.2.2)
                go_simp
                refine hK.out _ _ ?_ (fun hHeld' => ?_)
                · exact (fun (hbel : Below W0.heap.size W0 _) => ⟨kP14.below hbel kP14.lt, kY14.below hbel kY14.lt, kX14.below hbel kX14.lt, hbel⟩) ((hHeld.2.2.2).alloc (hHeld.2.2.2).size _)
                clear hK K
                change RestIn _ _ _ _ _ _ _ 23 #[true, true, true, true, true, true, false, true, true, true, true, true, false, false, false, true, false, false, false, false, false, false, false, false, false, false, false, false, false, false, false, false, false, false, false] _ _
                try simp only [Act.put, List.setIfInBounds_toArray, List.set_cons_zero, List.set_cons_succ, List.getElem_toArray, List.getElem_cons_zero, List.getElem_cons_succ]
                clear hHeld
                have hHeld := hHeld'
                clear hHeld'
                have hNow := (hHeld.2.2.2)
                try simp at kEg
                try have hs2 := hs2.to ((Below.refl _ _).alloc (Nat.le_refl _) (.cells #[] 3))
                try have hs3 := hs3.to ((Below.refl _ _).alloc (Nat.le_refl _) (.cells #[] 3))
                refine rest_ready (rs := [6]) (by kernel_rfl) (by simp) ?_
                refine AllRest.cons rfl (fun K hK => ?_) AllRest.nil
                have hNow := (hHeld.2.2.2)
                clear hLast
                have hLast := hNow
                go_simp
                gi_wp2_with ((refine ⟨trivial, ?_⟩; gi_at_call 25; (with_reducible refine (callsIn_wide.2 (Vector_any push _)).mono ?_); rintro e wn ⟨rfl, hb⟩))
                refine hK.out _ _ ?_ (fun hHeld' => ?_)
                · exact ⟨hHeld.1.below hb hHeld.1.lt, hHeld.2.1.below hb hHeld.2.1.lt, hHeld.2.2.1.below hb hHeld.2.2.1.lt, (hHeld.2.2.2).trans (hb.mono (hHeld.2.2.2).size)⟩
                clear hK K
                change RestIn _ _ _ _ _ _ _ 22 #[true, true, true, true, true, true, true, true, true, true, true, true, false, false, false, true, false, false, false, false, false, false, false, false, false, false, false, false, false, false, false, false, false, false, false] _ _
                try simp only [Act.put, List.setIfInBounds_toArray, List.set_cons_zero, List.set_cons_succ, List.getElem_toArray, List.getElem_cons_zero, List.getElem_cons_succ]
                clear hHeld
                have hHeld := hHeld'
                clear hHeld'
                have hNow := (hHeld.2.2.2)
                have hs2 := hs2.to hb
                have hs3 := hs3.to hb
                try have kE := kE.below hb kE.lt
                refine rest_ready (rs := [12]) (by kernel_rfl) (by simp) ?_
                refine AllRest.cons rfl (fun K hK => ?_) AllRest.nil
                refine step_append_in (by rfl) _ _ _ (by rfl) W0.heap.size 3 i0 _ 1 8 Try.underlying50 hi0 hz0 hz1 hz2 rfl (by omega) _ 0 [] (by rfl) (own_of_empty 1 kE (by first | exact kEg | exact Nat.le_refl _ | omega)) A11 psx.length c11 (psx.flatMap encI) (by rfl) (ints_len psx) (RS.news (sz := 1) (fun _ => rfl) (hrx14.to hNow)).1 (RS.news (sz := 1) (fun _ => rfl) (hrx14.to hNow)).2 (ints_one psx) (by unfold maxLen; omega) (by omega) hNow.size ?_
                intro v2 w11 hown2 hgrow2 hat2
                rw [Nat.zero_add, List.nil_append] at hown2
                obtain ⟨A12, c12, rfl, hq10, hq11⟩ := own_slice hown2
                have hrp : RS encI 1 w11 w11.heap.size A12 psx := RS.of_own (enc := encI) (sz := 1) (fun _ => rfl) hown2 rfl
                have hs2 := (RS.keptE hs2 kE hgrow2).more hgrow2.size
                have hs3 := (RH.keptE hs3 kE hgrow2).more hgrow2.size
                have hB15 := below_grownE hNow kE (by first | exact kEg | exact Nat.le_refl _ | omega) hNow.size hgrow2
                refine hK.out _ _ ?_ (fun hHeld' => ?_)
                · exact ⟨kP14.below hB15 kP14.lt, kY14.below hB15 kY14.lt, kX14.below hB15 kX14.lt, hB15⟩
                clear hK K
                change RestIn _ _ _ _ _ _ _ 21 #[true, true, true, true, true, true, true, true, true, true, true, true, true, false, false, true, false, false, false, false, false, false, false, false, false, false, false, false, false, false, false, false, false, false, false] _ _
                try simp only [Act.put, List.setIfInBounds_toArray, List.set_cons_zero, List.set_cons_succ, List.getElem_toArray, List.getElem_cons_zero, List.getElem_cons_succ]
                clear hHeld
                have hHeld := hHeld'
                clear hHeld'
                have hNow := (hHeld.2.2.2)
                skip
                refine rest_take (i := 13) (v := _) all_wide (noDefers_of (by kernel_rfl)) rfl (by kernel_rfl) (by kernel_rfl) (by kernel_rfl) (fun _ _ _ h => h) (Or.inl ⟨by rfl, by intro w hSw; clear hSw; go_simp; first | done | with_reducible rfl⟩) hHeld ?_
                change RestIn _ _ _ _ _ _ _ 20 #[true, true, true, true, true, true, true, true, true, true, true, true, true, true, false, true, false, false, false, false, false, false, false, false, false, false, false, false, false, false, false, false, false, false, false] _ _
                try simp only [Act.put, List.setIfInBounds_toArray, List.set_cons_zero, List.set_cons_succ, List.getElem_toArray, List.getElem_cons_zero, List.getElem_cons_succ]
                refine rest_ready (rs := [14]) (by kernel_rfl) (by simp) ?_
                refine AllRest.cons rfl (fun K hK => ?_) AllRest.nil
                have hNow := (hHeld.2.2.2)
                clear hLast
                have hLast := hNow
                go_simp
                gi_wp2_with ((refine ⟨trivial, ?_⟩; gi_at_call 31; (refine (callsIn_wide.2 (HPB.out A3 c3 A4 c4 A12 c12 _ hs2 hs3 hrp)).mono ?_); rintro e wn ⟨rfl, hb⟩))
                refine hK.out _ _ ?_ (fun hHeld' => ?_)
                · exact ⟨hHeld.1.below hb hHeld.1.lt, hHeld.2.1.below hb hHeld.2.1.lt, hHeld.2.2.1.below hb hHeld.2.2.1.lt, (hHeld.2.2.2).trans (hb.mono (hHeld.2.2.2).size)⟩
                clear hK K
                change RestIn _ _ _ _ _ _ _ 19 #[true, true, true, true, true, true, true, true, true, true, true, true, true, true, true, true, false, false, false, false, false, false, false, false, false, false, false, false, false, false, false, false, false, false, false] _ _
                try simp only [Act.put, List.setIfInBounds_toArray, List.set_cons_zero, List.set_cons_succ, List.getElem_toArray, List.getElem_cons_zero, List.getElem_cons_succ]
                clear hHeld
                have hHeld := hHeld'
                clear hHeld'
                have hNow := (hHeld.2.2.2)
                try have kE := kE.below hb kE.lt
                refine rest_take (i := 16) (v := _) all_wide (noDefers_of (by kernel_rfl)) rfl (by kernel_rfl) (by kernel_rfl) (by kernel_rfl) (fun _ _ _ h => h) (Or.inl ⟨by rfl, by intro w hSw; clear hSw; go_simp; first | done | with_reducible rfl⟩) hHeld ?_
                change RestIn _ _ _ _ _ _ _ 18 #[true, true, true, true, true, true, true, true, true, true, true, true, true, true, true, true, true, false, false, false, false, false, false, false, false, false, false, false, false, false, false, false, false, false, false] _ _
                try simp only [Act.put, List.setIfInBounds_toArray, List.set_cons_zero, List.set_cons_succ, List.getElem_toArray, List.getElem_cons_zero, List.getElem_cons_succ]
                refine rest_take (i := 17) (v := _) all_wide (noDefers_of (by kernel_rfl)) rfl (by kernel_rfl) (by kernel_rfl) (by kernel_rfl) (fun _ _ _ h => h) (Or.inl ⟨by rfl, by intro w hSw; clear hSw; go_simp; first | done | with_reducible rfl⟩) hHeld ?_
                change RestIn _ _ _ _ _ _ _ 17 #[true, true, true, true, true, true, true, true, true, true, true, true, true, true, true, true, true, true, false, false, false, false, false, false, false, false, false, false, false, false, false, false, false, false, false] _ _
                try simp only [Act.put, List.setIfInBounds_toArray, List.set_cons_zero, List.set_cons_succ, List.getElem_toArray, List.getElem_cons_zero, List.getElem_cons_succ]
                refine rest_take (i := 18) (v := _) all_wide (noDefers_of (by kernel_rfl)) rfl (by kernel_rfl) (by kernel_rfl) (by kernel_rfl) (fun _ _ _ h => h) (Or.inl ⟨by rfl, by intro w hSw; clear hSw; go_simp; first | done | with_reducible rfl⟩) hHeld ?_
                change RestIn _ _ _ _ _ _ _ 16 #[true, true, true, true, true, true, true, true, true, true, true, true, true, true, true, true, true, true, true, false, false, false, false, false, false, false, false, false, false, false, false, false, false, false, false] _ _
                try simp only [Act.put, List.setIfInBounds_toArray, List.set_cons_zero, List.set_cons_succ, List.getElem_toArray, List.getElem_cons_zero, List.getElem_cons_succ]
                refine rest_take (i := 20) (v := _) all_wide (noDefers_of (by kernel_rfl)) rfl (by kernel_rfl) (by kernel_rfl) (by kernel_rfl) (fun _ _ _ h => h) (Or.inl ⟨by rfl, by intro w hSw; clear hSw; go_simp; first | done | with_reducible rfl⟩) hHeld ?_
                change RestIn _ _ _ _ _ _ _ 15 #[true, true, true, true, true, true, true, true, true, true, true, true, true, true, true, true, true, true, true, false, true, false, false, false, false, false, false, false, false, false, false, false, false, false, false] _ _
                try simp only [Act.put, List.setIfInBounds_toArray, List.set_cons_zero, List.set_cons_succ, List.getElem_toArray, List.getElem_cons_zero, List.getElem_cons_succ]
                refine rest_take (i := 22) (v := _) all_wide (noDefers_of (by kernel_rfl)) rfl (by kernel_rfl) (by kernel_rfl) (by kernel_rfl) (fun _ _ _ h => h) (Or.inl ⟨by rfl, by intro w hSw; clear hSw; go_simp; first | done | with_reducible rfl⟩) hHeld ?_
                change RestIn _ _ _ _ _ _ _ 14 #[true, true, true, true, true, true, true, true, true, true, true, true, true, true, true, true, true, true, true, false, true, false, true, false, false, false, false, false, false, false, false, false, false, false, false] _ _
                try simp only [Act.put, List.setIfInBounds_toArray, List.set_cons_zero, List.set_cons_succ, List.getElem_toArray, List.getElem_cons_zero, List.getElem_cons_succ]
                refine rest_take (i := 23) (v := _) all_wide (noDefers_of (by kernel_rfl)) rfl (by kernel_rfl) (by kernel_rfl) (by kernel_rfl) (fun _ _ _ h => h) (Or.inl ⟨by rfl, by intro w hSw; (obtain ⟨q0, q1, q2, _⟩ := hSw; have q0x0 := q0.cell 0; have q0x1 := q0.cell 1; have q1x0 := q1.cell 0; have q1x1 := q1.cell 1; have q2x0 := q2.cell 0; have q2x1 := q2.cell 1; simp at q0x0 q0x1 q1x0 q1x1 q2x0 q2x1); go_simp; first | done | with_reducible rfl⟩) hHeld ?_
                change RestIn _ _ _ _ _ _ _ 13 #[true, true, true, true, true, true, true, true, true, true, true, true, true, true, true, true, true, true, true, false, true, false, true, true, false, false, false, false, false, false, false, false, false, false, false] _ _
                try simp only [Act.put, List.setIfInBounds_toArray, List.set_cons_zero, List.set_cons_succ, List.getElem_toArray, List.getElem_cons_zero, List.getElem_cons_succ]
                refine rest_take (i := 25) (v := _) all_wide (noDefers_of (by kernel_rfl)) rfl (by kernel_rfl) (by kernel_rfl) (by kernel_rfl) (fun _ _ _ h => h) (Or.inl ⟨by rfl, by intro w hSw; (obtain ⟨q0, q1, q2, _⟩ := hSw; have q0x0 := q0.cell 0; have q0x1 := q0.cell 1; have q1x0 := q1.cell 0; have q1x1 := q1.cell 1; have q2x0 := q2.cell 0; have q2x1 := q2.cell 1; simp at q0x0 q0x1 q1x0 q1x1 q2x0 q2x1); go_simp; first | done | with_reducible rfl⟩) hHeld ?_
                change RestIn _ _ _ _ _ _ _ 12 #[true, true, true, true, true, true, true, true, true, true, true, true, true, true, true, true, true, true, true, false, true, false, true, true, false, true, false, false, false, false, false, false, false, false, false] _ _
                try simp only [Act.put, List.setIfInBounds_toArray, List.set_cons_zero, List.set_cons_succ, List.getElem_toArray, List.getElem_cons_zero, List.getElem_cons_succ]
                refine rest_take (i := 28) (v := _) all_wide (noDefers_of (by kernel_rfl)) rfl (by kernel_rfl) (by kernel_rfl) (by kernel_rfl) (fun _ _ _ h => h) (Or.inl ⟨by rfl, by intro w hSw; clear hSw; go_simp; first | done | with_reducible rfl⟩) hHeld ?_
                change RestIn _ _ _ _ _ _ _ 11 #[true, true, true, true, true, true, true, true, true, true, true, true, true, true, true, true, true, true, true, false, true, false, true, true, false, true, false, false, true, false, false, false, false, false, false] _ _
                try simp only [Act.put, List.setIfInBounds_toArray, List.set_cons_zero, List.set_cons_succ, List.getElem_toArray, List.getElem_cons_zero, List.getElem_cons_succ]
                refine rest_ready (rs := [19]) (by kernel_rfl) (by simp) ?_
                refine AllRest.cons rfl (fun K hK => ?_) AllRest.nil
                have hNow := (hHeld.2.2.2)
                clear hLast
                have hLast := hNow
                go_simp
                gi_wp2_with ((refine ⟨trivial, ?_⟩; gi_at_call 17; (refine (callsIn_wide.2 (HTests.out _ (hr14.to hNow))).mono ?_); rintro e wn ⟨A3, c3, rfl, hs2, _, _, hb⟩))
                refine hK.out _ _ ?_ (fun hHeld' => ?_)
                · exact ⟨hHeld.1.below hb hHeld.1.lt, hHeld.2.1.below hb hHeld.2.1.lt, hHeld.2.2.1.below hb hHeld.2.2.1.lt, (hHeld.2.2.2).trans (hb.mono (hHeld.2.2.2).size)⟩
                clear hK K
                change RestIn _ _ _ _ _ _ _ 10 #[true, true, true, true, true, true, true, true, true, true, true, true, true, true, true, true, true, true, true, true, true, false, true, true, false, true, false, false, true, false, false, false, false, false, false] _ _
                try simp only [Act.put, List.setIfInBounds_toArray, List.set_cons_zero, List.set_cons_succ, List.getElem_toArray, List.getElem_cons_zero, List.getElem_cons_succ]
                clear hHeld
                have hHeld := hHeld'
                clear hHeld'
                have hNow := (hHeld.2.2.2)
                try have kE := kE.below hb kE.lt
                refine rest_ready (rs := [21]) (by kernel_rfl) (by simp) ?_
                refine AllRest.cons rfl (fun K hK => ?_) AllRest.nil
                have hNow := (hHeld.2.2.2)
                clear hLast
                have hLast := hNow
                go_simp
                gi_wp2_with ((refine ⟨trivial, ?_⟩; gi_at_call 18; (refine (callsIn_wide.2 (HTent.out _ (ht14.to hNow))).mono ?_); rintro e wn ⟨A4, c4, rfl, hs3, _, _, hb⟩))
                refine hK.out _ _ ?_ (fun hHeld' => ?_)
                · exact ⟨hHeld.1.below hb hHeld.1.lt, hHeld.2.1.below hb hHeld.2.1.lt, hHeld.2.2.1.below hb hHeld.2.2.1.lt, (hHeld.2.2.2).trans (hb.mono (hHeld.2.2.2).size)⟩
                clear hK K
                change RestIn _ _ _ _ _ _ _ 9 #[true, true, true, true, true, true, true, true, true, true, true, true, true, true, true, true, true, true, true, true, true, true, true, true, false, true, false, false, true, false, false, false, false, false, false] _ _
                try simp only [Act.put, List.setIfInBounds_toArray, List.set_cons_zero, List.set_cons_succ, List.getElem_toArray, List.getElem_cons_zero, List.getElem_cons_succ]
                clear hHeld
                have hHeld := hHeld'
                clear hHeld'
                have hNow := (hHeld.2.2.2)
                have hs2 := hs2.to hb
                try have kE := kE.below hb kE.lt
                refine rest_ready (rs := [24]) (by kernel_rfl) (by simp) ?_
                refine AllRest.cons rfl (fun K hK => ?_) AllRest.nil
                have hNow := (hHeld.2.2.2)
                clear hLast
                have hLast := hNow
                go_simp
                gi_wp2_with ((refine ⟨trivial, ?_⟩; gi_at_call 25; (with_reducible refine (callsIn_wide.2 (Vector_any push _)).mono ?_); rintro e wn ⟨rfl, hb⟩))
                refine hK.out _ _ ?_ (fun hHeld' => ?_)
                · exact ⟨hHeld.1.below hb hHeld.1.lt, hHeld.2.1.below hb hHeld.2.1.lt, hHeld.2.2.1.below hb hHeld.2.2.1.lt, (hHeld.2.2.2).trans (hb.mono (hHeld.2.2.2).size)⟩
                clear hK K
                change RestIn _ _ _ _ _ _ _ 8 #[true, true, true, true, true, true, true, true, true, true, true, true, true, true, true, true, true, true, true, true, true, true, true, true, true, true, false, false, true, false, false, false, false, false, false] _ _
                try simp only [Act.put, List.setIfInBounds_toArray, List.set_cons_zero, List.set_cons_succ, List.getElem_toArray, List.getElem_cons_zero, List.getElem_cons_succ]
                clear hHeld
                have hHeld := hHeld'
                clear hHeld'
                have hNow := (hHeld.2.2.2)
                have hs2 := hs2.to hb
                have hs3 := hs3.to hb
                try have kE := kE.below hb kE.lt
                refine rest_ready (rs := [26]) (by kernel_rfl) (by simp) ?_
                refine AllRest.cons rfl (fun K hK => ?_) AllRest.nil
                have hNow := (hHeld.2.2.2)
                clear hLast
                have hLast := hNow
                go_simp
                gi_wp2_with ((refine ⟨trivial, ?_⟩; gi_at_call 25; (with_reducible refine (callsIn_wide.2 (Vector_any way _)).mono ?_); rintro e wn ⟨rfl, hb⟩))
                refine hK.out _ _ ?_ (fun hHeld' => ?_)
                · exact ⟨hHeld.1.below hb hHeld.1.lt, hHeld.2.1.below hb hHeld.2.1.lt, hHeld.2.2.1.below hb hHeld.2.2.1.lt, (hHeld.2.2.2).trans (hb.mono (hHeld.2.2.2).size)⟩
                clear hK K
                change RestIn _ _ _ _ _ _ _ 7 #[true, true, true, true, true, true, true, true, true, true, true, true, true, true, true, true, true, true, true, true, true, true, true, true, true, true, true, false, true, false, false, false, false, false, false] _ _
                try simp only [Act.put, List.setIfInBounds_toArray, List.set_cons_zero, List.set_cons_succ, List.getElem_toArray, List.getElem_cons_zero, List.getElem_cons_succ]
                clear hHeld
                have hHeld := hHeld'
                clear hHeld'
                have hNow := (hHeld.2.2.2)
                have hs2 := hs2.to hb
                have hs3 := hs3.to hb
                try have kE := kE.below hb kE.lt
                refine rest_ready (rs := [27]) (by kernel_rfl) (by simp) ?_
                refine AllRest.cons rfl (fun K hK => ?_) AllRest.nil
                have hNow := (hHeld.2.2.2)
                clear hLast
                have hLast := hNow
                go_simp
                gi_wp2_with ((refine ⟨trivial, ?_⟩; gi_at_call 32; (refine (callsIn_wide.2 (HPW.out A3 c3 A4 c4 _ hs2 hs3)).mono ?_); rintro e wn ⟨rfl, hb⟩))
                refine hK.out _ _ ?_ (fun hHeld' => ?_)
                · exact ⟨hHeld.1.below hb hHeld.1.lt, hHeld.2.1.below hb hHeld.2.1.lt, hHeld.2.2.1.below hb hHeld.2.2.1.lt, (hHeld.2.2.2).trans (hb.mono (hHeld.2.2.2).size)⟩
                clear hK K
                change RestIn _ _ _ _ _ _ _ 6 #[true, true, true, true, true, true, true, true, true, true, true, true, true, true, true, true, true, true, true, true, true, true, true, true, true, true, true, true, true, false, false, false, false, false, false] _ _
                try simp only [Act.put, List.setIfInBounds_toArray, List.set_cons_zero, List.set_cons_succ, List.getElem_toArray, List.getElem_cons_zero, List.getElem_cons_succ]
                clear hHeld
                have hHeld := hHeld'
                clear hHeld'
                have hNow := (hHeld.2.2.2)
                try have kE := kE.below hb kE.lt
                refine rest_take (i := 29) (v := _) all_wide (noDefers_of (by kernel_rfl)) rfl (by kernel_rfl) (by kernel_rfl) (by kernel_rfl) (fun _ _ _ h => h) (Or.inl ⟨by rfl, by intro w hSw; clear hSw; go_simp; first | done | with_reducible rfl⟩) hHeld ?_
                change RestIn _ _ _ _ _ _ _ 5 #[true, true, true, true, true, true, true, true, true, true, true, true, true, true, true, true, true, true, true, true, true, true, true, true, true, true, true, true, true, true, false, false, false, false, false] _ _
                try simp only [Act.put, List.setIfInBounds_toArray, List.set_cons_zero, List.set_cons_succ, List.getElem_toArray, List.getElem_cons_zero, List.getElem_cons_succ]
                refine rest_take (i := 30) (v := _) all_wide (noDefers_of (by kernel_rfl)) rfl (by kernel_rfl) (by kernel_rfl) (by kernel_rfl) (fun _ _ _ h => h) (Or.inl ⟨by rfl, by intro w hSw; clear hSw; go_simp; first | done | with_reducible rfl⟩) hHeld ?_
                change RestIn _ _ _ _ _ _ _ 4 #[true, true, true, true, true, true, true, true, true, true, true, true, true, true, true, true, true, true, true, true, true, true, true, true, true, true, true, true, true, true, true, false, false, false, false] _ _
                try simp only [Act.put, List.setIfInBounds_toArray, List.set_cons_zero, List.set_cons_succ, List.getElem_toArray, List.getElem_cons_zero, List.getElem_cons_succ]
                refine rest_take (i := 31) (v := _) all_wide (noDefers_of (by kernel_rfl)) rfl (by kernel_rfl) (by kernel_rfl) (by kernel_rfl) (fun _ _ _ h => h) (Or.inl ⟨by rfl, by intro w hSw; clear hSw; go_simp; first | done | with_reducible rfl⟩) hHeld ?_
                change RestIn _ _ _ _ _ _ _ 3 #[true, true, true, true, true, true, true, true, true, true, true, true, true, true, true, true, true, true, true, true, true, true, true, true, true, true, true, true, true, true, true, true, false, false, false] _ _
                try simp only [Act.put, List.setIfInBounds_toArray, List.set_cons_zero, List.set_cons_succ, List.getElem_toArray, List.getElem_cons_zero, List.getElem_cons_succ]
                refine rest_ready (rs := [32]) (by kernel_rfl) (by simp) ?_
                refine AllRest.cons rfl (fun K hK => ?_) AllRest.nil
                have hNow := (hHeld.2.2.2)
                clear hLast
                have hLast := hNow
                go_simp
                gi_wp2_with ((refine ⟨trivial, ?_⟩; gi_at_call 20; (with_reducible refine (callsIn_wide.2 (wakes_any _)).mono ?_); rintro e wn ⟨rfl, hb⟩))
                refine hK.out _ _ ?_ (fun hHeld' => ?_)
                · exact ⟨hHeld.1.below hb hHeld.1.lt, hHeld.2.1.below hb hHeld.2.1.lt, hHeld.2.2.1.below hb hHeld.2.2.1.lt, (hHeld.2.2.2).trans (hb.mono (hHeld.2.2.2).size)⟩
                clear hK K
                change RestIn _ _ _ _ _ _ _ 2 #[true, true, true, true, true, true, true, true, true, true, true, true, true, true, true, true, true, true, true, true, true, true, true, true, true, true, true, true, true, true, true, true, true, false, false] _ _
                try simp only [Act.put, List.setIfInBounds_toArray, List.set_cons_zero, List.set_cons_succ, List.getElem_toArray, List.getElem_cons_zero, List.getElem_cons_succ]
                clear hHeld
                have hHeld := hHeld'
                clear hHeld'
                have hNow := (hHeld.2.2.2)
                try have kE := kE.below hb kE.lt
                refine rest_take (i := 33) (v := _) all_wide (noDefers_of (by kernel_rfl)) rfl (by kernel_rfl) (by kernel_rfl) (by kernel_rfl) (fun _ _ _ h => h) (Or.inl ⟨by rfl, by intro w hSw; clear hSw; go_simp; first | done | with_reducible rfl⟩) hHeld ?_
                change RestIn _ _ _ _ _ _ _ 1 #[true, true, true, true, true, true, true, true, true, true, true, true, true, true, true, true, true, true, true, true, true, true, true, true, true, true, true, true, true, true, true, true, true, true, false] _ _
                try simp only [Act.put, List.setIfInBounds_toArray, List.set_cons_zero, List.set_cons_succ, List.getElem_toArray, List.getElem_cons_zero, List.getElem_cons_succ]
                refine rest_take (i := 34) (v := _) all_wide (noDefers_of (by kernel_rfl)) rfl (by kernel_rfl) (by kernel_rfl) (by kernel_rfl) (fun _ _ _ h => h) (Or.inl ⟨by rfl, by intro w hSw; clear hSw; go_simp; first | done | with_reducible rfl⟩) hHeld ?_
                change RestIn _ _ _ _ _ _ _ 0 #[true, true, true, true, true, true, true, true, true, true, true, true, true, true, true, true, true, true, true, true, true, true, true, true, true, true, true, true, true, true, true, true, true, true, true] _ _
                try simp only [Act.put, List.setIfInBounds_toArray, List.set_cons_zero, List.set_cons_succ, List.getElem_toArray, List.getElem_cons_zero, List.getElem_cons_succ]
                refine rest_done (by kernel_rfl) ?_
                go_wp2_with fail
                go_ret
                exact ⟨rfl, HBE.out.trans (hNow.mono HBE.out.size)⟩
              exact AllRest.nil
            refine AllRest.cons rfl (fun K hK => ?_) ?_
            · have kEg := (hHeld.2.2.2).size
              have kE := blk_new_of (hHeld.2.2.2) 3 #[]
              have hOld := (hHeld.2.2.2)
              go_simp
              refine hK.out _ _ ?_ (fun hHeld' => ?_)
              · exact (fun (hbel : Below W0.heap.size W0 _) => ⟨kP14.below hbel kP14.lt, kY14.below hbel kY14.lt, kX14.below hbel kX14.lt, hbel⟩) ((hHeld.2.2.2).alloc (hHeld.2.2.2).size _)
              clear hK K
              change RestIn _ _ _ _ _ _ _ 24 #[true, true, true, false, true, true, false, true, true, true, true, true, false, false, false, true, false, false, false, false, false, false, false, false, false, false, false, false, false, false, false, false, false, false, false] _ _
              try simp only [Act.put, List.setIfInBounds_toArray, List.set_cons_zero, List.set_cons_succ, List.getElem_toArray, List.getElem_cons_zero, List.getElem_cons_succ]
              clear hHeld
              have hHeld := hHeld'
              clear hHeld'
              have hNow := (hHeld.2.2.2)
              try simp at kEg
              try have hs2 := hs2.to ((Below.refl _ _).alloc (Nat.le_refl _) (.cells #[] 3))
              try have hs3 := hs3.to ((Below.refl _ _).alloc (Nat.le_refl _) (.cells #[] 3))
              refine rest_ready (rs := [3]) (by kernel_rfl) (by simp) ?_
              refine AllRest.cons rfl (fun K hK => ?_) AllRest.nil
              have hNow := (hHeld.2.2.2)
              clear hLast
              have hLast := hNow
              go_simp
              gi_wp2_with ((refine ⟨trivial, ?_⟩; gi_at_call 18; (refine (callsIn_wide.2 (HTent.out _ (ht14.to hNow))).mono ?_); rintro e wn ⟨A4, c4, rfl, hs3, _, _, hb⟩))
              refine hK.out _ _ ?_ (fun hHeld' => ?_)
              · exact ⟨hHeld.1.below hb hHeld.1.lt, hHeld.2.1.below hb hHeld.2.1.lt, hHeld.2.2.1.below hb hHeld.2.2.1.lt, (hHeld.2.2.2).trans (hb.mono (hHeld.2.2.2).size)⟩
              clear hK K
              change RestIn _ _ _ _ _ _ _ 23 #[true, true, true, true, true, true, false, true, true, true, true, true, false, false, false, true, false, false, false, false, false, false, false, false, false, false, false, false, false, false, false, false, false, false, false] _ _
              try simp only [Act.put, List.setIfInBounds_toArray, List.set_cons_zero, List.set_cons_succ, List.getElem_toArray, List.getElem_cons_zero, List.getElem_cons_succ]
              clear hHeld
              have hHeld := hHeld'
              clear hHeld'
              have hNow := (hHeld.2.2.2)
              have hs2 := hs2.to hb
              try have kE := kE.below hb kE.lt
              refine rest_ready (rs := [6]) (by kernel_rfl) (by simp) ?_
              refine AllRest.cons rfl (fun K hK => ?_) AllRest.nil
              have hNow := (hHeld.2.2.2)
              clear hLast
              have hLast := hNow
              go_simp
              gi_wp2_with ((refine ⟨trivial, ?_⟩; gi_at_call 25; (with_reducible refine (callsIn_wide.2 (Vector_any push _)).mono ?_); rintro e wn ⟨rfl, hb⟩))
              refine hK.out _ _ ?_ (fun hHeld' => ?_)
              · exact ⟨hHeld.1.below hb hHeld.1.lt, hHeld.2.1.below hb hHeld.2.1.lt, hHeld.2.2.1.below hb hHeld.2.2.1.lt, (hHeld.2.2.2).trans (hb.mono (hHeld.2.2.2).size)⟩
              clear hK K
              change RestIn _ _ _ _ _ _ _ 22 #[true, true, true, true, true, true, true, true, true, true, true, true, false, false, false, true, false, false, false, false, false, false, false, false, false, false, false, false, false, false, false, false, false, false, false] _ _
              try simp only [Act.put, List.setIfInBounds_toArray, List.set_cons_zero, List.set_cons_succ, List.getElem_toArray, List.getElem_cons_zero, List.getElem_cons_succ]
              clear hHeld
              have hHeld := hHeld'
              clear hHeld'
              have hNow := (hHeld.2.2.2)
              have hs2 := hs2.to hb
              have hs3 := hs3.to hb
              try have kE := kE.below hb kE.lt
              refine rest_ready (rs := [12]) (by kernel_rfl) (by simp) ?_
              refine AllRest.cons rfl (fun K hK => ?_) AllRest.nil
              refine step_append_in (by rfl) _ _ _ (by rfl) W0.heap.size 3 i0 _ 1 8 Try.underlying50 hi0 hz0 hz1 hz2 rfl (by omega) _ 0 [] (by rfl) (own_of_empty 1 kE (by first | exact kEg | exact Nat.le_refl _ | omega)) A11 psx.length c11 (psx.flatMap encI) (by rfl) (ints_len psx) (RS.news (sz := 1) (fun _ => rfl) (hrx14.to hNow)).1 (RS.news (sz := 1) (fun _ => rfl) (hrx14.to hNow)).2 (ints_one psx) (by unfold maxLen; omega) (by omega) hNow.size ?_
              intro v2 w11 hown2 hgrow2 hat2
              rw [Nat.zero_add, List.nil_append] at hown2
              obtain ⟨A12, c12, rfl, hq10, hq11⟩ := own_slice hown2
              have hrp : RS encI 1 w11 w11.heap.size A12 psx := RS.of_own (enc := encI) (sz := 1) (fun _ => rfl) hown2 rfl
              have hs2 := (RS.keptE hs2 kE hgrow2).more hgrow2.size
              have hs3 := (RH.keptE hs3 kE hgrow2).more hgrow2.size
              have hB15 := below_grownE hNow kE (by first | exact kEg | exact Nat.le_refl _ | omega) hNow.size hgrow2
              refine hK.out _ _ ?_ (fun hHeld' => ?_)
              · exact ⟨kP14.below hB15 kP14.lt, kY14.below hB15 kY14.lt, kX14.below hB15 kX14.lt, hB15⟩
              clear hK K
              change RestIn _ _ _ _ _ _ _ 21 #[true, true, true, true, true, true, true, true, true, true, true, true, true, false, false, true, false, false, false, false, false, false, false, false, false, false, false, false, false, false, false, false, false, false, false] _ _
              try simp only [Act.put, List.setIfInBounds_toArray, List.set_cons_zero, List.set_cons_succ, List.getElem_toArray, List.getElem_cons_zero, List.getElem_cons_succ]
              clear hHeld
              have hHeld := hHeld'
              clear hHeld'
              have hNow := (hHeld.2.2.2)
              skip
              refine rest_take (i := 13) (v := _) all_wide (noDefers_of (by kernel_rfl)) rfl (by kernel_rfl) (by kernel_rfl) (by kernel_rfl) (fun _ _ _ h => h) (Or.inl ⟨by rfl, by intro w hSw; clear hSw; go_simp; first | done | with_reducible rfl⟩) hHeld ?_
              change RestIn _ _ _ _ _ _ _ 20 #[true, true, true, true, true, true, true, true, true, true, true, true, true, true, false, true, false, false, false, false, false, false, false, false, false, false, false, false, false, false, false, false, false, false, false] _ _
              try simp only [Act.put, List.setIfInBounds_toArray, List.set_cons_zero, List.set_cons_succ, List.getElem_toArray, List.getElem_cons_zero, List.getElem_cons_succ]
              refine rest_ready (rs := [14]) (by kernel_rfl) (by simp) ?_
              refine AllRest.cons rfl (fun K hK => ?_) AllRest.nil
              have hNow := (hHeld.2.2.2)
              clear hLast
              have hLast := hNow
              go_simp
              gi_wp2_with ((refine ⟨trivial, ?_⟩; gi_at_call 31; (refine (callsIn_wide.2 (HPB.out A3 c3 A4 c4 A12 c12 _ hs2 hs3 hrp)).mono ?_); rintro e wn ⟨rfl, hb⟩))
              refine hK.out _ _ ?_ (fun hHeld' => ?_)
              · exact ⟨hHeld.1.below hb hHeld.1.lt, hHeld.2.1.below hb hHeld.2.1.lt, hHeld.2.2.1.below hb hHeld.2.2.1.lt, (hHeld.2.2.2).trans (hb.mono (hHeld.2.2.2).size)⟩
              clear hK K
              change RestIn _ _ _ _ _ _ _ 19 #[true, true, true, true, true, true, true, true, true, true, true, true, true, true, true, true, false, false, false, false, false, false, false, false, false, false, false, false, false, false, false, false, false, false, false] _ _
              try simp only [Act.put, List.setIfInBounds_toArray, List.set_cons_zero, List.set_cons_succ, List.getElem_toArray, List.getElem_cons_zero, List.getElem_cons_succ]
              clear hHeld
              have hHeld := hHeld'
              clear hHeld'
              have hNow := (hHeld.2.2.2)
              try have kE := kE.below hb kE.lt
              refine rest_take (i := 16) (v := _) all_wide (noDefers_of (by kernel_rfl)) rfl (by kernel_rfl) (by kernel_rfl) (by kernel_rfl) (fun _ _ _ h => h) (Or.inl ⟨by rfl, by intro w hSw; clear hSw; go_simp; first | done | with_reducible rfl⟩) hHeld ?_
              change RestIn _ _ _ _ _ _ _ 18 #[true, true, true, true, true, true, true, true, true, true, true, true, true, true, true, true, true, false, false, false, false, false, false, false, false, false, false, false, false, false, false, false, false, false, false] _ _
              try simp only [Act.put, List.setIfInBounds_toArray, List.set_cons_zero, List.set_cons_succ, List.getElem_toArray, List.getElem_cons_zero, List.getElem_cons_succ]
              refine rest_take (i := 17) (v := _) all_wide (noDefers_of (by kernel_rfl)) rfl (by kernel_rfl) (by kernel_rfl) (by kernel_rfl) (fun _ _ _ h => h) (Or.inl ⟨by rfl, by intro w hSw; clear hSw; go_simp; first | done | with_reducible rfl⟩) hHeld ?_
              change RestIn _ _ _ _ _ _ _ 17 #[true, true, true, true, true, true, true, true, true, true, true, true, true, true, true, true, true, true, false, false, false, false, false, false, false, false, false, false, false, false, false, false, false, false, false] _ _
              try simp only [Act.put, List.setIfInBounds_toArray, List.set_cons_zero, List.set_cons_succ, List.getElem_toArray, List.getElem_cons_zero, List.getElem_cons_succ]
              refine rest_take (i := 18) (v := _) all_wide (noDefers_of (by kernel_rfl)) rfl (by kernel_rfl) (by kernel_rfl) (by kernel_rfl) (fun _ _ _ h => h) (Or.inl ⟨by rfl, by intro w hSw; clear hSw; go_simp; first | done | with_reducible rfl⟩) hHeld ?_
              change RestIn _ _ _ _ _ _ _ 16 #[true, true, true, true, true, true, true, true, true, true, true, true, true, true, true, true, true, true, true, false, false, false, false, false, false, false, false, false, false, false, false, false, false, false, false] _ _
              try simp only [Act.put, List.setIfInBounds_toArray, List.set_cons_zero, List.set_cons_succ, List.getElem_toArray, List.getElem_cons_zero, List.getElem_cons_succ]
              refine rest_take (i := 20) (v := _) all_wide (noDefers_of (by kernel_rfl)) rfl (by kernel_rfl) (by kernel_rfl) (by kernel_rfl) (fun _ _ _ h => h) (Or.inl ⟨by rfl, by intro w hSw; clear hSw; go_simp; first | done | with_reducible rfl⟩) hHeld ?_
              change RestIn _ _ _ _ _ _ _ 15 #[true, true, true, true, true, true, true, true, true, true, true, true, true, true, true, true, true, true, true, false, true, false, false, false, false, false, false, false, false, false, false, false, false, false, false] _ _
              try simp only [Act.put, List.setIfInBounds_toArray, List.set_cons_zero, List.set_cons_succ, List.getElem_toArray, List.getElem_cons_zero, List.getElem_cons_succ]
              refine rest_take (i := 22) (v := _) all_wide (noDefers_of (by kernel_rfl)) rfl (by kernel_rfl) (by kernel_rfl) (by kernel_rfl) (fun _ _ _ h => h) (Or.inl ⟨by rfl, by intro w hSw; clear hSw; go_simp; first | done | with_reducible rfl⟩) hHeld ?_
              change RestIn _ _ _ _ _ _ _ 14 #[true, true, true, true, true, true, true, true, true, true, true, true, true, true, true, true, true, true, true, false, true, false, true, false, false, false, false, false, false, false, false, false, false, false, false] _ _
              try simp only [Act.put, List.setIfInBounds_toArray, List.set_cons_zero, List.set_cons_succ, List.getElem_toArray, List.getElem_cons_zero, List.getElem_cons_succ]
              refine rest_take (i := 23) (v := _) all_wide (noDefers_of (by kernel_rfl)) rfl (by kernel_rfl) (by kernel_rfl) (by kernel_rfl) (fun _ _ _ h => h) (Or.inl ⟨by rfl, by intro w hSw; (obtain ⟨q0, q1, q2, _⟩ := hSw; have q0x0 := q0.cell 0; have q0x1 := q0.cell 1; have q1x0 := q1.cell 0; have q1x1 := q1.cell 1; have q2x0 := q2.cell 0; have q2x1 := q2.cell 1; simp at q0x0 q0x1 q1x0 q1x1 q2x0 q2x1); go_simp; first | done | with_reducible rfl⟩) hHeld ?_
              change RestIn _ _ _ _ _ _ _ 13 #[true, true, true, true, true, true, true, true, true, true, true, true, true, true, true, true, true, true, true, false, true, false, true, true, false, false, false, false, false, false, false, false, false, false, false] _ _
              try simp only [Act.put, List.setIfInBounds_toArray, List.set_cons_zero, List.set_cons_succ, List.getElem_toArray, List.getElem_cons_zero, List.getElem_cons_succ]
              refine rest_take (i := 25) (v := _) all_wide (noDefers_of (by kernel_rfl)) rfl (by kernel_rfl) (by kernel_rfl) (by kernel_rfl) (fun _ _ _ h => h) (Or.inl ⟨by rfl, by intro w hSw; (obtain ⟨q0, q1, q2, _⟩ := hSw; have q0x0 := q0.cell 0; have q0x1 := q0.cell 1; have q1x0 := q1.cell 0; have q1x1 := q1.cell 1; have q2x0 := q2.cell 0; have q2x1 := q2.cell 1; simp at q0x0 q0x1 q1x0 q1x1 q2x0 q2x1); go_simp; first | done | with_reducible rfl⟩) hHeld ?_
              change RestIn _ _ _ _ _ _ _ 12 #[true, true, true, true, true, true, true, true, true, true, true, true, true, true, true, true, true, true, true, false, true, false, true, true, false, true, false, false, false, false, false, false, false, false, false] _ _
              try simp only [Act.put, List.setIfInBounds_toArray, List.set_cons_zero, List.set_cons_succ, List.getElem_toArray, List.getElem_cons_zero, List.getElem_cons_succ]
              refine rest_take (i := 28) (v := _) all_wide (noDefers_of (by kernel_rfl)) rfl (by kernel_rfl) (by kernel_rfl) (by kernel_rfl) (fun _ _ _ h => h) (Or.inl ⟨by rfl, by intro w hSw; clear hSw; go_simp; first | done | with_reducible rfl⟩) hHeld ?_
              change RestIn _ _ _ _ _ _ _ 11 #[true, true, true, true, true, true, true, true, true, true, true, true, true, true, true, true, true, true, true, false, true, false, true, true, false, true, false, false, true, false, false, false, false, false, false] _ _
              try simp only [Act.put, List.setIfInBounds_toArray, List.set_cons_zero, List.set_cons_succ, List.getElem_toArray, List.getElem_cons_zero, List.getElem_cons_succ]
              refine rest_ready (rs := [19]) (by kernel_rfl) (by simp) ?_
              refine AllRest.cons rfl (fun K hK => ?_) AllRest.nil
              have hNow := (hHeld.2.2.2)
              clear hLast
              have hLast := hNow
              go_simp
              gi_wp2_with ((refine ⟨trivial, ?_⟩; gi_at_call 17; (refine (callsIn_wide.2 (HTests.out _ (hr14.to hNow))).mono ?_); rintro e wn ⟨A3, c3, rfl, hs2, _, _, hb⟩))
              refine hK.out _ _ ?_ (fun hHeld' => ?_)
              · exact ⟨hHeld.1.below hb hHeld.1.lt, hHeld.2.1.below hb hHeld.2.1.lt, hHeld.2.2.1.below hb hHeld.2.2.1.lt, (hHeld.2.2.2).trans (hb.mono (hHeld.2.2.2).size)⟩
              clear hK K
              change RestIn _ _ _ _ _ _ _ 10 #[true, true, true, true, true, true, true, true, true, true, true, true, true, true, true, true, true, true, true, true, true, false, true, true, false, true, false, false, true, false, false, false, false, false, false] _ _
              try simp only [Act.put, List.setIfInBounds_toArray, List.set_cons_zero, List.set_cons_succ, List.getElem_toArray, List.getElem_cons_zero, List.getElem_cons_succ]
              clear hHeld
              have hHeld := hHeld'
              clear hHeld'
              have hNow := (hHeld.2.2.2)
              try have kE := kE.below hb kE.lt
              refine rest_ready (rs := [21]) (by kernel_rfl) (by simp) ?_
              refine AllRest.cons rfl (fun K hK => ?_) AllRest.nil
              have hNow := (hHeld.2.2.2)
              clear hLast
              have hLast := hNow
              go_simp
              gi_wp2_with ((refine ⟨trivial, ?_⟩; gi_at_call 18; (refine (callsIn_wide.2 (HTent.out _ (ht14.to hNow))).mono ?_); rintro e wn ⟨A4, c4, rfl, hs3, _, _, hb⟩))
              refine hK.out _ _ ?_ (fun hHeld' => ?_)
              · exact ⟨hHeld.1.below hb hHeld.1.lt, hHeld.2.1.below hb hHeld.2.1.lt, hHeld.2.2.1.below hb hHeld.2.2.1.lt, (hHeld.2.2.2).trans (hb.mono (hHeld.2.2.2).size)⟩
              clear hK K
              change RestIn _ _ _ _ _ _ _ 9 #[true, true, true, true, true, true, true, true, true, true, true, true, true, true, true, true, true, true, true, true, true, true, true, true, false, true, false, false, true, false, false, false, false, false, false] _ _
              try simp only [Act.put, List.setIfInBounds_toArray, List.set_cons_zero, List.set_cons_succ, List.getElem_toArray, List.getElem_cons_zero, List.getElem_cons_succ]
              clear hHeld
              have hHeld := hHeld'
              clear hHeld'
              have hNow := (hHeld.2.2.2)
              have hs2 := hs2.to hb
              try have kE := kE.below hb kE.lt
              refine rest_ready (rs := [24]) (by kernel_rfl) (by simp) ?_
              refine AllRest.cons rfl (fun K hK => ?_) AllRest.nil
              have hNow := (hHeld.2.2.2)
              clear hLast
              have hLast := hNow
              go_simp
              gi_wp2_with ((refine ⟨trivial, ?_⟩; gi_at_call 25; (with_reducible refine (callsIn_wide.2 (Vector_any push _)).mono ?_); rintro e wn ⟨rfl, hb⟩))
              refine hK.out _ _ ?_ (fun hHeld' => ?_)
              · exact ⟨hHeld.1.below hb hHeld.1.lt, hHeld.2.1.below hb hHeld.2.1.lt, hHeld.2.2.1.below hb hHeld.2.2.1.lt, (hHeld.2.2.2).trans (hb.mono (hHeld.2.2.2).size)⟩
              clear hK K
              change RestIn _ _ _ _ _ _ _ 8 #[true, true, true, true, true, true, true, true, true, true, true, true, true, true, true, true, true, true, true, true, true, true, true, true, true, true, false, false, true, false, false, false, false, false, false] _ _
              try simp only [Act.put, List.setIfInBounds_toArray, List.set_cons_zero, List.set_cons_succ, List.getElem_toArray, List.getElem_cons_zero, List.getElem_cons_succ]
              clear hHeld
              have hHeld := hHeld'
              clear hHeld'
              have hNow := (hHeld.2.2.2)
              have hs2 := hs2.to hb
              have hs3 := hs3.to hb
              try have kE := kE.below hb kE.lt
              refine rest_ready (rs := [26]) (by kernel_rfl) (by simp) ?_
              refine AllRest.cons rfl (fun K hK => ?_) AllRest.nil
              have hNow := (hHeld.2.2.2)
              clear hLast
              have hLast := hNow
              go_simp
              gi_wp2_with ((refine ⟨trivial, ?_⟩; gi_at_call 25; (with_reducible refine (callsIn_wide.2 (Vector_any way _)).mono ?_); rintro e wn ⟨rfl, hb⟩))
              refine hK.out _ _ ?_ (fun hHeld' => ?_)
              · exact ⟨hHeld.1.below hb hHeld.1.lt, hHeld.2.1.below hb hHeld.2.1.lt, hHeld.2.2.1.below hb hHeld.2.2.1.lt, (hHeld.2.2.2).trans (hb.mono (hHeld.2.2.2).size)⟩
              clear hK K
              change RestIn _ _ _ _ _ _ _ 7 #[true, true, true, true, true, true, true, true, true, true, true, true, true, true, true, true, true, true, true, true, true, true, true, true, true, true, true, false, true, false, false, false, false, false, false] _ _
              try simp only [Act.put, List.setIfInBounds_toArray, List.set_cons_zero, List.set_cons_succ, List.getElem_toArray, List.getElem_cons_zero, List.getElem_cons_succ]
              clear hHeld
              have hHeld := hHeld'
              clear hHeld'
              have hNow := (hHeld.2.2.2)
              have hs2 := hs2.to hb
              have hs3 := hs3.to hb
              try have kE := kE.below hb kE.lt
              refine rest_ready (rs := [27]) (by kernel_rfl) (by simp) ?_
              refine AllRest.cons rfl (fun K hK => ?_) AllRest.nil
              have hNow := (hHeld.2.2.2)
              clear hLast
              have hLast := hNow
              go_simp
              gi_wp2_with ((refine ⟨trivial, ?_⟩; gi_at_call 32; (refine (callsIn_wide.2 (HPW.out A3 c3 A4 c4 _ hs2 hs3)).mono ?_); rintro e wn ⟨rfl, hb⟩))
              refine hK.out _ _ ?_ (fun hHeld' => ?_)
              · exact ⟨hHeld.1.below hb hHeld.1.lt, hHeld.2.1.below hb hHeld.2.1.lt, hHeld.2.2.1.below hb hHeld.2.2.1.lt, (hHeld.2.2.2).trans (hb.mono (hHeld.2.2.2).size)⟩
              clear hK K
              change RestIn _ _ _ _ _ _ _ 6 #[true, true, true, true, true, true, true, true, true, true, true, true, true, true, true, true, true, true, true, true, true, true, true, true, true, true, true, true, true, false, false, false, false, false, false] _ _
              try simp only [Act.put, List.setIfInBounds_toArray, List.set_cons_zero, List.set_cons_succ, List.getElem_toArray, List.getElem_cons_zero, List.getElem_cons_succ]
              clear hHeld
              have hHeld := hHeld'
              clear hHeld'
              have hNow := (hHeld.2.2.2)
              try have kE := kE.below hb kE.lt
              refine rest_take (i := 29) (v := _) all_wide (noDefers_of (by kernel_rfl)) rfl (by kernel_rfl) (by kernel_rfl) (by kernel_rfl) (fun _ _ _ h => h) (Or.inl ⟨by rfl, by intro w hSw; clear hSw; go_simp; first | done | with_reducible rfl⟩) hHeld ?_
              change RestIn _ _ _ _ _ _ _ 5 #[true, true, true, true, true, true, true, true, true, true, true, true, true, true, true, true, true, true, true, true, true, true, true, true, true, true, true, true, true, true, false, false, false, false, false] _ _
              try simp only [Act.put, List.setIfInBounds_toArray, List.set_cons_zero, List.set_cons_succ, List.getElem_toArray, List.getElem_cons_zero, List.getElem_cons_succ]
              refine rest_take (i := 30) (v := _) all_wide (noDefers_of (by kernel_rfl)) rfl (by kernel_rfl) (by kernel_rfl) (by kernel_rfl) (fun _ _ _ h => h) (Or.inl ⟨by rfl, by intro w hSw; clear hSw; go_simp; first | done | with_reducible rfl⟩) hHeld ?_
              change RestIn _ _ _ _ _ _ _ 4 #[true, true, true, true, true, true, true, true, true, true, true, true, true, true, true, true, true, true, true, true, true, true, true, true, true, true, true, true, true, true, true, false, false, false, false] _ _
              try simp only [Act.put, List.setIfInBounds_toArray, List.set_cons_zero, List.set_cons_succ, List.getElem_toArray, List.getElem_cons_zero, List.getElem_cons_succ]
              refine rest_take (i := 31) (v := _) all_wide (noDefers_of (by kernel_rfl)) rfl (by kernel_rfl) (by kernel_rfl) (by kernel_rfl) (fun _ _ _ h => h) (Or.inl ⟨by rfl, by intro w hSw; clear hSw; go_simp; first | done | with_reducible rfl⟩) hHeld ?_
              change RestIn _ _ _ _ _ _ _ 3 #[true, true, true, true, true, true, true, true, true, true, true, true, true, true, true, true, true, true, true, true, true, true, true, true, true, true, true, true, true, true, true, true, false, false, false] _ _
              try simp only [Act.put, List.setIfInBounds_toArray, List.set_cons_zero, List.set_cons_succ, List.getElem_toArray, List.getElem_cons_zero, List.getElem_cons_succ]
              refine rest_ready (rs := [32]) (by kernel_rfl) (by simp) ?_
              refine AllRest.cons rfl (fun K hK => ?_) AllRest.nil
              have hNow := (hHeld.2.2.2)
              clear hLast
              have hLast := hNow
              go_simp
              gi_wp2_with ((refine ⟨trivial, ?_⟩; gi_at_call 20; (with_reducible refine (callsIn_wide.2 (wakes_any _)).mono ?_); rintro e wn ⟨rfl, hb⟩))
              refine hK.out _ _ ?_ (fun hHeld' => ?_)
              · exact ⟨hHeld.1.below hb hHeld.1.lt, hHeld.2.1.below hb hHeld.2.1.lt, hHeld.2.2.1.below hb hHeld.2.2.1.lt, (hHeld.2.2.2).trans (hb.mono (hHeld.2.2.2).size)⟩
              clear hK K
              change RestIn _ _ _ _ _ _ _ 2 #[true, true, true, true, true, true, true, true, true, true, true, true, true, true, true, true, true, true, true, true, true, true, true, true, true, true, true, true, true, true, true, true, true, false, false] _ _
              try simp only [Act.put, List.setIfInBounds_toArray, List.set_cons_zero, List.set_cons_succ, List.getElem_toArray, List.getElem_cons_zero, List.getElem_cons_succ]
              clear hHeld
              have hHeld := hHeld'
              clear hHeld'
              have hNow := (hHeld.2.2.2)
              try have kE := kE.below hb kE.lt
              refine rest_take (i := 33) (v := _) all_wide (noDefers_of (by kernel_rfl)) rfl (by kernel_rfl) (by kernel_rfl) (by kernel_rfl) (fun _ _ _ h => h) (Or.inl ⟨by rfl, by intro w hSw; clear hSw; go_simp; first | done | with_reducible rfl⟩) hHeld ?_
              change RestIn _ _ _ _ _ _ _ 1 #[true, true, true, true, true, true, true, true, true, true, true, true, true, true, true, true, true, true, true, true, true, true, true, true, true, true, true, true, true, true, true, true, true, true, false] _ _
              try simp only [Act.put, List.setIfInBounds_toArray, List.set_cons_zero, List.set_cons_succ, List.getElem_toArray, List.getElem_cons_zero, List.getElem_cons_succ]
              refine rest_take (i := 34) (v := _) all_wide (noDefers_of (by kernel_rfl)) rfl (by kernel_rfl) (by kernel_rfl) (by kernel_rfl) (fun _ _ _ h => h) (Or.inl ⟨by rfl, by intro w hSw; clear hSw; go_simp; first | done | with_reducible rfl⟩) hHeld ?_
              change RestIn _ _ _ _ _ _ _ 0 #[true, true, true, true, true, true, true, true, true, true, true, true, true, true, true, true, true, true, true, true, true, true, true, true, true, true, true, true, true, true, true, true, true, true, true] _ _
              try simp only [Act.put, List.setIfInBounds_toArray, List.set_cons_zero, List.set_cons_succ, List.getElem_toArray, List.getElem_cons_zero, List.getElem_cons_succ]
              refine rest_done (by kernel_rfl) ?_
              go_wp2_with fail
              go_ret
              exact ⟨rfl, HBE.out.trans (hNow.mono HBE.out.size)⟩
            exact AllRest.nil
          refine AllRest.cons rfl (fun K hK => ?_) ?_
          · have kEg := (hHeld.2.2.2).size
            have kE := blk_new_of (hHeld.2.2.2) 3 #[]
            have hOld := (hHeld.2.2.2)
            go_simp
            refine hK.out _ _ ?_ (fun hHeld' => ?_)
            · exact (fun (hbel : Below W0.heap.size W0 _) => ⟨kP14.below hbel kP14.lt, kY14.below hbel kY14.lt, kX14.below hbel kX14.lt, hbel⟩) ((hHeld.2.2.2).alloc (hHeld.2.2.2).size _)
            clear hK K
            change RestIn _ _ _ _ _ _ _ 25 #[true, false, true, false, true, true, false, true, true, true, true, true, false, false, false, true, false, false, false, false, false, false, false, false, false, false, false, false, false, false, false, false, false, false, false] _ _
            try simp only [Act.put, List.setIfInBounds_toArray, List.set_cons_zero, List.set_cons_succ, List.getElem_toArray, List.getElem_cons_zero, List.getElem_cons_succ]
            clear hHeld
            have hHeld := hHeld'
            clear hHeld'
            have hNow := (hHeld.2.2.2)
            try simp at kEg
            try have hs2 := hs2.to ((Below.refl _ _).alloc (Nat.le_refl _) (.cells #[] 3))
            try have hs3 := hs3.to ((Below.refl _ _).alloc (Nat.le_refl _) (.cells #[] 3))
            refine rest_ready (rs := [1]) (by kernel_rfl) (by simp) ?_
            refine AllRest.cons rfl (fun K hK => ?_) AllRest.nil
            have hNow := (hHeld.2.2.2)
            clear hLast
            have hLast := hNow
            go_simp
            gi_wp2_with ((refine ⟨trivial, ?_⟩; gi_at_call 17; (refine (callsIn_wide.2 (HTests.out _ (hr14.to hNow))).mono ?_); rintro e wn ⟨A3, c3, rfl, hs2, _, _, hb⟩))
            refine hK.out _ _ ?_ (fun hHeld' => ?_)
            · exact ⟨hHeld.1.below hb hHeld.1.lt, hHeld.2.1.below hb hHeld.2.1.lt, hHeld.2.2.1.below hb hHeld.2.2.1.lt, (hHeld.2.2.2).trans (hb.mono (hHeld.2.2.2).size)⟩
            clear hK K
            change RestIn _ _ _ _ _ _ _ 24 #[true, true, true, false, true, true, false, true, true, true, true, true, false, false, false, true, false, false, false, false, false, false, false, false, false, false, false, false, false, false, false, false, false, false, false] _ _
            try simp only [Act.put, List.setIfInBounds_toArray, List.set_cons_zero, List.set_cons_succ, List.getElem_toArray, List.getElem_cons_zero, List.getElem_cons_succ]
            clear hHeld
            have hHeld := hHeld'
            clear hHeld'
            have hNow := (hHeld.2.2.2)
            try have kE := kE.below hb kE.lt
            refine rest_ready (rs := [3]) (by kernel_rfl) (by simp) ?_
            refine AllRest.cons rfl (fun K hK => ?_) AllRest.nil
            have hNow := (hHeld.2.2.2)
            clear hLast
            have hLast := hNow
            go_simp
            gi_wp2_with ((refine ⟨trivial, ?_⟩; gi_at_call 18; (refine (callsIn_wide.2 (HTent.out _ (ht14.to hNow))).mono ?_); rintro e wn ⟨A4, c4, rfl, hs3, _, _, hb⟩))
            refine hK.out _ _ ?_ (fun hHeld' => ?_)
            · exact ⟨hHeld.1.below hb hHeld.1.lt, hHeld.2.1.below hb hHeld.2.1.lt, hHeld.2.2.1.below hb hHeld.2.2.1.lt, (hHeld.2.2.2).trans (hb.mono (hHeld.2.2.2).size)⟩
            clear hK K
            change RestIn _ _ _ _ _ _ _ 23 #[true, true, true, true, true, true, false, true, true, true, true, true, false, false, false, true, false, false, false, false, false, false, false, false, false, false, false, false, false, false, false, false, false, false, false] _ _
            try simp only [Act.put, List.setIfInBounds_toArray, List.set_cons_zero, List.set_cons_succ, List.getElem_toArray, List.getElem_cons_zero, List.getElem_cons_succ]
            clear hHeld
            have hHeld := hHeld'
            clear hHeld'
            have hNow := (hHeld.2.2.2)
            have hs2 := hs2.to hb
            try have kE := kE.below hb kE.lt
            refine rest_ready (rs := [6]) (by kernel_rfl) (by simp) ?_
            refine AllRest.cons rfl (fun K hK => ?_) AllRest.nil
            have hNow := (hHeld.2.2.2)
            clear hLast
            have hLast := hNow
            go_simp
            gi_wp2_with ((refine ⟨trivial, ?_⟩; gi_at_call 25; (with_reducible refine (callsIn_wide.2 (Vector_any push _)).mono ?_); rintro e wn ⟨rfl, hb⟩))
            refine hK.out _ _ ?_ (fun hHeld' => ?_)
            · exact ⟨hHeld.1.below hb hHeld.1.lt, hHeld.2.1.below hb hHeld.2.1.lt, hHeld.2.2.1.below hb hHeld.2.2.1.lt, (hHeld.2.2.2).trans (hb.mono (hHeld.2.2.2).size)⟩
            clear hK K
            change RestIn _ _ _ _ _ _ _ 22 #[true, true, true, true, true, true, true, true, true, true, true, true, false, false, false, true, false, false, false, false, false, false, false, false, false, false, false, false, false, false, false, false, false, false, false] _ _
            try simp only [Act.put, List.setIfInBounds_toArray, List.set_cons_zero, List.set_cons_succ, List.getElem_toArray, List.getElem_cons_zero, List.getElem_cons_succ]
            clear hHeld
            have hHeld := hHeld'
            clear hHeld'
            have hNow := (hHeld.2.2.2)
            have hs2 := hs2.to hb
            have hs3 := hs3.to hb
            try have kE := kE.below hb kE.lt
            refine rest_ready (rs := [12]) (by kernel_rfl) (by simp) ?_
            refine AllRest.cons rfl (fun K hK => ?_) AllRest.nil
            refine step_append_in (by rfl) _ _ _ (by rfl) W0.heap.size 3 i0 _ 1 8 Try.underlying50 hi0 hz0 hz1 hz2 rfl (by omega) _ 0 [] (by rfl) (own_of_empty 1 kE (by first | exact kEg | exact Nat.le_refl _ | omega)) A11 psx.length c11 (psx.flatMap encI) (by rfl) (ints_len psx) (RS.news (sz := 1) (fun _ => rfl) (hrx14.to hNow)).1 (RS.news (sz := 1) (fun _ => rfl) (hrx14.to hNow)).2 (ints_one psx) (by unfold maxLen; omega) (by omega) hNow.size ?_
            intro v2 w11 hown2 hgrow2 hat2
            rw [Nat.zero_add, List.nil_append] at hown2
            obtain ⟨A12, c12, rfl, hq10, hq11⟩ := own_slice hown2
            have hrp : RS encI 1 w11 w11.heap.size A12 psx := RS.of_own (enc := encI) (sz := 1) (fun _ => rfl) hown2 rfl
            have hs2 := (RS.keptE hs2 kE hgrow2).more hgrow2.size
            have hs3 := (RH.keptE hs3 kE hgrow2).more hgrow2.size
            have hB15 := below_grownE hNow kE (by first | exact kEg | exact Nat.le_refl _ | omega) hNow.size hgrow2
            refine hK.out _ _ ?_ (fun hHeld' => ?_)
            · exact ⟨kP14.below hB15 kP14.lt, kY14.below hB15 kY14.lt, kX14.below hB15 kX14.lt, hB15⟩
            clear hK K
            change RestIn _ _ _ _ _ _ _ 21 #[true, true, true, true, true, true, true, true, true, true, true, true, true, false, false, true, false, false, false, false, false, false, false, false, false, false, false, false, false, false, false, false, false, false, false] _ _
            try simp only [Act.put, List.setIfInBounds_toArray, List.set_cons_zero, List.set_cons_succ, List.getElem_toArray, List.getElem_cons_zero, List.getElem_cons_succ]
            clear hHeld
            have hHeld := hHeld'
            clear hHeld'
            have hNow := (hHeld.2.2.2)
            skip
            refine rest_take (i := 13) (v := _) all_wide (noDefers_of (by kernel_rfl)) rfl (by kernel_rfl) (by kernel_rfl) (by kernel_rfl) (fun _ _ _ h => h) (Or.inl ⟨by rfl, by intro w hSw; clear hSw; go_simp; first | done | with_reducible rfl⟩) hHeld ?_
            change RestIn _ _ _ _ _ _ _ 20 #[true, true, true, true, true, true, true, true, true, true, true, true, true, true, false, true, false, false, false, false, false, false, false, false, false, false, false, false, false, false, false, false, false, false, false] _ _
            try simp only [Act.put, List.setIfInBounds_toArray, List.set_cons_zero, List.set_cons_succ, List.getElem_toArray, List.getElem_cons_zero, List.getElem_cons_succ]
            refine rest_ready (rs := [14]) (by kernel_rfl) (by simp) ?_
            refine AllRest.cons rfl (fun K hK => ?_) AllRest.nil
            have hNow := (hHeld.2.2.2)
            clear hLast
            have hLast := hNow
            go_simp
            gi_wp2_with ((refine ⟨trivial, ?_⟩; gi_at_call 31; (refine (callsIn_wide.2 (HPB.out A3 c3 A4 c4 A12 c12 _ hs2 hs3 hrp)).mono ?_); rintro e wn ⟨rfl, hb⟩))
            refine hK.out _ _ ?_ (fun hHeld' => ?_)
            · exact ⟨hHeld.1.below hb hHeld.1.lt, hHeld.2.1.below hb hHeld.2.1.lt, hHeld.2.2.1.below hb hHeld.2.2.1.lt, (hHeld.2.2.2).trans (hb.mono (hHeld.2.2.2).size)⟩
            clear hK K
            change RestIn _ _ _ _ _ _ _ 19 #[true, true, true, true, true, true, true, true, true, true, true, true, true, true, true, true, false, false, false, false, false, false, false, false, false, false, false, false, false, false, false, false, false, false, false] _ _
            try simp only [Act.put, List.setIfInBounds_toArray, List.set_cons_zero, List.set_cons_succ, List.getElem_toArray, List.getElem_cons_zero, List.getElem_cons_succ]
            clear hHeld
            have hHeld := hHeld'
            clear hHeld'
            have hNow := (hHeld.2.2.2)
            try have kE := kE.below hb kE.lt
            refine rest_take (i := 16) (v := _) all_wide (noDefers_of (by kernel_rfl)) rfl (by kernel_rfl) (by kernel_rfl) (by kernel_rfl) (fun _ _ _ h => h) (Or.inl ⟨by rfl, by intro w hSw; clear hSw; go_simp; first | done | with_reducible rfl⟩) hHeld ?_
            change RestIn _ _ _ _ _ _ _ 18 #[true, true, true, true, true, true, true, true, true, true, true, true, true, true, true, true, true, false, false, false, false, false, false, false, false, false, false, false, false, false, false, false, false, false, false] _ _
            try simp only [Act.put, List.setIfInBounds_toArray, List.set_cons_zero, List.set_cons_succ, List.getElem_toArray, List.getElem_cons_zero, List.getElem_cons_succ]
            refine rest_take (i := 17) (v := _) all_wide (noDefers_of (by kernel_rfl)) rfl (by kernel_rfl) (by kernel_rfl) (by kernel_rfl) (fun _ _ _ h => h) (Or.inl ⟨by rfl, by intro w hSw; clear hSw; go_simp; first | done | with_reducible rfl⟩) hHeld ?_
            change RestIn _ _ _ _ _ _ _ 17 #[true, true, true, true, true, true, true, true, true, true, true, true, true, true, true, true, true, true, false, false, false, false, false, false, false, false, false, false, false, false, false, false, false, false, false] _ _
            try simp only [Act.put, List.setIfInBounds_toArray, List.set_cons_zero, List.set_cons_succ, List.getElem_toArray, List.getElem_cons_zero, List.getElem_cons_succ]
            refine rest_take (i := 18) (v := _) all_wide (noDefers_of (by kernel_rfl)) rfl (by kernel_rfl) (by kernel_rfl) (by kernel_rfl) (fun _ _ _ h => h) (Or.inl ⟨by rfl, by intro w hSw; clear hSw; go_simp; first | done | with_reducible rfl⟩) hHeld ?_
            change RestIn _ _ _ _ _ _ _ 16 #[true, true, true, true, true, true, true, true, true, true, true, true, true, true, true, true, true, true, true, false, false, false, false, false, false, false, false, false, false, false, false, false, false, false, false] _ _
            try simp only [Act.put, List.setIfInBounds_toArray, List.set_cons_zero, List.set_cons_succ, List.getElem_toArray, List.getElem_cons_zero, List.getElem_cons_succ]
            refine rest_take (i := 20) (v := _) all_wide (noDefers_of (by kernel_rfl)) rfl (by kernel_rfl) (by kernel_rfl) (by kernel_rfl) (fun _ _ _ h => h) (Or.inl ⟨by rfl, by intro w hSw; clear hSw; go_simp; first | done | with_reducible rfl⟩) hHeld ?_
            change RestIn _ _ _ _ _ _ _ 15 #[true, true, true, true, true, true, true, true, true, true, true, true, true, true, true, true, true, true, true, false, true, false, false, false, false, false, false, false, false, false, false, false, false, false, false] _ _
            try simp only [Act.put, List.setIfInBounds_toArray, List.set_cons_zero, List.set_cons_succ, List.getElem_toArray, List.getElem_cons_zero, List.getElem_cons_succ]
            refine rest_take (i := 22) (v := _) all_wide (noDefers_of (by kernel_rfl)) rfl (by kernel_rfl) (by kernel_rfl) (by kernel_rfl) (fun _ _ _ h => h) (Or.inl ⟨by rfl, by intro w hSw; clear hSw; go_simp; first | done | with_reducible rfl⟩) hHeld ?_
            change RestIn _ _ _ _ _ _ _ 14 #[true, true, true, true, true, true, true, true, true, true, true, true, true, true, true, true, true, true, true, false, true, false, true, false, false, false, false, false, false, false, false, false, false, false, false] _ _
            try simp only [Act.put, List.setIfInBounds_toArray, List.set_cons_zero, List.set_cons_succ, List.getElem_toArray, List.getElem_cons_zero, List.getElem_cons_succ]
            refine rest_take (i := 23) (v := _) all_wide (noDefers_of (by kernel_rfl)) rfl (by kernel_rfl) (by kernel_rfl) (by kernel_rfl) (fun _ _ _ h => h) (Or.inl ⟨by rfl, by intro w hSw; (obtain ⟨q0, q1, q2, _⟩ := hSw; have q0x0 := q0.cell 0; have q0x1 := q0.cell 1; have q1x0 := q1.cell 0; have q1x1 := q1.cell 1; have q2x0 := q2.cell 0; have q2x1 := q2.cell 1; simp at q0x0 q0x1 q1x0 q1x1 q2x0 q2x1); go_simp; first | done | with_reducible rfl⟩) hHeld ?_
            change RestIn _ _ _ _ _ _ _ 13 #[true, true, true, true, true, true, true, true, true, true, true, true, true, true, true, true, true, true, true, false, true, false, true, true, false, false, false, false, false, false, false, false, false, false, false] _ _
            try simp only [Act.put, List.setIfInBounds_toArray, List.set_cons_zero, List.set_cons_succ, List.getElem_toArray, List.getElem_cons_zero, List.getElem_cons_succ]
            refine rest_take (i := 25) (v := _) all_wide (noDefers_of (by kernel_rfl)) rfl (by kernel_rfl) (by kernel_rfl) (by kernel_rfl) (fun _ _ _ h => h) (Or.inl ⟨by rfl, by intro w hSw; (obtain ⟨q0, q1, q2, _⟩ := hSw; have q0x0 := q0.cell 0; have q0x1 := q0.cell 1; have q1x0 := q1.cell 0; have q1x1 := q1.cell 1; have q2x0 := q2.cell 0; have q2x1 := q2.cell 1; simp at q0x0 q0x1 q1x0 q1x1 q2x0 q2x1); go_simp; first | done | with_reducible rfl⟩) hHeld ?_
            change RestIn _ _ _ _ _ _ _ 12 #[true, true, true, true, true, true, true, true, true, true, true, true, true, true, true, true, true, true, true, false, true, false, true, true, false, true, false, false, false, false, false, false, false, false, false] _ _
            try simp only [Act.put, List.setIfInBounds_toArray, List.set_cons_zero, List.set_cons_succ, List.getElem_toArray, List.getElem_cons_zero, List.getElem_cons_succ]
            refine rest_take (i := 28) (v := _) all_wide (noDefers_of (by kernel_rfl)) rfl (by kernel_rfl) (by kernel_rfl) (by kernel_rfl) (fun _ _ _ h => h) (Or.inl ⟨by rfl, by intro w hSw; clear hSw; go_simp; first | done | with_reducible rfl⟩) hHeld ?_
            change RestIn _ _ _ _ _ _ _ 11 #[true, true, true, true, true, true, true, true, true, true, true, true, true, true, true, true, true, true, true, false, true, false, true, true, false, true, false, false, true, false, false, false, false, false, false] _ _
            try simp only [Act.put, List.setIfInBounds_toArray, List.set_cons_zero, List.set_cons_succ, List.getElem_toArray, List.getElem_cons_zero, List.getElem_cons_succ]
            refine rest_ready (rs := [19]) (by kernel_rfl) (by simp) ?_
            refine AllRest.cons rfl (fun K hK => ?_) AllRest.nil
            have hNow := (hHeld.2.2.2)
            clear hLast
            have hLast := hNow
            go_simp
            gi_wp2_with ((refine ⟨trivial, ?_⟩; gi_at_call 17; (refine (callsIn_wide.2 (HTests.out _ (hr14.to hNow))).mono ?_); rintro e wn ⟨A3, c3, rfl, hs2, _, _, hb⟩))
            refine hK.out _ _ ?_ (fun hHeld' => ?_)
            · exact ⟨hHeld.1.below hb hHeld.1.lt, hHeld.2.1.below hb hHeld.2.1.lt, hHeld.2.2.1.below hb hHeld.2.2.1.lt, (hHeld.2.2.2).trans (hb.mono (hHeld.2.2.2).size)⟩
            clear hK K
            change RestIn _ _ _ _ _ _ _ 10 #[true, true, true, true, true, true, true, true, true, true, true, true, true, true, true, true, true, true, true, true, true, false, true, true, false, true, false, false, true, false, false, false, false, false, false] _ _
            try simp only [Act.put, List.setIfInBounds_toArray, List.set_cons_zero, List.set_cons_succ, List.getElem_toArray, List.getElem_cons_zero, List.getElem_cons_succ]
            clear hHeld
            have hHeld := hHeld'
            clear hHeld'
            have hNow := (hHeld.2.2.2)
            try have kE := kE.below hb kE.lt
            refine rest_ready (rs := [21]) (by kernel_rfl) (by simp) ?_
            refine AllRest.cons rfl (fun K hK => ?_) AllRest.nil
            have hNow := (hHeld.2.2.2)
            clear hLast
            have hLast := hNow
            go_simp
            gi_wp2_with ((refine ⟨trivial, ?_⟩; gi_at_call 18; (refine (callsIn_wide.2 (HTent.out _ (ht14.to hNow))).mono ?_); rintro e wn ⟨A4, c4, rfl, hs3, _, _, hb⟩))
            refine hK.out _ _ ?_ (fun hHeld' => ?_)
            · exact ⟨hHeld.1.below hb hHeld.1.lt, hHeld.2.1.below hb hHeld.2.1.lt, hHeld.2.2.1.below hb hHeld.2.2.1.lt, (hHeld.2.2.2).trans (hb.mono (hHeld.2.2.2).size)⟩
            clear hK K
            change RestIn _ _ _ _ _ _ _ 9 #[true, true, true, true, true, true, true, true, true, true, true, true, true, true, true, true, true, true, true, true, true, true, true, true, false, true, false, false, true, false, false, false, false, false, false] _ _
            try simp only [Act.put, List.setIfInBounds_toArray, List.set_cons_zero, List.set_cons_succ, List.getElem_toArray, List.getElem_cons_zero, List.getElem_cons_succ]
            clear hHeld
            have hHeld := hHeld'
            clear hHeld'
            have hNow := (hHeld.2.2.2)
            have hs2 := hs2.to hb
            try have kE := kE.below hb kE.lt
            refine rest_ready (rs := [24]) (by kernel_rfl) (by simp) ?_
            refine AllRest.cons rfl (fun K hK => ?_) AllRest.nil
            have hNow := (hHeld.2.2.2)
            clear hLast
            have hLast := hNow
            go_simp
            gi_wp2_with ((refine ⟨trivial, ?_⟩; gi_at_call 25; (with_reducible refine (callsIn_wide.2 (Vector_any push _)).mono ?_); rintro e wn ⟨rfl, hb⟩))
            refine hK.out _ _ ?_ (fun hHeld' => ?_)
            · exact ⟨hHeld.1.below hb hHeld.1.lt, hHeld.2.1.below hb hHeld.2.1.lt, hHeld.2.2.1.below hb hHeld.2.2.1.lt, (hHeld.2.2.2).trans (hb.mono (hHeld.2.2.2).size)⟩
            clear hK K
            change RestIn _ _ _ _ _ _ _ 8 #[true, true, true, true, true, true, true, true, true, true, true, true, true, true, true, true, true, true, true, true, true, true, true, true, true, true, false, false, true, false, false, false, false, false, false] _ _
            try simp only [Act.put, List.setIfInBounds_toArray, List.set_cons_zero, List.set_cons_succ, List.getElem_toArray, List.getElem_cons_zero, List.getElem_cons_succ]
            clear hHeld
            have hHeld := hHeld'
            clear hHeld'
            have hNow := (hHeld.2.2.2)
            have hs2 := hs2.to hb
            have hs3 := hs3.to hb
            try have kE := kE.below hb kE.lt
            refine rest_ready (rs := [26]) (by kernel_rfl) (by simp) ?_
            refine AllRest.cons rfl (fun K hK => ?_) AllRest.nil
            have hNow := (hHeld.2.2.2)
            clear hLast
            have hLast := hNow
            go_simp
            gi_wp2_with ((refine ⟨trivial, ?_⟩; gi_at_call 25; (with_reducible refine (callsIn_wide.2 (Vector_any way _)).mono ?_); rintro e wn ⟨rfl, hb⟩))
            refine hK.out _ _ ?_ (fun hHeld' => ?_)
            · exact ⟨hHeld.1.below hb hHeld.1.lt, hHeld.2.1.below hb hHeld.2.1.lt, hHeld.2.2.1.below hb hHeld.2.2.1.lt, (hHeld.2.2.2).trans (hb.mono (hHeld.2.2.2).size)⟩
            clear hK K
            change RestIn _ _ _ _ _ _ _ 7 #[true, true, true, true, true, true, true, true, true, true, true, true, true, true, true, true, true, true, true, true, true, true, true, true, true, true, true, false, true, false, false, false, false, false, false] _ _
            try simp only [Act.put, List.setIfInBounds_toArray, List.set_cons_zero, List.set_cons_succ, List.getElem_toArray, List.getElem_cons_zero, List.getElem_cons_succ]
            clear hHeld
            have hHeld := hHeld'
            clear hHeld'
            have hNow := (hHeld.2.2.2)
            have hs2 := hs2.to hb
            have hs3 := hs3.to hb
            try have kE := kE.below hb kE.lt
            refine rest_ready (rs := [27]) (by kernel_rfl) (by simp) ?_
            refine AllRest.cons rfl (fun K hK => ?_) AllRest.nil
            have hNow := (hHeld.2.2.2)
            clear hLast
            have hLast := hNow
            go_simp
            gi_wp2_with ((refine ⟨trivial, ?_⟩; gi_at_call 32; (refine (callsIn_wide.2 (HPW.out A3 c3 A4 c4 _ hs2 hs3)).mono ?_); rintro e wn ⟨rfl, hb⟩))
            refine hK.out _ _ ?_ (fun hHeld' => ?_)
            · exact ⟨hHeld.1.below hb hHeld.1.lt, hHeld.2.1.below hb hHeld.2.1.lt, hHeld.2.2.1.below hb hHeld.2.2.1.lt, (hHeld.2.2.2).trans (hb.mono (hHeld.2.2.2).size)⟩
            clear hK K
            change RestIn _ _ _ _ _ _ _ 6 #[true, true, true, true, true, true, true, true, true, true, true, true, true, true, true, true, true, true, true, true, true, true, true, true, true, true, true, true, true, false, false, false, false, false, false] _ _
            try simp only [Act.put, List.setIfInBounds_toArray, List.set_cons_zero, List.set_cons_succ, List.getElem_toArray, List.getElem_cons_zero, List.getElem_cons_succ]
            clear hHeld
            have hHeld := hHeld'
            clear hHeld'
            have hNow := (hHeld.2.2.2)
            try have kE := kE.below hb kE.lt
            refine rest_take (i := 29) (v := _) all_wide (noDefers_of (by kernel_rfl)) rfl (by kernel_rfl) (by kernel_rfl) (by kernel_rfl) (fun _ _ _ h => h) (Or.inl ⟨by rfl, by intro w hSw; clear hSw; go_simp; first | done | with_reducible rfl⟩) hHeld ?_
            change RestIn _ _ _ _ _ _ _ 5 #[true, true, true, true, true, true, true, true, true, true, true, true, true, true, true, true, true, true, true, true, true, true, true, true, true, true, true, true, true, true, false, false, false, false, false] _ _
            try simp only [Act.put, List.setIfInBounds_toArray, List.set_cons_zero, List.set_cons_succ, List.getElem_toArray, List.getElem_cons_zero, List.getElem_cons_succ]
            refine rest_take (i := 30) (v := _) all_wide (noDefers_of (by kernel_rfl)) rfl (by kernel_rfl) (by kernel_rfl) (by kernel_rfl) (fun _ _ _ h => h) (Or.inl ⟨by rfl, by intro w hSw; clear hSw; go_simp; first | done | with_reducible rfl⟩) hHeld ?_
            change RestIn _ _ _ _ _ _ _ 4 #[true, true, true, true, true, true, true, true, true, true, true, true, true, true, true, true, true, true, true, true, true, true, true, true, true, true, true, true, true, true, true, false, false, false, false] _ _
            try simp only [Act.put, List.setIfInBounds_toArray, List.set_cons_zero, List.set_cons_succ, List.getElem_toArray, List.getElem_cons_zero, List.getElem_cons_succ]
            refine rest_take (i := 31) (v := _) all_wide (noDefers_of (by kernel_rfl)) rfl (by kernel_rfl) (by kernel_rfl) (by kernel_rfl) (fun _ _ _ h => h) (Or.inl ⟨by rfl, by intro w hSw; clear hSw; go_simp; first | done | with_reducible rfl⟩) hHeld ?_
            change RestIn _ _ _ _ _ _ _ 3 #[true, true, true, true, true, true, true, true, true, true, true, true, true, true, true, true, true, true, true, true, true, true, true, true, true, true, true, true, true, true, true, true, false, false, false] _ _
            try simp only [Act.put, List.setIfInBounds_toArray, List.set_cons_zero, List.set_cons_succ, List.getElem_toArray, List.getElem_cons_zero, List.getElem_cons_succ]
            refine rest_ready (rs := [32]) (by kernel_rfl) (by simp) ?_
            refine AllRest.cons rfl (fun K hK => ?_) AllRest.nil
            have hNow := (hHeld.2.2.2)
            clear hLast
            have hLast := hNow
            go_simp
            gi_wp2_with ((refine ⟨trivial, ?_⟩; gi_at_call 20; (with_reducible refine (callsIn_wide.2 (wakes_any _)).mono ?_); rintro e wn ⟨rfl, hb⟩))
            refine hK.out _ _ ?_ (fun hHeld' => ?_)
            · exact ⟨hHeld.1.below hb hHeld.1.lt, hHeld.2.1.below hb hHeld.2.1.lt, hHeld.2.2.1.below hb hHeld.2.2.1.lt, (hHeld.2.2.2).trans (hb.mono (hHeld.2.2.2).size)⟩
            clear hK K
            change RestIn _ _ _ _ _ _ _ 2 #[true, true, true, true, true, true, true, true, true, true, true, true, true, true, true, true, true, true, true, true, true, true, true, true, true, true, true, true, true, true, true, true, true, false, false] _ _
            try simp only [Act.put, List.setIfInBounds_toArray, List.set_cons_zero, List.set_cons_succ, List.getElem_toArray, List.getElem_cons_zero, List.getElem_cons_succ]
            clear hHeld
            have hHeld := hHeld'
            clear hHeld'
            have hNow := (hHeld.2.2.2)
            try have kE := kE.below hb kE.lt
            refine rest_take (i := 33) (v := _) all_wide (noDefers_of (by kernel_rfl)) rfl (by kernel_rfl) (by kernel_rfl) (by kernel_rfl) (fun _ _ _ h => h) (Or.inl ⟨by rfl, by intro w hSw; clear hSw; go_simp; first | done | with_reducible rfl⟩) hHeld ?_
            change RestIn _ _ _ _ _ _ _ 1 #[true, true, true, true, true, true, true, true, true, true, true, true, true, true, true, true, true, true, true, true, true, true, true, true, true, true, true, true, true, true, true, true, true, true, false] _ _
            try simp only [Act.put, List.setIfInBounds_toArray, List.set_cons_zero, List.set_cons_succ, List.getElem_toArray, List.getElem_cons_zero, List.getElem_cons_succ]
            refine rest_take (i := 34) (v := _) all_wide (noDefers_of (by kernel_rfl)) rfl (by kernel_rfl) (by kernel_rfl) (by kernel_rfl) (fun _ _ _ h => h) (Or.inl ⟨by rfl, by intro w hSw; clear hSw; go_simp; first | done | with_reducible rfl⟩) hHeld ?_
            change RestIn _ _ _ _ _ _ _ 0 #[true, true, true, true, true, true, true, true, true, true, true, true, true, true, true, true, true, true, true, true, true, true, true, true, true, true, true, true, true, true, true, true, true, true, true] _ _
            try simp only [Act.put, List.setIfInBounds_toArray, List.set_cons_zero, List.set_cons_succ, List.getElem_toArray, List.getElem_cons_zero, List.getElem_cons_succ]
            refine rest_done (by kernel_rfl) ?_
            go_wp2_with fail
            go_ret
            exact ⟨rfl, HBE.out.trans (hNow.mono HBE.out.size)⟩
          exact AllRest.nil
theorem proves_any (A : Option Addr) (c : Nat) (l : List Tst) (A' : Option Addr) (c' : Nat) (t : List Head) (head : Int) (push way : Vec) (whole : Int) (A9 : Option Addr) (c9 : Nat) (ps : List Int) (own : Bool) (at_ by_ : Int) (hat : 0 ≤ at_ ∧ at_ ≤ 255) (w : World) (hr : RS encT 4 w w.heap.size A l) (hl : l.length ≤ maxLen) (ht : RH w w.heap.size A' t) (htl : t.length ≤ maxLen) (hrp : RS encI 1 w w.heap.size A9 ps) (hpl : ps.length ≤ maxLen) :
    Calls Try.prog 4 #[.slice A l.length c, .slice A' t.length c', .int .i64 head, .agg #[.int .i64 push.x, .int .i64 push.y], .agg #[.int .i64 way.x, .int .i64 way.y], .agg #[.int .i64 whole, .slice A9 ps.length c9], .bool own, .int .u8 at_, .int .i64 by_] w fun e w' => e = .returned (.bool true) ∧ Below w.heap.size w w' := by
  cases hf : fewB l t with
  | false => exact proves_skip A c l A' c' t head push way whole A9 c9 ps own at_ by_ w hl ht htl hpl (.inl hf)
  | true =>
    by_cases h12 : 12 < ps.length
    · exact proves_skip A c l A' c' t head push way whole A9 c9 ps own at_ by_ w hl ht htl hpl (.inr h12)
    · exact proves_main A c l A' c' t head push way whole A9 c9 ps own at_ by_ hat w hr ht hrp hf (by omega)
end Go.Proofs.Ytkeicglphmnilaa
