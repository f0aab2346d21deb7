import Derived.Test.YtibaindlbpfecaaLawD

namespace Go.Proofs.Ytibaindlbpfecaa
open Go.RowKit

theorem find1_some {α : Type} {p : α → Bool} : ∀ {l : List α} {k n : Nat}, find1 p l k = some n → ∃ j x, n = k + j ∧ l[j]? = some x ∧ p x = true := by
  intro l
  induction l with
  | nil => intro k n h; simp [find1] at h
  | cons a l ih =>
    intro k n h
    rw [find1] at h
    cases ha : p a with
    | true => rw [ha] at h; simp at h; exact ⟨0, a, by omega, rfl, ha⟩
    | false =>
      rw [ha] at h
      simp at h
      obtain ⟨j, x, h1, h2, h3⟩ := ih h
      exact ⟨j + 1, x, by omega, by simpa using h2, h3⟩
theorem wk_some {l : List Tst} {t : List Head} {wind : List Vec} {a : Nat} (h : wkO l t wind = some a) (hok : ∀ x ∈ l, x.ok = true) (htok : ∀ x ∈ t, x.ok = true) :
    ∃ (x : Head) (m : Nat) (p : Vec), t[a]? = some x ∧ wind[m]? = some p ∧ wkI l t wind = a ∧ wkK l t wind = m ∧ weakInB (forcesM l x) (p.times x.area) (wkW l t wind) = true ∧ VB (wkW l t wind) 500000 := by
  obtain ⟨j, x, e, hx, hb⟩ := find1_some h
  rw [Nat.zero_add] at e
  subst e
  have hc : ∃ m, cornerO x.area (forcesM l x) wind = some m := by
    unfold headBad headStands at hb
    cases hc : cornerO x.area (forcesM l x) wind with
    | none => rw [hc] at hb; simp at hb
    | some m => exact ⟨m, rfl⟩
  obtain ⟨m, hc⟩ := hc
  obtain ⟨j, p, e, hp, hbad⟩ := find1_some hc
  rw [Nat.zero_add] at e
  subst e
  have hW : wkW l t wind = weakM (forcesM l x) (p.times x.area) := by
    unfold wkW cornerW
    rw [h]; simp [hx, hc, hp]
  have hfv := (forces_in (l := l) (h := x) rfl hok (htok x (List.mem_of_getElem? hx))).2
  refine ⟨x, m, p, hx, hp, by unfold wkI; rw [h], by unfold wkK cornerI; rw [h]; simp [hx, hc], ?_, ?_⟩
  · rw [hW]
    unfold badB at hbad
    have hne : weakM (forcesM l x) (p.times x.area) ≠ vecZ := by simpa using hbad
    unfold weakM at *
    cases hf : (waysL (forcesM l x)).find? (weakInB (forcesM l x) (p.times x.area)) with
    | none => rw [hf] at hne; exact absurd rfl hne
    | some d => simpa using List.find?_some hf
  · rw [hW]
    unfold weakM
    cases hf : (waysL (forcesM l x)).find? (weakInB (forcesM l x) (p.times x.area)) with
    | none => simp only [Option.getD_none]; unfold VB vecZ; simp only; omega
    | some d => exact waysL_vb (by omega) hfv d (List.mem_of_find?_eq_some hf)

theorem refForces_val (A : Option Addr) (c : Nat) (l : List Tst) (A' : Option Addr) (c' : Nat) (h : Head) (f : List Vec) (hf : forcesM l h = f) (w : World) (hr : RS encT 4 w w.heap.size A l) (hl : l.length ≤ maxLen) (hok : ∀ x ∈ l, x.ok = true) (hh : h.ok = true) (hg : RS encG 5 w w.heap.size A' h.guys) :
    Calls Try.prog 27 #[.slice A l.length c, .agg #[.int .i64 h.area, .int .i64 h.bears, .slice A' h.guys.length c']] w fun e w' => ∃ A1 c1, e = .returned (.slice A1 f.length c1) ∧ RS encV 2 w' w'.heap.size A1 f ∧ Below w.heap.size w w' := by
  refine (refForces_any A c l A' c' h w hr hl hok hh hg).mono ?_
  rintro e w' ⟨A1, c1, rfl, h3, h4⟩
  subst hf
  exact ⟨A1, c1, by rw [forcesM_length], h3, h4⟩
theorem refIsWeak_yes (A : Option Addr) (c : Nat) (f : List Vec) (push way : Vec) (w : World) (hr : RS encV 2 w w.heap.size A f) (hl : f.length ≤ 100) (hf : ∀ v ∈ f, VB v 500000) (hp : VB push 1000000000000) (hw : VB way 500000) (h : weakInB f push way = true) :
    Calls Try.prog 29 #[.slice A f.length c, .agg #[.int .i64 push.x, .int .i64 push.y], .agg #[.int .i64 way.x, .int .i64 way.y]] w fun e w' => e = .returned (.bool true) ∧ Below w.heap.size w w' := by
  have := refIsWeak_any A c f push way w hr hl hf hp
  rw [h, show inB way.x (-1000000) 1000000 = true from by rw [inB_true]; have := hw.1; omega, show inB way.y (-1000000) 1000000 = true from by rw [inB_true]; have := hw.2; omega] at this
  exact this
theorem weakest_many (A : Option Addr) (c : Nat) (l : List Tst) (A' : Option Addr) (c' : Nat) (t : List Head) (A2 : Option Addr) (c2 : Nat) (wind : List Vec) (w : World) (ht : RH w w.heap.size A' t) (hl : l.length ≤ maxLen) (htl : t.length ≤ maxLen) (hf : fewB l t = false ∨ 15 < wind.length) :
    Calls Try.prog 11 #[.slice A l.length c, .slice A' t.length c', .slice A2 wind.length c2] w fun e w' => e = .returned (.bool true) ∧ Below w.heap.size w w' := by
  obtain ⟨b, hb⟩ : ∃ b, fewB l t = b := ⟨_, rfl⟩
  have Hv := Lib.hid (fun W h => hb ▸ Few_any A c l A' c' t W h hl htl)
  rw [hb] at hf
  clear hb hl htl
  cases b
  · clear hf
    go_enter Try.func11, Try.ntmps11
    go_wp2_with (first | (go_at_call 14; refine (Hv.out _ ht).mono ?_; rintro e w1 ⟨rfl, hb1⟩) | (go_at_call 20; refine (wakes_any _).mono ?_; rintro e w2 ⟨rfl, hb2⟩; obtain ⟨hc2, hf2⟩ := bcell hb2))
    go_ret
    exact ⟨rfl, sh_next hb1 hb2⟩
  · have h15 : 15 < wind.length := by simpa using hf
    clear hf
    go_enter Try.func11, Try.ntmps11
    go_wp2_with (first | (go_at_call 14; refine (Hv.out _ ht).mono ?_; rintro e w1 ⟨rfl, hb1⟩) | (go_at_call 20; refine (wakes_any _).mono ?_; rintro e w2 ⟨rfl, hb2⟩; obtain ⟨hc2, hf2⟩ := bcell hb2))
    go_ret
    exact ⟨rfl, sh_next hb1 hb2⟩

set_option maxRecDepth 100000 in
set_option maxHeartbeats 2000000 in
theorem weakest_main (A : Option Addr) (c : Nat) (l : List Tst) (A' : Option Addr) (c' : Nat) (t : List Head) (A2 : Option Addr) (c2 : Nat) (wind : List Vec) (w : World) (hr : RS encT 4 w w.heap.size A l) (ht : RH w w.heap.size A' t) (hw : RS encV 2 w w.heap.size A2 wind) (hf : fewB l t = true) (h15 : wind.length ≤ 15) :
    Calls Try.prog 11 #[.slice A l.length c, .slice A' t.length c', .slice A2 wind.length c2] w fun e w' => e = .returned (.bool true) ∧ Below w.heap.size w w' := by
  obtain ⟨hg10, hl45, ht15⟩ := fewB_iff.1 hf
  have hlm : l.length ≤ maxLen := by show _ ≤ _; unfold maxLen; omega
  have htm : t.length ≤ maxLen := by show _ ≤ _; unfold maxLen; omega
  have hwm : wind.length ≤ maxLen := by show _ ≤ _; unfold maxLen; omega
  obtain ⟨z, hz⟩ : ∃ z, windyE l t wind = z := ⟨_, rfl⟩
  have HFew := Lib.hid (fun W h => hf ▸ Few_any A c l A' c' t W h hlm htm)
  have HBl := Lib.hid (fun W hr ht hw => hz ▸ blown_any A c l A' c' t A2 c2 wind W hr hlm ht htm hw hwm)
  have HTent := Lib.hid (fun W h => Tent_any A' c' t W h (by omega) (fun x hx => by have := hg10 x hx; omega))
  have HTests := Lib.hid (fun W h => Tests_any A c l W h (by omega))
  have HWind := Lib.hid (fun W h => Wind_any A2 c2 wind W h (by omega))
  by_cases h0 : z = 0
  · subst h0
    obtain ⟨hz1, hz2, hz3, _⟩ := windyE_zero hz
    have Hok := Lib.hid (testsFault_ok hz1).1
    have Htok := Lib.hid (tentE_ok hz2).2
    have Hvb := Lib.hid (windE_ok hz3).2
    obtain ⟨zi, hzi⟩ : ∃ x, wkI l t wind = x := ⟨_, rfl⟩
    obtain ⟨zk, hzk⟩ : ∃ x, wkK l t wind = x := ⟨_, rfl⟩
    obtain ⟨u, hu⟩ : ∃ x, wkW l t wind = x := ⟨_, rfl⟩
    have HW := Lib.hid (fun W B b1 B' b2 B2 b3 hr ht hw => hzi ▸ hzk ▸ hu ▸ Weakest_ok B b1 l B' b2 t B2 b3 wind W hr hlm ht htm hw hwm hz)
    have HRW := Lib.hid (fun W hr ht hw => hzi ▸ hzk ▸ refWeakest_any A c l A' c' t A2 c2 wind W hr hlm ht htm hw hwm Hok.out Htok.out Hvb.out)
    cases ho : wkO l t wind with
    | none =>
      have e1 : zi = -1 := by rw [← hzi]; unfold wkI; rw [ho]
      have e2 : zk = -1 := by rw [← hzk]; unfold wkK; rw [ho]
      have e3 : u = vecZ := by rw [← hu]; unfold wkW; rw [ho]
      subst e1 e2 e3
      clear hf hz hg10 hzi hzk hu hz1 hz2 hz3 ho
      go_enter Try.func11, Try.ntmps11
      go_upto_region 4 with (first | (go_at_call 14; refine (HFew.out _ ht).mono ?_; rintro e w1 ⟨rfl, hb1⟩; have hr1 := hr.to hb1; have ht1 := ht.to hb1; have hw1 := hw.to hb1) | (go_at_call 17; refine (HTests.out _ hr1).mono ?_; rintro e w2 ⟨A3, c3, rfl, hs2, _, _, hb2⟩; have ht2 := ht1.to hb2; have hw2 := hw1.to hb2) | (go_at_call 18; refine (HTent.out _ ht2).mono ?_; rintro e w3 ⟨A4, c4, rfl, hs3, _, _, hb3⟩; have hw3 := hw2.to hb3) | (go_at_call 19; refine (HWind.out _ hw3).mono ?_; rintro e w4 ⟨A5, c5, rfl, hs4, _, _, hb4⟩) | (go_at_call 42; refine (HW.out _ A3 c3 A4 c4 A5 c5 ((hs2.to hb3).to hb4) (hs3.to hb4) hs4).mono ?_; rintro e w5 ⟨rfl, hb5⟩))
      have a2 := sh_next hb1 hb2
      have a3 := a2.trans (hb3.mono a2.size)
      have a4 := a3.trans (hb4.mono a3.size)
      have a5 := (a4.trans (hb5.mono a4.size)).alloc (a4.trans (hb5.mono a4.size)).size (.cells #[.int .i64 0, .int .i64 0] 58)
      have kW := Blk.new w5 58 #[.int .i64 0, .int .i64 0]
      have hr6 := hr.to a5
      have ht6 := ht.to a5
      have hw6 := hw.to a5
      clear hb1 hb2 hb3 hb4 hb5 a2 a3 a4 hr1 ht1 hw1 ht2 hw2 hw3 hs2 hs3 hs4
      go_wp2_with (first | (go_at_call 15; refine (HBl.out _ hr6 ht6 hw6).mono ?_; rintro e w7 ⟨rfl, hb7⟩; have kW7 := kW.below hb7 kW.lt) | (go_at_call 57; refine (HRW.out _ (hr6.to hb7) (ht6.to hb7) (hw6.to hb7)).mono ?_; rintro e w8 ⟨rfl, hb8⟩; have kW8 := kW7.below hb8 kW7.lt; have y0 := kW8.cell 0; have y1 := kW8.cell 1; simp at y0 y1) | (go_at_call 20; refine (wakes_any _).mono ?_; rintro e w9 ⟨rfl, hb9⟩; obtain ⟨hc9, hf9⟩ := bcell hb9))
      go_ret
      have b2 := sh_next hb7 hb8
      exact ⟨rfl, a5.trans ((b2.trans (hb9.mono b2.size)).mono a5.size)⟩
    | some a =>
      obtain ⟨x, m, p, hx, hp, e1, e2, hwi, hvb⟩ := wk_some ho Hok.out Htok.out
      rw [hzi] at e1
      rw [hzk] at e2
      rw [hu] at hwi hvb
      subst e1 e2
      have hxk := Htok.out x (List.mem_of_getElem? hx)
      obtain ⟨f, hff⟩ : ∃ f, forcesM l x = f := ⟨_, rfl⟩
      obtain ⟨hfl, hfv⟩ := forces_in hff Hok.out hxk
      rw [hff] at hwi
      have har := Head.area_in hxk
      have ppb := (Hvb.out p (List.mem_of_getElem? hp)).times (n := x.area) (q := 1000) (by omega)
      have p1 : Sm (x.area * p.x) := by have := ppb.1; simp only [Vec.times] at this; unfold Sm; omega
      have p2 : Sm (x.area * p.y) := by have := ppb.2; simp only [Vec.times] at this; unfold Sm; omega
      have HFo := Lib.hid (fun W A3 c3 h1 h2 => refForces_val A c l A3 c3 x f hff W h1 hlm Hok.out hxk h2)
      have HIw := Lib.hid (fun W B b1 hrs => refIsWeak_yes B b1 f (p.times x.area) u W hrs (by omega) hfv (ppb.mono (by omega)) hvb hwi)
      have Hx := Lib.hid hx
      have Hp := Lib.hid hp
      have hal := lt_of_getElem? hx
      have hml := lt_of_getElem? hp
      clear hf hz hg10 hzi hzk hu hz1 hz2 hz3 ho hfv hwi hvb ppb hxk hff har hx hp
      go_enter Try.func11, Try.ntmps11
      go_upto_region 4 with (first | (go_at_call 14; refine (HFew.out _ ht).mono ?_; rintro e w1 ⟨rfl, hb1⟩; have hr1 := hr.to hb1; have ht1 := ht.to hb1; have hw1 := hw.to hb1) | (go_at_call 17; refine (HTests.out _ hr1).mono ?_; rintro e w2 ⟨A3, c3, rfl, hs2, _, _, hb2⟩; have ht2 := ht1.to hb2; have hw2 := hw1.to hb2) | (go_at_call 18; refine (HTent.out _ ht2).mono ?_; rintro e w3 ⟨A4, c4, rfl, hs3, _, _, hb3⟩; have hw3 := hw2.to hb3) | (go_at_call 19; refine (HWind.out _ hw3).mono ?_; rintro e w4 ⟨A5, c5, rfl, hs4, _, _, hb4⟩) | (go_at_call 42; refine (HW.out _ A3 c3 A4 c4 A5 c5 ((hs2.to hb3).to hb4) (hs3.to hb4) hs4).mono ?_; rintro e w5 ⟨rfl, hb5⟩))
      have a2 := sh_next hb1 hb2
      have a3 := a2.trans (hb3.mono a2.size)
      have a4 := a3.trans (hb4.mono a3.size)
      have a5 := (a4.trans (hb5.mono a4.size)).alloc (a4.trans (hb5.mono a4.size)).size (.cells #[.int .i64 u.x, .int .i64 u.y] 58)
      have kW := Blk.new w5 58 #[.int .i64 u.x, .int .i64 u.y]
      have hr6 := hr.to a5
      have ht6 := ht.to a5
      have hw6 := hw.to a5
      clear hb1 hb2 hb3 hb4 hb5 a2 a3 a4 hr1 ht1 hw1 ht2 hw2 hw3 hs2 hs3 hs4
      go_upto_region 12 with (first | (go_at_call 15; refine (HBl.out _ hr6 ht6 hw6).mono ?_; rintro e w7 ⟨rfl, hb7⟩; have kW7 := kW.below hb7 kW.lt) | (go_at_call 57; refine (HRW.out _ (hr6.to hb7) (ht6.to hb7) (hw6.to hb7)).mono ?_; rintro e w8 ⟨rfl, hb8⟩; have kW8 := kW7.below hb8 kW7.lt))
      have b2 := sh_next hb7 hb8
      have hr8 := hr6.to b2
      have ht8 := ht6.to b2
      have hw8 := hw6.to b2
      have a8 := a5.trans (b2.mono a5.size)
      clear hr hr6 ht6 hw6 hb7 hb8 b2 a5 kW kW7
      go_wp2
      refine name_world (motive := fun W => Code.wp _ _ _ _ W) _ ?_
      intro W0 hW
      have hWc := hW.cell
      have hWz := hW.size
      have hWb := hW.below (a8)
      have hr0 : RS encT 4 W0 W0.heap.size A l := by rw [hW.eq.out]; exact hr8
      have kV := hW.blk kW8
      have k0 := kV.cell 0
      have k1 := kV.cell 1
      simp at k0 k1
      have kz := kV.lt
      obtain ⟨b, off, A6, c6, rfl, hb, x0, x1, x2, hg1, hg2, hg⟩ := (show RH W0 W0.heap.size A' t from by rw [hW.eq.out]; exact ht8).at_ Hx.out
      obtain ⟨b3, off3, rfl, hb3, hc⟩ := (show RS encV 2 W0 W0.heap.size A2 wind from by rw [hW.eq.out]; exact hw8).at_ Hp.out
      have y0 := hc 0 _ rfl
      have y1 := hc 1 _ rfl
      simp only [Nat.add_zero] at y0
      clear hc ht8 hw8 hr8 hWc hWz ht hw kW8
      (first | (go_region_held3 (fun w' => (∀ b o, b < W0.heap.size → w'.cell? ⟨b, o, none⟩ = W0.cell? ⟨b, o, none⟩) ∧ Below W0.heap.size W0 w') (first | with_reducible exact sh_refl _ | (with_reducible refine sh_of ?_; with_reducible assumption) | (with_reducible refine sh_alloc ?_ _; with_reducible assumption) | with_reducible exact sh_first _ _) (first | (go_at_call 27; go_split_ands; have hS1 : Below W0.heap.size W0 _ := (by with_reducible assumption); refine (HFo.out _ A6 c6 (hr0.to hS1) ((hg.below hS1 (Nat.le_refl _)).more hS1.size)).mono ?_; rintro e w9 ⟨A7, c7, rfl, hrs, hb9⟩; have hB9 := sh_next hS1 hb9) | (go_at_call 28; go_split_ands; have hS10 : Below W0.heap.size W0 _ := (by with_reducible assumption); refine (refTimes_any p x.area _ p1 p2).mono ?_; rintro e w10 ⟨rfl, hb10⟩; have hB10 := sh_next hS10 hb10) | (go_at_call 29; go_split_ands; have hS11 : Below W0.heap.size W0 _ := (by with_reducible assumption); refine (HIw.out _ A7 c7 (by first | exact hrs | exact hrs.to hb10)).mono ?_; rintro e w11 ⟨rfl, hb11⟩; have hB11 := sh_next hS11 hb11) | (go_at_call 20; go_split_ands; have hS12 : Below W0.heap.size W0 _ := (by with_reducible assumption); refine (wakes_any _).mono ?_; rintro e w12 ⟨rfl, hb12⟩; have hB12 := sh_next hS12 hb12))) | fail)
      all_goals
        go_wp2
        go_ret
        exact ⟨rfl, hWb.trans (hB12.mono hWb.size)⟩
  · have HW := Lib.hid (fun W B b1 B' b2 B2 b3 hr ht hw => Weakest_err B b1 l B' b2 t B2 b3 wind z h0 W hr hlm ht htm hw hwm hz)
    have e1 : (z != 0) = true := by simpa using h0
    clear hf hz hg10 h0
    go_enter Try.func11, Try.ntmps11
    go_upto_region 4 with (first | (go_at_call 14; refine (HFew.out _ ht).mono ?_; rintro e w1 ⟨rfl, hb1⟩; have hr1 := hr.to hb1; have ht1 := ht.to hb1; have hw1 := hw.to hb1) | (go_at_call 17; refine (HTests.out _ hr1).mono ?_; rintro e w2 ⟨A3, c3, rfl, hs2, _, _, hb2⟩; have ht2 := ht1.to hb2; have hw2 := hw1.to hb2) | (go_at_call 18; refine (HTent.out _ ht2).mono ?_; rintro e w3 ⟨A4, c4, rfl, hs3, _, _, hb3⟩; have hw3 := hw2.to hb3) | (go_at_call 19; refine (HWind.out _ hw3).mono ?_; rintro e w4 ⟨A5, c5, rfl, hs4, _, _, hb4⟩) | (go_at_call 42; refine (HW.out _ A3 c3 A4 c4 A5 c5 ((hs2.to hb3).to hb4) (hs3.to hb4) hs4).mono ?_; rintro e w5 ⟨rfl, hb5⟩))
    have a2 := sh_next hb1 hb2
    have a3 := a2.trans (hb3.mono a2.size)
    have a4 := a3.trans (hb4.mono a3.size)
    have a5 := (a4.trans (hb5.mono a4.size)).alloc (a4.trans (hb5.mono a4.size)).size (.cells #[.int .i64 0, .int .i64 0] 58)
    have kW := Blk.new w5 58 #[.int .i64 0, .int .i64 0]
    have hr6 := hr.to a5
    have ht6 := ht.to a5
    have hw6 := hw.to a5
    clear hb1 hb2 hb3 hb4 hb5 a2 a3 a4 hr1 ht1 hw1 ht2 hw2 hw3 hs2 hs3 hs4
    go_wp2_with (first | (go_at_call 15; refine (HBl.out _ hr6 ht6 hw6).mono ?_; rintro e w7 ⟨rfl, hb7⟩; have kW7 := kW.below hb7 kW.lt; have y0 := kW7.cell 0; have y1 := kW7.cell 1; simp at y0 y1) | (go_at_call 20; refine (wakes_any _).mono ?_; rintro e w8 ⟨rfl, hb8⟩; obtain ⟨hc8, hf8⟩ := bcell hb8))
    go_ret
    exact ⟨rfl, a5.trans ((sh_next hb7 hb8).mono a5.size)⟩
theorem weakest_any (A : Option Addr) (c : Nat) (l : List Tst) (A' : Option Addr) (c' : Nat) (t : List Head) (A2 : Option Addr) (c2 : Nat) (wind : List Vec) (w : World) (hr : RS encT 4 w w.heap.size A l) (hl : l.length ≤ maxLen) (ht : RH w w.heap.size A' t) (htl : t.length ≤ maxLen) (hw : RS encV 2 w w.heap.size A2 wind) :
    Calls Try.prog 11 #[.slice A l.length c, .slice A' t.length c', .slice A2 wind.length c2] w fun e w' => e = .returned (.bool true) ∧ Below w.heap.size w w' := by
  by_cases h : fewB l t = false ∨ 15 < wind.length
  · exact weakest_many A c l A' c' t A2 c2 wind w ht hl htl h
  · exact weakest_main A c l A' c' t A2 c2 wind w hr ht hw (by simpa using fun e => h (.inl e)) (by omega)
end Go.Proofs.Ytibaindlbpfecaa
