import Derived.Test.YtlfaafhdacmgnaaMeans
import Derived.Test.YtlfaafhdacmgnaaReaches

namespace Go.Proofs.Ytlfaafhdacmgnaa
open Go.RowKit

theorem stands_one {l : List Tst} {h : Head} {wind : List Vec} : standsB l [h] wind = true ↔ ∀ p ∈ wind, badB h.area (forcesM l h) p = false := by
  unfold standsB
  rw [List.all_eq_true]
  constructor
  · intro hs; exact headStands_iff.1 (hs h (by simp))
  · intro hs x hx; rw [List.mem_singleton] at hx; subst hx; exact headStands_iff.2 hs
/-- One head of a tent, as a tent of its own. -/
theorem RH.one {w : World} {B : Nat} {A : Option Addr} {t : List Head} (h : RH w B A t) {k : Nat} {x : Head} (hk : t[k]? = some x) : ∃ b off, A = some ⟨b, off, none⟩ ∧ RH w B (some ⟨b, off + k * 3, none⟩) [x] := by
  obtain ⟨b, off, A', c', rfl, hb, x0, x1, x2, hg1, hg2, hg⟩ := h.at_ hk
  refine ⟨b, off, rfl, .inr ⟨b, off + k * 3, rfl, hb, fun j y hj => ?_⟩⟩
  cases j with
  | zero =>
    simp at hj
    subst hj
    exact ⟨A', c', by simpa using x0, by simpa using x1, by simpa using x2, hg1, hg2, hg⟩
  | succ j => simp at hj
theorem tent_one {l : List Tst} {t : List Head} {k : Nat} {x : Head} (h : faultE l t = 0) (hk : t[k]? = some x) : faultE l [x] = 0 := by
  obtain ⟨h1, h2⟩ := testsFault_zero h
  have hx : x.ok = true := by
    simp only [tentOk, Bool.and_eq_true, List.all_eq_true] at h2
    exact h2.2.2 x (List.mem_of_getElem? hk)
  unfold faultE
  rw [if_pos h1, if_pos (by simp [tentOk, hx])]
theorem windy_one {l : List Tst} {t : List Head} {wind : List Vec} {k : Nat} {x : Head} (h : faultE l t = 0) (ha : agreeE l = 0) (hk : t[k]? = some x) (hw : windOk wind = true) : windyE l [x] wind = 0 := by
  rw [windy_eq, if_pos (tent_one h hk), if_pos hw, ha]
theorem windOk_mk {wind : List Vec} (h1 : 1 ≤ wind.length) (h2 : wind.length ≤ 12) (h3 : ∀ v ∈ wind, VB v 10000) : windOk wind = true := by
  simp only [windOk, Bool.and_eq_true, decide_eq_true_eq, List.all_eq_true]
  exact ⟨h1, h2, fun v hv => Vec.corner_iff.2 (h3 v hv)⟩
theorem mod11 {x : Int} (h : -128 ≤ x ∧ x ≤ 127) : -10 ≤ x.tmod 11 ∧ x.tmod 11 ≤ 10 := by
  by_cases h0 : 0 ≤ x
  · rw [Int.tmod_eq_emod_of_nonneg h0]; omega
  · rw [show x = -(-x) from by omega, Int.neg_tmod, Int.tmod_eq_emod_of_nonneg (by omega)]; omega

set_option maxRecDepth 100000 in
theorem upto_skip (A : Option Addr) (c : Nat) (l : List Tst) (A' : Option Addr) (c' : Nat) (t : List Head) (head x y part : Int) (hx : -128 ≤ x ∧ x ≤ 127) (hy : -128 ≤ y ∧ y ≤ 127) (w : World) (hr : RS encT 4 w w.heap.size A l) (hl : l.length ≤ maxLen) (ht : RH w w.heap.size A' t) (htl : t.length ≤ maxLen)
    (hs : fewB l t = false ∨ faultE l t ≠ 0 ∨ agreeE l ≠ 0 ∨ (x.tmod 11 = 0 ∧ y.tmod 11 = 0)) :
    Calls Try.prog 4 #[.slice A l.length c, .slice A' t.length c', .int .u8 head, .int .i8 x, .int .i8 y, .int .u16 part] w fun e w' => e = .returned (.bool true) ∧ Below w.heap.size w w' := by
  obtain ⟨fb, hfb⟩ : ∃ b, fewB l t = b := ⟨_, rfl⟩
  obtain ⟨z, hz⟩ : ∃ z, faultE l t = z := ⟨_, rfl⟩
  obtain ⟨a, ha⟩ : ∃ z, agreeE l = z := ⟨_, rfl⟩
  have HFew := Lib.hid (fun W h => hfb ▸ Few_any A c l A' c' t W h hl htl)
  have HF := Lib.hid (fun W hr ht => hz ▸ Fault_any A c l A' c' t W hr hl ht htl)
  have HC := Lib.hid (fun (h0 : z = 0) W hr => ha ▸ clashing_any A c l W hr hl (fault_ok (hz.trans h0)))
  have mx := mod11 hx
  have my := mod11 hy
  have c1 : IntKind.i64.wrap x = x := IntWalk.i64_in _ (by omega)
  have c2 : IntKind.i64.wrap y = y := IntWalk.i64_in _ (by omega)
  have c3 : IntKind.i64.wrap (x.tmod 11) = x.tmod 11 := IntWalk.i64_in _ (by omega)
  have c4 : IntKind.i64.wrap (y.tmod 11) = y.tmod 11 := IntWalk.i64_in _ (by omega)
  obtain ⟨u, hu⟩ : ∃ u, x.tmod 11 = u := ⟨_, rfl⟩
  obtain ⟨v, hv⟩ : ∃ u, y.tmod 11 = u := ⟨_, rfl⟩
  rw [hu] at hs c3 mx
  rw [hv] at hs c4 my
  have hB := (Below.refl w.heap.size w).alloc (Nat.le_refl _) (.cells #[.int .i64 u, .int .i64 v] 43)
  have kP := Blk.new w 43 #[.int .i64 u, .int .i64 v]
  have hr1 := hr.to hB
  have ht1 := ht.to hB
  rw [hfb, hz, ha] at hs
  clear hfb hz ha hr ht
  cases fb
  · clear hs
    go_enter Try.func4, Try.ntmps4
    go_wp2_with (first | (go_at_call 15; refine (HFew.out _ ht1).mono ?_; rintro e w1 ⟨rfl, hb1⟩) | (go_at_call 16; refine (wakes_any _).mono ?_; rintro e w2 ⟨rfl, hb2⟩; obtain ⟨hc2, hf2⟩ := bcell hb2))
    go_ret
    exact ⟨rfl, hB.trans ((sh_next hb1 hb2).mono hB.size)⟩
  · by_cases h0 : z = 0
    · have e0 : (z != 0) = false := by simpa using h0
      have HC' := Lib.hid (HC.out h0)
      by_cases ha0 : a = 0
      · have e1 : (a != 0) = false := by simpa using ha0
        have huv : u = 0 ∧ v = 0 := by
          rcases hs with hs | hs | hs | hs
          · cases hs
          · exact absurd h0 hs
          · exact absurd ha0 hs
          · exact hs
        obtain ⟨rfl, rfl⟩ := huv
        go_enter Try.func4, Try.ntmps4
        go_wp2_with (first | (go_at_call 15; refine (HFew.out _ ht1).mono ?_; rintro e w1 ⟨rfl, hb1⟩; have kP1 := kP.below hb1 kP.lt) | (go_at_call 30; refine (HF.out _ (hr1.to hb1) (ht1.to hb1)).mono ?_; rintro e w2 ⟨rfl, hb2⟩; have kP2 := kP1.below hb2 kP1.lt) | (go_at_call 31; refine (HC'.out _ ((hr1.to hb1).to hb2)).mono ?_; rintro e w3 ⟨rfl, hb3⟩; have kP3 := kP2.below hb3 kP2.lt; have y0 := kP3.cell 0; have y1 := kP3.cell 1; simp at y0 y1) | (go_at_call 16; refine (wakes_any _).mono ?_; rintro e w4 ⟨rfl, hb4⟩; obtain ⟨hc4, hf4⟩ := bcell hb4))
        go_ret
        have b1 := sh_next hb1 hb2
        have b2 := b1.trans (hb3.mono b1.size)
        exact ⟨rfl, hB.trans ((b2.trans (hb4.mono b2.size)).mono hB.size)⟩
      · have e1 : (a != 0) = true := by simpa using ha0
        clear hs
        go_enter Try.func4, Try.ntmps4
        go_wp2_with (first | (go_at_call 15; refine (HFew.out _ ht1).mono ?_; rintro e w1 ⟨rfl, hb1⟩) | (go_at_call 30; refine (HF.out _ (hr1.to hb1) (ht1.to hb1)).mono ?_; rintro e w2 ⟨rfl, hb2⟩) | (go_at_call 31; refine (HC'.out _ ((hr1.to hb1).to hb2)).mono ?_; rintro e w3 ⟨rfl, hb3⟩) | (go_at_call 16; refine (wakes_any _).mono ?_; rintro e w4 ⟨rfl, hb4⟩; obtain ⟨hc4, hf4⟩ := bcell hb4))
        go_ret
        have b1 := sh_next hb1 hb2
        have b2 := b1.trans (hb3.mono b1.size)
        exact ⟨rfl, hB.trans ((b2.trans (hb4.mono b2.size)).mono hB.size)⟩
    · have e0 : (z != 0) = true := by simpa using h0
      clear hs
      go_enter Try.func4, Try.ntmps4
      go_wp2_with (first | (go_at_call 15; refine (HFew.out _ ht1).mono ?_; rintro e w1 ⟨rfl, hb1⟩) | (go_at_call 30; refine (HF.out _ (hr1.to hb1) (ht1.to hb1)).mono ?_; rintro e w2 ⟨rfl, hb2⟩) | (go_at_call 16; refine (wakes_any _).mono ?_; rintro e w4 ⟨rfl, hb4⟩; obtain ⟨hc4, hf4⟩ := bcell hb4))
      go_ret
      have b1 := sh_next hb1 hb2
      exact ⟨rfl, hB.trans ((b1.trans (hb4.mono b1.size)).mono hB.size)⟩

theorem rs_drew {α : Type} {enc : α → List Value} {sz B : Nat} {w : World} {A : Option Addr} {l : List α} (h : RS enc sz w B A l) : RS enc sz w.drew B A l := h
theorem rmul {r u : Int} (h0 : 0 ≤ r) (h1 : r ≤ 1000) (hu : -10 ≤ u ∧ u ≤ 10) : (-10000 ≤ r * u ∧ r * u ≤ 10000) ∧ IntKind.i64.wrap (r * u) = r * u := by
  have := mulb (p := 1000) (q := 10) (show -1000 ≤ r ∧ r ≤ 1000 by omega) hu
  exact ⟨by omega, IntWalk.i64_in _ (by omega)⟩
theorem askR {l : List Tst} {t : List Head} {k : Nat} {h : Head} {way : Vec} (hf : faultE l t = 0) (ha : agreeE l = 0) (hk : t[k]? = some h) (hv : VB way 10) (hne : ¬ (way.x = 0 ∧ way.y = 0)) : headE l t k (wayIn way) = 0 := by
  have hw : wayIn way = true := by
    rw [wayIn_eq, Vec.corner_iff.2 (hv.mono (by omega)), decide_eq_false hne]; rfl
  have hl := lt_of_getElem? hk
  rw [headE_eq, if_pos hf, hw, if_pos (by simp only [Bool.true_and]; unfold headB; rw [inB_true]; omega), ha]

set_option maxRecDepth 100000 in
set_option maxHeartbeats 4000000 in
theorem upto_main (A : Option Addr) (c : Nat) (l : List Tst) (A' : Option Addr) (c' : Nat) (t : List Head) (head x y part : Int) (hh8 : 0 ≤ head ∧ head ≤ 255) (hp16 : 0 ≤ part ∧ part ≤ 65535) (hx : -128 ≤ x ∧ x ≤ 127) (hy : -128 ≤ y ∧ y ≤ 127) (w : World) (hr : RS encT 4 w w.heap.size A l) (ht : RH w w.heap.size A' t)
    (hf : fewB l t = true) (hz : faultE l t = 0) (ha : agreeE l = 0) (hne : ¬ (x.tmod 11 = 0 ∧ y.tmod 11 = 0)) :
    Calls Try.prog 4 #[.slice A l.length c, .slice A' t.length c', .int .u8 head, .int .i8 x, .int .i8 y, .int .u16 part] w fun e w' => e = .returned (.bool true) ∧ Below w.heap.size w w' := by
  obtain ⟨hg10, hl45, ht15⟩ := fewB_iff.1 hf
  have hlm : l.length ≤ maxLen := by show _ ≤ _; unfold maxLen; omega
  have htm : t.length ≤ maxLen := by show _ ≤ _; unfold maxLen; omega
  have ht1l : 1 ≤ t.length := by have := (testsFault_zero hz).2; simp [tentOk] at this; exact this.1
  have mx := mod11 hx
  have my := mod11 hy
  have c1 : IntKind.i64.wrap x = x := IntWalk.i64_in _ (by omega)
  have c2 : IntKind.i64.wrap y = y := IntWalk.i64_in _ (by omega)
  have c3 : IntKind.i64.wrap (x.tmod 11) = x.tmod 11 := IntWalk.i64_in _ (by omega)
  have c4 : IntKind.i64.wrap (y.tmod 11) = y.tmod 11 := IntWalk.i64_in _ (by omega)
  obtain ⟨u, hu⟩ : ∃ u, x.tmod 11 = u := ⟨_, rfl⟩
  obtain ⟨v, hv⟩ : ∃ u, y.tmod 11 = u := ⟨_, rfl⟩
  rw [hu] at hne c3 mx
  rw [hv] at hne c4 my
  have eu : (u == 0) = false ∨ ((u == 0) = true ∧ (v == 0) = false) := by simp; omega
  obtain ⟨ia, t1, t2, hil⟩ := mod_nat hh8.1 ht1l
  have c5 : IntKind.i64.wrap head = head := IntWalk.i64_in _ (by omega)
  have c6 : IntKind.i64.wrap part = part := IntWalk.i64_in _ (by omega)
  obtain ⟨h, hh⟩ := getElem?_lt hil
  have hE := askR hz ha hh (way := ⟨u, v⟩) ⟨mx, my⟩ hne
  obtain ⟨r, hrr⟩ : ∃ r, reachM h.area (forcesM l h) ⟨u, v⟩ = r := ⟨_, rfl⟩
  have hrin := reachM_in (area := h.area) (f := forcesM l h) (way := ⟨u, v⟩)
  rw [hrr] at hrin
  have HRe := Lib.hid (fun W B b1 B' b2 hr ht => hrr ▸ Reach_ok B b1 l B' b2 t ia h hh ⟨u, v⟩ _ rfl W hr hlm ht htm hE)
  have HFew := Lib.hid (fun W h => hf ▸ Few_any A c l A' c' t W h hlm htm)
  have HF := Lib.hid (fun W hr ht => hz ▸ Fault_any A c l A' c' t W hr hlm ht htm)
  have HC := Lib.hid (fun W hr => ha ▸ clashing_any A c l W hr hlm (fault_ok hz))
  have HTent := Lib.hid (fun W h => Tent_any A' c' t W h (by omega) (fun x hx => by have := hg10 x hx; omega))
  have HTests := Lib.hid (fun W h => Tests_any A c l W h (by omega))
  have hB := (Below.refl w.heap.size w).alloc (Nat.le_refl _) (.cells #[.int .i64 u, .int .i64 v] 43)
  have kP := Blk.new w 43 #[.int .i64 u, .int .i64 v]
  have hr1 := hr.to hB
  have ht1 := ht.to hB
  have Hh := Lib.hid hh
  have Hrr := Lib.hid hrr
  have Hz := Lib.hid hz
  have Ha := Lib.hid ha
  have Hp16 := Lib.hid hp16
  have Hrin := Lib.hid hrin
  have Hmx := Lib.hid mx
  have Hmy := Lib.hid my
  have hr0l := hrin.1
  have hr1l := hrin.2
  have hne' : ¬ t = [] := by intro e; rw [e] at ht1l; simp at ht1l
  clear hf hz ha hr ht hg10 hh hE hrr hne hp16 hh8 hx hy hrin
  go_enter Try.func4, Try.ntmps4
  go_upto_region 2 with fail
  go_cut [45] (fun s45 wx => s45 = .bool false ∧ Blk wx w.heap.size 43 #[.int .i64 u, .int .i64 v] ∧ RS encT 4 wx wx.heap.size A l ∧ RH wx wx.heap.size A' t ∧ Below w.heap.size w wx)
  case first =>
    rcases eu with e1 | ⟨e1, e2⟩
    all_goals
      go_wp2_with (first | (go_at_call 15; refine (HFew.out _ ht1).mono ?_; rintro e w1 ⟨rfl, hb1⟩; have kP1 := kP.below hb1 kP.lt) | (go_at_call 30; refine (HF.out _ (hr1.to hb1) (ht1.to hb1)).mono ?_; rintro e w2 ⟨rfl, hb2⟩; have kP2 := kP1.below hb2 kP1.lt) | (go_at_call 31; refine (HC.out _ ((hr1.to hb1).to hb2)).mono ?_; rintro e w3 ⟨rfl, hb3⟩; have kP3 := kP2.below hb3 kP2.lt; have y0 := kP3.cell 0; have y1 := kP3.cell 1; simp at y0 y1))
      go_meet
      have b1 := sh_next hb1 hb2
      have b2 := b1.trans (hb3.mono b1.size)
      exact ⟨rfl, kP3, hr1.to b2, ht1.to b2, hB.trans (b2.mono hB.size)⟩
  case rest =>
    obtain ⟨rfl, kP3, hr2, ht2, hB1⟩ := hcut
    obtain ⟨w3, hw3⟩ : ∃ y, y = wc := ⟨_, rfl⟩
    subst hw3
    clear hr1 ht1 kP hB
    go_wp2
    refine name_world (motive := fun W => Code.wp _ _ _ _ W) _ ?_
    intro W0 hW
    have hWc := hW.cell
    have hWz := hW.size
    have hWb := hW.below (Below.refl w3.heap.size w3)
    have hr0 : RS encT 4 W0 W0.heap.size A l := by rw [hW.eq.out]; exact hr2
    have ht0 : RH W0 W0.heap.size A' t := by rw [hW.eq.out]; exact ht2
    have kP := hW.blk kP3
    have k0 := kP.cell 0
    have k1 := kP.cell 1
    simp at k0 k1
    have kz := kP.lt
    clear hWc hWz hr2 ht2 kP3
    go_region_held3 (fun w' => (∀ b o, b < W0.heap.size → w'.cell? ⟨b, o, none⟩ = W0.cell? ⟨b, o, none⟩) ∧ Below W0.heap.size W0 w') (first | with_reducible exact sh_refl _ | (with_reducible refine sh_of ?_; with_reducible assumption) | (with_reducible refine sh_alloc ?_ _; with_reducible assumption) | with_reducible exact sh_first _ _)
      (first | (go_at_call 20; go_split_ands; have hS2 : Below W0.heap.size W0 _ := (by with_reducible assumption); refine (HTests.out _ (hr0.to hS2)).mono ?_; rintro e w4 ⟨A3, c3, rfl, hs2, _, _, hb2⟩; have hB2 := sh_next hS2 hb2) | (go_at_call 21; go_split_ands; have hS3 : Below W0.heap.size W0 _ := (by with_reducible assumption); refine (HTent.out _ (ht0.to hS3)).mono ?_; rintro e w5 ⟨A4, c4, rfl, hs3, _, _, hb3⟩; have hB3 := sh_next hS3 hb3; have hs2a := hs2.to hb3) | (go_at_call 32; go_split_ands; have hS5 : Below W0.heap.size W0 _ := (by with_reducible assumption); refine (HRe.out _ A3 c3 A4 c4 hs2a hs3).mono ?_; rintro e w6 ⟨rfl, hb5⟩; have hB5 := sh_next hS5 hb5))
    have hr3 := hr0.to hB5
    have ht3 := ht0.to hB5
    have kP2 := kP.below hB5 kP.lt
    have hB2 := hB1.trans ((hWb.trans (hB5.mono hWb.size)).mono hB1.size)
    clear hr0 ht0 kP k0 k1 kz hB1 hWb hB5 hs2 hs2a hs3 hb2 hb3 hb5
    by_cases hk : 999 < r
    · go_wp2_with ((go_at_call 16; refine (wakes_any _).mono ?_; rintro e w7 ⟨rfl, hb7⟩; obtain ⟨hc7, hf7⟩ := bcell hb7))
      go_ret
      exact ⟨rfl, hB2.trans (hb7.mono hB2.size)⟩
    · obtain ⟨na, t3, t4, hnl⟩ := mod_nat (n := (r + 1).toNat) Hp16.out.1 (by omega)
      rw [show (((r + 1).toNat : Nat) : Int) = r + 1 from by omega] at t3 t4
      have q1 := rmul (r := r) (u := u) hr0l (by omega) Hmx.out
      have q2 := rmul (r := r) (u := v) hr0l (by omega) Hmy.out
      have q3 := rmul (r := (na : Int)) (u := u) (by omega) (by omega) Hmx.out
      have q4 := rmul (r := (na : Int)) (u := v) (by omega) (by omega) Hmy.out
      have q5 := rmul (r := r + 1) (u := u) (by omega) (by omega) Hmx.out
      have q6 := rmul (r := r + 1) (u := v) (by omega) (by omega) Hmy.out
      have n1 := q1.2
      have n2 := q2.2
      have n3 := q3.2
      have n4 := q4.2
      have n5 := q5.2
      have n6 := q6.2
      have n7 : IntKind.i64.wrap (r + 1) = r + 1 := IntWalk.i64_in _ (by omega)
      have n8 : IntKind.i64.wrap ((ia : Int) + 1) = (ia : Int) + 1 := IntWalk.i64_in _ (by omega)
      have H1 := Lib.hid (fun W B b1 B' b2 B2 b3 hr ht hw => stands_n (b := true) (t := [h]) (wind := [⟨r * u, r * v⟩, ⟨(na : Int) * u, (na : Int) * v⟩]) (n := 2) rfl B b1 B' b2 B2 b3 (stands_one.2 (by
        intro p hp
        simp only [List.mem_cons, List.not_mem_nil, or_false] at hp
        rcases hp with rfl | rfl
        · exact reach_less (way := ⟨u, v⟩) (n := r) hr0l (by rw [Hrr.out]; omega)
        · exact reach_less (way := ⟨u, v⟩) (n := (na : Int)) (by omega) (by rw [Hrr.out]; omega))) W hr hlm ht (by show _ ≤ _; unfold maxLen; simp) hw (by show _ ≤ _; unfold maxLen; simp) (windy_one Hz.out Ha.out Hh.out (windOk_mk (by simp) (by simp) (by
        intro p hp
        simp only [List.mem_cons, List.not_mem_nil, or_false] at hp
        rcases hp with rfl | rfl
        · exact ⟨q1.1, q2.1⟩
        · exact ⟨q3.1, q4.1⟩))))
      have H2 := Lib.hid (fun W B b1 B' b2 B2 b3 hr ht hw => stands_n (b := false) (t := [h]) (wind := [⟨(r + 1) * u, (r + 1) * v⟩]) (n := 1) rfl B b1 B' b2 B2 b3 (by
        rw [← Bool.not_eq_true, stands_one]
        intro hall
        have h1 := hall _ (List.mem_singleton.2 rfl)
        have h2 := reach_more (area := h.area) (f := forcesM l h) (way := ⟨u, v⟩) (by rw [Hrr.out]; omega)
        rw [Hrr.out] at h2
        exact absurd (h2.symm.trans h1) (by simp)) W hr hlm ht (by show _ ≤ _; unfold maxLen; simp) hw (by show _ ≤ _; unfold maxLen; simp) (windy_one Hz.out Ha.out Hh.out (windOk_mk (by simp) (by simp) (by
        intro p hp
        simp only [List.mem_cons, List.not_mem_nil, or_false] at hp
        subst hp
        exact ⟨q5.1, q6.1⟩))))
      clear q1 q2 q3 q4 q5 q6
      go_upto_region 12 with (go_at_call 21; refine (HTent.out _ ht3).mono ?_; rintro e w7 ⟨A6, c6, rfl, hs6, hq1, hq2, hb7⟩; obtain ⟨b, off, rfl, hs7⟩ := hs6.one Hh.out)
      have kP4 := kP2.below hb7 kP2.lt
      have hr4 := hr3.to hb7
      have hB3 := hB2.trans (hb7.mono hB2.size)
      clear hr3 ht3 kP2 hB2 hs6 hb7
      go_cut [109] (fun s109 wx => s109 = .bool false ∧ Below w7.heap.size w7 wx)
      case first =>
       refine name_world (motive := fun W => Code.wp _ _ _ _ W) _ ?_
       intro W0 hW
       have hWc := hW.cell
       have hWz := hW.size
       have hWb := hW.below (Below.refl w7.heap.size w7)
       have hr0 : RS encT 4 W0 W0.heap.size A l := by rw [hW.eq.out]; exact hr4
       have ht0 : RH W0 W0.heap.size (some ⟨b, off + ia * 3, none⟩) [h] := by rw [hW.eq.out]; exact hs7
       have kP := hW.blk kP4
       have k0 := kP.cell 0
       have k1 := kP.cell 1
       simp at k0 k1
       have kz := kP.lt
       clear hWc hWz
       go_region_held3 (fun w' => (∀ b o, b < W0.heap.size → w'.cell? ⟨b, o, none⟩ = W0.cell? ⟨b, o, none⟩) ∧ Below W0.heap.size W0 w') (first | with_reducible exact sh_refl _ | (with_reducible refine sh_of ?_; with_reducible assumption) | (with_reducible refine sh_alloc ?_ _; with_reducible assumption) | with_reducible exact sh_first _ _ | (refine sh_of ?_; repeat' (first | with_reducible assumption | with_reducible exact Below.refl _ _ | with_reducible refine Below.drew ?_ | with_reducible refine Below.alloc ?_ (by simp <;> omega) _ | with_reducible refine Below.setCell ?_ (by simp <;> omega) _)))
         (first | (go_at_call 20; go_split_ands; have hS2 : Below W0.heap.size W0 _ := (by with_reducible assumption); refine (HTests.out _ (hr0.to hS2)).mono ?_; rintro e w8 ⟨A7, c7, rfl, hs8, _, _, hb8⟩; have hB8 := sh_next hS2 hb8; obtain ⟨hd8, hf8⟩ := bcell hb8; have hy8 := hb8.size; have hz8 := hB8.size; (try have hq80 : W0.heap.size < w8.heap.size := (by (try simp at hy8); omega))) | (go_at_call 33; go_split_ands; have hS9 : Below W0.heap.size W0 _ := (by with_reducible assumption); refine (H1.out _ A7 c7 _ _ _ _ (by first | exact hs8 | exact hs8.to ((Below.refl _ _).alloc (Nat.le_refl _) _)) (ht0.to hS9) (by first | exact rs_new (enc := encV) (sz := 2) (fun _ => rfl) w8 [⟨r * u, r * v⟩, ⟨(na : Int) * u, (na : Int) * v⟩] _ rfl | exact (rs_drew (rs_new (enc := encV) (sz := 2) (fun _ => rfl) W0 [⟨r * u, r * v⟩, ⟨(na : Int) * u, (na : Int) * v⟩] _ rfl)).to hb8)).mono ?_; rintro e w9 ⟨rfl, hb9⟩; have hB9 := sh_next hS9 hb9))
       all_goals
         go_wp2_with fail
         go_meet
         exact ⟨rfl, hWb.trans (hB9.mono hWb.size)⟩
      case rest =>
        obtain ⟨rfl, hBx⟩ := hcut
        have hr5 := hr4.to hBx
        have ht5 := hs7.to hBx
        have kP5 := kP4.below hBx kP4.lt
        have hB4 := hB3.trans (hBx.mono hB3.size)
        clear hr4 hs7 kP4 hB3 hBx
        go_wp2
        obtain ⟨wo, hwo⟩ : ∃ y, y = wc := ⟨_, rfl⟩
        subst hwo
        refine name_world (motive := fun W => Code.wp _ _ _ _ W) _ ?_
        intro W0 hW
        have hWc := hW.cell
        have hWz := hW.size
        have hWb := hW.below (Below.refl wo.heap.size wo)
        have hr0 : RS encT 4 W0 W0.heap.size A l := by rw [hW.eq.out]; exact hr5
        have ht0 : RH W0 W0.heap.size (some ⟨b, off + ia * 3, none⟩) [h] := by rw [hW.eq.out]; exact ht5
        have kP := hW.blk kP5
        have k0 := kP.cell 0
        have k1 := kP.cell 1
        simp at k0 k1
        have kz := kP.lt
        clear hWc hWz hr5 ht5 kP5
        (first | (go_region_held3 (fun w' => (∀ b o, b < W0.heap.size → w'.cell? ⟨b, o, none⟩ = W0.cell? ⟨b, o, none⟩) ∧ Below W0.heap.size W0 w') (first | with_reducible exact sh_refl _ | (with_reducible refine sh_of ?_; with_reducible assumption) | (with_reducible refine sh_alloc ?_ _; with_reducible assumption) | with_reducible exact sh_first _ _ | (refine sh_of ?_; repeat' (first | with_reducible assumption | with_reducible exact Below.refl _ _ | with_reducible refine Below.drew ?_ | with_reducible refine Below.alloc ?_ (by simp <;> omega) _ | with_reducible refine Below.setCell ?_ (by simp <;> omega) _)))
          (first | (go_at_call 20; go_split_ands; have hS2 : Below W0.heap.size W0 _ := (by with_reducible assumption); refine (HTests.out _ (hr0.to hS2)).mono ?_; rintro e w8 ⟨A7, c7, rfl, hs8, _, _, hb8⟩; have hB8 := sh_next hS2 hb8; obtain ⟨hd8, hf8⟩ := bcell hb8; have hy8 := hb8.size; have hz8 := hB8.size; (try have hq80 : W0.heap.size < w8.heap.size := (by (try simp at hy8); omega))) | (go_at_call 33; go_split_ands; have hS9 : Below W0.heap.size W0 _ := (by with_reducible assumption); refine (H2.out _ A7 c7 _ _ _ _ (by first | exact hs8 | exact hs8.to ((Below.refl _ _).alloc (Nat.le_refl _) _)) (ht0.to hS9) (by first | exact rs_new (enc := encV) (sz := 2) (fun _ => rfl) w8 [⟨(r + 1) * u, (r + 1) * v⟩] _ rfl | exact (rs_drew (rs_new (enc := encV) (sz := 2) (fun _ => rfl) W0 [⟨(r + 1) * u, (r + 1) * v⟩] _ rfl)).to hb8)).mono ?_; rintro e w10 ⟨rfl, hb10⟩; have hB10 := sh_next hS9 hb10) | (go_at_call 16; go_split_ands; have hS11 : Below W0.heap.size W0 _ := (by with_reducible assumption); refine (wakes_any _).mono ?_; rintro e w11 ⟨rfl, hb11⟩; have hB11 := sh_next hS11 hb11))) | fail)
        all_goals
          go_wp2
          go_ret
          exact ⟨rfl, hB4.trans ((hWb.trans (hB11.mono hWb.size)).mono hB4.size)⟩

theorem upto_any (A : Option Addr) (c : Nat) (l : List Tst) (A' : Option Addr) (c' : Nat) (t : List Head) (head x y part : Int) (hh8 : 0 ≤ head ∧ head ≤ 255) (hp16 : 0 ≤ part ∧ part ≤ 65535) (hx : -128 ≤ x ∧ x ≤ 127) (hy : -128 ≤ y ∧ y ≤ 127) (w : World) (hr : RS encT 4 w w.heap.size A l) (hl : l.length ≤ maxLen) (ht : RH w w.heap.size A' t) (htl : t.length ≤ maxLen) :
    Calls Try.prog 4 #[.slice A l.length c, .slice A' t.length c', .int .u8 head, .int .i8 x, .int .i8 y, .int .u16 part] w fun e w' => e = .returned (.bool true) ∧ Below w.heap.size w w' := by
  by_cases h : fewB l t = true ∧ faultE l t = 0 ∧ agreeE l = 0 ∧ ¬ (x.tmod 11 = 0 ∧ y.tmod 11 = 0)
  · exact upto_main A c l A' c' t head x y part hh8 hp16 hx hy w hr ht h.1 h.2.1 h.2.2.1 h.2.2.2
  · refine upto_skip A c l A' c' t head x y part hx hy w hr hl ht htl ?_
    by_cases h1 : fewB l t = true
    · by_cases h2 : faultE l t = 0
      · by_cases h3 : agreeE l = 0
        · exact .inr (.inr (.inr (by
            by_cases h4 : x.tmod 11 = 0 ∧ y.tmod 11 = 0
            · exact h4
            · exact absurd ⟨h1, h2, h3, h4⟩ h)))
        · exact .inr (.inr (.inl h3))
      · exact .inr (.inl h2)
    · exact .inl (by simpa using h1)
end Go.Proofs.Ytlfaafhdacmgnaa
