import Derived.Test.YtibaindlbpfecaaSafer

/- The law CanvasSafer: where the tent stands. -/
namespace Go.Proofs.Ytibaindlbpfecaa
open Go.RowKit

theorem stands_t {t' : List Head} {n : Nat} (hn : t'.length = n) (A : Option Addr) (c : Nat) (l : List Tst) (A' : Option Addr) (c' : Nat) (A2 : Option Addr) (c2 : Nat) (wind : List Vec) (hs : standsB l t' wind = true) (w : World) (hr : RS encT 4 w w.heap.size A l) (hl : l.length ≤ maxLen) (ht : RH w w.heap.size A' t') (htl : n ≤ maxLen) (hw : RS encV 2 w w.heap.size A2 wind) (hwl : wind.length ≤ maxLen) (hE : windyE l t' wind = 0) :
    Calls Try.prog 16 #[.slice A l.length c, .slice A' n c', .slice A2 wind.length c2] w fun e w' => e = .returned (.bool true) ∧ Below w.heap.size w w' := by
  subst hn
  exact stands_ok A c l A' c' t' A2 c2 wind hs w hr hl ht htl hw hwl hE

theorem own_link {w1 w2 : World} {B e sz n m c c4 : Nat} {A A4 : Option Addr} {xs ys : List Value} (h1 : w1.ownsRow B e sz (.slice A n c) n xs) (h2 : w2.ownsRow B e sz (.slice A4 m c4) m ys) (hb : (Value.slice A4 m c4).ownBlock = (Value.slice A n c).ownBlock) : A4 = A := by
  cases A4 with
  | none =>
    cases A with
    | none => rfl
    | some a => simp [Value.ownBlock] at hb
  | some b =>
    cases A with
    | none => simp [Value.ownBlock] at hb
    | some a =>
      rw [rows_at h1 rfl, rows_at h2 rfl]
      simp [Value.ownBlock] at hb
      rw [hb]

set_option linter.unusedSimpArgs false in
set_option linter.unusedVariables false in
set_option maxRecDepth 100000 in
set_option maxHeartbeats 4000000 in
theorem safer_main (A : Option Addr) (c : Nat) (l : List Tst) (A' : Option Addr) (c' : Nat) (t : List Head) (A2 : Option Addr) (c2 : Nat) (wind : List Vec) (hd gy less deep : Int) (more : Guy) (h8 : 0 ≤ hd ∧ hd ≤ 255) (g8 : 0 ≤ gy ∧ gy ≤ 255) (l16 : 0 ≤ less ∧ less ≤ 65535) (d16 : 0 ≤ deep ∧ deep ≤ 65535) (w : World) (hr : RS encT 4 w w.heap.size A l) (ht : RH w w.heap.size A' t) (hw : RS encV 2 w w.heap.size A2 wind) (hf : fewB l t = true) (h12 : wind.length ≤ 12) (hE : windyE l t wind = 0) (hs : standsB l t wind = true) :
    Calls Try.prog 3 #[.slice A l.length c, .slice A' t.length c', .slice A2 wind.length c2, .int .u8 hd, .int .u8 gy, .int .u16 less, .int .u16 deep, .agg #[.int .i64 more.x, .int .i64 more.y, .int .i64 more.down, .int .i64 more.soil, .int .i64 more.depth]] w fun e w' => e = .returned (.bool true) ∧ Below w.heap.size w w' := by
  obtain ⟨hg10, hl45, ht15⟩ := fewB_iff.1 hf
  have hlm : l.length ≤ maxLen := by show _ ≤ _; unfold maxLen; omega
  have htm : t.length ≤ maxLen := by show _ ≤ _; unfold maxLen; omega
  have hwm : wind.length ≤ maxLen := by show _ ≤ _; unfold maxLen; omega
  obtain ⟨hz1', hz2', hz3', _⟩ := windyE_zero hE
  obtain ⟨⟨ht1, _⟩, htok⟩ := tentE_ok hz2'
  have Hok := Lib.hid (show ∀ x ∈ l, x.ok = true from (testsFault_ok hz1').1)
  obtain ⟨i, hi⟩ : ∃ i : Nat, hd.tmod (t.length : Int) = (i : Int) := ⟨(hd.tmod (t.length : Int)).toNat, by have := Int.tmod_nonneg (t.length : Int) h8.1; omega⟩
  have hit : i < t.length := by have := Int.tmod_lt_of_pos hd (show (0 : Int) < (t.length : Int) by omega); omega
  obtain ⟨x, hx⟩ := getElem?_lt hit
  have hxk := htok x (List.mem_of_getElem? hx)
  obtain ⟨⟨xa1, xa2⟩, _, xg, xgs⟩ := ok_parts hxk
  have hHead := head_in hs hx
  have HFew := Lib.hid (fun W h => hf ▸ Few_any A c l A' c' t W h hlm htm)
  have HBl := Lib.hid (fun W hr ht hw => hE ▸ blown_any A c l A' c' t A2 c2 wind W hr hlm ht htm hw hwm)
  have HTent := Lib.hid (fun W h => Tent_own A' c' t W h (by omega) (fun x hx => by have := hg10 x hx; omega))
  have HTests := Lib.hid (fun W h => Tests_any A c l W h (by omega))
  have HWind := Lib.hid (fun W h => Wind_any A2 c2 wind W h (by omega))
  have HSt := Lib.hid (fun W B b1 B' b2 B2 b3 hr ht hw => stands_ok B b1 l B' b2 t B2 b3 wind hs W hr hlm ht htm hw hwm hE)
  have B0 := Lib.hid ((Below.refl w.heap.size w).alloc (Nat.le_refl _) (.cells #[.int .i64 more.x, .int .i64 more.y, .int .i64 more.down, .int .i64 more.soil, .int .i64 more.depth] 28))
  have hr0 := hr.to B0.out
  have ht0 := ht.to B0.out
  have hw0 := hw.to B0.out
  have n1 : IntKind.i64.wrap hd = hd := IntWalk.i64_in _ (by omega)
  have n2 : IntKind.i64.wrap (t.length : Int) = (t.length : Int) := IntWalk.i64_in _ (by omega)
  have n3 : ¬ ((t.length : Int) = 0) := by omega
  have hne : t ≠ [] := fun e => by rw [e] at ht1; simp at ht1
  have tk1 : True := trivial
  clear hf hg10 hr ht hw h8
  go_enter Try.func3, Try.ntmps3
  go_upto_region 5 with (first | (go_at_call 14; refine (HFew.out _ ht0).mono ?_; rintro e w1 ⟨rfl, hb1⟩) | (go_at_call 15; refine (HBl.out _ (hr0.to hb1) (ht0.to hb1) (hw0.to hb1)).mono ?_; rintro e w2 ⟨rfl, hb2⟩; have a2 := sh_next hb1 hb2; have hr2 := hr0.to a2; have ht2 := ht0.to a2; have hw2 := hw0.to a2) | (go_at_call 17; refine (HTests.out _ hr2).mono ?_; rintro e w3 ⟨A3, c3, rfl, hs3, _, _, hb3⟩) | (go_at_call 18; have := tk1; clear this tk1; refine (HTent.out _ (ht2.to hb3)).mono ?_; rintro e w4 ⟨A4, c4, cs4, rfl, ho4, hsb4, hrw4, hb4⟩; obtain ⟨g4, rfl, hot4⟩ := OT.of ho4 rfl hne hsb4 hrw4; have a4 := sh_next hb3 hb4; clear ho4 hsb4 hrw4) | (go_at_call 19; refine (HWind.out _ (hw2.to a4)).mono ?_; rintro e w5 ⟨A5, c5, rfl, hs5, _, _, hb5⟩; have a5 := a4.trans (hb5.mono a4.size)) | (go_at_call 16; refine (HSt.out _ A3 c3 _ c4 A5 c5 ((hs3.to hb4).to hb5) (hot4.to hb5).rh hs5).mono ?_; rintro e w6 ⟨rfl, hb6⟩; have a6 := a5.trans (hb6.mono a5.size); have hr6 := hr2.to a6; have ht6 := ht2.to a6; have hw6 := hw2.to a6) | (go_at_call 18; refine (HTent.out _ ht6).mono ?_; rintro e w7 ⟨A7, c7, cs7, rfl, ho7, hsb7, hrw7, hb7⟩; obtain ⟨g7, rfl, hot7⟩ := OT.of ho7 rfl hne hsb7 hrw7; clear ho7 hsb7 hrw7))
  have x2 := a2.trans (a6.mono a2.size)
  have hr7 := hr6.to hb7
  have ht7 := ht6.to hb7
  have hw7 := hw6.to hb7
  obtain ⟨a7, ha7⟩ := hot7.at_ hx
  obtain ⟨y0, y1, y2, hy3, hy4, hrs7⟩ := hot7.head i x a7 hx ha7
  clear hr2 ht2 hw2 hs3 hot4 hs5 hb1 hb2 hb3 hb4 hb5 hb6 a2 a4 a5 a6 hr0 ht0 hw0 hr7 ht7 hw7
  obtain ⟨us7, hk7⟩ := hot7.blk
  have hfz : w7.frozen? ⟨g7, i * 3, none⟩ = false := hk7.frozen _
  have m1 : IntKind.i64.wrap less = less := IntWalk.i64_in _ (by omega)
  have m2 : IntKind.i64.wrap (x.area - less) = x.area - less := IntWalk.i64_in _ (by omega)
  have hg7 : g7 < w7.heap.size := hk7.lt
  clear hrs7
  go_upto_region 6 with fail
  obtain ⟨va, hva⟩ : ∃ va, (if less < x.area then x.area - less else 0) = va := ⟨_, rfl⟩
  have hva0 : 0 ≤ va ∧ va ≤ x.area := by rw [← hva]; split <;> omega
  rw [hva]
  have hT8 := hot7.area_rh hx va
  have hB8 : Below w6.heap.size w6 (w7.setCell ⟨g7, i * 3, none⟩ (.int .i64 va)) := hb7.setCell hot7.low _
  obtain ⟨w8, hw8⟩ : ∃ W, w7.setCell ⟨g7, i * 3, none⟩ (.int .i64 va) = W := ⟨_, rfl⟩
  rw [hw8] at hT8 hB8 ⊢
  have hs8 := stands_set_head (i := i) hs (head_area Hok.out hxk hva0.1 hva0.2 hHead)
  have hE8 := windy_set (i := i) hE (area_ok hxk hva0.1 hva0.2)
  have HSt8 := Lib.hid (fun W B b1 B' b2 B2 b3 hr ht hw => stands_t (t' := t.set i { x with area := va }) (List.length_set) B b1 l B' b2 B2 b3 wind hs8 W hr hlm ht htm hw hwm hE8)
  have hr8 := hr6.to hB8
  have ht8 := ht6.to hB8
  have hw8' := hw6.to hB8
  clear hw8 hs8 hE8 hva y0 y1 y2 hy3 hy4 ha7 hot7 hk7 hfz m1 m2 hg7 hb7
  have tk2 : True := trivial
  go_upto_if 84 with (first | (go_at_call 17; refine (HTests.out _ hr8).mono ?_; rintro e w9 ⟨A9, c9, rfl, hs9, _, _, hb9⟩) | (go_at_call 19; refine (HWind.out _ (hw8'.to hb9)).mono ?_; rintro e w10 ⟨A10, c10, rfl, hs10, _, _, hb10⟩; have a10 := sh_next hb9 hb10) | (go_at_call 16; refine (HSt8.out _ A9 c9 _ c7 A10 c10 (hs9.to hb10) (hT8.to a10) hs10).mono ?_; rintro e w11 ⟨rfl, hb11⟩; have a11 := a10.trans (hb11.mono a10.size); have hr11 := hr8.to a11; have ht11 := ht8.to a11; have hw11 := hw8'.to a11) | (go_at_call 18; refine (HTent.out _ ht11).mono ?_; rintro e w12 ⟨A12, c12, cs12, rfl, ho12, hsb12, hrw12, hb12⟩; obtain ⟨g12, rfl, hot12⟩ := OT.of ho12 rfl hne hsb12 hrw12; clear ho12 hsb12 hrw12; obtain ⟨⟨a12, d12⟩, ha12⟩ := hot12.at_ hx; obtain ⟨y0, y1, y2, hy3, hy4, hrs12⟩ := hot12.head i x _ hx ha12))
  have a12' := a11.trans (hb12.mono a11.size)
  have hB12 : Below w6.heap.size w6 w12 := hB8.trans (a12'.mono hB8.size)
  clear hb9 hb10 hb11 a10 hs9 hs10 hr8 ht8 hw8' hT8
  have hB11 : Below w6.heap.size w6 w11 := hB8.trans (a11.mono hB8.size)
  go_cut [17] (fun s17 wx => s17 = .int .i64 (i : Int) ∧ Below w6.heap.size w6 wx)
  case first =>
    by_cases hn0 : 0 < x.guys.length
    · obtain ⟨j, hj⟩ : ∃ j : Nat, gy.tmod (x.guys.length : Int) = (j : Int) := ⟨(gy.tmod (x.guys.length : Int)).toNat, by have := Int.tmod_nonneg (x.guys.length : Int) g8.1; omega⟩
      have hjt : j < x.guys.length := by have := Int.tmod_lt_of_pos gy (show (0 : Int) < (x.guys.length : Int) by omega); omega
      obtain ⟨g, hg⟩ := getElem?_lt hjt
      obtain ⟨_, _, _, _, gd1, gd2⟩ := Guy.ok_iff.1 (xgs g (List.mem_of_getElem? hg))
      obtain ⟨g', us', hA, hkr, hBg', hgg, _⟩ := hot12.row hx ha12 (fun e => by rw [e] at hn0; simp at hn0)
      simp only at hA
      subst hA
      have hdep := RS.guy hrs12 hg
      have hfz : w12.frozen? ⟨g', j * 5 + 4, none⟩ = false := hkr.frozen _
      have hg'z : g' < w12.heap.size := hkr.lt
      have n4 : IntKind.i64.wrap gy = gy := IntWalk.i64_in _ (by omega)
      have n5 : ¬ ((x.guys.length : Int) = 0) := by omega
      have n6 : IntKind.i64.wrap deep = deep := IntWalk.i64_in _ (by omega)
      have n7 : IntKind.i64.wrap (g.depth + deep) = g.depth + deep := IntWalk.i64_in _ (by omega)
      have n8 : decide ((0 : Int) < (x.guys.length : Int)) = true := by simp <;> omega
      clear hrs12
      go_upto_region 11 with fail
      go_region
      go_upto_region 13 with fail
      obtain ⟨vd, hvd⟩ : ∃ vd, (if g.depth + deep < 3000 then g.depth + deep else 3000) = vd := ⟨_, rfl⟩
      have hvd0 : g.depth ≤ vd ∧ vd ≤ 3000 := by rw [← hvd]; split <;> omega
      rw [hvd]
      have hT14 : RH (w12.setCell ⟨g', j * 5 + 4, none⟩ (.int .i64 vd)).drew (w12.setCell ⟨g', j * 5 + 4, none⟩ (.int .i64 vd)).drew.heap.size (some ⟨g12, 0, none⟩) _ := hot12.depth_rh hx ha12 hg vd
      have hB14 : Below w6.heap.size w6 (w12.setCell ⟨g', j * 5 + 4, none⟩ (.int .i64 vd)).drew := (hB12.setCell (Nat.le_trans hB11.size hBg') _).drew
      obtain ⟨w14, hw14⟩ : ∃ W, (w12.setCell ⟨g', j * 5 + 4, none⟩ (.int .i64 vd)).drew = W := ⟨_, rfl⟩
      rw [hw14] at hT14 hB14 ⊢
      have hs14 := stands_set_head (i := i) hs (head_deeper Hok.out hxk hg hvd0.1 hvd0.2 hHead)
      have hE14 := windy_set (i := i) hE (deep_ok hxk hg hvd0.1 hvd0.2)
      have HSt14 := Lib.hid (fun W B b1 B' b2 B2 b3 hr ht hw => stands_t (t' := t.set i { x with guys := x.guys.set j { g with depth := vd } }) (List.length_set) B b1 l B' b2 B2 b3 wind hs14 W hr hlm ht htm hw hwm hE14)
      have hr14 := hr6.to hB14
      have hw14' := hw6.to hB14
      clear hw14 hs14 hE14 hvd hdep hfz hg'z
      go_wp2_with (first | (go_at_call 17; refine (HTests.out _ hr14).mono ?_; rintro e w15 ⟨A15, c15, rfl, hs15, _, _, hb15⟩) | (go_at_call 19; refine (HWind.out _ (hw14'.to hb15)).mono ?_; rintro e w16 ⟨A16, c16, rfl, hs16, _, _, hb16⟩; have a16 := sh_next hb15 hb16) | (go_at_call 16; refine (HSt14.out _ A15 c15 _ c12 A16 c16 (hs15.to hb16) (hT14.to a16) hs16).mono ?_; rintro e w17 ⟨rfl, hb17⟩; have a17 := a16.trans (hb17.mono a16.size)))
      go_meet
      exact ⟨rfl, hB14.trans (a17.mono hB14.size)⟩
    · have n8 : decide ((0 : Int) < (x.guys.length : Int)) = false := decide_eq_false (by omega)
      go_wp2_with fail
      go_meet
      exact ⟨rfl, hB12⟩
  case rest =>
    obtain ⟨rfl, hB13⟩ := hcut
    have hr13 := hr6.to hB13
    have ht13 := ht6.to hB13
    have hw13 := hw6.to hB13
    clear hr11 ht11 hw11 hot12 y0 y1 y2 hy3 hy4 hrs12 ha12 hB12 hB11 a12' hb12 a11 hB8
    obtain ⟨bm, hbm⟩ : ∃ bm, more.ok = bm := ⟨_, rfl⟩
    have HRG := Lib.hid (fun W => refRightGuy_val hbm W)
    have kM : Blk wc w.heap.size 28 #[.int .i64 more.x, .int .i64 more.y, .int .i64 more.down, .int .i64 more.soil, .int .i64 more.depth] := Blk.below (Blk.below (Blk.new w 28 #[.int .i64 more.x, .int .i64 more.y, .int .i64 more.down, .int .i64 more.soil, .int .i64 more.depth]) x2 (by simp)) hB13 (by have := x2.size; simp at this; omega)
    go_upto_region 16 with (first | (go_at_call 18; refine (HTent.out _ ht13).mono ?_; rintro e w18 ⟨A18, c18, cs18, rfl, ho18, hsb18, hrw18, hb18⟩; obtain ⟨g18, rfl, hot18⟩ := OT.of ho18 rfl hne hsb18 hrw18; clear ho18 hsb18 hrw18; obtain ⟨⟨a18, d18⟩, ha18⟩ := hot18.at_ hx; obtain ⟨y0, y1, y2, hy3, hy4, hrs18⟩ := hot18.head i x _ hx ha18))
    have kM18 := kM.below hb18 kM.lt
    have hB18 : Below w6.heap.size w6 w18 := hB13.trans (hb18.mono hB13.size)
    have z0 := kM18.cell 0
    have z1 := kM18.cell 1
    have z2 := kM18.cell 2
    have z3 := kM18.cell 3
    have z4 := kM18.cell 4
    have hz18 := kM18.lt
    simp at z0 z1 z2 z3 z4
    have hr18 := hr6.to hB18
    have hw18 := hw6.to hB18
    by_cases h8 : x.guys.length < 8
    · have d8 : decide ((x.guys.length : Int) < 8) = true := decide_eq_true (by omega)
      go_upto_if 125 with (first | (go_at_call 21; refine (HRG.out _).mono ?_; rintro e w19 ⟨rfl, hb19⟩))
      have hB19 : Below w6.heap.size w6 w19 := hB18.trans (hb19.mono hB18.size)
      have hr19 := hr6.to hB19
      have hw19 := hw6.to hB19
      have hot19 := hot18.to hb19
      have hT19 := hot19.rh
      cases bm
      · go_wp2_with (first | (go_at_call 17; refine (HTests.out _ hr19).mono ?_; rintro e w20 ⟨A20, c20, rfl, hs20, _, _, hb20⟩) | (go_at_call 19; refine (HWind.out _ (hw19.to hb20)).mono ?_; rintro e w21 ⟨A21, c21, rfl, hs21, _, _, hb21⟩; have a21 := sh_next hb20 hb21) | (go_at_call 16; refine (HSt.out _ A20 c20 _ c18 A21 c21 (hs20.to hb21) (hT19.to a21) hs21).mono ?_; rintro e w22 ⟨rfl, hb22⟩; have a22 := a21.trans (hb22.mono a21.size)) | (go_at_call 20; refine (wakes_any _).mono ?_; rintro e w23 ⟨rfl, hb23⟩; obtain ⟨hc23, hf23⟩ := bcell hb23))
        go_ret
        have e1 := hB19.trans (a22.mono hB19.size)
        have e2 := e1.trans (hb23.mono e1.size)
        exact ⟨rfl, sh_next B0.out (x2.trans (e2.mono x2.size))⟩
      · obtain ⟨i0, hi0, hz0, hz1, hz2⟩ := info_parts infoCG
        obtain ⟨us19, hk19⟩ := hot19.blk
        have hap := hot19.apart hx ha18
        obtain ⟨_, _, yy2, _⟩ := hot19.head i x _ hx ha18
        have hown19 := (hot19.rows i x _ hx ha18).1
        have kM19 := kM18.below hb19 kM18.lt
        have z5 := kM19.cell 0
        have z6 := kM19.cell 1
        have z7 := kM19.cell 2
        have z8 := kM19.cell 3
        have z9 := kM19.cell 4
        simp at z5 z6 z7 z8 z9
        have hz19 := kM19.lt
        have hg19 := hk19.lt
        have hown19' := hown19.alloc (.cells #[.int .i64 more.x, .int .i64 more.y, .int .i64 more.down, .int .i64 more.soil, .int .i64 more.depth] 45)
        have hsz19 : wc.heap.size ≤ w19.heap.size := Nat.le_trans hb18.size hb19.size
        clear hr18 hw18 hrs18 z0 z1 z2 z3 z4 y0 y1 y2 hk19
        have HX := Lib.hid <| hot19.to ((Below.refl w19.heap.size w19).alloc (Nat.le_refl _) (.cells #[.int .i64 more.x, .int .i64 more.y, .int .i64 more.down, .int .i64 more.soil, .int .i64 more.depth] 45)).drew
        have BX : Hid (Below w6.heap.size w6 ((w19.alloc (.cells #[.int .i64 more.x, .int .i64 more.y, .int .i64 more.down, .int .i64 more.soil, .int .i64 more.depth] 45)).drew)) := Lib.hid (hB19.alloc hB19.size _).drew
        have HAP := Lib.hid hap
        have HXX := Lib.hid hx
        have HA18 := Lib.hid ha18
        clear hot19 hot18 hT19 hr19 hw19 hB18 hap hx ha18
        go_upto_region 17 with fail
        have hBc : Below wc.heap.size wc w19 := hb18.trans (hb19.mono hb18.size)
        have hmx : Try.prog.follows .mixedOrders = true := by kernel_rfl
        have hiI : (i : Int) < (t.length : Int) := by omega
        have hglow : wc.heap.size ≤ g18 := HX.out.low
        have hwcl : w.heap.size < wc.heap.size := kM.lt
        have kM3 : Blk wc w.heap.size 28 #[.int .i64 more.x, .int .i64 more.y, .int .i64 more.down, .int .i64 more.soil, .int .i64 more.depth] := kM
        have HOW : Hid ((w19.drew.alloc (.cells #[.int .i64 more.x, .int .i64 more.y, .int .i64 more.down, .int .i64 more.soil, .int .i64 more.depth] 45)).ownsRow wc.heap.size 45 5 (.slice a18 x.guys.length d18) x.guys.length (x.guys.flatMap encG)) := Lib.hid hown19'.drew
        have HX3 : Hid (∀ W3 : World, (w19.drew.alloc (.cells #[.int .i64 more.x, .int .i64 more.y, .int .i64 more.down, .int .i64 more.soil, .int .i64 more.depth] 45)).grownBy W3 (Value.slice a18 x.guys.length d18).ownBlock → W3.cell? ⟨g18, i * 3 + 2, none⟩ = some (.slice a18 x.guys.length d18) ∧ W3.frozen? ⟨g18, i * 3 + 2, none⟩ = false ∧ g18 < W3.heap.size) := fun W3 hgrow => by
          obtain ⟨us20, hk20⟩ := HX.out.blk
          have hM' := hk20.grown hgrow HAP.out
          exact ⟨(hM'.cell _).trans ((hk20.cell _).symm.trans (HX.out.head i x _ HXX.out HA18.out).2.2.1), hM'.frozen (i * 3 + 2), hM'.lt⟩
        have hrowW : w19.cell? ⟨g18, i * 3 + 2, none⟩ = some (.slice a18 x.guys.length d18) := yy2
        clear yy2
        refine (wpIn_wide (n := 9)).1 ?_
        refine region_rest (S := (fun w' => Blk w' w.heap.size 28 #[.int .i64 more.x, .int .i64 more.y, .int .i64 more.down, .int .i64 more.soil, .int .i64 more.depth] ∧ Below wc.heap.size wc w')) hmx ?_ (fun hHeld => ?_)
        · exact ⟨kM19.drew, hBc.drew⟩
        change RestIn _ _ _ _ _ _ _ 23 #[false, false, false, false, false, false, false, false, false, false, false, false, false, false, false, false, false, false, false, false, false, false, false] _ (World.drew _)
        refine rest_take (i := 0) (v := _) all_wide (noDefers_of (by kernel_rfl)) rfl (by kernel_rfl) (by kernel_rfl) (by kernel_rfl) (fun _ _ _ h => h) (Or.inl ⟨by rfl, by intro w hSw; clear hSw; go_simp; first | done | with_reducible rfl⟩) hHeld ?_
        change RestIn _ _ _ _ _ _ _ 22 #[true, false, false, false, false, false, false, false, false, false, false, false, false, false, false, false, false, false, false, false, false, false, false] _ _
        try simp only [Act.put, List.setIfInBounds_toArray, List.set_cons_zero, List.set_cons_succ, List.getElem_toArray, List.getElem_cons_zero, List.getElem_cons_succ]
        refine rest_take (i := 1) (v := _) all_wide (noDefers_of (by kernel_rfl)) rfl (by kernel_rfl) (by kernel_rfl) (by kernel_rfl) (fun _ _ _ h => h) (Or.inl ⟨by rfl, by intro w hSw; clear hSw; go_simp; first | done | with_reducible rfl⟩) hHeld ?_
        change RestIn _ _ _ _ _ _ _ 21 #[true, true, false, false, false, false, false, false, false, false, false, false, false, false, false, false, false, false, false, false, false, false, false] _ _
        try simp only [Act.put, List.setIfInBounds_toArray, List.set_cons_zero, List.set_cons_succ, List.getElem_toArray, List.getElem_cons_zero, List.getElem_cons_succ]
        refine rest_take (i := 2) (v := _) all_wide (noDefers_of (by kernel_rfl)) rfl (by kernel_rfl) (by kernel_rfl) (by kernel_rfl) (fun _ _ _ h => h) (Or.inl ⟨by rfl, by intro w hSw; clear hSw; go_simp; first | done | with_reducible rfl⟩) hHeld ?_
        change RestIn _ _ _ _ _ _ _ 20 #[true, true, true, false, false, false, false, false, false, false, false, false, false, false, false, false, false, false, false, false, false, false, false] _ _
        try simp only [Act.put, List.setIfInBounds_toArray, List.set_cons_zero, List.set_cons_succ, List.getElem_toArray, List.getElem_cons_zero, List.getElem_cons_succ]
        refine rest_take (i := 3) (v := _) all_wide (noDefers_of (by kernel_rfl)) rfl (by kernel_rfl) (by kernel_rfl) (by kernel_rfl) (fun _ _ _ h => h) (Or.inl ⟨by rfl, by intro w hSw; clear hSw; go_simp; first | done | with_reducible rfl⟩) hHeld ?_
        change RestIn _ _ _ _ _ _ _ 19 #[true, true, true, true, false, false, false, false, false, false, false, false, false, false, false, false, false, false, false, false, false, false, false] _ _
        try simp only [Act.put, List.setIfInBounds_toArray, List.set_cons_zero, List.set_cons_succ, List.getElem_toArray, List.getElem_cons_zero, List.getElem_cons_succ]
        refine rest_take (i := 4) (v := _) all_wide (noDefers_of (by kernel_rfl)) rfl (by kernel_rfl) (by kernel_rfl) (by kernel_rfl) (fun _ _ _ h => h) (Or.inl ⟨by rfl, by intro w hSw; clear hSw; go_simp; first | done | with_reducible rfl⟩) hHeld ?_
        change RestIn _ _ _ _ _ _ _ 18 #[true, true, true, true, true, false, false, false, false, false, false, false, false, false, false, false, false, false, false, false, false, false, false] _ _
        try simp only [Act.put, List.setIfInBounds_toArray, List.set_cons_zero, List.set_cons_succ, List.getElem_toArray, List.getElem_cons_zero, List.getElem_cons_succ]
        refine rest_take (i := 5) (v := _) all_wide (noDefers_of (by kernel_rfl)) rfl (by kernel_rfl) (by kernel_rfl) (by kernel_rfl) (fun _ _ _ h => h) (Or.inl ⟨by rfl, by intro w hSw; clear hSw; go_simp; first | done | with_reducible rfl⟩) hHeld ?_
        change RestIn _ _ _ _ _ _ _ 17 #[true, true, true, true, true, true, false, false, false, false, false, false, false, false, false, false, false, false, false, false, false, false, false] _ _
        try simp only [Act.put, List.setIfInBounds_toArray, List.set_cons_zero, List.set_cons_succ, List.getElem_toArray, List.getElem_cons_zero, List.getElem_cons_succ]
        refine rest_take (i := 7) (v := _) all_wide (noDefers_of (by kernel_rfl)) rfl (by kernel_rfl) (by kernel_rfl) (by kernel_rfl) (fun _ _ _ h => h) (Or.inl ⟨by rfl, by intro w hSw; clear hSw; go_simp; first | done | with_reducible rfl⟩) hHeld ?_
        change RestIn _ _ _ _ _ _ _ 16 #[true, true, true, true, true, true, false, true, false, false, false, false, false, false, false, false, false, false, false, false, false, false, false] _ _
        try simp only [Act.put, List.setIfInBounds_toArray, List.set_cons_zero, List.set_cons_succ, List.getElem_toArray, List.getElem_cons_zero, List.getElem_cons_succ]
        refine rest_take (i := 8) (v := _) all_wide (noDefers_of (by kernel_rfl)) rfl (by kernel_rfl) (by kernel_rfl) (by kernel_rfl) (fun _ _ _ h => h) (Or.inl ⟨by rfl, by intro w hSw; (obtain ⟨q0, _⟩ := hSw; have q0x0 := q0.cell 0; have q0x1 := q0.cell 1; have q0x2 := q0.cell 2; have q0x3 := q0.cell 3; have q0x4 := q0.cell 4; simp at q0x0 q0x1 q0x2 q0x3 q0x4); go_simp; first | done | with_reducible rfl⟩) hHeld ?_
        change RestIn _ _ _ _ _ _ _ 15 #[true, true, true, true, true, true, false, true, true, false, false, false, false, false, false, false, false, false, false, false, false, false, false] _ _
        try simp only [Act.put, List.setIfInBounds_toArray, List.set_cons_zero, List.set_cons_succ, List.getElem_toArray, List.getElem_cons_zero, List.getElem_cons_succ]
        refine rest_take (i := 9) (v := _) all_wide (noDefers_of (by kernel_rfl)) rfl (by kernel_rfl) (by kernel_rfl) (by kernel_rfl) (fun _ _ _ h => h) (Or.inl ⟨by rfl, by intro w hSw; clear hSw; go_simp; first | done | with_reducible rfl⟩) hHeld ?_
        change RestIn _ _ _ _ _ _ _ 14 #[true, true, true, true, true, true, false, true, true, true, false, false, false, false, false, false, false, false, false, false, false, false, false] _ _
        try simp only [Act.put, List.setIfInBounds_toArray, List.set_cons_zero, List.set_cons_succ, List.getElem_toArray, List.getElem_cons_zero, List.getElem_cons_succ]
        refine rest_take (i := 10) (v := _) all_wide (noDefers_of (by kernel_rfl)) rfl (by kernel_rfl) (by kernel_rfl) (by kernel_rfl) (fun _ _ _ h => h) (Or.inl ⟨by rfl, by intro w hSw; (obtain ⟨q0, _⟩ := hSw; have q0x0 := q0.cell 0; have q0x1 := q0.cell 1; have q0x2 := q0.cell 2; have q0x3 := q0.cell 3; have q0x4 := q0.cell 4; simp at q0x0 q0x1 q0x2 q0x3 q0x4); go_simp; first | done | with_reducible rfl⟩) hHeld ?_
        change RestIn _ _ _ _ _ _ _ 13 #[true, true, true, true, true, true, false, true, true, true, true, false, false, false, false, false, false, false, false, false, false, false, false] _ _
        try simp only [Act.put, List.setIfInBounds_toArray, List.set_cons_zero, List.set_cons_succ, List.getElem_toArray, List.getElem_cons_zero, List.getElem_cons_succ]
        refine rest_take (i := 11) (v := _) all_wide (noDefers_of (by kernel_rfl)) rfl (by kernel_rfl) (by kernel_rfl) (by kernel_rfl) (fun _ _ _ h => h) (Or.inl ⟨by rfl, by intro w hSw; clear hSw; go_simp; first | done | with_reducible rfl⟩) hHeld ?_
        change RestIn _ _ _ _ _ _ _ 12 #[true, true, true, true, true, true, false, true, true, true, true, true, false, false, false, false, false, false, false, false, false, false, false] _ _
        try simp only [Act.put, List.setIfInBounds_toArray, List.set_cons_zero, List.set_cons_succ, List.getElem_toArray, List.getElem_cons_zero, List.getElem_cons_succ]
        refine rest_take (i := 12) (v := _) all_wide (noDefers_of (by kernel_rfl)) rfl (by kernel_rfl) (by kernel_rfl) (by kernel_rfl) (fun _ _ _ h => h) (Or.inl ⟨by rfl, by intro w hSw; (obtain ⟨q0, _⟩ := hSw; have q0x0 := q0.cell 0; have q0x1 := q0.cell 1; have q0x2 := q0.cell 2; have q0x3 := q0.cell 3; have q0x4 := q0.cell 4; simp at q0x0 q0x1 q0x2 q0x3 q0x4); go_simp; first | done | with_reducible rfl⟩) hHeld ?_
        change RestIn _ _ _ _ _ _ _ 11 #[true, true, true, true, true, true, false, true, true, true, true, true, true, false, false, false, false, false, false, false, false, false, false] _ _
        try simp only [Act.put, List.setIfInBounds_toArray, List.set_cons_zero, List.set_cons_succ, List.getElem_toArray, List.getElem_cons_zero, List.getElem_cons_succ]
        refine rest_take (i := 13) (v := _) all_wide (noDefers_of (by kernel_rfl)) rfl (by kernel_rfl) (by kernel_rfl) (by kernel_rfl) (fun _ _ _ h => h) (Or.inl ⟨by rfl, by intro w hSw; clear hSw; go_simp; first | done | with_reducible rfl⟩) hHeld ?_
        change RestIn _ _ _ _ _ _ _ 10 #[true, true, true, true, true, true, false, true, true, true, true, true, true, true, false, false, false, false, false, false, false, false, false] _ _
        try simp only [Act.put, List.setIfInBounds_toArray, List.set_cons_zero, List.set_cons_succ, List.getElem_toArray, List.getElem_cons_zero, List.getElem_cons_succ]
        refine rest_take (i := 14) (v := _) all_wide (noDefers_of (by kernel_rfl)) rfl (by kernel_rfl) (by kernel_rfl) (by kernel_rfl) (fun _ _ _ h => h) (Or.inl ⟨by rfl, by intro w hSw; (obtain ⟨q0, _⟩ := hSw; have q0x0 := q0.cell 0; have q0x1 := q0.cell 1; have q0x2 := q0.cell 2; have q0x3 := q0.cell 3; have q0x4 := q0.cell 4; simp at q0x0 q0x1 q0x2 q0x3 q0x4); go_simp; first | done | with_reducible rfl⟩) hHeld ?_
        change RestIn _ _ _ _ _ _ _ 9 #[true, true, true, true, true, true, false, true, true, true, true, true, true, true, true, false, false, false, false, false, false, false, false] _ _
        try simp only [Act.put, List.setIfInBounds_toArray, List.set_cons_zero, List.set_cons_succ, List.getElem_toArray, List.getElem_cons_zero, List.getElem_cons_succ]
        refine rest_take (i := 15) (v := _) all_wide (noDefers_of (by kernel_rfl)) rfl (by kernel_rfl) (by kernel_rfl) (by kernel_rfl) (fun _ _ _ h => h) (Or.inl ⟨by rfl, by intro w hSw; clear hSw; go_simp; first | done | with_reducible rfl⟩) hHeld ?_
        change RestIn _ _ _ _ _ _ _ 8 #[true, true, true, true, true, true, false, true, true, true, true, true, true, true, true, true, false, false, false, false, false, false, false] _ _
        try simp only [Act.put, List.setIfInBounds_toArray, List.set_cons_zero, List.set_cons_succ, List.getElem_toArray, List.getElem_cons_zero, List.getElem_cons_succ]
        refine rest_take (i := 16) (v := _) all_wide (noDefers_of (by kernel_rfl)) rfl (by kernel_rfl) (by kernel_rfl) (by kernel_rfl) (fun _ _ _ h => h) (Or.inl ⟨by rfl, by intro w hSw; (obtain ⟨q0, _⟩ := hSw; have q0x0 := q0.cell 0; have q0x1 := q0.cell 1; have q0x2 := q0.cell 2; have q0x3 := q0.cell 3; have q0x4 := q0.cell 4; simp at q0x0 q0x1 q0x2 q0x3 q0x4); go_simp; first | done | with_reducible rfl⟩) hHeld ?_
        change RestIn _ _ _ _ _ _ _ 7 #[true, true, true, true, true, true, false, true, true, true, true, true, true, true, true, true, true, false, false, false, false, false, false] _ _
        try simp only [Act.put, List.setIfInBounds_toArray, List.set_cons_zero, List.set_cons_succ, List.getElem_toArray, List.getElem_cons_zero, List.getElem_cons_succ]
        refine rest_take (i := 17) (v := _) all_wide (noDefers_of (by kernel_rfl)) rfl (by kernel_rfl) (by kernel_rfl) (by kernel_rfl) (fun _ _ _ h => h) (Or.inl ⟨by rfl, by intro w hSw; clear hSw; go_simp; first | done | with_reducible rfl⟩) hHeld ?_
        change RestIn _ _ _ _ _ _ _ 6 #[true, true, true, true, true, true, false, true, true, true, true, true, true, true, true, true, true, true, false, false, false, false, false] _ _
        try simp only [Act.put, List.setIfInBounds_toArray, List.set_cons_zero, List.set_cons_succ, List.getElem_toArray, List.getElem_cons_zero, List.getElem_cons_succ]
        refine rest_ready (rs := [6, 18]) (by kernel_rfl) (by simp) ?_
        refine AllRest.cons rfl (fun K hK => ?_) ?_
        · go_simp
          refine hK.out _ _ ?_ (fun hHeld' => ?_)
          · exact hHeld
          clear hK K
          change RestIn _ _ _ _ _ _ _ 5 #[true, true, true, true, true, true, true, true, true, true, true, true, true, true, true, true, true, true, false, false, false, false, false] _ _
          try simp only [Act.put, List.setIfInBounds_toArray, List.set_cons_zero, List.set_cons_succ, List.getElem_toArray, List.getElem_cons_zero, List.getElem_cons_succ]
          clear hHeld
          have hHeld := hHeld'
          clear hHeld'
          refine rest_ready (rs := [18]) (by kernel_rfl) (by simp) ?_
          refine AllRest.cons rfl (fun K hK => ?_) AllRest.nil
          have hz18 := hHeld.2.size
          go_simp
          refine hK.out _ _ ?_ (fun hHeld' => ?_)
          · exact ⟨hHeld.1.alloc _, hHeld.2.alloc hHeld.2.size _⟩
          clear hK K
          change RestIn _ _ _ _ _ _ _ 4 #[true, true, true, true, true, true, true, true, true, true, true, true, true, true, true, true, true, true, true, false, false, false, false] _ _
          try simp only [Act.put, List.setIfInBounds_toArray, List.set_cons_zero, List.set_cons_succ, List.getElem_toArray, List.getElem_cons_zero, List.getElem_cons_succ]
          clear hHeld
          have hHeld := hHeld'
          clear hHeld'
          refine rest_ready (rs := [19]) (by kernel_rfl) (by simp) ?_
          refine AllRest.cons rfl (fun K hK => ?_) AllRest.nil
          refine step_append_in (by rfl) _ _ _ (by rfl) wc.heap.size 45 i0 _ 5 40 Try.underlying41 hi0 hz0 hz1 hz2 rfl (by omega) (.slice a18 x.guys.length d18) x.guys.length (x.guys.flatMap encG) (by rfl) HOW.out (some ⟨w19.heap.size, 0, none⟩) 1 1 [.int .i64 more.x, .int .i64 more.y, .int .i64 more.down, .int .i64 more.soil, .int .i64 more.depth] (by rfl) (by rfl) (fun h => by cases h) (fun ad h => by cases h; exact World.news_of_block (cs := #[.int .i64 more.x, .int .i64 more.y, .int .i64 more.down, .int .i64 more.soil, .int .i64 more.depth]) (t := 45) (fr := (0, 0)) (Blk.new w19.drew 45 #[.int .i64 more.x, .int .i64 more.y, .int .i64 more.down, .int .i64 more.soil, .int .i64 more.depth])) (by simp [Value.oneCell']) (by unfold maxLen; omega) (by omega) hHeld.2.size ?_
          intro v2 w3 hown3 hgrow3 hat3
          obtain ⟨A4, c4, rfl, hq4, hq5⟩ := own_slice hown3
          have hB3 : Below wc.heap.size wc w3 := hHeld.2.grown hgrow3 hHeld.2.size (fun j e => own_base HOW.out j e)
          refine hK.out _ _ ?_ (fun hHeld' => ?_)
          · exact ⟨kM3.below hB3 kM3.lt, hB3⟩
          clear hK K
          change RestIn _ _ _ _ _ _ _ 3 #[true, true, true, true, true, true, true, true, true, true, true, true, true, true, true, true, true, true, true, true, false, false, false] _ _
          try simp only [Act.put, List.setIfInBounds_toArray, List.set_cons_zero, List.set_cons_succ, List.getElem_toArray, List.getElem_cons_zero, List.getElem_cons_succ]
          clear hHeld
          have hHeld := hHeld'
          clear hHeld'
          have r3 := (HX3.out w3 hgrow3).1
          have rf := (HX3.out w3 hgrow3).2.1
          have rz := (HX3.out w3 hgrow3).2.2
          refine rest_take (i := 20) (v := _) all_wide (noDefers_of (by kernel_rfl)) rfl (by kernel_rfl) (by kernel_rfl) (by kernel_rfl) (fun _ _ _ h => h) (Or.inl ⟨by rfl, by intro w hSw; clear hSw; go_simp; first | done | with_reducible rfl⟩) hHeld ?_
          change RestIn _ _ _ _ _ _ _ 2 #[true, true, true, true, true, true, true, true, true, true, true, true, true, true, true, true, true, true, true, true, true, false, false] _ _
          try simp only [Act.put, List.setIfInBounds_toArray, List.set_cons_zero, List.set_cons_succ, List.getElem_toArray, List.getElem_cons_zero, List.getElem_cons_succ]
          refine rest_take (i := 21) (v := _) all_wide (noDefers_of (by kernel_rfl)) rfl (by kernel_rfl) (by kernel_rfl) (by kernel_rfl) (fun _ _ _ h => h) (Or.inl ⟨by rfl, by intro w hSw; clear hSw; go_simp; first | done | with_reducible rfl⟩) hHeld ?_
          change RestIn _ _ _ _ _ _ _ 1 #[true, true, true, true, true, true, true, true, true, true, true, true, true, true, true, true, true, true, true, true, true, true, false] _ _
          try simp only [Act.put, List.setIfInBounds_toArray, List.set_cons_zero, List.set_cons_succ, List.getElem_toArray, List.getElem_cons_zero, List.getElem_cons_succ]
          refine rest_ready (rs := [22]) (by kernel_rfl) (by simp) ?_
          refine AllRest.cons rfl (fun K hK => ?_) AllRest.nil
          go_simp
          refine hK.out _ _ ?_ (fun hHeld' => ?_)
          · exact ⟨hHeld.1.far (by show w.heap.size ≠ g18; omega) _, hHeld.2.setCell hglow _⟩
          clear hK K
          change RestIn _ _ _ _ _ _ _ 0 #[true, true, true, true, true, true, true, true, true, true, true, true, true, true, true, true, true, true, true, true, true, true, true] _ _
          try simp only [Act.put, List.setIfInBounds_toArray, List.set_cons_zero, List.set_cons_succ, List.getElem_toArray, List.getElem_cons_zero, List.getElem_cons_succ]
          clear hHeld
          have hHeld := hHeld'
          clear hHeld'
          refine rest_done (by kernel_rfl) ?_
          go_upto_region 18 with fail
          have hRH := HX.out.more_rh (y := more) HXX.out HA18.out (by rw [List.flatMap_append]; exact hown3) hgrow3 (hat3.elim (fun e => .inl (own_link HOW.out hown3 e)) (fun e => .inr fun ad ead => by subst ead; exact Nat.le_of_eq (by simpa [Value.ownBlock] using e.symm)))
          have hBz := (BX.out.grown hgrow3 BX.out.size (fun j e => Nat.le_trans hB13.size (own_base HOW.out j e))).setCell (p := ⟨g18, i * 3 + 2, none⟩) (Nat.le_trans hB13.size hglow) (.slice A4 (x.guys.length + 1) c4)
          obtain ⟨wz, hwz⟩ : ∃ W, w3.setCell ⟨g18, i * 3 + 2, none⟩ (.slice A4 (x.guys.length + 1) c4) = W := ⟨_, rfl⟩
          rw [hwz] at hRH hBz ⊢
          have hs3 := stands_set_head (i := i) hs (head_more Hok.out hxk hbm hHead)
          have hE3 := windy_set (i := i) hE (more_ok hxk hbm h8)
          have HSt3 := Lib.hid (fun W B b1 B' b2 B2 b3 hr ht hw => stands_t (t' := t.set i { x with guys := x.guys ++ [more] }) (List.length_set) B b1 l B' b2 B2 b3 wind hs3 W hr hlm ht htm hw hwm hE3)
          have hrz := hr6.to hBz
          have hwz2 := hw6.to hBz
          have hBZ := Lib.hid hBz
          clear hwz hs3 hE3 hown3 hgrow3 hat3 hq4 hq5 hB3 r3 rf rz hHeld hrowW hz18 hBz HX BX HX3 HOW z5 z6 z7 z8 z9 kM3 kM19
          go_wp2_with (first | (go_at_call 17; refine (HTests.out _ hrz).mono ?_; rintro e w20 ⟨A20, c20, rfl, hs20, _, _, hb20⟩) | (go_at_call 19; refine (HWind.out _ (hwz2.to hb20)).mono ?_; rintro e w21 ⟨A21, c21, rfl, hs21, _, _, hb21⟩; have a21 := sh_next hb20 hb21) | (go_at_call 16; refine (HSt3.out _ A20 c20 _ c18 A21 c21 (hs20.to hb21) (hRH.to a21) hs21).mono ?_; rintro e w22 ⟨rfl, hb22⟩; have a22 := a21.trans (hb22.mono a21.size)) | (go_at_call 20; refine (wakes_any _).mono ?_; rintro e w23 ⟨rfl, hb23⟩; obtain ⟨hc23, hf23⟩ := bcell hb23))
          go_ret
          have e1 := hBZ.out.trans (a22.mono hBZ.out.size)
          have e2 := e1.trans (hb23.mono e1.size)
          exact ⟨rfl, sh_next B0.out (x2.trans (e2.mono x2.size))⟩
        refine AllRest.cons rfl (fun K hK => ?_) ?_
        · have hz18 := hHeld.2.size
          go_simp
          refine hK.out _ _ ?_ (fun hHeld' => ?_)
          · exact ⟨hHeld.1.alloc _, hHeld.2.alloc hHeld.2.size _⟩
          clear hK K
          change RestIn _ _ _ _ _ _ _ 5 #[true, true, true, true, true, true, false, true, true, true, true, true, true, true, true, true, true, true, true, false, false, false, false] _ _
          try simp only [Act.put, List.setIfInBounds_toArray, List.set_cons_zero, List.set_cons_succ, List.getElem_toArray, List.getElem_cons_zero, List.getElem_cons_succ]
          clear hHeld
          have hHeld := hHeld'
          clear hHeld'
          refine rest_ready (rs := [6]) (by kernel_rfl) (by simp) ?_
          refine AllRest.cons rfl (fun K hK => ?_) AllRest.nil
          go_simp
          refine hK.out _ _ ?_ (fun hHeld' => ?_)
          · exact hHeld
          clear hK K
          change RestIn _ _ _ _ _ _ _ 4 #[true, true, true, true, true, true, true, true, true, true, true, true, true, true, true, true, true, true, true, false, false, false, false] _ _
          try simp only [Act.put, List.setIfInBounds_toArray, List.set_cons_zero, List.set_cons_succ, List.getElem_toArray, List.getElem_cons_zero, List.getElem_cons_succ]
          clear hHeld
          have hHeld := hHeld'
          clear hHeld'
          refine rest_ready (rs := [19]) (by kernel_rfl) (by simp) ?_
          refine AllRest.cons rfl (fun K hK => ?_) AllRest.nil
          refine step_append_in (by rfl) _ _ _ (by rfl) wc.heap.size 45 i0 _ 5 40 Try.underlying41 hi0 hz0 hz1 hz2 rfl (by omega) (.slice a18 x.guys.length d18) x.guys.length (x.guys.flatMap encG) (by rfl) HOW.out (some ⟨w19.heap.size, 0, none⟩) 1 1 [.int .i64 more.x, .int .i64 more.y, .int .i64 more.down, .int .i64 more.soil, .int .i64 more.depth] (by rfl) (by rfl) (fun h => by cases h) (fun ad h => by cases h; exact World.news_of_block (cs := #[.int .i64 more.x, .int .i64 more.y, .int .i64 more.down, .int .i64 more.soil, .int .i64 more.depth]) (t := 45) (fr := (0, 0)) (Blk.new w19.drew 45 #[.int .i64 more.x, .int .i64 more.y, .int .i64 more.down, .int .i64 more.soil, .int .i64 more.depth])) (by simp [Value.oneCell']) (by unfold maxLen; omega) (by omega) hHeld.2.size ?_
          intro v2 w3 hown3 hgrow3 hat3
          obtain ⟨A4, c4, rfl, hq4, hq5⟩ := own_slice hown3
          have hB3 : Below wc.heap.size wc w3 := hHeld.2.grown hgrow3 hHeld.2.size (fun j e => own_base HOW.out j e)
          refine hK.out _ _ ?_ (fun hHeld' => ?_)
          · exact ⟨kM3.below hB3 kM3.lt, hB3⟩
          clear hK K
          change RestIn _ _ _ _ _ _ _ 3 #[true, true, true, true, true, true, true, true, true, true, true, true, true, true, true, true, true, true, true, true, false, false, false] _ _
          try simp only [Act.put, List.setIfInBounds_toArray, List.set_cons_zero, List.set_cons_succ, List.getElem_toArray, List.getElem_cons_zero, List.getElem_cons_succ]
          clear hHeld
          have hHeld := hHeld'
          clear hHeld'
          have r3 := (HX3.out w3 hgrow3).1
          have rf := (HX3.out w3 hgrow3).2.1
          have rz := (HX3.out w3 hgrow3).2.2
          refine rest_take (i := 20) (v := _) all_wide (noDefers_of (by kernel_rfl)) rfl (by kernel_rfl) (by kernel_rfl) (by kernel_rfl) (fun _ _ _ h => h) (Or.inl ⟨by rfl, by intro w hSw; clear hSw; go_simp; first | done | with_reducible rfl⟩) hHeld ?_
          change RestIn _ _ _ _ _ _ _ 2 #[true, true, true, true, true, true, true, true, true, true, true, true, true, true, true, true, true, true, true, true, true, false, false] _ _
          try simp only [Act.put, List.setIfInBounds_toArray, List.set_cons_zero, List.set_cons_succ, List.getElem_toArray, List.getElem_cons_zero, List.getElem_cons_succ]
          refine rest_take (i := 21) (v := _) all_wide (noDefers_of (by kernel_rfl)) rfl (by kernel_rfl) (by kernel_rfl) (by kernel_rfl) (fun _ _ _ h => h) (Or.inl ⟨by rfl, by intro w hSw; clear hSw; go_simp; first | done | with_reducible rfl⟩) hHeld ?_
          change RestIn _ _ _ _ _ _ _ 1 #[true, true, true, true, true, true, true, true, true, true, true, true, true, true, true, true, true, true, true, true, true, true, false] _ _
          try simp only [Act.put, List.setIfInBounds_toArray, List.set_cons_zero, List.set_cons_succ, List.getElem_toArray, List.getElem_cons_zero, List.getElem_cons_succ]
          refine rest_ready (rs := [22]) (by kernel_rfl) (by simp) ?_
          refine AllRest.cons rfl (fun K hK => ?_) AllRest.nil
          go_simp
          refine hK.out _ _ ?_ (fun hHeld' => ?_)
          · exact ⟨hHeld.1.far (by show w.heap.size ≠ g18; omega) _, hHeld.2.setCell hglow _⟩
          clear hK K
          change RestIn _ _ _ _ _ _ _ 0 #[true, true, true, true, true, true, true, true, true, true, true, true, true, true, true, true, true, true, true, true, true, true, true] _ _
          try simp only [Act.put, List.setIfInBounds_toArray, List.set_cons_zero, List.set_cons_succ, List.getElem_toArray, List.getElem_cons_zero, List.getElem_cons_succ]
          clear hHeld
          have hHeld := hHeld'
          clear hHeld'
          refine rest_done (by kernel_rfl) ?_
          go_upto_region 18 with fail
          have hRH := HX.out.more_rh (y := more) HXX.out HA18.out (by rw [List.flatMap_append]; exact hown3) hgrow3 (hat3.elim (fun e => .inl (own_link HOW.out hown3 e)) (fun e => .inr fun ad ead => by subst ead; exact Nat.le_of_eq (by simpa [Value.ownBlock] using e.symm)))
          have hBz := (BX.out.grown hgrow3 BX.out.size (fun j e => Nat.le_trans hB13.size (own_base HOW.out j e))).setCell (p := ⟨g18, i * 3 + 2, none⟩) (Nat.le_trans hB13.size hglow) (.slice A4 (x.guys.length + 1) c4)
          obtain ⟨wz, hwz⟩ : ∃ W, w3.setCell ⟨g18, i * 3 + 2, none⟩ (.slice A4 (x.guys.length + 1) c4) = W := ⟨_, rfl⟩
          rw [hwz] at hRH hBz ⊢
          have hs3 := stands_set_head (i := i) hs (head_more Hok.out hxk hbm hHead)
          have hE3 := windy_set (i := i) hE (more_ok hxk hbm h8)
          have HSt3 := Lib.hid (fun W B b1 B' b2 B2 b3 hr ht hw => stands_t (t' := t.set i { x with guys := x.guys ++ [more] }) (List.length_set) B b1 l B' b2 B2 b3 wind hs3 W hr hlm ht htm hw hwm hE3)
          have hrz := hr6.to hBz
          have hwz2 := hw6.to hBz
          have hBZ := Lib.hid hBz
          clear hwz hs3 hE3 hown3 hgrow3 hat3 hq4 hq5 hB3 r3 rf rz hHeld hrowW hz18 hBz HX BX HX3 HOW z5 z6 z7 z8 z9 kM3 kM19
          go_wp2_with (first | (go_at_call 17; refine (HTests.out _ hrz).mono ?_; rintro e w20 ⟨A20, c20, rfl, hs20, _, _, hb20⟩) | (go_at_call 19; refine (HWind.out _ (hwz2.to hb20)).mono ?_; rintro e w21 ⟨A21, c21, rfl, hs21, _, _, hb21⟩; have a21 := sh_next hb20 hb21) | (go_at_call 16; refine (HSt3.out _ A20 c20 _ c18 A21 c21 (hs20.to hb21) (hRH.to a21) hs21).mono ?_; rintro e w22 ⟨rfl, hb22⟩; have a22 := a21.trans (hb22.mono a21.size)) | (go_at_call 20; refine (wakes_any _).mono ?_; rintro e w23 ⟨rfl, hb23⟩; obtain ⟨hc23, hf23⟩ := bcell hb23))
          go_ret
          have e1 := hBZ.out.trans (a22.mono hBZ.out.size)
          have e2 := e1.trans (hb23.mono e1.size)
          exact ⟨rfl, sh_next B0.out (x2.trans (e2.mono x2.size))⟩
        exact AllRest.nil
    · have d8 : decide ((x.guys.length : Int) < 8) = false := decide_eq_false (by omega)
      have hT18 := hot18.rh
      go_wp2_with (first | (go_at_call 17; refine (HTests.out _ hr18).mono ?_; rintro e w20 ⟨A20, c20, rfl, hs20, _, _, hb20⟩) | (go_at_call 19; refine (HWind.out _ (hw18.to hb20)).mono ?_; rintro e w21 ⟨A21, c21, rfl, hs21, _, _, hb21⟩; have a21 := sh_next hb20 hb21) | (go_at_call 16; refine (HSt.out _ A20 c20 _ c18 A21 c21 (hs20.to hb21) (hT18.to a21) hs21).mono ?_; rintro e w22 ⟨rfl, hb22⟩; have a22 := a21.trans (hb22.mono a21.size)) | (go_at_call 20; refine (wakes_any _).mono ?_; rintro e w23 ⟨rfl, hb23⟩; obtain ⟨hc23, hf23⟩ := bcell hb23))
      go_ret
      have e1 := hB18.trans (a22.mono hB18.size)
      have e2 := e1.trans (hb23.mono e1.size)
      exact ⟨rfl, sh_next B0.out (x2.trans (e2.mono x2.size))⟩
end Go.Proofs.Ytibaindlbpfecaa
