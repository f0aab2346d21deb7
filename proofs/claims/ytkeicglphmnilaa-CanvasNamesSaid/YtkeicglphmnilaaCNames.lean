import Derived.Test.YtkeicglphmnilaaCNamesM

/- The document's examples, and the errors. -/
namespace Go.Proofs.Ytkeicglphmnilaa
open Go.RowKit
set_option linter.unusedSimpArgs false in
set_option maxRecDepth 100000 in
set_option maxHeartbeats 32000000 in
theorem names_any (w : World) : Calls Try.prog 5 #[] w fun e w' => e = .returned (.bool true) ∧ Below w.heap.size w w' := by
  obtain ⟨i0, hi0, hz0, hz1, hz2⟩ := info_parts infoCT
  have hmx : Try.prog.follows .mixedOrders = true := by kernel_rfl
  have eR1 : ∀ w, (binOp .neq 72 (.agg #[.int .i64 0, .int .i64 10000000]) (.agg #[.int .i64 0, .int .i64 10000000])).run Try.prog w = .ok (.bool false) w := fun w => neqRg 0 10000000 0 10000000 w
  have HWA : Hid (∀ W : World, RS encV 2 (W.alloc (.cells #[.int .i64 100, .int .i64 0, .int .i64 0, .int .i64 100] 58)) (W.alloc (.cells #[.int .i64 100, .int .i64 0, .int .i64 0, .int .i64 100] 58)).heap.size (some ⟨W.heap.size, 0, none⟩) windA) := fun W => RS.of_blk (enc := encV) (sz := 2) (l := windA) (fun _ => rfl) (Blk.new W _ _)
  have HWB : Hid (∀ W : World, RS encV 2 (W.alloc (.cells #[.int .i64 100, .int .i64 0, .int .i64 500, .int .i64 600] 58)) (W.alloc (.cells #[.int .i64 100, .int .i64 0, .int .i64 500, .int .i64 600] 58)).heap.size (some ⟨W.heap.size, 0, none⟩) windB) := fun W => RS.of_blk (enc := encV) (sz := 2) (l := windB) (fun _ => rfl) (Blk.new W _ _)
  have HWC : Hid (∀ W : World, RS encV 2 (W.alloc (.cells #[.int .i64 600, .int .i64 0] 58)) (W.alloc (.cells #[.int .i64 600, .int .i64 0] 58)).heap.size (some ⟨W.heap.size, 0, none⟩) windC) := fun W => RS.of_blk (enc := encV) (sz := 2) (l := windC) (fun _ => rfl) (Blk.new W _ _)
  have HSA : Hid (∀ (As Af : Option Addr) (cs cf : Nat) (W : World), RS encT 4 W W.heap.size As soilM → RH W W.heap.size Af fourM → Calls Try.prog 41 #[.slice As soilM.length cs, .slice Af fourM.length cf, .slice (some ⟨W.heap.size, 0, none⟩) 2 2] (W.alloc (.cells #[.int .i64 100, .int .i64 0, .int .i64 0, .int .i64 100] 58)) fun e w' => ∃ A c, e = .returned (.tuple #[.slice A 2 c, .int .i64 0]) ∧ RS encP 2 w' w'.heap.size A [(0, 0), (0, 1)] ∧ Below W.heap.size W w') := fun As Af cs cf W h1 h2 =>
    (nm_Spares As cs Af cf _ 2 _ (h1.to ((Below.refl _ _).alloc (Nat.le_refl _) (.cells #[.int .i64 100, .int .i64 0, .int .i64 0, .int .i64 100] 58))) (h2.to ((Below.refl _ _).alloc (Nat.le_refl _) (.cells #[.int .i64 100, .int .i64 0, .int .i64 0, .int .i64 100] 58))) (HWA.out W)).mono fun e w' ⟨A, c, g1, g2, g9⟩ => ⟨A, c, g1, g2, ((Below.refl _ _).alloc (Nat.le_refl _) (.cells #[.int .i64 100, .int .i64 0, .int .i64 0, .int .i64 100] 58)).trans (g9.mono (by simp))⟩
  have HSC : Hid (∀ (As Af : Option Addr) (cs cf : Nat) (W : World), RS encT 4 W W.heap.size As soilM → RH W W.heap.size Af fourM → Calls Try.prog 41 #[.slice As soilM.length cs, .slice Af fourM.length cf, .slice (some ⟨W.heap.size, 0, none⟩) 1 1] (W.alloc (.cells #[.int .i64 600, .int .i64 0] 58)) fun e w' => e = .returned (.tuple #[.slice none 0 0, .int .i64 7]) ∧ Below W.heap.size W w') := fun As Af cs cf W h1 h2 =>
    (nm_SparesB As cs Af cf _ 1 _ (h1.to ((Below.refl _ _).alloc (Nat.le_refl _) (.cells #[.int .i64 600, .int .i64 0] 58))) (h2.to ((Below.refl _ _).alloc (Nat.le_refl _) (.cells #[.int .i64 600, .int .i64 0] 58))) (HWC.out W)).mono fun e w' ⟨g1, g9⟩ => ⟨g1, ((Below.refl _ _).alloc (Nat.le_refl _) (.cells #[.int .i64 600, .int .i64 0] 58)).trans (g9.mono (by simp))⟩
  have HWE : Hid (∀ (As Af : Option Addr) (cs cf : Nat) (W : World), RS encT 4 W W.heap.size As soilM → RH W W.heap.size Af fourM → Calls Try.prog 42 #[.slice As soilM.length cs, .slice Af fourM.length cf, .slice (some ⟨W.heap.size, 0, none⟩) 2 2] (W.alloc (.cells #[.int .i64 100, .int .i64 0, .int .i64 500, .int .i64 600] 58)) fun e w' => e = .returned (.tuple #[.int .i64 0, .int .i64 1, .agg #[.int .i64 wayB.x, .int .i64 wayB.y], .int .i64 0]) ∧ Below W.heap.size W w') := fun As Af cs cf W h1 h2 =>
    (nm_Weakest As cs Af cf _ 2 _ (h1.to ((Below.refl _ _).alloc (Nat.le_refl _) (.cells #[.int .i64 100, .int .i64 0, .int .i64 500, .int .i64 600] 58))) (h2.to ((Below.refl _ _).alloc (Nat.le_refl _) (.cells #[.int .i64 100, .int .i64 0, .int .i64 500, .int .i64 600] 58))) (HWB.out W)).mono fun e w' ⟨g1, g9⟩ => ⟨g1, ((Below.refl _ _).alloc (Nat.le_refl _) (.cells #[.int .i64 100, .int .i64 0, .int .i64 500, .int .i64 600] 58)).trans (g9.mono (by simp))⟩
  have HCS : Hid (∀ W : World, Calls Try.prog 45 #[.slice (some ⟨W.heap.size, 0, none⟩) 1 1] (W.alloc (.cells #[.int .i64 10, .int .i64 1, .int .i64 1, .bool false] 79)) fun e w' => e = .returned (.int .i64 1) ∧ Below W.heap.size W w') := fun W =>
    (nm_CS (some ⟨W.heap.size, 0, none⟩) 1 _ (RS.of_blk (enc := encT) (sz := 4) (l := [⟨10, 1, 1, false⟩]) (fun _ => rfl) (Blk.new W _ _))).mono fun e w' ⟨g1, g9⟩ => ⟨g1, ((Below.refl _ _).alloc (Nat.le_refl _) (.cells #[.int .i64 10, .int .i64 1, .int .i64 1, .bool false] 79)).trans (g9.mono (by simp))⟩
  have HOI : Hid (∀ (A1 : Option Addr) (c1 : Nat) (W : World), RS encI 1 W W.heap.size A1 [0] → Calls Try.prog 39 #[.slice A1 1 c1, .slice (some ⟨W.heap.size, 0, none⟩) 1 1] (W.alloc (.cells #[.int .i64 0] 3)) fun e w' => e = .returned (.bool true) ∧ Below W.heap.size W w') := fun A1 c1 W h =>
    (ints_any A1 (some ⟨W.heap.size, 0, none⟩) c1 1 [0] [0] _ (h.to ((Below.refl _ _).alloc (Nat.le_refl _) (.cells #[.int .i64 0] 3))) (RS.of_blk (enc := encI) (sz := 1) (l := [0]) (fun _ => rfl) (Blk.new W _ _)) (by decide) (by decide)).mono fun e w' ⟨g1, g9⟩ => ⟨g1, ((Below.refl _ _).alloc (Nat.le_refl _) (.cells #[.int .i64 0] 3)).trans (g9.mono (by simp))⟩
  have HPS : Hid (∀ (A1 : Option Addr) (c1 B : Nat) (W : World), Blk W B 93 #[.int .i64 0, .int .i64 0, .int .i64 0, .int .i64 1] → RS encP 2 W W.heap.size A1 [(0, 0), (0, 1)] → Calls Try.prog 43 #[.slice A1 2 c1, .slice (some ⟨B, 0, none⟩) 2 2] W fun e w' => e = .returned (.bool true) ∧ Below W.heap.size W w') := fun A1 c1 B W hk h =>
    pairs_same A1 (some ⟨B, 0, none⟩) c1 2 [(0, 0), (0, 1)] W h (RS.of_blk (enc := encP) (sz := 2) (l := [(0, 0), (0, 1)]) (fun _ => rfl) hk) (by decide)
  have HB1 : Hid (∀ (As Af : Option Addr) (cs cf B : Nat) (W : World), RS encT 4 W W.heap.size As soilM → RH W W.heap.size Af fourM → Blk W B 3 #[.int .i64 30, .int .i64 0, .int .i64 0, .int .i64 10] → Calls Try.prog 31 #[.slice As soilM.length cs, .slice Af fourM.length cf, .int .i64 0, .agg #[.int .i64 (-300), .int .i64 100], .agg #[.int .i64 56, .slice (some ⟨B, 0, none⟩) 4 4]] W fun e w' => e = .returned (.bool true) ∧ Below W.heap.size W w') := fun As Af cs cf B W h1 h2 hk =>
    nm_PB [30, 0, 0, 10] 4 rfl true nm_b1 (by decide) As cs Af cf (some ⟨B, 0, none⟩) 4 W h1 h2 (RS.of_blk (enc := encI) (sz := 1) (l := [30, 0, 0, 10]) (fun _ => rfl) hk)
  have HB2 : Hid (∀ (As Af : Option Addr) (cs cf B : Nat) (W : World), RS encT 4 W W.heap.size As soilM → RH W W.heap.size Af fourM → Blk W B 3 #[.int .i64 30, .int .i64 0, .int .i64 0, .int .i64 11] → Calls Try.prog 31 #[.slice As soilM.length cs, .slice Af fourM.length cf, .int .i64 0, .agg #[.int .i64 (-300), .int .i64 100], .agg #[.int .i64 56, .slice (some ⟨B, 0, none⟩) 4 4]] W fun e w' => e = .returned (.bool false) ∧ Below W.heap.size W w') := fun As Af cs cf B W h1 h2 hk =>
    nm_PB [30, 0, 0, 11] 4 rfl false nm_b2 (by decide) As cs Af cf (some ⟨B, 0, none⟩) 4 W h1 h2 (RS.of_blk (enc := encI) (sz := 1) (l := [30, 0, 0, 11]) (fun _ => rfl) hk)
  have HB3 : Hid (∀ (As Af : Option Addr) (cs cf B : Nat) (W : World), RS encT 4 W W.heap.size As soilM → RH W W.heap.size Af fourM → Blk W B 3 #[.int .i64 30, .int .i64 0, .int .i64 0] → Calls Try.prog 31 #[.slice As soilM.length cs, .slice Af fourM.length cf, .int .i64 0, .agg #[.int .i64 (-300), .int .i64 100], .agg #[.int .i64 56, .slice (some ⟨B, 0, none⟩) 3 3]] W fun e w' => e = .returned (.bool false) ∧ Below W.heap.size W w') := fun As Af cs cf B W h1 h2 hk =>
    nm_PB [30, 0, 0] 3 rfl false nm_b3 (by decide) As cs Af cf (some ⟨B, 0, none⟩) 3 W h1 h2 (RS.of_blk (enc := encI) (sz := 1) (l := [30, 0, 0]) (fun _ => rfl) hk)
  have hX := Below.refl w.heap.size w
  go_enter Try.func5, Try.ntmps5
  go_upto_region 2 with (first | (go_at_call 34; refine (soil_rs _).mono ?_; rintro e ws ⟨As, rfl, hss, hb⟩; have hX := sh_next hX hb) | (go_at_call 33; (refine (nm_Holds As 2 _ hss).mono ?_); rintro e wq ⟨rfl, hb⟩; have hX := sh_next hX hb))
  have k1 := Blk.new wq 72 #[.int .i64 0, .int .i64 10000000]
  have hX := hX.alloc hX.size (.cells #[.int .i64 0, .int .i64 10000000] 72)
  have HB0 := Lib.hid (hX)
  refine name_world (motive := fun W => Code.wp _ _ _ _ W) _ ?_
  intro W1 hW
  have HB0 := Lib.hid (hW.below HB0.out)
  have k1 := hW.blk k1
  clear hX hW
  have hX := Below.refl W1.heap.size W1
  clear hss hb
  go_upto_region 3 with (first | (go_at_call 34; refine (soil_rs _).mono ?_; rintro e ws ⟨As, rfl, hss, hb⟩; have hX := sh_next hX hb) | (go_at_call 35; (refine (nm_Deep As 2 _ hss).mono ?_); rintro e wq ⟨rfl, hb⟩; have hX := sh_next hX hb))
  have k1 := k1.below hX k1.lt
  have HB0 := Lib.hid (HB0.out.trans (hX.mono HB0.out.size))
  refine name_world (motive := fun W => Code.wp _ _ _ _ W) _ ?_
  intro W2 hW
  have HB0 := Lib.hid (hW.below HB0.out)
  have k1 := hW.blk k1
  clear hX hW
  have hX := Below.refl W2.heap.size W2
  clear hss hb
  have O3 : (W2.alloc (.cells (soilM.flatMap encT).toArray 79)).ownsRow W2.heap.size 79 4 (.slice (some ⟨W2.heap.size, 0, none⟩) 2 2) 2 (soilM.flatMap encT) := ⟨rfl, .inr ⟨W2.heap.size, 2, _, rfl, Nat.le_refl _, Blk.new W2 _ _, Nat.le_refl _, by decide, rfl, rfl⟩⟩
  go_wp2_with (first | (go_at_call 34; refine (soil_any _).mono ?_; rintro e ws ⟨rfl, rfl⟩) | (at_builtin; refine wpList_append_own _ rfl _ _ 33 rfl W2.heap.size 79 i0 _ 4 32 Try.underlying33 hi0 hz0 hz1 hz2 rfl (by decide) _ 2 _ rfl (O3.alloc _) ⟨W2.heap.size + 1, 0, none⟩ 1 1 [.int .i64 0, .int .i64 400, .int .i64 320, .bool false] rfl rfl ?c1 ?c2 ?c3 ?c4 ?c5 ?_))
  case c1 => exact World.news_of_block (cs := #[.int .i64 0, .int .i64 400, .int .i64 320, .bool false]) (t := 79) (fr := (0, 0)) (by simpa using heap_alloc_new (W2.alloc (.cells (soilM.flatMap encT).toArray 79)) (.cells #[.int .i64 0, .int .i64 400, .int .i64 320, .bool false] 79))
  case c2 => simp [Value.oneCell']
  case c3 => decide
  case c4 => decide
  case c5 => simp <;> omega
  intro v3 w3 hown3 hgrow3 _
  obtain ⟨A5, c5, rfl, _⟩ := own_slice hown3
  have HBad := RS.of_own (enc := encT) (sz := 4) (l := badM) (fun _ => rfl) hown3 rfl
  have hX := app_belowL (((Below.refl W2.heap.size W2).alloc (Nat.le_refl _) (.cells (soilM.flatMap encT).toArray 79)).alloc (by simp) (.cells #[.int .i64 0, .int .i64 400, .int .i64 320, .bool false] 79)) (Nat.le_refl _) (by simp <;> omega) (O3.alloc _) hgrow3
  clear O3 hown3 hgrow3
  have k1 := k1.below hX k1.lt
  have HB0 := Lib.hid (HB0.out.trans (hX.mono HB0.out.size))
  clear hX
  have hX := Below.refl w3.heap.size w3
  go_upto_region 5 with (first | (go_at_call 36; (refine (nm_Clash A5 c5 _ HBad).mono ?_); rintro e wq ⟨rfl, hb⟩; have hX := sh_next hX hb))
  have k1 := k1.below hX k1.lt
  have HB0 := Lib.hid (HB0.out.trans (hX.mono HB0.out.size))
  have HBad := HBad.to hX
  refine name_world (motive := fun W => Code.wp _ _ _ _ W) _ ?_
  intro W3 hW
  have HB0 := Lib.hid (hW.below HB0.out)
  have k1 := hW.blk k1
  have HBad := HBad.to (hW.below (Below.refl _ _))
  clear hX hW
  have hX := Below.refl W3.heap.size W3
  clear hb
  go_upto_region 6 with (first | (go_at_call 38; refine (four_any _).mono ?_; rintro e wq ⟨Af, rfl, htf, hb⟩; have hX := sh_next hX hb) | (go_at_call 37; (refine (nm_Over Af 1 _ htf).mono ?_); rintro e wq ⟨AO, cO, rfl, hso, hb⟩; have hX := sh_next hX hb))
  have k1 := k1.below hX k1.lt
  have HB0 := Lib.hid (HB0.out.trans (hX.mono HB0.out.size))
  have HBad := HBad.to hX
  refine name_world (motive := fun W => Code.wp _ _ _ _ W) _ ?_
  intro W4 hW
  have HB0 := Lib.hid (hW.below HB0.out)
  have k1 := hW.blk k1
  have HBad := HBad.to (hW.below (Below.refl _ _))
  have hso := hso.to (hW.below (Below.refl _ _))
  clear htf hb
  clear hX hW
  have hX := Below.refl W4.heap.size W4
  have a0 := k1.cell 0; have a1 := k1.cell 1; simp at a0 a1
  have l1 := k1.lt
  go_upto_region 8 with (first | (go_at_call 39; (refine (HOI.out AO cO _ hso).mono ?_); rintro e wq ⟨rfl, hb⟩; have hX := sh_next hX hb))
  have HB0 := Lib.hid (HB0.out.trans (hX.mono HB0.out.size))
  have HBad := HBad.to hX
  refine name_world (motive := fun W => Code.wp _ _ _ _ W) _ ?_
  intro W5 hW
  have HB0 := Lib.hid (hW.below HB0.out)
  have HBad := HBad.to (hW.below (Below.refl _ _))
  clear hX hW
  have hX := Below.refl W5.heap.size W5
  clear a0 a1 l1 k1 hso hb
  go_upto_region 9 with (first | (go_at_call 34; refine (soil_rs _).mono ?_; rintro e ws ⟨As, rfl, hss, hb⟩; have hX := sh_next hX hb) | (go_at_call 38; refine (four_any _).mono ?_; rintro e wq ⟨Af, rfl, htf, hb⟩; have hss := hss.to hb; have hX := sh_next hX hb) | (go_at_call 24; (refine (nm_Bal As 2 Af 1 _ hss htf).mono ?_); rintro e wq ⟨AB, cB, rfl, hb⟩; have hX := sh_next hX hb))
  have HB0 := Lib.hid (HB0.out.trans (hX.mono HB0.out.size))
  have HBad := HBad.to hX
  refine name_world (motive := fun W => Code.wp _ _ _ _ W) _ ?_
  intro W6 hW
  have HB0 := Lib.hid (hW.below HB0.out)
  have HBad := HBad.to (hW.below (Below.refl _ _))
  clear hX hW
  have hX := Below.refl W6.heap.size W6
  clear hss htf hb
  go_upto_region 10 with (first | (go_at_call 34; refine (soil_rs _).mono ?_; rintro e ws ⟨As, rfl, hss, hb⟩; have hX := sh_next hX hb) | (go_at_call 38; refine (four_any _).mono ?_; rintro e wq ⟨Af, rfl, htf, hb⟩; have hss := hss.to hb; have hX := sh_next hX hb) | (go_at_call 40; (refine (nm_Reach As 2 Af 1 _ hss htf).mono ?_); rintro e wq ⟨rfl, hb⟩; have hX := sh_next hX hb))
  have HB0 := Lib.hid (HB0.out.trans (hX.mono HB0.out.size))
  have HBad := HBad.to hX
  refine name_world (motive := fun W => Code.wp _ _ _ _ W) _ ?_
  intro W7 hW
  have HB0 := Lib.hid (hW.below HB0.out)
  have HBad := HBad.to (hW.below (Below.refl _ _))
  clear hX hW
  have hX := Below.refl W7.heap.size W7
  clear hss htf hb
  go_upto_region 11 with (first | (go_at_call 34; refine (soil_rs _).mono ?_; rintro e ws ⟨As, rfl, hss, hb⟩; have hX := sh_next hX hb) | (go_at_call 38; refine (four_any _).mono ?_; rintro e wq ⟨Af, rfl, htf, hb⟩; have hss := hss.to hb; have hX := sh_next hX hb) | (go_at_call 41; (refine (HSA.out As Af 2 1 _ hss htf).mono ?_); rintro e wq ⟨AS, cS, rfl, hsS, hb⟩; have hX := sh_next hX hb))
  have HB0 := Lib.hid (HB0.out.trans (hX.mono HB0.out.size))
  have HBad := HBad.to hX
  refine name_world (motive := fun W => Code.wp _ _ _ _ W) _ ?_
  intro W8 hW
  have HB0 := Lib.hid (hW.below HB0.out)
  have HBad := HBad.to (hW.below (Below.refl _ _))
  have hsS := hsS.to (hW.below (Below.refl _ _))
  clear hss htf hb
  clear hX hW
  have hX := Below.refl W8.heap.size W8
  go_upto_region 12 with (first | (go_at_call 34; refine (soil_rs _).mono ?_; rintro e ws ⟨As, rfl, hss, hb⟩; have hX := sh_next hX hb) | (go_at_call 38; refine (four_any _).mono ?_; rintro e wq ⟨Af, rfl, htf, hb⟩; have hss := hss.to hb; have hX := sh_next hX hb) | (go_at_call 42; (refine (HWE.out As Af 2 1 _ hss htf).mono ?_); rintro e wq ⟨rfl, hb⟩; have hX := sh_next hX hb))
  have kw := Blk.new wq 58 #[.int .i64 wayB.x, .int .i64 wayB.y]
  have hX := hX.alloc hX.size (.cells #[.int .i64 wayB.x, .int .i64 wayB.y] 58)
  have HB0 := Lib.hid (HB0.out.trans (hX.mono HB0.out.size))
  have HBad := HBad.to hX
  have hsS := hsS.to hX
  refine name_world (motive := fun W => Code.wp _ _ _ _ W) _ ?_
  intro W9 hW
  have HB0 := Lib.hid (hW.below HB0.out)
  have kw := hW.blk kw
  have HBad := HBad.to (hW.below (Below.refl _ _))
  have hsS := hsS.to (hW.below (Below.refl _ _))
  clear hX hW
  have hX := Below.refl W9.heap.size W9
  clear hss htf hb
  obtain ⟨W0, hW0⟩ : ∃ x, x = W9 := ⟨_, rfl⟩
  subst hW0
  obtain ⟨K, hK⟩ : ∃ K, wq.heap.size = K := ⟨_, rfl⟩
  rw [hK] at kw
  simp only [hK]
  clear hK
  clear hX
  refine (wpIn_wide (n := 9)).1 ?_
  have hLast := trivial
  refine region_rest (S := (fun w' => Blk w' (K) 58 #[.int .i64 wayB.x, .int .i64 wayB.y] ∧ Below W0.heap.size W0 w')) hmx ?_ (fun hHeld => ?_)
  · exact ⟨kw.drew, (Below.refl W0.heap.size W0).drew⟩
  change RestIn _ _ _ _ _ _ _ 57 #[false, false, false, false, false, false, false, false, false, false, false, false, false, false, false, false, false, false, false, false, false, false, false, false, false, false, false, false, false, false, false, false, false, false, false, false, false, false, false, false, false, false, false, false, false, false, false, false, false, false, false, false, false, false, false, false, false] _ (World.drew _)
  refine rest_take (i := 0) (v := _) all_wide (noDefers_of (by kernel_rfl)) rfl (by kernel_rfl) (by kernel_rfl) (by kernel_rfl) (fun _ _ _ h => h) (Or.inl ⟨by rfl, by intro w hSw; clear hSw; go_simp; first | done | with_reducible rfl⟩) hHeld ?_
  change RestIn _ _ _ _ _ _ _ 56 #[true, false, false, false, false, false, false, false, false, false, false, false, false, false, false, false, false, false, false, false, false, false, false, false, false, false, false, false, false, false, false, false, false, false, false, false, false, false, false, false, false, false, false, false, false, false, false, false, false, false, false, false, false, false, false, false, false] _ _
  try simp only [Act.put, List.setIfInBounds_toArray, List.set_cons_zero, List.set_cons_succ, List.getElem_toArray, List.getElem_cons_zero, List.getElem_cons_succ]
  refine rest_take (i := 1) (v := _) all_wide (noDefers_of (by kernel_rfl)) rfl (by kernel_rfl) (by kernel_rfl) (by kernel_rfl) (fun _ _ _ h => h) (Or.inl ⟨by rfl, by intro w hSw; clear hSw; go_simp; first | done | with_reducible rfl⟩) hHeld ?_
  change RestIn _ _ _ _ _ _ _ 55 #[true, true, false, false, false, false, false, false, false, false, false, false, false, false, false, false, false, false, false, false, false, false, false, false, false, false, false, false, false, false, false, false, false, false, false, false, false, false, false, false, false, false, false, false, false, false, false, false, false, false, false, false, false, false, false, false, false] _ _
  try simp only [Act.put, List.setIfInBounds_toArray, List.set_cons_zero, List.set_cons_succ, List.getElem_toArray, List.getElem_cons_zero, List.getElem_cons_succ]
  refine rest_take (i := 2) (v := _) all_wide (noDefers_of (by kernel_rfl)) rfl (by kernel_rfl) (by kernel_rfl) (by kernel_rfl) (fun _ _ _ h => h) (Or.inl ⟨by rfl, by intro w hSw; clear hSw; go_simp; first | done | with_reducible rfl⟩) hHeld ?_
  change RestIn _ _ _ _ _ _ _ 54 #[true, true, true, false, false, false, false, false, false, false, false, false, false, false, false, false, false, false, false, false, false, false, false, false, false, false, false, false, false, false, false, false, false, false, false, false, false, false, false, false, false, false, false, false, false, false, false, false, false, false, false, false, false, false, false, false, false] _ _
  try simp only [Act.put, List.setIfInBounds_toArray, List.set_cons_zero, List.set_cons_succ, List.getElem_toArray, List.getElem_cons_zero, List.getElem_cons_succ]
  refine rest_take (i := 3) (v := _) all_wide (noDefers_of (by kernel_rfl)) rfl (by kernel_rfl) (by kernel_rfl) (by kernel_rfl) (fun _ _ _ h => h) (Or.inl ⟨by rfl, by intro w hSw; clear hSw; go_simp; first | done | with_reducible rfl⟩) hHeld ?_
  change RestIn _ _ _ _ _ _ _ 53 #[true, true, true, true, false, false, false, false, false, false, false, false, false, false, false, false, false, false, false, false, false, false, false, false, false, false, false, false, false, false, false, false, false, false, false, false, false, false, false, false, false, false, false, false, false, false, false, false, false, false, false, false, false, false, false, false, false] _ _
  try simp only [Act.put, List.setIfInBounds_toArray, List.set_cons_zero, List.set_cons_succ, List.getElem_toArray, List.getElem_cons_zero, List.getElem_cons_succ]
  refine rest_take (i := 4) (v := _) all_wide (noDefers_of (by kernel_rfl)) rfl (by kernel_rfl) (by kernel_rfl) (by kernel_rfl) (fun _ _ _ h => h) (Or.inl ⟨by rfl, by intro w hSw; clear hSw; go_simp; first | done | with_reducible rfl⟩) hHeld ?_
  change RestIn _ _ _ _ _ _ _ 52 #[true, true, true, true, true, false, false, false, false, false, false, false, false, false, false, false, false, false, false, false, false, false, false, false, false, false, false, false, false, false, false, false, false, false, false, false, false, false, false, false, false, false, false, false, false, false, false, false, false, false, false, false, false, false, false, false, false] _ _
  try simp only [Act.put, List.setIfInBounds_toArray, List.set_cons_zero, List.set_cons_succ, List.getElem_toArray, List.getElem_cons_zero, List.getElem_cons_succ]
  refine rest_take (i := 5) (v := _) all_wide (noDefers_of (by kernel_rfl)) rfl (by kernel_rfl) (by kernel_rfl) (by kernel_rfl) (fun _ _ _ h => h) (Or.inl ⟨by rfl, by intro w hSw; clear hSw; go_simp; first | done | with_reducible rfl⟩) hHeld ?_
  change RestIn _ _ _ _ _ _ _ 51 #[true, true, true, true, true, true, false, false, false, false, false, false, false, false, false, false, false, false, false, false, false, false, false, false, false, false, false, false, false, false, false, false, false, false, false, false, false, false, false, false, false, false, false, false, false, false, false, false, false, false, false, false, false, false, false, false, false] _ _
  try simp only [Act.put, List.setIfInBounds_toArray, List.set_cons_zero, List.set_cons_succ, List.getElem_toArray, List.getElem_cons_zero, List.getElem_cons_succ]
  refine rest_take (i := 6) (v := _) all_wide (noDefers_of (by kernel_rfl)) rfl (by kernel_rfl) (by kernel_rfl) (by kernel_rfl) (fun _ _ _ h => h) (Or.inl ⟨by rfl, by intro w hSw; clear hSw; go_simp; first | done | with_reducible rfl⟩) hHeld ?_
  change RestIn _ _ _ _ _ _ _ 50 #[true, true, true, true, true, true, true, false, false, false, false, false, false, false, false, false, false, false, false, false, false, false, false, false, false, false, false, false, false, false, false, false, false, false, false, false, false, false, false, false, false, false, false, false, false, false, false, false, false, false, false, false, false, false, false, false, false] _ _
  try simp only [Act.put, List.setIfInBounds_toArray, List.set_cons_zero, List.set_cons_succ, List.getElem_toArray, List.getElem_cons_zero, List.getElem_cons_succ]
  refine rest_take (i := 7) (v := _) all_wide (noDefers_of (by kernel_rfl)) rfl (by kernel_rfl) (by kernel_rfl) (by kernel_rfl) (fun _ _ _ h => h) (Or.inl ⟨by rfl, by intro w hSw; clear hSw; go_simp; first | done | with_reducible rfl⟩) hHeld ?_
  change RestIn _ _ _ _ _ _ _ 49 #[true, true, true, true, true, true, true, true, false, false, false, false, false, false, false, false, false, false, false, false, false, false, false, false, false, false, false, false, false, false, false, false, false, false, false, false, false, false, false, false, false, false, false, false, false, false, false, false, false, false, false, false, false, false, false, false, false] _ _
  try simp only [Act.put, List.setIfInBounds_toArray, List.set_cons_zero, List.set_cons_succ, List.getElem_toArray, List.getElem_cons_zero, List.getElem_cons_succ]
  refine rest_take (i := 8) (v := _) all_wide (noDefers_of (by kernel_rfl)) rfl (by kernel_rfl) (by kernel_rfl) (by kernel_rfl) (fun _ _ _ h => h) (Or.inl ⟨by rfl, by intro w hSw; clear hSw; go_simp; first | done | with_reducible rfl⟩) hHeld ?_
  change RestIn _ _ _ _ _ _ _ 48 #[true, true, true, true, true, true, true, true, true, false, false, false, false, false, false, false, false, false, false, false, false, false, false, false, false, false, false, false, false, false, false, false, false, false, false, false, false, false, false, false, false, false, false, false, false, false, false, false, false, false, false, false, false, false, false, false, false] _ _
  try simp only [Act.put, List.setIfInBounds_toArray, List.set_cons_zero, List.set_cons_succ, List.getElem_toArray, List.getElem_cons_zero, List.getElem_cons_succ]
  refine rest_take (i := 9) (v := _) all_wide (noDefers_of (by kernel_rfl)) rfl (by kernel_rfl) (by kernel_rfl) (by kernel_rfl) (fun _ _ _ h => h) (Or.inl ⟨by rfl, by intro w hSw; clear hSw; go_simp; first | done | with_reducible rfl⟩) hHeld ?_
  change RestIn _ _ _ _ _ _ _ 47 #[true, true, true, true, true, true, true, true, true, true, false, false, false, false, false, false, false, false, false, false, false, false, false, false, false, false, false, false, false, false, false, false, false, false, false, false, false, false, false, false, false, false, false, false, false, false, false, false, false, false, false, false, false, false, false, false, false] _ _
  try simp only [Act.put, List.setIfInBounds_toArray, List.set_cons_zero, List.set_cons_succ, List.getElem_toArray, List.getElem_cons_zero, List.getElem_cons_succ]
  refine rest_take (i := 10) (v := _) all_wide (noDefers_of (by kernel_rfl)) rfl (by kernel_rfl) (by kernel_rfl) (by kernel_rfl) (fun _ _ _ h => h) (Or.inl ⟨by rfl, by intro w hSw; clear hSw; go_simp; first | done | with_reducible rfl⟩) hHeld ?_
  change RestIn _ _ _ _ _ _ _ 46 #[true, true, true, true, true, true, true, true, true, true, true, false, false, false, false, false, false, false, false, false, false, false, false, false, false, false, false, false, false, false, false, false, false, false, false, false, false, false, false, false, false, false, false, false, false, false, false, false, false, false, false, false, false, false, false, false, false] _ _
  try simp only [Act.put, List.setIfInBounds_toArray, List.set_cons_zero, List.set_cons_succ, List.getElem_toArray, List.getElem_cons_zero, List.getElem_cons_succ]
  refine rest_take (i := 11) (v := _) all_wide (noDefers_of (by kernel_rfl)) rfl (by kernel_rfl) (by kernel_rfl) (by kernel_rfl) (fun _ _ _ h => h) (Or.inl ⟨by rfl, by intro w hSw; clear hSw; go_simp; first | done | with_reducible rfl⟩) hHeld ?_
  change RestIn _ _ _ _ _ _ _ 45 #[true, true, true, true, true, true, true, true, true, true, true, true, false, false, false, false, false, false, false, false, false, false, false, false, false, false, false, false, false, false, false, false, false, false, false, false, false, false, false, false, false, false, false, false, false, false, false, false, false, false, false, false, false, false, false, false, false] _ _
  try simp only [Act.put, List.setIfInBounds_toArray, List.set_cons_zero, List.set_cons_succ, List.getElem_toArray, List.getElem_cons_zero, List.getElem_cons_succ]
  refine rest_take (i := 12) (v := _) all_wide (noDefers_of (by kernel_rfl)) rfl (by kernel_rfl) (by kernel_rfl) (by kernel_rfl) (fun _ _ _ h => h) (Or.inl ⟨by rfl, by intro w hSw; clear hSw; go_simp; first | done | with_reducible rfl⟩) hHeld ?_
  change RestIn _ _ _ _ _ _ _ 44 #[true, true, true, true, true, true, true, true, true, true, true, true, true, false, false, false, false, false, false, false, false, false, false, false, false, false, false, false, false, false, false, false, false, false, false, false, false, false, false, false, false, false, false, false, false, false, false, false, false, false, false, false, false, false, false, false, false] _ _
  try simp only [Act.put, List.setIfInBounds_toArray, List.set_cons_zero, List.set_cons_succ, List.getElem_toArray, List.getElem_cons_zero, List.getElem_cons_succ]
  refine rest_take (i := 13) (v := _) all_wide (noDefers_of (by kernel_rfl)) rfl (by kernel_rfl) (by kernel_rfl) (by kernel_rfl) (fun _ _ _ h => h) (Or.inl ⟨by rfl, by intro w hSw; clear hSw; go_simp; first | done | with_reducible rfl⟩) hHeld ?_
  change RestIn _ _ _ _ _ _ _ 43 #[true, true, true, true, true, true, true, true, true, true, true, true, true, true, false, false, false, false, false, false, false, false, false, false, false, false, false, false, false, false, false, false, false, false, false, false, false, false, false, false, false, false, false, false, false, false, false, false, false, false, false, false, false, false, false, false, false] _ _
  try simp only [Act.put, List.setIfInBounds_toArray, List.set_cons_zero, List.set_cons_succ, List.getElem_toArray, List.getElem_cons_zero, List.getElem_cons_succ]
  refine rest_take (i := 14) (v := _) all_wide (noDefers_of (by kernel_rfl)) rfl (by kernel_rfl) (by kernel_rfl) (by kernel_rfl) (fun _ _ _ h => h) (Or.inl ⟨by rfl, by intro w hSw; clear hSw; go_simp; first | done | with_reducible rfl⟩) hHeld ?_
  change RestIn _ _ _ _ _ _ _ 42 #[true, true, true, true, true, true, true, true, true, true, true, true, true, true, true, false, false, false, false, false, false, false, false, false, false, false, false, false, false, false, false, false, false, false, false, false, false, false, false, false, false, false, false, false, false, false, false, false, false, false, false, false, false, false, false, false, false] _ _
  try simp only [Act.put, List.setIfInBounds_toArray, List.set_cons_zero, List.set_cons_succ, List.getElem_toArray, List.getElem_cons_zero, List.getElem_cons_succ]
  refine rest_take (i := 15) (v := _) all_wide (noDefers_of (by kernel_rfl)) rfl (by kernel_rfl) (by kernel_rfl) (by kernel_rfl) (fun _ _ _ h => h) (Or.inl ⟨by rfl, by intro w hSw; clear hSw; go_simp; first | done | with_reducible rfl⟩) hHeld ?_
  change RestIn _ _ _ _ _ _ _ 41 #[true, true, true, true, true, true, true, true, true, true, true, true, true, true, true, true, false, false, false, false, false, false, false, false, false, false, false, false, false, false, false, false, false, false, false, false, false, false, false, false, false, false, false, false, false, false, false, false, false, false, false, false, false, false, false, false, false] _ _
  try simp only [Act.put, List.setIfInBounds_toArray, List.set_cons_zero, List.set_cons_succ, List.getElem_toArray, List.getElem_cons_zero, List.getElem_cons_succ]
  refine rest_take (i := 16) (v := _) all_wide (noDefers_of (by kernel_rfl)) rfl (by kernel_rfl) (by kernel_rfl) (by kernel_rfl) (fun _ _ _ h => h) (Or.inl ⟨by rfl, by intro w hSw; clear hSw; go_simp; first | done | with_reducible rfl⟩) hHeld ?_
  change RestIn _ _ _ _ _ _ _ 40 #[true, true, true, true, true, true, true, true, true, true, true, true, true, true, true, true, true, false, false, false, false, false, false, false, false, false, false, false, false, false, false, false, false, false, false, false, false, false, false, false, false, false, false, false, false, false, false, false, false, false, false, false, false, false, false, false, false] _ _
  try simp only [Act.put, List.setIfInBounds_toArray, List.set_cons_zero, List.set_cons_succ, List.getElem_toArray, List.getElem_cons_zero, List.getElem_cons_succ]
  refine rest_take (i := 17) (v := _) all_wide (noDefers_of (by kernel_rfl)) rfl (by kernel_rfl) (by kernel_rfl) (by kernel_rfl) (fun _ _ _ h => h) (Or.inl ⟨by rfl, by intro w hSw; clear hSw; go_simp; first | done | with_reducible rfl⟩) hHeld ?_
  change RestIn _ _ _ _ _ _ _ 39 #[true, true, true, true, true, true, true, true, true, true, true, true, true, true, true, true, true, true, false, false, false, false, false, false, false, false, false, false, false, false, false, false, false, false, false, false, false, false, false, false, false, false, false, false, false, false, false, false, false, false, false, false, false, false, false, false, false] _ _
  try simp only [Act.put, List.setIfInBounds_toArray, List.set_cons_zero, List.set_cons_succ, List.getElem_toArray, List.getElem_cons_zero, List.getElem_cons_succ]
  refine rest_ready (rs := [18]) (by kernel_rfl) (by simp) ?_
  refine AllRest.cons rfl (fun K hK => ?_) AllRest.nil
  have kPg := (hHeld.2).size
  have kP := blk_new_of (hHeld.2) 93 #[.int .i64 0, .int .i64 0, .int .i64 0, .int .i64 1]
  have hOld := (hHeld.2)
  go_simp
  refine hK.out _ _ ?_ (fun hHeld' => ?_)
  · exact (fun (hbel : Below W0.heap.size W0 _) => ⟨kw.below hbel kw.lt, hbel⟩) ((hHeld.2).alloc (hHeld.2).size _)
  clear hK K
  change RestIn _ _ _ _ _ _ _ 38 #[true, true, true, true, true, true, true, true, true, true, true, true, true, true, true, true, true, true, true, false, false, false, false, false, false, false, false, false, false, false, false, false, false, false, false, false, false, false, false, false, false, false, false, false, false, false, false, false, false, false, false, false, false, false, false, false, false] _ _
  try simp only [Act.put, List.setIfInBounds_toArray, List.set_cons_zero, List.set_cons_succ, List.getElem_toArray, List.getElem_cons_zero, List.getElem_cons_succ]
  clear hHeld
  have hHeld := hHeld'
  clear hHeld'
  have hNow := (hHeld.2)
  try simp at kPg
  refine rest_ready (rs := [19]) (by kernel_rfl) (by simp) ?_
  refine AllRest.cons rfl (fun K hK => ?_) AllRest.nil
  go_simp
  gi_wp2_with ((refine ⟨trivial, ?_⟩; gi_at_call 43; (refine (callsIn_wide.2 (HPS.out AS cS _ _ kP (hsS.to hNow))).mono ?_); rintro e wn ⟨rfl, hb⟩))
  refine hK.out _ _ ?_ (fun hHeld' => ?_)
  · exact ⟨hHeld.1.below hb hHeld.1.lt, (hHeld.2).trans (hb.mono (hHeld.2).size)⟩
  clear hK K
  change RestIn _ _ _ _ _ _ _ 37 #[true, true, true, true, true, true, true, true, true, true, true, true, true, true, true, true, true, true, true, true, false, false, false, false, false, false, false, false, false, false, false, false, false, false, false, false, false, false, false, false, false, false, false, false, false, false, false, false, false, false, false, false, false, false, false, false, false] _ _
  try simp only [Act.put, List.setIfInBounds_toArray, List.set_cons_zero, List.set_cons_succ, List.getElem_toArray, List.getElem_cons_zero, List.getElem_cons_succ]
  clear hHeld
  have hHeld := hHeld'
  clear hHeld'
  have hNow := (hHeld.2)
  try have kP := kP.below hb kP.lt
  refine rest_take (i := 20) (v := _) all_wide (noDefers_of (by kernel_rfl)) rfl (by kernel_rfl) (by kernel_rfl) (by kernel_rfl) (fun _ _ _ h => h) (Or.inl ⟨by rfl, by intro w hSw; clear hSw; go_simp; first | done | with_reducible rfl⟩) hHeld ?_
  change RestIn _ _ _ _ _ _ _ 36 #[true, true, true, true, true, true, true, true, true, true, true, true, true, true, true, true, true, true, true, true, true, false, false, false, false, false, false, false, false, false, false, false, false, false, false, false, false, false, false, false, false, false, false, false, false, false, false, false, false, false, false, false, false, false, false, false, false] _ _
  try simp only [Act.put, List.setIfInBounds_toArray, List.set_cons_zero, List.set_cons_succ, List.getElem_toArray, List.getElem_cons_zero, List.getElem_cons_succ]
  refine rest_take (i := 21) (v := _) all_wide (noDefers_of (by kernel_rfl)) rfl (by kernel_rfl) (by kernel_rfl) (by kernel_rfl) (fun _ _ _ h => h) (Or.inl ⟨by rfl, by intro w hSw; clear hSw; go_simp; first | done | with_reducible rfl⟩) hHeld ?_
  change RestIn _ _ _ _ _ _ _ 35 #[true, true, true, true, true, true, true, true, true, true, true, true, true, true, true, true, true, true, true, true, true, true, false, false, false, false, false, false, false, false, false, false, false, false, false, false, false, false, false, false, false, false, false, false, false, false, false, false, false, false, false, false, false, false, false, false, false] _ _
  try simp only [Act.put, List.setIfInBounds_toArray, List.set_cons_zero, List.set_cons_succ, List.getElem_toArray, List.getElem_cons_zero, List.getElem_cons_succ]
  refine rest_take (i := 22) (v := _) all_wide (noDefers_of (by kernel_rfl)) rfl (by kernel_rfl) (by kernel_rfl) (by kernel_rfl) (fun _ _ _ h => h) (Or.inl ⟨by rfl, by intro w hSw; clear hSw; go_simp; first | done | with_reducible rfl⟩) hHeld ?_
  change RestIn _ _ _ _ _ _ _ 34 #[true, true, true, true, true, true, true, true, true, true, true, true, true, true, true, true, true, true, true, true, true, true, true, false, false, false, false, false, false, false, false, false, false, false, false, false, false, false, false, false, false, false, false, false, false, false, false, false, false, false, false, false, false, false, false, false, false] _ _
  try simp only [Act.put, List.setIfInBounds_toArray, List.set_cons_zero, List.set_cons_succ, List.getElem_toArray, List.getElem_cons_zero, List.getElem_cons_succ]
  refine rest_take (i := 23) (v := _) all_wide (noDefers_of (by kernel_rfl)) rfl (by kernel_rfl) (by kernel_rfl) (by kernel_rfl) (fun _ _ _ h => h) (Or.inl ⟨by rfl, by intro w hSw; clear hSw; go_simp; first | done | with_reducible rfl⟩) hHeld ?_
  change RestIn _ _ _ _ _ _ _ 33 #[true, true, true, true, true, true, true, true, true, true, true, true, true, true, true, true, true, true, true, true, true, true, true, true, false, false, false, false, false, false, false, false, false, false, false, false, false, false, false, false, false, false, false, false, false, false, false, false, false, false, false, false, false, false, false, false, false] _ _
  try simp only [Act.put, List.setIfInBounds_toArray, List.set_cons_zero, List.set_cons_succ, List.getElem_toArray, List.getElem_cons_zero, List.getElem_cons_succ]
  refine rest_take (i := 24) (v := _) all_wide (noDefers_of (by kernel_rfl)) rfl (by kernel_rfl) (by kernel_rfl) (by kernel_rfl) (fun _ _ _ h => h) (Or.inl ⟨by rfl, by intro w hSw; clear hSw; go_simp; first | done | with_reducible rfl⟩) hHeld ?_
  change RestIn _ _ _ _ _ _ _ 32 #[true, true, true, true, true, true, true, true, true, true, true, true, true, true, true, true, true, true, true, true, true, true, true, true, true, false, false, false, false, false, false, false, false, false, false, false, false, false, false, false, false, false, false, false, false, false, false, false, false, false, false, false, false, false, false, false, false] _ _
  try simp only [Act.put, List.setIfInBounds_toArray, List.set_cons_zero, List.set_cons_succ, List.getElem_toArray, List.getElem_cons_zero, List.getElem_cons_succ]
  refine rest_take (i := 25) (v := _) all_wide (noDefers_of (by kernel_rfl)) rfl (by kernel_rfl) (by kernel_rfl) (by kernel_rfl) (fun _ _ _ h => h) (Or.inl ⟨by rfl, by intro w hSw; clear hSw; go_simp; first | done | with_reducible rfl⟩) hHeld ?_
  change RestIn _ _ _ _ _ _ _ 31 #[true, true, true, true, true, true, true, true, true, true, true, true, true, true, true, true, true, true, true, true, true, true, true, true, true, true, false, false, false, false, false, false, false, false, false, false, false, false, false, false, false, false, false, false, false, false, false, false, false, false, false, false, false, false, false, false, false] _ _
  try simp only [Act.put, List.setIfInBounds_toArray, List.set_cons_zero, List.set_cons_succ, List.getElem_toArray, List.getElem_cons_zero, List.getElem_cons_succ]
  refine rest_take (i := 26) (v := _) all_wide (noDefers_of (by kernel_rfl)) rfl (by kernel_rfl) (by kernel_rfl) (by kernel_rfl) (fun _ _ _ h => h) (Or.inl ⟨by rfl, by intro w hSw; clear hSw; go_simp; first | done | with_reducible rfl⟩) hHeld ?_
  change RestIn _ _ _ _ _ _ _ 30 #[true, true, true, true, true, true, true, true, true, true, true, true, true, true, true, true, true, true, true, true, true, true, true, true, true, true, true, false, false, false, false, false, false, false, false, false, false, false, false, false, false, false, false, false, false, false, false, false, false, false, false, false, false, false, false, false, false] _ _
  try simp only [Act.put, List.setIfInBounds_toArray, List.set_cons_zero, List.set_cons_succ, List.getElem_toArray, List.getElem_cons_zero, List.getElem_cons_succ]
  refine rest_take (i := 27) (v := _) all_wide (noDefers_of (by kernel_rfl)) rfl (by kernel_rfl) (by kernel_rfl) (by kernel_rfl) (fun _ _ _ h => h) (Or.inl ⟨by rfl, by intro w hSw; clear hSw; go_simp; first | done | with_reducible rfl⟩) hHeld ?_
  change RestIn _ _ _ _ _ _ _ 29 #[true, true, true, true, true, true, true, true, true, true, true, true, true, true, true, true, true, true, true, true, true, true, true, true, true, true, true, true, false, false, false, false, false, false, false, false, false, false, false, false, false, false, false, false, false, false, false, false, false, false, false, false, false, false, false, false, false] _ _
  try simp only [Act.put, List.setIfInBounds_toArray, List.set_cons_zero, List.set_cons_succ, List.getElem_toArray, List.getElem_cons_zero, List.getElem_cons_succ]
  refine rest_take (i := 28) (v := _) all_wide (noDefers_of (by kernel_rfl)) rfl (by kernel_rfl) (by kernel_rfl) (by kernel_rfl) (fun _ _ _ h => h) (Or.inl ⟨by rfl, by intro w hSw; clear hSw; go_simp; first | done | with_reducible rfl⟩) hHeld ?_
  change RestIn _ _ _ _ _ _ _ 28 #[true, true, true, true, true, true, true, true, true, true, true, true, true, true, true, true, true, true, true, true, true, true, true, true, true, true, true, true, true, false, false, false, false, false, false, false, false, false, false, false, false, false, false, false, false, false, false, false, false, false, false, false, false, false, false, false, false] _ _
  try simp only [Act.put, List.setIfInBounds_toArray, List.set_cons_zero, List.set_cons_succ, List.getElem_toArray, List.getElem_cons_zero, List.getElem_cons_succ]
  refine rest_take (i := 29) (v := _) all_wide (noDefers_of (by kernel_rfl)) rfl (by kernel_rfl) (by kernel_rfl) (by kernel_rfl) (fun _ _ _ h => h) (Or.inl ⟨by rfl, by intro w hSw; clear hSw; go_simp; first | done | with_reducible rfl⟩) hHeld ?_
  change RestIn _ _ _ _ _ _ _ 27 #[true, true, true, true, true, true, true, true, true, true, true, true, true, true, true, true, true, true, true, true, true, true, true, true, true, true, true, true, true, true, false, false, false, false, false, false, false, false, false, false, false, false, false, false, false, false, false, false, false, false, false, false, false, false, false, false, false] _ _
  try simp only [Act.put, List.setIfInBounds_toArray, List.set_cons_zero, List.set_cons_succ, List.getElem_toArray, List.getElem_cons_zero, List.getElem_cons_succ]
  refine rest_take (i := 30) (v := _) all_wide (noDefers_of (by kernel_rfl)) rfl (by kernel_rfl) (by kernel_rfl) (by kernel_rfl) (fun _ _ _ h => h) (Or.inl ⟨by rfl, by intro w hSw; clear hSw; go_simp; first | done | with_reducible rfl⟩) hHeld ?_
  change RestIn _ _ _ _ _ _ _ 26 #[true, true, true, true, true, true, true, true, true, true, true, true, true, true, true, true, true, true, true, true, true, true, true, true, true, true, true, true, true, true, true, false, false, false, false, false, false, false, false, false, false, false, false, false, false, false, false, false, false, false, false, false, false, false, false, false, false] _ _
  try simp only [Act.put, List.setIfInBounds_toArray, List.set_cons_zero, List.set_cons_succ, List.getElem_toArray, List.getElem_cons_zero, List.getElem_cons_succ]
  refine rest_take (i := 31) (v := _) all_wide (noDefers_of (by kernel_rfl)) rfl (by kernel_rfl) (by kernel_rfl) (by kernel_rfl) (fun _ _ _ h => h) (Or.inl ⟨by rfl, by intro w hSw; clear hSw; go_simp; first | done | with_reducible rfl⟩) hHeld ?_
  change RestIn _ _ _ _ _ _ _ 25 #[true, true, true, true, true, true, true, true, true, true, true, true, true, true, true, true, true, true, true, true, true, true, true, true, true, true, true, true, true, true, true, true, false, false, false, false, false, false, false, false, false, false, false, false, false, false, false, false, false, false, false, false, false, false, false, false, false] _ _
  try simp only [Act.put, List.setIfInBounds_toArray, List.set_cons_zero, List.set_cons_succ, List.getElem_toArray, List.getElem_cons_zero, List.getElem_cons_succ]
  refine rest_take (i := 32) (v := _) all_wide (noDefers_of (by kernel_rfl)) rfl (by kernel_rfl) (by kernel_rfl) (by kernel_rfl) (fun _ _ _ h => h) (Or.inl ⟨by rfl, by intro w hSw; clear hSw; go_simp; first | done | with_reducible rfl⟩) hHeld ?_
  change RestIn _ _ _ _ _ _ _ 24 #[true, true, true, true, true, true, true, true, true, true, true, true, true, true, true, true, true, true, true, true, true, true, true, true, true, true, true, true, true, true, true, true, true, false, false, false, false, false, false, false, false, false, false, false, false, false, false, false, false, false, false, false, false, false, false, false, false] _ _
  try simp only [Act.put, List.setIfInBounds_toArray, List.set_cons_zero, List.set_cons_succ, List.getElem_toArray, List.getElem_cons_zero, List.getElem_cons_succ]
  refine rest_take (i := 33) (v := _) all_wide (noDefers_of (by kernel_rfl)) rfl (by kernel_rfl) (by kernel_rfl) (by kernel_rfl) (fun _ _ _ h => h) (Or.inl ⟨by rfl, by intro w hSw; clear hSw; go_simp; first | done | with_reducible rfl⟩) hHeld ?_
  change RestIn _ _ _ _ _ _ _ 23 #[true, true, true, true, true, true, true, true, true, true, true, true, true, true, true, true, true, true, true, true, true, true, true, true, true, true, true, true, true, true, true, true, true, true, false, false, false, false, false, false, false, false, false, false, false, false, false, false, false, false, false, false, false, false, false, false, false] _ _
  try simp only [Act.put, List.setIfInBounds_toArray, List.set_cons_zero, List.set_cons_succ, List.getElem_toArray, List.getElem_cons_zero, List.getElem_cons_succ]
  refine rest_take (i := 34) (v := _) all_wide (noDefers_of (by kernel_rfl)) rfl (by kernel_rfl) (by kernel_rfl) (by kernel_rfl) (fun _ _ _ h => h) (Or.inl ⟨by rfl, by intro w hSw; clear hSw; go_simp; first | done | with_reducible rfl⟩) hHeld ?_
  change RestIn _ _ _ _ _ _ _ 22 #[true, true, true, true, true, true, true, true, true, true, true, true, true, true, true, true, true, true, true, true, true, true, true, true, true, true, true, true, true, true, true, true, true, true, true, false, false, false, false, false, false, false, false, false, false, false, false, false, false, false, false, false, false, false, false, false, false] _ _
  try simp only [Act.put, List.setIfInBounds_toArray, List.set_cons_zero, List.set_cons_succ, List.getElem_toArray, List.getElem_cons_zero, List.getElem_cons_succ]
  refine rest_take (i := 37) (v := _) all_wide (noDefers_of (by kernel_rfl)) rfl (by kernel_rfl) (by kernel_rfl) (by kernel_rfl) (fun _ _ _ h => h) (Or.inl ⟨by rfl, by intro w hSw; clear hSw; go_simp; first | done | with_reducible rfl⟩) hHeld ?_
  change RestIn _ _ _ _ _ _ _ 21 #[true, true, true, true, true, true, true, true, true, true, true, true, true, true, true, true, true, true, true, true, true, true, true, true, true, true, true, true, true, true, true, true, true, true, true, false, false, true, false, false, false, false, false, false, false, false, false, false, false, false, false, false, false, false, false, false, false] _ _
  try simp only [Act.put, List.setIfInBounds_toArray, List.set_cons_zero, List.set_cons_succ, List.getElem_toArray, List.getElem_cons_zero, List.getElem_cons_succ]
  refine rest_take (i := 38) (v := _) all_wide (noDefers_of (by kernel_rfl)) rfl (by kernel_rfl) (by kernel_rfl) (by kernel_rfl) (fun _ _ _ h => h) (Or.inl ⟨by rfl, by intro w hSw; (obtain ⟨q0, _⟩ := hSw; have q0x0 := q0.cell 0; have q0x1 := q0.cell 1; simp at q0x0 q0x1); go_simp; first | done | with_reducible rfl⟩) hHeld ?_
  change RestIn _ _ _ _ _ _ _ 20 #[true, true, true, true, true, true, true, true, true, true, true, true, true, true, true, true, true, true, true, true, true, true, true, true, true, true, true, true, true, true, true, true, true, true, true, false, false, true, true, false, false, false, false, false, false, false, false, false, false, false, false, false, false, false, false, false, false] _ _
  try simp only [Act.put, List.setIfInBounds_toArray, List.set_cons_zero, List.set_cons_succ, List.getElem_toArray, List.getElem_cons_zero, List.getElem_cons_succ]
  refine rest_ready (rs := [35]) (by kernel_rfl) (by simp) ?_
  refine AllRest.cons rfl (fun K hK => ?_) AllRest.nil
  go_simp
  gi_wp2_with ((refine ⟨trivial, ?_⟩; gi_at_call 34; (with_reducible refine (callsIn_wide.2 (soil_rs _)).mono ?_); rintro e wn ⟨As, rfl, hss, hb⟩))
  refine hK.out _ _ ?_ (fun hHeld' => ?_)
  · exact ⟨hHeld.1.below hb hHeld.1.lt, (hHeld.2).trans (hb.mono (hHeld.2).size)⟩
  clear hK K
  change RestIn _ _ _ _ _ _ _ 19 #[true, true, true, true, true, true, true, true, true, true, true, true, true, true, true, true, true, true, true, true, true, true, true, true, true, true, true, true, true, true, true, true, true, true, true, true, false, true, true, false, false, false, false, false, false, false, false, false, false, false, false, false, false, false, false, false, false] _ _
  try simp only [Act.put, List.setIfInBounds_toArray, List.set_cons_zero, List.set_cons_succ, List.getElem_toArray, List.getElem_cons_zero, List.getElem_cons_succ]
  clear hHeld
  have hHeld := hHeld'
  clear hHeld'
  have hNow := (hHeld.2)
  try have kP := kP.below hb kP.lt
  refine rest_ready (rs := [36]) (by kernel_rfl) (by simp) ?_
  refine AllRest.cons rfl (fun K hK => ?_) AllRest.nil
  go_simp
  gi_wp2_with ((refine ⟨trivial, ?_⟩; gi_at_call 38; (with_reducible refine (callsIn_wide.2 (four_any _)).mono ?_); rintro e wn ⟨Af, rfl, htf, hb⟩))
  refine hK.out _ _ ?_ (fun hHeld' => ?_)
  · exact ⟨hHeld.1.below hb hHeld.1.lt, (hHeld.2).trans (hb.mono (hHeld.2).size)⟩
  clear hK K
  change RestIn _ _ _ _ _ _ _ 18 #[true, true, true, true, true, true, true, true, true, true, true, true, true, true, true, true, true, true, true, true, true, true, true, true, true, true, true, true, true, true, true, true, true, true, true, true, true, true, true, false, false, false, false, false, false, false, false, false, false, false, false, false, false, false, false, false, false] _ _
  try simp only [Act.put, List.setIfInBounds_toArray, List.set_cons_zero, List.set_cons_succ, List.getElem_toArray, List.getElem_cons_zero, List.getElem_cons_succ]
  clear hHeld
  have hHeld := hHeld'
  clear hHeld'
  have hNow := (hHeld.2)
  have hss := hss.to hb
  try have kP := kP.below hb kP.lt
  refine rest_ready (rs := [39]) (by kernel_rfl) (by simp) ?_
  refine AllRest.cons rfl (fun K hK => ?_) AllRest.nil
  go_simp
  gi_wp2_with ((refine ⟨trivial, ?_⟩; gi_at_call 32; (with_reducible refine (callsIn_wide.2 (nm_PW1 As 2 Af 1 _ hss htf)).mono ?_); rintro e wn ⟨rfl, hb⟩))
  refine hK.out _ _ ?_ (fun hHeld' => ?_)
  · exact ⟨hHeld.1.below hb hHeld.1.lt, (hHeld.2).trans (hb.mono (hHeld.2).size)⟩
  clear hK K
  change RestIn _ _ _ _ _ _ _ 17 #[true, true, true, true, true, true, true, true, true, true, true, true, true, true, true, true, true, true, true, true, true, true, true, true, true, true, true, true, true, true, true, true, true, true, true, true, true, true, true, true, false, false, false, false, false, false, false, false, false, false, false, false, false, false, false, false, false] _ _
  try simp only [Act.put, List.setIfInBounds_toArray, List.set_cons_zero, List.set_cons_succ, List.getElem_toArray, List.getElem_cons_zero, List.getElem_cons_succ]
  clear hHeld
  have hHeld := hHeld'
  clear hHeld'
  have hNow := (hHeld.2)
  try have kP := kP.below hb kP.lt
  refine rest_take (i := 40) (v := _) all_wide (noDefers_of (by kernel_rfl)) rfl (by kernel_rfl) (by kernel_rfl) (by kernel_rfl) (fun _ _ _ h => h) (Or.inl ⟨by rfl, by intro w hSw; clear hSw; go_simp; first | done | with_reducible rfl⟩) hHeld ?_
  change RestIn _ _ _ _ _ _ _ 16 #[true, true, true, true, true, true, true, true, true, true, true, true, true, true, true, true, true, true, true, true, true, true, true, true, true, true, true, true, true, true, true, true, true, true, true, true, true, true, true, true, true, false, false, false, false, false, false, false, false, false, false, false, false, false, false, false, false] _ _
  try simp only [Act.put, List.setIfInBounds_toArray, List.set_cons_zero, List.set_cons_succ, List.getElem_toArray, List.getElem_cons_zero, List.getElem_cons_succ]
  refine rest_take (i := 41) (v := _) all_wide (noDefers_of (by kernel_rfl)) rfl (by kernel_rfl) (by kernel_rfl) (by kernel_rfl) (fun _ _ _ h => h) (Or.inl ⟨by rfl, by intro w hSw; clear hSw; go_simp; first | done | with_reducible rfl⟩) hHeld ?_
  change RestIn _ _ _ _ _ _ _ 15 #[true, true, true, true, true, true, true, true, true, true, true, true, true, true, true, true, true, true, true, true, true, true, true, true, true, true, true, true, true, true, true, true, true, true, true, true, true, true, true, true, true, true, false, false, false, false, false, false, false, false, false, false, false, false, false, false, false] _ _
  try simp only [Act.put, List.setIfInBounds_toArray, List.set_cons_zero, List.set_cons_succ, List.getElem_toArray, List.getElem_cons_zero, List.getElem_cons_succ]
  refine rest_take (i := 42) (v := _) all_wide (noDefers_of (by kernel_rfl)) rfl (by kernel_rfl) (by kernel_rfl) (by kernel_rfl) (fun _ _ _ h => h) (Or.inl ⟨by rfl, by intro w hSw; clear hSw; go_simp; first | done | with_reducible rfl⟩) hHeld ?_
  change RestIn _ _ _ _ _ _ _ 14 #[true, true, true, true, true, true, true, true, true, true, true, true, true, true, true, true, true, true, true, true, true, true, true, true, true, true, true, true, true, true, true, true, true, true, true, true, true, true, true, true, true, true, true, false, false, false, false, false, false, false, false, false, false, false, false, false, false] _ _
  try simp only [Act.put, List.setIfInBounds_toArray, List.set_cons_zero, List.set_cons_succ, List.getElem_toArray, List.getElem_cons_zero, List.getElem_cons_succ]
  refine rest_take (i := 45) (v := _) all_wide (noDefers_of (by kernel_rfl)) rfl (by kernel_rfl) (by kernel_rfl) (by kernel_rfl) (fun _ _ _ h => h) (Or.inl ⟨by rfl, by intro w hSw; clear hSw; go_simp; first | done | with_reducible rfl⟩) hHeld ?_
  change RestIn _ _ _ _ _ _ _ 13 #[true, true, true, true, true, true, true, true, true, true, true, true, true, true, true, true, true, true, true, true, true, true, true, true, true, true, true, true, true, true, true, true, true, true, true, true, true, true, true, true, true, true, true, false, false, true, false, false, false, false, false, false, false, false, false, false, false] _ _
  try simp only [Act.put, List.setIfInBounds_toArray, List.set_cons_zero, List.set_cons_succ, List.getElem_toArray, List.getElem_cons_zero, List.getElem_cons_succ]
  refine rest_take (i := 46) (v := _) all_wide (noDefers_of (by kernel_rfl)) rfl (by kernel_rfl) (by kernel_rfl) (by kernel_rfl) (fun _ _ _ h => h) (Or.inl ⟨by rfl, by intro w hSw; clear hSw; go_simp; first | done | with_reducible rfl⟩) hHeld ?_
  change RestIn _ _ _ _ _ _ _ 12 #[true, true, true, true, true, true, true, true, true, true, true, true, true, true, true, true, true, true, true, true, true, true, true, true, true, true, true, true, true, true, true, true, true, true, true, true, true, true, true, true, true, true, true, false, false, true, true, false, false, false, false, false, false, false, false, false, false] _ _
  try simp only [Act.put, List.setIfInBounds_toArray, List.set_cons_zero, List.set_cons_succ, List.getElem_toArray, List.getElem_cons_zero, List.getElem_cons_succ]
  refine rest_ready (rs := [43]) (by kernel_rfl) (by simp) ?_
  refine AllRest.cons rfl (fun K hK => ?_) AllRest.nil
  go_simp
  gi_wp2_with ((refine ⟨trivial, ?_⟩; gi_at_call 34; (with_reducible refine (callsIn_wide.2 (soil_rs _)).mono ?_); rintro e wn ⟨As, rfl, hss, hb⟩))
  refine hK.out _ _ ?_ (fun hHeld' => ?_)
  · exact ⟨hHeld.1.below hb hHeld.1.lt, (hHeld.2).trans (hb.mono (hHeld.2).size)⟩
  clear hK K
  change RestIn _ _ _ _ _ _ _ 11 #[true, true, true, true, true, true, true, true, true, true, true, true, true, true, true, true, true, true, true, true, true, true, true, true, true, true, true, true, true, true, true, true, true, true, true, true, true, true, true, true, true, true, true, true, false, true, true, false, false, false, false, false, false, false, false, false, false] _ _
  try simp only [Act.put, List.setIfInBounds_toArray, List.set_cons_zero, List.set_cons_succ, List.getElem_toArray, List.getElem_cons_zero, List.getElem_cons_succ]
  clear hHeld
  have hHeld := hHeld'
  clear hHeld'
  have hNow := (hHeld.2)
  try have kP := kP.below hb kP.lt
  refine rest_ready (rs := [44]) (by kernel_rfl) (by simp) ?_
  refine AllRest.cons rfl (fun K hK => ?_) AllRest.nil
  go_simp
  gi_wp2_with ((refine ⟨trivial, ?_⟩; gi_at_call 38; (with_reducible refine (callsIn_wide.2 (four_any _)).mono ?_); rintro e wn ⟨Af, rfl, htf, hb⟩))
  refine hK.out _ _ ?_ (fun hHeld' => ?_)
  · exact ⟨hHeld.1.below hb hHeld.1.lt, (hHeld.2).trans (hb.mono (hHeld.2).size)⟩
  clear hK K
  change RestIn _ _ _ _ _ _ _ 10 #[true, true, true, true, true, true, true, true, true, true, true, true, true, true, true, true, true, true, true, true, true, true, true, true, true, true, true, true, true, true, true, true, true, true, true, true, true, true, true, true, true, true, true, true, true, true, true, false, false, false, false, false, false, false, false, false, false] _ _
  try simp only [Act.put, List.setIfInBounds_toArray, List.set_cons_zero, List.set_cons_succ, List.getElem_toArray, List.getElem_cons_zero, List.getElem_cons_succ]
  clear hHeld
  have hHeld := hHeld'
  clear hHeld'
  have hNow := (hHeld.2)
  have hss := hss.to hb
  try have kP := kP.below hb kP.lt
  refine rest_ready (rs := [47]) (by kernel_rfl) (by simp) ?_
  refine AllRest.cons rfl (fun K hK => ?_) AllRest.nil
  go_simp
  gi_wp2_with ((refine ⟨trivial, ?_⟩; gi_at_call 32; (with_reducible refine (callsIn_wide.2 (nm_PW2 As 2 Af 1 _ hss htf)).mono ?_); rintro e wn ⟨rfl, hb⟩))
  refine hK.out _ _ ?_ (fun hHeld' => ?_)
  · exact ⟨hHeld.1.below hb hHeld.1.lt, (hHeld.2).trans (hb.mono (hHeld.2).size)⟩
  clear hK K
  change RestIn _ _ _ _ _ _ _ 9 #[true, true, true, true, true, true, true, true, true, true, true, true, true, true, true, true, true, true, true, true, true, true, true, true, true, true, true, true, true, true, true, true, true, true, true, true, true, true, true, true, true, true, true, true, true, true, true, true, false, false, false, false, false, false, false, false, false] _ _
  try simp only [Act.put, List.setIfInBounds_toArray, List.set_cons_zero, List.set_cons_succ, List.getElem_toArray, List.getElem_cons_zero, List.getElem_cons_succ]
  clear hHeld
  have hHeld := hHeld'
  clear hHeld'
  have hNow := (hHeld.2)
  try have kP := kP.below hb kP.lt
  refine rest_take (i := 48) (v := _) all_wide (noDefers_of (by kernel_rfl)) rfl (by kernel_rfl) (by kernel_rfl) (by kernel_rfl) (fun _ _ _ h => h) (Or.inl ⟨by rfl, by intro w hSw; clear hSw; go_simp; first | done | with_reducible rfl⟩) hHeld ?_
  change RestIn _ _ _ _ _ _ _ 8 #[true, true, true, true, true, true, true, true, true, true, true, true, true, true, true, true, true, true, true, true, true, true, true, true, true, true, true, true, true, true, true, true, true, true, true, true, true, true, true, true, true, true, true, true, true, true, true, true, true, false, false, false, false, false, false, false, false] _ _
  try simp only [Act.put, List.setIfInBounds_toArray, List.set_cons_zero, List.set_cons_succ, List.getElem_toArray, List.getElem_cons_zero, List.getElem_cons_succ]
  refine rest_take (i := 49) (v := _) all_wide (noDefers_of (by kernel_rfl)) rfl (by kernel_rfl) (by kernel_rfl) (by kernel_rfl) (fun _ _ _ h => h) (Or.inl ⟨by rfl, by intro w hSw; clear hSw; go_simp; first | done | with_reducible rfl⟩) hHeld ?_
  change RestIn _ _ _ _ _ _ _ 7 #[true, true, true, true, true, true, true, true, true, true, true, true, true, true, true, true, true, true, true, true, true, true, true, true, true, true, true, true, true, true, true, true, true, true, true, true, true, true, true, true, true, true, true, true, true, true, true, true, true, true, false, false, false, false, false, false, false] _ _
  try simp only [Act.put, List.setIfInBounds_toArray, List.set_cons_zero, List.set_cons_succ, List.getElem_toArray, List.getElem_cons_zero, List.getElem_cons_succ]
  refine rest_take (i := 50) (v := _) all_wide (noDefers_of (by kernel_rfl)) rfl (by kernel_rfl) (by kernel_rfl) (by kernel_rfl) (fun _ _ _ h => h) (Or.inl ⟨by rfl, by intro w hSw; clear hSw; go_simp; first | done | with_reducible rfl⟩) hHeld ?_
  change RestIn _ _ _ _ _ _ _ 6 #[true, true, true, true, true, true, true, true, true, true, true, true, true, true, true, true, true, true, true, true, true, true, true, true, true, true, true, true, true, true, true, true, true, true, true, true, true, true, true, true, true, true, true, true, true, true, true, true, true, true, true, false, false, false, false, false, false] _ _
  try simp only [Act.put, List.setIfInBounds_toArray, List.set_cons_zero, List.set_cons_succ, List.getElem_toArray, List.getElem_cons_zero, List.getElem_cons_succ]
  refine rest_take (i := 53) (v := _) all_wide (noDefers_of (by kernel_rfl)) rfl (by kernel_rfl) (by kernel_rfl) (by kernel_rfl) (fun _ _ _ h => h) (Or.inl ⟨by rfl, by intro w hSw; clear hSw; go_simp; first | done | with_reducible rfl⟩) hHeld ?_
  change RestIn _ _ _ _ _ _ _ 5 #[true, true, true, true, true, true, true, true, true, true, true, true, true, true, true, true, true, true, true, true, true, true, true, true, true, true, true, true, true, true, true, true, true, true, true, true, true, true, true, true, true, true, true, true, true, true, true, true, true, true, true, false, false, true, false, false, false] _ _
  try simp only [Act.put, List.setIfInBounds_toArray, List.set_cons_zero, List.set_cons_succ, List.getElem_toArray, List.getElem_cons_zero, List.getElem_cons_succ]
  refine rest_take (i := 54) (v := _) all_wide (noDefers_of (by kernel_rfl)) rfl (by kernel_rfl) (by kernel_rfl) (by kernel_rfl) (fun _ _ _ h => h) (Or.inl ⟨by rfl, by intro w hSw; clear hSw; go_simp; first | done | with_reducible rfl⟩) hHeld ?_
  change RestIn _ _ _ _ _ _ _ 4 #[true, true, true, true, true, true, true, true, true, true, true, true, true, true, true, true, true, true, true, true, true, true, true, true, true, true, true, true, true, true, true, true, true, true, true, true, true, true, true, true, true, true, true, true, true, true, true, true, true, true, true, false, false, true, true, false, false] _ _
  try simp only [Act.put, List.setIfInBounds_toArray, List.set_cons_zero, List.set_cons_succ, List.getElem_toArray, List.getElem_cons_zero, List.getElem_cons_succ]
  refine rest_ready (rs := [51]) (by kernel_rfl) (by simp) ?_
  refine AllRest.cons rfl (fun K hK => ?_) AllRest.nil
  go_simp
  gi_wp2_with ((refine ⟨trivial, ?_⟩; gi_at_call 34; (with_reducible refine (callsIn_wide.2 (soil_rs _)).mono ?_); rintro e wn ⟨As, rfl, hss, hb⟩))
  refine hK.out _ _ ?_ (fun hHeld' => ?_)
  · exact ⟨hHeld.1.below hb hHeld.1.lt, (hHeld.2).trans (hb.mono (hHeld.2).size)⟩
  clear hK K
  change RestIn _ _ _ _ _ _ _ 3 #[true, true, true, true, true, true, true, true, true, true, true, true, true, true, true, true, true, true, true, true, true, true, true, true, true, true, true, true, true, true, true, true, true, true, true, true, true, true, true, true, true, true, true, true, true, true, true, true, true, true, true, true, false, true, true, false, false] _ _
  try simp only [Act.put, List.setIfInBounds_toArray, List.set_cons_zero, List.set_cons_succ, List.getElem_toArray, List.getElem_cons_zero, List.getElem_cons_succ]
  clear hHeld
  have hHeld := hHeld'
  clear hHeld'
  have hNow := (hHeld.2)
  try have kP := kP.below hb kP.lt
  refine rest_ready (rs := [52]) (by kernel_rfl) (by simp) ?_
  refine AllRest.cons rfl (fun K hK => ?_) AllRest.nil
  go_simp
  gi_wp2_with ((refine ⟨trivial, ?_⟩; gi_at_call 38; (with_reducible refine (callsIn_wide.2 (four_any _)).mono ?_); rintro e wn ⟨Af, rfl, htf, hb⟩))
  refine hK.out _ _ ?_ (fun hHeld' => ?_)
  · exact ⟨hHeld.1.below hb hHeld.1.lt, (hHeld.2).trans (hb.mono (hHeld.2).size)⟩
  clear hK K
  change RestIn _ _ _ _ _ _ _ 2 #[true, true, true, true, true, true, true, true, true, true, true, true, true, true, true, true, true, true, true, true, true, true, true, true, true, true, true, true, true, true, true, true, true, true, true, true, true, true, true, true, true, true, true, true, true, true, true, true, true, true, true, true, true, true, true, false, false] _ _
  try simp only [Act.put, List.setIfInBounds_toArray, List.set_cons_zero, List.set_cons_succ, List.getElem_toArray, List.getElem_cons_zero, List.getElem_cons_succ]
  clear hHeld
  have hHeld := hHeld'
  clear hHeld'
  have hNow := (hHeld.2)
  have hss := hss.to hb
  try have kP := kP.below hb kP.lt
  refine rest_ready (rs := [55]) (by kernel_rfl) (by simp) ?_
  refine AllRest.cons rfl (fun K hK => ?_) AllRest.nil
  go_simp
  gi_wp2_with ((refine ⟨trivial, ?_⟩; gi_at_call 32; (with_reducible refine (callsIn_wide.2 (nm_PW3 As 2 Af 1 _ hss htf)).mono ?_); rintro e wn ⟨rfl, hb⟩))
  refine hK.out _ _ ?_ (fun hHeld' => ?_)
  · exact ⟨hHeld.1.below hb hHeld.1.lt, (hHeld.2).trans (hb.mono (hHeld.2).size)⟩
  clear hK K
  change RestIn _ _ _ _ _ _ _ 1 #[true, true, true, true, true, true, true, true, true, true, true, true, true, true, true, true, true, true, true, true, true, true, true, true, true, true, true, true, true, true, true, true, true, true, true, true, true, true, true, true, true, true, true, true, true, true, true, true, true, true, true, true, true, true, true, true, false] _ _
  try simp only [Act.put, List.setIfInBounds_toArray, List.set_cons_zero, List.set_cons_succ, List.getElem_toArray, List.getElem_cons_zero, List.getElem_cons_succ]
  clear hHeld
  have hHeld := hHeld'
  clear hHeld'
  have hNow := (hHeld.2)
  try have kP := kP.below hb kP.lt
  refine rest_take (i := 56) (v := _) all_wide (noDefers_of (by kernel_rfl)) rfl (by kernel_rfl) (by kernel_rfl) (by kernel_rfl) (fun _ _ _ h => h) (Or.inl ⟨by rfl, by intro w hSw; clear hSw; go_simp; first | done | with_reducible rfl⟩) hHeld ?_
  change RestIn _ _ _ _ _ _ _ 0 #[true, true, true, true, true, true, true, true, true, true, true, true, true, true, true, true, true, true, true, true, true, true, true, true, true, true, true, true, true, true, true, true, true, true, true, true, true, true, true, true, true, true, true, true, true, true, true, true, true, true, true, true, true, true, true, true, true] _ _
  try simp only [Act.put, List.setIfInBounds_toArray, List.set_cons_zero, List.set_cons_succ, List.getElem_toArray, List.getElem_cons_zero, List.getElem_cons_succ]
  refine rest_done (by kernel_rfl) ?_
  have HB0 := Lib.hid (HB0.out.trans (hHeld.2.mono HB0.out.size))
  have HBad := HBad.to hHeld.2
  clear hHeld hNow hLast kw hsS hss htf kP hb
  go_upto_region 15 with fail
  have hX := (Below.refl wn.heap.size wn).alloc (Nat.le_refl _) (.cells #[.int .i64 (-300), .int .i64 100] 58)
  have kx := Blk.new wn 58 #[.int .i64 (-300), .int .i64 100]
  have HB0 := Lib.hid (HB0.out.trans (hX.mono HB0.out.size))
  have HBad := HBad.to hX
  refine name_world (motive := fun W => Code.wp _ _ _ _ W) _ ?_
  intro W0 hW
  have HB0 := Lib.hid (hW.below HB0.out)
  have kx := hW.blk kx
  have HBad := HBad.to (hW.below (Below.refl _ _))
  clear hX hW
  obtain ⟨K, hK⟩ : ∃ K, wn.heap.size = K := ⟨_, rfl⟩
  rw [hK] at kx
  simp only [hK]
  clear hK
  refine (wpIn_wide (n := 9)).1 ?_
  refine tail15 (fun w' => Below W0.heap.size W0 w') ?tl ?rg
  case tl =>
    intro v171 v172 v173 v174 v175 v176 v177 v178 v179 v180 v181 v182 v183 v184 v185 v186 v187 v188 v189 v190 v191 v192 w15 hT
    simp only [Act.put, List.setIfInBounds_toArray, List.set_cons_zero, List.set_cons_succ]
    have HB0 := Lib.hid (HB0.out.trans (hT.mono HB0.out.size))
    have HBad := HBad.to hT
    clear hT kx
    have hX := Below.refl w15.heap.size w15
    go_upto_region 18 with (first | (go_at_call 33; (refine (nm_HoldsB A5 c5 _ HBad).mono ?_); rintro e wq ⟨rfl, hb⟩; have hX := sh_next hX hb))
    have HB0 := Lib.hid (HB0.out.trans (hX.mono HB0.out.size))
    refine name_world (motive := fun W => Code.wp _ _ _ _ W) _ ?_
    intro W10 hW
    have HB0 := Lib.hid (hW.below HB0.out)
    clear hX hW
    have hX := Below.refl W10.heap.size W10
    clear hb HBad
    go_upto_region 19 with (first | (go_at_call 34; refine (soil_rs _).mono ?_; rintro e ws ⟨As, rfl, hss, hb⟩; have hX := sh_next hX hb) | (go_at_call 35; (refine (nm_Deep2 As 2 _ hss).mono ?_); rintro e wq ⟨rfl, hb⟩; have hX := sh_next hX hb))
    have HB0 := Lib.hid (HB0.out.trans (hX.mono HB0.out.size))
    refine name_world (motive := fun W => Code.wp _ _ _ _ W) _ ?_
    intro W11 hW
    have HB0 := Lib.hid (hW.below HB0.out)
    clear hX hW
    have hX := Below.refl W11.heap.size W11
    clear hss hb
    go_upto_region 20 with (first | (go_at_call 34; refine (soil_rs _).mono ?_; rintro e ws ⟨As, rfl, hss, hb⟩; have hX := sh_next hX hb) | (go_at_call 38; refine (four_any _).mono ?_; rintro e wq ⟨Af, rfl, htf, hb⟩; have hss := hss.to hb; have hX := sh_next hX hb) | (go_at_call 41; (refine (HSC.out As Af 2 1 _ hss htf).mono ?_); rintro e wq ⟨rfl, hb⟩; have hX := sh_next hX hb))
    have HB0 := Lib.hid (HB0.out.trans (hX.mono HB0.out.size))
    refine name_world (motive := fun W => Code.wp _ _ _ _ W) _ ?_
    intro W12 hW
    have HB0 := Lib.hid (hW.below HB0.out)
    clear hX hW
    have hX := Below.refl W12.heap.size W12
    clear hss htf hb
    go_upto_region 21 with (first | (go_at_call 34; refine (soil_rs _).mono ?_; rintro e ws ⟨As, rfl, hss, hb⟩; have hX := sh_next hX hb) | (go_at_call 38; refine (four_any _).mono ?_; rintro e wq ⟨Af, rfl, htf, hb⟩; have hss := hss.to hb; have hX := sh_next hX hb) | (go_at_call 40; (refine (nm_ReachB As 2 Af 1 _ hss htf).mono ?_); rintro e wq ⟨rfl, hb⟩; have hX := sh_next hX hb))
    have HB0 := Lib.hid (HB0.out.trans (hX.mono HB0.out.size))
    refine name_world (motive := fun W => Code.wp _ _ _ _ W) _ ?_
    intro W13 hW
    have HB0 := Lib.hid (hW.below HB0.out)
    clear hX hW
    have hX := Below.refl W13.heap.size W13
    clear hss htf hb
    go_wp2_with (first | (go_at_call 44; (refine (nm_CT _).mono ?_); rintro e wq ⟨rfl, hb⟩; have hX := sh_next hX hb) | (go_at_call 45; (refine (HCS.out _).mono ?_); rintro e wq ⟨rfl, hb⟩; have hX := sh_next hX hb) | (go_at_call 20; (refine (wakes_any _).mono ?_); rintro e wq ⟨rfl, hb⟩; have hX := sh_next hX hb))
    go_ret
    exact ⟨rfl, HB0.out.trans (hX.mono HB0.out.size)⟩
  intro TAIL
  simp only [Act.put, List.setIfInBounds_toArray, List.set_cons_zero, List.set_cons_succ] at TAIL
  have hLast := trivial
  refine region_rest (S := (fun w' => Blk w' (K) 58 #[.int .i64 (-300), .int .i64 100] ∧ Below W0.heap.size W0 w')) hmx ?_ (fun hHeld => ?_)
  · exact ⟨kx.drew, (Below.refl W0.heap.size W0).drew⟩
  change RestIn _ _ _ _ _ _ _ 23 #[false, false, false, false, false, false, false, false, false, false, false, false, false, false, false, false, false, false, false, false, false, false, false] _ (World.drew _)
  refine rest_take (i := 2) (v := _) all_wide (noDefers_of (by kernel_rfl)) rfl (by kernel_rfl) (by kernel_rfl) (by kernel_rfl) (fun _ _ _ h => h) (Or.inl ⟨by rfl, by intro w hSw; (obtain ⟨q0, _⟩ := hSw; have q0x0 := q0.cell 0; have q0x1 := q0.cell 1; simp at q0x0 q0x1); go_simp; first | done | with_reducible rfl⟩) hHeld ?_
  change RestIn _ _ _ _ _ _ _ 22 #[false, false, true, false, false, false, false, false, false, false, false, false, false, false, false, false, false, false, false, false, false, false, false] _ _
  try simp only [Act.put, List.setIfInBounds_toArray, List.set_cons_zero, List.set_cons_succ, List.getElem_toArray, List.getElem_cons_zero, List.getElem_cons_succ]
  refine rest_ready (rs := [0, 3]) (by kernel_rfl) (by simp) ?_
  refine AllRest.cons rfl (fun K hK => ?_) ?_
  · go_simp
    gi_wp2_with ((refine ⟨trivial, ?_⟩; gi_at_call 34; (with_reducible refine (callsIn_wide.2 (soil_rs _)).mono ?_); rintro e wn ⟨As, rfl, hss, hb⟩))
    refine hK.out _ _ ?_ (fun hHeld' => ?_)
    · exact ⟨hHeld.1.below hb hHeld.1.lt, (hHeld.2).trans (hb.mono (hHeld.2).size)⟩
    clear hK K
    change RestIn _ _ _ _ _ _ _ 21 #[true, false, true, false, false, false, false, false, false, false, false, false, false, false, false, false, false, false, false, false, false, false, false] _ _
    try simp only [Act.put, List.setIfInBounds_toArray, List.set_cons_zero, List.set_cons_succ, List.getElem_toArray, List.getElem_cons_zero, List.getElem_cons_succ]
    clear hHeld
    have hHeld := hHeld'
    clear hHeld'
    have hNow := (hHeld.2)
    try have kB := kB.below hb kB.lt
    refine rest_ready (rs := [1, 3]) (by kernel_rfl) (by simp) ?_
    refine AllRest.cons rfl (fun K hK => ?_) ?_
    · go_simp
      gi_wp2_with ((refine ⟨trivial, ?_⟩; gi_at_call 38; (with_reducible refine (callsIn_wide.2 (four_any _)).mono ?_); rintro e wn ⟨Af, rfl, htf, hb⟩))
      refine hK.out _ _ ?_ (fun hHeld' => ?_)
      · exact ⟨hHeld.1.below hb hHeld.1.lt, (hHeld.2).trans (hb.mono (hHeld.2).size)⟩
      clear hK K
      change RestIn _ _ _ _ _ _ _ 20 #[true, true, true, false, false, false, false, false, false, false, false, false, false, false, false, false, false, false, false, false, false, false, false] _ _
      try simp only [Act.put, List.setIfInBounds_toArray, List.set_cons_zero, List.set_cons_succ, List.getElem_toArray, List.getElem_cons_zero, List.getElem_cons_succ]
      clear hHeld
      have hHeld := hHeld'
      clear hHeld'
      have hNow := (hHeld.2)
      have hss := hss.to hb
      try have kB := kB.below hb kB.lt
      refine rest_ready (rs := [3]) (by kernel_rfl) (by simp) ?_
      refine AllRest.cons rfl (fun K hK => ?_) AllRest.nil
      have kBg := (hHeld.2).size
      have kB := blk_new_of (hHeld.2) 3 #[.int .i64 30, .int .i64 0, .int .i64 0, .int .i64 10]
      have hOld := (hHeld.2)
      go_simp
      refine hK.out _ _ ?_ (fun hHeld' => ?_)
      · exact (fun (hbel : Below W0.heap.size W0 _) => ⟨kx.below hbel kx.lt, hbel⟩) ((hHeld.2).alloc (hHeld.2).size _)
      clear hK K
      change RestIn _ _ _ _ _ _ _ 19 #[true, true, true, true, false, false, false, false, false, false, false, false, false, false, false, false, false, false, false, false, false, false, false] _ _
      try simp only [Act.put, List.setIfInBounds_toArray, List.set_cons_zero, List.set_cons_succ, List.getElem_toArray, List.getElem_cons_zero, List.getElem_cons_succ]
      clear hHeld
      have hHeld := hHeld'
      clear hHeld'
      have hNow := (hHeld.2)
      try simp at kBg
      try have hss := nwS hss (.cells #[.int .i64 30, .int .i64 0, .int .i64 0, .int .i64 10] 3)
      try have htf := nwF htf (.cells #[.int .i64 30, .int .i64 0, .int .i64 0, .int .i64 10] 3)
      refine rest_take (i := 4) (v := _) all_wide (noDefers_of (by kernel_rfl)) rfl (by kernel_rfl) (by kernel_rfl) (by kernel_rfl) (fun _ _ _ h => h) (Or.inl ⟨by rfl, by intro w hSw; clear hSw; go_simp; first | done | with_reducible rfl⟩) hHeld ?_
      change RestIn _ _ _ _ _ _ _ 18 #[true, true, true, true, true, false, false, false, false, false, false, false, false, false, false, false, false, false, false, false, false, false, false] _ _
      try simp only [Act.put, List.setIfInBounds_toArray, List.set_cons_zero, List.set_cons_succ, List.getElem_toArray, List.getElem_cons_zero, List.getElem_cons_succ]
      refine rest_ready (rs := [5]) (by kernel_rfl) (by simp) ?_
      refine AllRest.cons rfl (fun K hK => ?_) AllRest.nil
      go_simp
      gi_wp2_with ((refine ⟨trivial, ?_⟩; gi_at_call 31; (refine (callsIn_wide.2 (HB1.out As Af 2 1 _ _ hss htf kB)).mono ?_); rintro e wn ⟨rfl, hb⟩))
      refine hK.out _ _ ?_ (fun hHeld' => ?_)
      · exact ⟨hHeld.1.below hb hHeld.1.lt, (hHeld.2).trans (hb.mono (hHeld.2).size)⟩
      clear hK K
      change RestIn _ _ _ _ _ _ _ 17 #[true, true, true, true, true, true, false, false, false, false, false, false, false, false, false, false, false, false, false, false, false, false, false] _ _
      try simp only [Act.put, List.setIfInBounds_toArray, List.set_cons_zero, List.set_cons_succ, List.getElem_toArray, List.getElem_cons_zero, List.getElem_cons_succ]
      clear hHeld
      have hHeld := hHeld'
      clear hHeld'
      have hNow := (hHeld.2)
      try have kB := kB.below hb kB.lt
      refine rest_take (i := 6) (v := _) all_wide (noDefers_of (by kernel_rfl)) rfl (by kernel_rfl) (by kernel_rfl) (by kernel_rfl) (fun _ _ _ h => h) (Or.inl ⟨by rfl, by intro w hSw; clear hSw; go_simp; first | done | with_reducible rfl⟩) hHeld ?_
      change RestIn _ _ _ _ _ _ _ 16 #[true, true, true, true, true, true, true, false, false, false, false, false, false, false, false, false, false, false, false, false, false, false, false] _ _
      try simp only [Act.put, List.setIfInBounds_toArray, List.set_cons_zero, List.set_cons_succ, List.getElem_toArray, List.getElem_cons_zero, List.getElem_cons_succ]
      refine rest_take (i := 7) (v := _) all_wide (noDefers_of (by kernel_rfl)) rfl (by kernel_rfl) (by kernel_rfl) (by kernel_rfl) (fun _ _ _ h => h) (Or.inl ⟨by rfl, by intro w hSw; clear hSw; go_simp; first | done | with_reducible rfl⟩) hHeld ?_
      change RestIn _ _ _ _ _ _ _ 15 #[true, true, true, true, true, true, true, true, false, false, false, false, false, false, false, false, false, false, false, false, false, false, false] _ _
      try simp only [Act.put, List.setIfInBounds_toArray, List.set_cons_zero, List.set_cons_succ, List.getElem_toArray, List.getElem_cons_zero, List.getElem_cons_succ]
      refine rest_take (i := 10) (v := _) all_wide (noDefers_of (by kernel_rfl)) rfl (by kernel_rfl) (by kernel_rfl) (by kernel_rfl) (fun _ _ _ h => h) (Or.inl ⟨by rfl, by intro w hSw; (obtain ⟨q0, _⟩ := hSw; have q0x0 := q0.cell 0; have q0x1 := q0.cell 1; simp at q0x0 q0x1); go_simp; first | done | with_reducible rfl⟩) hHeld ?_
      change RestIn _ _ _ _ _ _ _ 14 #[true, true, true, true, true, true, true, true, false, false, true, false, false, false, false, false, false, false, false, false, false, false, false] _ _
      try simp only [Act.put, List.setIfInBounds_toArray, List.set_cons_zero, List.set_cons_succ, List.getElem_toArray, List.getElem_cons_zero, List.getElem_cons_succ]
      refine rest_ready (rs := [8, 11]) (by kernel_rfl) (by simp) ?_
      refine AllRest.cons rfl (fun K hK => ?_) ?_
      · go_simp
        gi_wp2_with ((refine ⟨trivial, ?_⟩; gi_at_call 34; (with_reducible refine (callsIn_wide.2 (soil_rs _)).mono ?_); rintro e wn ⟨As, rfl, hss, hb⟩))
        refine hK.out _ _ ?_ (fun hHeld' => ?_)
        · exact ⟨hHeld.1.below hb hHeld.1.lt, (hHeld.2).trans (hb.mono (hHeld.2).size)⟩
        clear hK K
        change RestIn _ _ _ _ _ _ _ 13 #[true, true, true, true, true, true, true, true, true, false, true, false, false, false, false, false, false, false, false, false, false, false, false] _ _
        try simp only [Act.put, List.setIfInBounds_toArray, List.set_cons_zero, List.set_cons_succ, List.getElem_toArray, List.getElem_cons_zero, List.getElem_cons_succ]
        clear hHeld
        have hHeld := hHeld'
        clear hHeld'
        have hNow := (hHeld.2)
        try have kB := kB.below hb kB.lt
        refine rest_ready (rs := [9, 11]) (by kernel_rfl) (by simp) ?_
        refine AllRest.cons rfl (fun K hK => ?_) ?_
        · go_simp
          gi_wp2_with ((refine ⟨trivial, ?_⟩; gi_at_call 38; (with_reducible refine (callsIn_wide.2 (four_any _)).mono ?_); rintro e wn ⟨Af, rfl, htf, hb⟩))
          refine hK.out _ _ ?_ (fun hHeld' => ?_)
          · exact ⟨hHeld.1.below hb hHeld.1.lt, (hHeld.2).trans (hb.mono (hHeld.2).size)⟩
          clear hK K
          change RestIn _ _ _ _ _ _ _ 12 #[true, true, true, true, true, true, true, true, true, true, true, false, false, false, false, false, false, false, false, false, false, false, false] _ _
          try simp only [Act.put, List.setIfInBounds_toArray, List.set_cons_zero, List.set_cons_succ, List.getElem_toArray, List.getElem_cons_zero, List.getElem_cons_succ]
          clear hHeld
          have hHeld := hHeld'
          clear hHeld'
          have hNow := (hHeld.2)
          have hss := hss.to hb
          try have kB := kB.below hb kB.lt
          refine rest_ready (rs := [11]) (by kernel_rfl) (by simp) ?_
          refine AllRest.cons rfl (fun K hK => ?_) AllRest.nil
          have kBg := (hHeld.2).size
          have kB := blk_new_of (hHeld.2) 3 #[.int .i64 30, .int .i64 0, .int .i64 0, .int .i64 11]
          have hOld := (hHeld.2)
          go_simp
          refine hK.out _ _ ?_ (fun hHeld' => ?_)
          · exact (fun (hbel : Below W0.heap.size W0 _) => ⟨kx.below hbel kx.lt, hbel⟩) ((hHeld.2).alloc (hHeld.2).size _)
          clear hK K
          change RestIn _ _ _ _ _ _ _ 11 #[true, true, true, true, true, true, true, true, true, true, true, true, false, false, false, false, false, false, false, false, false, false, false] _ _
          try simp only [Act.put, List.setIfInBounds_toArray, List.set_cons_zero, List.set_cons_succ, List.getElem_toArray, List.getElem_cons_zero, List.getElem_cons_succ]
          clear hHeld
          have hHeld := hHeld'
          clear hHeld'
          have hNow := (hHeld.2)
          try simp at kBg
          try have hss := nwS hss (.cells #[.int .i64 30, .int .i64 0, .int .i64 0, .int .i64 11] 3)
          try have htf := nwF htf (.cells #[.int .i64 30, .int .i64 0, .int .i64 0, .int .i64 11] 3)
          refine rest_take (i := 12) (v := _) all_wide (noDefers_of (by kernel_rfl)) rfl (by kernel_rfl) (by kernel_rfl) (by kernel_rfl) (fun _ _ _ h => h) (Or.inl ⟨by rfl, by intro w hSw; clear hSw; go_simp; first | done | with_reducible rfl⟩) hHeld ?_
          change RestIn _ _ _ _ _ _ _ 10 #[true, true, true, true, true, true, true, true, true, true, true, true, true, false, false, false, false, false, false, false, false, false, false] _ _
          try simp only [Act.put, List.setIfInBounds_toArray, List.set_cons_zero, List.set_cons_succ, List.getElem_toArray, List.getElem_cons_zero, List.getElem_cons_succ]
          refine rest_ready (rs := [13]) (by kernel_rfl) (by simp) ?_
          refine AllRest.cons rfl (fun K hK => ?_) AllRest.nil
          go_simp
          gi_wp2_with ((refine ⟨trivial, ?_⟩; gi_at_call 31; (refine (callsIn_wide.2 (HB2.out As Af 2 1 _ _ hss htf kB)).mono ?_); rintro e wn ⟨rfl, hb⟩))
          refine hK.out _ _ ?_ (fun hHeld' => ?_)
          · exact ⟨hHeld.1.below hb hHeld.1.lt, (hHeld.2).trans (hb.mono (hHeld.2).size)⟩
          clear hK K
          change RestIn _ _ _ _ _ _ _ 9 #[true, true, true, true, true, true, true, true, true, true, true, true, true, true, false, false, false, false, false, false, false, false, false] _ _
          try simp only [Act.put, List.setIfInBounds_toArray, List.set_cons_zero, List.set_cons_succ, List.getElem_toArray, List.getElem_cons_zero, List.getElem_cons_succ]
          clear hHeld
          have hHeld := hHeld'
          clear hHeld'
          have hNow := (hHeld.2)
          try have kB := kB.below hb kB.lt
          refine rest_take (i := 14) (v := _) all_wide (noDefers_of (by kernel_rfl)) rfl (by kernel_rfl) (by kernel_rfl) (by kernel_rfl) (fun _ _ _ h => h) (Or.inl ⟨by rfl, by intro w hSw; clear hSw; go_simp; first | done | with_reducible rfl⟩) hHeld ?_
          change RestIn _ _ _ _ _ _ _ 8 #[true, true, true, true, true, true, true, true, true, true, true, true, true, true, true, false, false, false, false, false, false, false, false] _ _
          try simp only [Act.put, List.setIfInBounds_toArray, List.set_cons_zero, List.set_cons_succ, List.getElem_toArray, List.getElem_cons_zero, List.getElem_cons_succ]
          refine rest_take (i := 15) (v := _) all_wide (noDefers_of (by kernel_rfl)) rfl (by kernel_rfl) (by kernel_rfl) (by kernel_rfl) (fun _ _ _ h => h) (Or.inl ⟨by rfl, by intro w hSw; clear hSw; go_simp; first | done | with_reducible rfl⟩) hHeld ?_
          change RestIn _ _ _ _ _ _ _ 7 #[true, true, true, true, true, true, true, true, true, true, true, true, true, true, true, true, false, false, false, false, false, false, false] _ _
          try simp only [Act.put, List.setIfInBounds_toArray, List.set_cons_zero, List.set_cons_succ, List.getElem_toArray, List.getElem_cons_zero, List.getElem_cons_succ]
          refine rest_take (i := 18) (v := _) all_wide (noDefers_of (by kernel_rfl)) rfl (by kernel_rfl) (by kernel_rfl) (by kernel_rfl) (fun _ _ _ h => h) (Or.inl ⟨by rfl, by intro w hSw; (obtain ⟨q0, _⟩ := hSw; have q0x0 := q0.cell 0; have q0x1 := q0.cell 1; simp at q0x0 q0x1); go_simp; first | done | with_reducible rfl⟩) hHeld ?_
          change RestIn _ _ _ _ _ _ _ 6 #[true, true, true, true, true, true, true, true, true, true, true, true, true, true, true, true, false, false, true, false, false, false, false] _ _
          try simp only [Act.put, List.setIfInBounds_toArray, List.set_cons_zero, List.set_cons_succ, List.getElem_toArray, List.getElem_cons_zero, List.getElem_cons_succ]
          refine rest_ready (rs := [16, 19]) (by kernel_rfl) (by simp) ?_
          refine AllRest.cons rfl (fun K hK => ?_) ?_
          · go_simp
            gi_wp2_with ((refine ⟨trivial, ?_⟩; gi_at_call 34; (with_reducible refine (callsIn_wide.2 (soil_rs _)).mono ?_); rintro e wn ⟨As, rfl, hss, hb⟩))
            refine hK.out _ _ ?_ (fun hHeld' => ?_)
            · exact ⟨hHeld.1.below hb hHeld.1.lt, (hHeld.2).trans (hb.mono (hHeld.2).size)⟩
            clear hK K
            change RestIn _ _ _ _ _ _ _ 5 #[true, true, true, true, true, true, true, true, true, true, true, true, true, true, true, true, true, false, true, false, false, false, false] _ _
            try simp only [Act.put, List.setIfInBounds_toArray, List.set_cons_zero, List.set_cons_succ, List.getElem_toArray, List.getElem_cons_zero, List.getElem_cons_succ]
            clear hHeld
            have hHeld := hHeld'
            clear hHeld'
            have hNow := (hHeld.2)
            try have kB := kB.below hb kB.lt
            refine rest_ready (rs := [17, 19]) (by kernel_rfl) (by simp) ?_
            refine AllRest.cons rfl (fun K hK => ?_) ?_
            · go_simp
              gi_wp2_with ((refine ⟨trivial, ?_⟩; gi_at_call 38; (with_reducible refine (callsIn_wide.2 (four_any _)).mono ?_); rintro e wn ⟨Af, rfl, htf, hb⟩))
              refine hK.out _ _ ?_ (fun hHeld' => ?_)
              · exact ⟨hHeld.1.below hb hHeld.1.lt, (hHeld.2).trans (hb.mono (hHeld.2).size)⟩
              clear hK K
              change RestIn _ _ _ _ _ _ _ 4 #[true, true, true, true, true, true, true, true, true, true, true, true, true, true, true, true, true, true, true, false, false, false, false] _ _
              try simp only [Act.put, List.setIfInBounds_toArray, List.set_cons_zero, List.set_cons_succ, List.getElem_toArray, List.getElem_cons_zero, List.getElem_cons_succ]
              clear hHeld
              have hHeld := hHeld'
              clear hHeld'
              have hNow := (hHeld.2)
              have hss := hss.to hb
              try have kB := kB.below hb kB.lt
              refine rest_ready (rs := [19]) (by kernel_rfl) (by simp) ?_
              refine AllRest.cons rfl (fun K hK => ?_) AllRest.nil
              have kBg := (hHeld.2).size
              have kB := blk_new_of (hHeld.2) 3 #[.int .i64 30, .int .i64 0, .int .i64 0]
              have hOld := (hHeld.2)
              go_simp
              refine hK.out _ _ ?_ (fun hHeld' => ?_)
              · exact (fun (hbel : Below W0.heap.size W0 _) => ⟨kx.below hbel kx.lt, hbel⟩) ((hHeld.2).alloc (hHeld.2).size _)
              clear hK K
              change RestIn _ _ _ _ _ _ _ 3 #[true, true, true, true, true, true, true, true, true, true, true, true, true, true, true, true, true, true, true, true, false, false, false] _ _
              try simp only [Act.put, List.setIfInBounds_toArray, List.set_cons_zero, List.set_cons_succ, List.getElem_toArray, List.getElem_cons_zero, List.getElem_cons_succ]
              clear hHeld
              have hHeld := hHeld'
              clear hHeld'
              have hNow := (hHeld.2)
              try simp at kBg
              try have hss := nwS hss (.cells #[.int .i64 30, .int .i64 0, .int .i64 0] 3)
              try have htf := nwF htf (.cells #[.int .i64 30, .int .i64 0, .int .i64 0] 3)
              refine rest_take (i := 20) (v := _) all_wide (noDefers_of (by kernel_rfl)) rfl (by kernel_rfl) (by kernel_rfl) (by kernel_rfl) (fun _ _ _ h => h) (Or.inl ⟨by rfl, by intro w hSw; clear hSw; go_simp; first | done | with_reducible rfl⟩) hHeld ?_
              change RestIn _ _ _ _ _ _ _ 2 #[true, true, true, true, true, true, true, true, true, true, true, true, true, true, true, true, true, true, true, true, true, false, false] _ _
              try simp only [Act.put, List.setIfInBounds_toArray, List.set_cons_zero, List.set_cons_succ, List.getElem_toArray, List.getElem_cons_zero, List.getElem_cons_succ]
              refine rest_ready (rs := [21]) (by kernel_rfl) (by simp) ?_
              refine AllRest.cons rfl (fun K hK => ?_) AllRest.nil
              go_simp
              gi_wp2_with ((refine ⟨trivial, ?_⟩; gi_at_call 31; (refine (callsIn_wide.2 (HB3.out As Af 2 1 _ _ hss htf kB)).mono ?_); rintro e wn ⟨rfl, hb⟩))
              refine hK.out _ _ ?_ (fun hHeld' => ?_)
              · exact ⟨hHeld.1.below hb hHeld.1.lt, (hHeld.2).trans (hb.mono (hHeld.2).size)⟩
              clear hK K
              change RestIn _ _ _ _ _ _ _ 1 #[true, true, true, true, true, true, true, true, true, true, true, true, true, true, true, true, true, true, true, true, true, true, false] _ _
              try simp only [Act.put, List.setIfInBounds_toArray, List.set_cons_zero, List.set_cons_succ, List.getElem_toArray, List.getElem_cons_zero, List.getElem_cons_succ]
              clear hHeld
              have hHeld := hHeld'
              clear hHeld'
              have hNow := (hHeld.2)
              try have kB := kB.below hb kB.lt
              refine rest_take (i := 22) (v := _) all_wide (noDefers_of (by kernel_rfl)) rfl (by kernel_rfl) (by kernel_rfl) (by kernel_rfl) (fun _ _ _ h => h) (Or.inl ⟨by rfl, by intro w hSw; clear hSw; go_simp; first | done | with_reducible rfl⟩) hHeld ?_
              change RestIn _ _ _ _ _ _ _ 0 #[true, true, true, true, true, true, true, true, true, true, true, true, true, true, true, true, true, true, true, true, true, true, true] _ _
              try simp only [Act.put, List.setIfInBounds_toArray, List.set_cons_zero, List.set_cons_succ, List.getElem_toArray, List.getElem_cons_zero, List.getElem_cons_succ]
              refine rest_done (by kernel_rfl) ?_
              exact TAIL _ _ _ _ _ _ _ _ _ _ _ _ _ _ _ _ _ _ _ _ _ _ _ hNow
            refine AllRest.cons rfl (fun K hK => ?_) ?_
            · have kBg := (hHeld.2).size
              have kB := blk_new_of (hHeld.2) 3 #[.int .i64 30, .int .i64 0, .int .i64 0]
              have hOld := (hHeld.2)
              go_simp
              refine hK.out _ _ ?_ (fun hHeld' => ?_)
              · exact (fun (hbel : Below W0.heap.size W0 _) => ⟨kx.below hbel kx.lt, hbel⟩) ((hHeld.2).alloc (hHeld.2).size _)
              clear hK K
              change RestIn _ _ _ _ _ _ _ 4 #[true, true, true, true, true, true, true, true, true, true, true, true, true, true, true, true, true, false, true, true, false, false, false] _ _
              try simp only [Act.put, List.setIfInBounds_toArray, List.set_cons_zero, List.set_cons_succ, List.getElem_toArray, List.getElem_cons_zero, List.getElem_cons_succ]
              clear hHeld
              have hHeld := hHeld'
              clear hHeld'
              have hNow := (hHeld.2)
              try simp at kBg
              try have hss := nwS hss (.cells #[.int .i64 30, .int .i64 0, .int .i64 0] 3)
              try have htf := nwF htf (.cells #[.int .i64 30, .int .i64 0, .int .i64 0] 3)
              refine rest_take (i := 20) (v := _) all_wide (noDefers_of (by kernel_rfl)) rfl (by kernel_rfl) (by kernel_rfl) (by kernel_rfl) (fun _ _ _ h => h) (Or.inl ⟨by rfl, by intro w hSw; clear hSw; go_simp; first | done | with_reducible rfl⟩) hHeld ?_
              change RestIn _ _ _ _ _ _ _ 3 #[true, true, true, true, true, true, true, true, true, true, true, true, true, true, true, true, true, false, true, true, true, false, false] _ _
              try simp only [Act.put, List.setIfInBounds_toArray, List.set_cons_zero, List.set_cons_succ, List.getElem_toArray, List.getElem_cons_zero, List.getElem_cons_succ]
              refine rest_ready (rs := [17]) (by kernel_rfl) (by simp) ?_
              refine AllRest.cons rfl (fun K hK => ?_) AllRest.nil
              go_simp
              gi_wp2_with ((refine ⟨trivial, ?_⟩; gi_at_call 38; (with_reducible refine (callsIn_wide.2 (four_any _)).mono ?_); rintro e wn ⟨Af, rfl, htf, hb⟩))
              refine hK.out _ _ ?_ (fun hHeld' => ?_)
              · exact ⟨hHeld.1.below hb hHeld.1.lt, (hHeld.2).trans (hb.mono (hHeld.2).size)⟩
              clear hK K
              change RestIn _ _ _ _ _ _ _ 2 #[true, true, true, true, true, true, true, true, true, true, true, true, true, true, true, true, true, true, true, true, true, false, false] _ _
              try simp only [Act.put, List.setIfInBounds_toArray, List.set_cons_zero, List.set_cons_succ, List.getElem_toArray, List.getElem_cons_zero, List.getElem_cons_succ]
              clear hHeld
              have hHeld := hHeld'
              clear hHeld'
              have hNow := (hHeld.2)
              have hss := hss.to hb
              try have kB := kB.below hb kB.lt
              refine rest_ready (rs := [21]) (by kernel_rfl) (by simp) ?_
              refine AllRest.cons rfl (fun K hK => ?_) AllRest.nil
              go_simp
              gi_wp2_with ((refine ⟨trivial, ?_⟩; gi_at_call 31; (refine (callsIn_wide.2 (HB3.out As Af 2 1 _ _ hss htf kB)).mono ?_); rintro e wn ⟨rfl, hb⟩))
              refine hK.out _ _ ?_ (fun hHeld' => ?_)
              · exact ⟨hHeld.1.below hb hHeld.1.lt, (hHeld.2).trans (hb.mono (hHeld.2).size)⟩
              clear hK K
              change RestIn _ _ _ _ _ _ _ 1 #[true, true, true, true, true, true, true, true, true, true, true, true, true, true, true, true, true, true, true, true, true, true, false] _ _
              try simp only [Act.put, List.setIfInBounds_toArray, List.set_cons_zero, List.set_cons_succ, List.getElem_toArray, List.getElem_cons_zero, List.getElem_cons_succ]
              clear hHeld
              have hHeld := hHeld'
              clear hHeld'
              have hNow := (hHeld.2)
              try have kB := kB.below hb kB.lt
              refine rest_take (i := 22) (v := _) all_wide (noDefers_of (by kernel_rfl)) rfl (by kernel_rfl) (by kernel_rfl) (by kernel_rfl) (fun _ _ _ h => h) (Or.inl ⟨by rfl, by intro w hSw; clear hSw; go_simp; first | done | with_reducible rfl⟩) hHeld ?_
              change RestIn _ _ _ _ _ _ _ 0 #[true, true, true, true, true, true, true, true, true, true, true, true, true, true, true, true, true, true, true, true, true, true, true] _ _
              try simp only [Act.put, List.setIfInBounds_toArray, List.set_cons_zero, List.set_cons_succ, List.getElem_toArray, List.getElem_cons_zero, List.getElem_cons_succ]
              refine rest_done (by kernel_rfl) ?_
              exact TAIL _ _ _ _ _ _ _ _ _ _ _ _ _ _ _ _ _ _ _ _ _ _ _ hNow
            exact AllRest.nil
          refine AllRest.cons rfl (fun K hK => ?_) ?_
          · have kBg := (hHeld.2).size
            have kB := blk_new_of (hHeld.2) 3 #[.int .i64 30, .int .i64 0, .int .i64 0]
            have hOld := (hHeld.2)
            go_simp
            refine hK.out _ _ ?_ (fun hHeld' => ?_)
            · exact (fun (hbel : Below W0.heap.size W0 _) => ⟨kx.below hbel kx.lt, hbel⟩) ((hHeld.2).alloc (hHeld.2).size _)
            clear hK K
            change RestIn _ _ _ _ _ _ _ 5 #[true, true, true, true, true, true, true, true, true, true, true, true, true, true, true, true, false, false, true, true, false, false, false] _ _
            try simp only [Act.put, List.setIfInBounds_toArray, List.set_cons_zero, List.set_cons_succ, List.getElem_toArray, List.getElem_cons_zero, List.getElem_cons_succ]
            clear hHeld
            have hHeld := hHeld'
            clear hHeld'
            have hNow := (hHeld.2)
            try simp at kBg
            try have hss := nwS hss (.cells #[.int .i64 30, .int .i64 0, .int .i64 0] 3)
            try have htf := nwF htf (.cells #[.int .i64 30, .int .i64 0, .int .i64 0] 3)
            refine rest_take (i := 20) (v := _) all_wide (noDefers_of (by kernel_rfl)) rfl (by kernel_rfl) (by kernel_rfl) (by kernel_rfl) (fun _ _ _ h => h) (Or.inl ⟨by rfl, by intro w hSw; clear hSw; go_simp; first | done | with_reducible rfl⟩) hHeld ?_
            change RestIn _ _ _ _ _ _ _ 4 #[true, true, true, true, true, true, true, true, true, true, true, true, true, true, true, true, false, false, true, true, true, false, false] _ _
            try simp only [Act.put, List.setIfInBounds_toArray, List.set_cons_zero, List.set_cons_succ, List.getElem_toArray, List.getElem_cons_zero, List.getElem_cons_succ]
            refine rest_ready (rs := [16]) (by kernel_rfl) (by simp) ?_
            refine AllRest.cons rfl (fun K hK => ?_) AllRest.nil
            go_simp
            gi_wp2_with ((refine ⟨trivial, ?_⟩; gi_at_call 34; (with_reducible refine (callsIn_wide.2 (soil_rs _)).mono ?_); rintro e wn ⟨As, rfl, hss, hb⟩))
            refine hK.out _ _ ?_ (fun hHeld' => ?_)
            · exact ⟨hHeld.1.below hb hHeld.1.lt, (hHeld.2).trans (hb.mono (hHeld.2).size)⟩
            clear hK K
            change RestIn _ _ _ _ _ _ _ 3 #[true, true, true, true, true, true, true, true, true, true, true, true, true, true, true, true, true, false, true, true, true, false, false] _ _
            try simp only [Act.put, List.setIfInBounds_toArray, List.set_cons_zero, List.set_cons_succ, List.getElem_toArray, List.getElem_cons_zero, List.getElem_cons_succ]
            clear hHeld
            have hHeld := hHeld'
            clear hHeld'
            have hNow := (hHeld.2)
            try have kB := kB.below hb kB.lt
            refine rest_ready (rs := [17]) (by kernel_rfl) (by simp) ?_
            refine AllRest.cons rfl (fun K hK => ?_) AllRest.nil
            go_simp
            gi_wp2_with ((refine ⟨trivial, ?_⟩; gi_at_call 38; (with_reducible refine (callsIn_wide.2 (four_any _)).mono ?_); rintro e wn ⟨Af, rfl, htf, hb⟩))
            refine hK.out _ _ ?_ (fun hHeld' => ?_)
            · exact ⟨hHeld.1.below hb hHeld.1.lt, (hHeld.2).trans (hb.mono (hHeld.2).size)⟩
            clear hK K
            change RestIn _ _ _ _ _ _ _ 2 #[true, true, true, true, true, true, true, true, true, true, true, true, true, true, true, true, true, true, true, true, true, false, false] _ _
            try simp only [Act.put, List.setIfInBounds_toArray, List.set_cons_zero, List.set_cons_succ, List.getElem_toArray, List.getElem_cons_zero, List.getElem_cons_succ]
            clear hHeld
            have hHeld := hHeld'
            clear hHeld'
            have hNow := (hHeld.2)
            have hss := hss.to hb
            try have kB := kB.below hb kB.lt
            refine rest_ready (rs := [21]) (by kernel_rfl) (by simp) ?_
            refine AllRest.cons rfl (fun K hK => ?_) AllRest.nil
            go_simp
            gi_wp2_with ((refine ⟨trivial, ?_⟩; gi_at_call 31; (refine (callsIn_wide.2 (HB3.out As Af 2 1 _ _ hss htf kB)).mono ?_); rintro e wn ⟨rfl, hb⟩))
            refine hK.out _ _ ?_ (fun hHeld' => ?_)
            · exact ⟨hHeld.1.below hb hHeld.1.lt, (hHeld.2).trans (hb.mono (hHeld.2).size)⟩
            clear hK K
            change RestIn _ _ _ _ _ _ _ 1 #[true, true, true, true, true, true, true, true, true, true, true, true, true, true, true, true, true, true, true, true, true, true, false] _ _
            try simp only [Act.put, List.setIfInBounds_toArray, List.set_cons_zero, List.set_cons_succ, List.getElem_toArray, List.getElem_cons_zero, List.getElem_cons_succ]
            clear hHeld
            have hHeld := hHeld'
            clear hHeld'
            have hNow := (hHeld.2)
            try have kB := kB.below hb kB.lt
            refine rest_take (i := 22) (v := _) all_wide (noDefers_of (by kernel_rfl)) rfl (by kernel_rfl) (by kernel_rfl) (by kernel_rfl) (fun _ _ _ h => h) (Or.inl ⟨by rfl, by intro w hSw; clear hSw; go_simp; first | done | with_reducible rfl⟩) hHeld ?_
            change RestIn _ _ _ _ _ _ _ 0 #[true, true, true, true, true, true, true, true, true, true, true, true, true, true, true, true, true, true, true, true, true, true, true] _ _
            try simp only [Act.put, List.setIfInBounds_toArray, List.set_cons_zero, List.set_cons_succ, List.getElem_toArray, List.getElem_cons_zero, List.getElem_cons_succ]
            refine rest_done (by kernel_rfl) ?_
            exact TAIL _ _ _ _ _ _ _ _ _ _ _ _ _ _ _ _ _ _ _ _ _ _ _ hNow
          exact AllRest.nil
        refine AllRest.cons rfl (fun K hK => ?_) ?_
        · have kBg := (hHeld.2).size
          have kB := blk_new_of (hHeld.2) 3 #[.int .i64 30, .int .i64 0, .int .i64 0, .int .i64 11]
          have hOld := (hHeld.2)
          go_simp
          refine hK.out _ _ ?_ (fun hHeld' => ?_)
          · exact (fun (hbel : Below W0.heap.size W0 _) => ⟨kx.below hbel kx.lt, hbel⟩) ((hHeld.2).alloc (hHeld.2).size _)
          clear hK K
          change RestIn _ _ _ _ _ _ _ 12 #[true, true, true, true, true, true, true, true, true, false, true, true, false, false, false, false, false, false, false, false, false, false, false] _ _
          try simp only [Act.put, List.setIfInBounds_toArray, List.set_cons_zero, List.set_cons_succ, List.getElem_toArray, List.getElem_cons_zero, List.getElem_cons_succ]
          clear hHeld
          have hHeld := hHeld'
          clear hHeld'
          have hNow := (hHeld.2)
          try simp at kBg
          try have hss := nwS hss (.cells #[.int .i64 30, .int .i64 0, .int .i64 0, .int .i64 11] 3)
          try have htf := nwF htf (.cells #[.int .i64 30, .int .i64 0, .int .i64 0, .int .i64 11] 3)
          refine rest_take (i := 12) (v := _) all_wide (noDefers_of (by kernel_rfl)) rfl (by kernel_rfl) (by kernel_rfl) (by kernel_rfl) (fun _ _ _ h => h) (Or.inl ⟨by rfl, by intro w hSw; clear hSw; go_simp; first | done | with_reducible rfl⟩) hHeld ?_
          change RestIn _ _ _ _ _ _ _ 11 #[true, true, true, true, true, true, true, true, true, false, true, true, true, false, false, false, false, false, false, false, false, false, false] _ _
          try simp only [Act.put, List.setIfInBounds_toArray, List.set_cons_zero, List.set_cons_succ, List.getElem_toArray, List.getElem_cons_zero, List.getElem_cons_succ]
          refine rest_ready (rs := [9]) (by kernel_rfl) (by simp) ?_
          refine AllRest.cons rfl (fun K hK => ?_) AllRest.nil
          go_simp
          gi_wp2_with ((refine ⟨trivial, ?_⟩; gi_at_call 38; (with_reducible refine (callsIn_wide.2 (four_any _)).mono ?_); rintro e wn ⟨Af, rfl, htf, hb⟩))
          refine hK.out _ _ ?_ (fun hHeld' => ?_)
          · exact ⟨hHeld.1.below hb hHeld.1.lt, (hHeld.2).trans (hb.mono (hHeld.2).size)⟩
          clear hK K
          change RestIn _ _ _ _ _ _ _ 10 #[true, true, true, true, true, true, true, true, true, true, true, true, true, false, false, false, false, false, false, false, false, false, false] _ _
          try simp only [Act.put, List.setIfInBounds_toArray, List.set_cons_zero, List.set_cons_succ, List.getElem_toArray, List.getElem_cons_zero, List.getElem_cons_succ]
          clear hHeld
          have hHeld := hHeld'
          clear hHeld'
          have hNow := (hHeld.2)
          have hss := hss.to hb
          try have kB := kB.below hb kB.lt
          refine rest_ready (rs := [13]) (by kernel_rfl) (by simp) ?_
          refine AllRest.cons rfl (fun K hK => ?_) AllRest.nil
          go_simp
          gi_wp2_with ((refine ⟨trivial, ?_⟩; gi_at_call 31; (refine (callsIn_wide.2 (HB2.out As Af 2 1 _ _ hss htf kB)).mono ?_); rintro e wn ⟨rfl, hb⟩))
          refine hK.out _ _ ?_ (fun hHeld' => ?_)
          · exact ⟨hHeld.1.below hb hHeld.1.lt, (hHeld.2).trans (hb.mono (hHeld.2).size)⟩
          clear hK K
          change RestIn _ _ _ _ _ _ _ 9 #[true, true, true, true, true, true, true, true, true, true, true, true, true, true, false, false, false, false, false, false, false, false, false] _ _
          try simp only [Act.put, List.setIfInBounds_toArray, List.set_cons_zero, List.set_cons_succ, List.getElem_toArray, List.getElem_cons_zero, List.getElem_cons_succ]
          clear hHeld
          have hHeld := hHeld'
          clear hHeld'
          have hNow := (hHeld.2)
          try have kB := kB.below hb kB.lt
          refine rest_take (i := 14) (v := _) all_wide (noDefers_of (by kernel_rfl)) rfl (by kernel_rfl) (by kernel_rfl) (by kernel_rfl) (fun _ _ _ h => h) (Or.inl ⟨by rfl, by intro w hSw; clear hSw; go_simp; first | done | with_reducible rfl⟩) hHeld ?_
          change RestIn _ _ _ _ _ _ _ 8 #[true, true, true, true, true, true, true, true, true, true, true, true, true, true, true, false, false, false, false, false, false, false, false] _ _
          try simp only [Act.put, List.setIfInBounds_toArray, List.set_cons_zero, List.set_cons_succ, List.getElem_toArray, List.getElem_cons_zero, List.getElem_cons_succ]
          refine rest_take (i := 15) (v := _) all_wide (noDefers_of (by kernel_rfl)) rfl (by kernel_rfl) (by kernel_rfl) (by kernel_rfl) (fun _ _ _ h => h) (Or.inl ⟨by rfl, by intro w hSw; clear hSw; go_simp; first | done | with_reducible rfl⟩) hHeld ?_
          change RestIn _ _ _ _ _ _ _ 7 #[true, true, true, true, true, true, true, true, true, true, true, true, true, true, true, true, false, false, false, false, false, false, false] _ _
          try simp only [Act.put, List.setIfInBounds_toArray, List.set_cons_zero, List.set_cons_succ, List.getElem_toArray, List.getElem_cons_zero, List.getElem_cons_succ]
          refine rest_take (i := 18) (v := _) all_wide (noDefers_of (by kernel_rfl)) rfl (by kernel_rfl) (by kernel_rfl) (by kernel_rfl) (fun _ _ _ h => h) (Or.inl ⟨by rfl, by intro w hSw; (obtain ⟨q0, _⟩ := hSw; have q0x0 := q0.cell 0; have q0x1 := q0.cell 1; simp at q0x0 q0x1); go_simp; first | done | with_reducible rfl⟩) hHeld ?_
          change RestIn _ _ _ _ _ _ _ 6 #[true, true, true, true, true, true, true, true, true, true, true, true, true, true, true, true, false, false, true, false, false, false, false] _ _
          try simp only [Act.put, List.setIfInBounds_toArray, List.set_cons_zero, List.set_cons_succ, List.getElem_toArray, List.getElem_cons_zero, List.getElem_cons_succ]
          refine rest_ready (rs := [16, 19]) (by kernel_rfl) (by simp) ?_
          refine AllRest.cons rfl (fun K hK => ?_) ?_
          · go_simp
            gi_wp2_with ((refine ⟨trivial, ?_⟩; gi_at_call 34; (with_reducible refine (callsIn_wide.2 (soil_rs _)).mono ?_); rintro e wn ⟨As, rfl, hss, hb⟩))
            refine hK.out _ _ ?_ (fun hHeld' => ?_)
            · exact ⟨hHeld.1.below hb hHeld.1.lt, (hHeld.2).trans (hb.mono (hHeld.2).size)⟩
            clear hK K
            change RestIn _ _ _ _ _ _ _ 5 #[true, true, true, true, true, true, true, true, true, true, true, true, true, true, true, true, true, false, true, false, false, false, false] _ _
            try simp only [Act.put, List.setIfInBounds_toArray, List.set_cons_zero, List.set_cons_succ, List.getElem_toArray, List.getElem_cons_zero, List.getElem_cons_succ]
            clear hHeld
            have hHeld := hHeld'
            clear hHeld'
            have hNow := (hHeld.2)
            try have kB := kB.below hb kB.lt
            refine rest_ready (rs := [17, 19]) (by kernel_rfl) (by simp) ?_
            refine AllRest.cons rfl (fun K hK => ?_) ?_
            · go_simp
              gi_wp2_with ((refine ⟨trivial, ?_⟩; gi_at_call 38; (with_reducible refine (callsIn_wide.2 (four_any _)).mono ?_); rintro e wn ⟨Af, rfl, htf, hb⟩))
              refine hK.out _ _ ?_ (fun hHeld' => ?_)
              · exact ⟨hHeld.1.below hb hHeld.1.lt, (hHeld.2).trans (hb.mono (hHeld.2).size)⟩
              clear hK K
              change RestIn _ _ _ _ _ _ _ 4 #[true, true, true, true, true, true, true, true, true, true, true, true, true, true, true, true, true, true, true, false, false, false, false] _ _
              try simp only [Act.put, List.setIfInBounds_toArray, List.set_cons_zero, List.set_cons_succ, List.getElem_toArray, List.getElem_cons_zero, List.getElem_cons_succ]
              clear hHeld
              have hHeld := hHeld'
              clear hHeld'
              have hNow := (hHeld.2)
              have hss := hss.to hb
              try have kB := kB.below hb kB.lt
              refine rest_ready (rs := [19]) (by kernel_rfl) (by simp) ?_
              refine AllRest.cons rfl (fun K hK => ?_) AllRest.nil
              have kBg := (hHeld.2).size
              have kB := blk_new_of (hHeld.2) 3 #[.int .i64 30, .int .i64 0, .int .i64 0]
              have hOld := (hHeld.2)
              go_simp
              refine hK.out _ _ ?_ (fun hHeld' => ?_)
              · exact (fun (hbel : Below W0.heap.size W0 _) => ⟨kx.below hbel kx.lt, hbel⟩) ((hHeld.2).alloc (hHeld.2).size _)
              clear hK K
              change RestIn _ _ _ _ _ _ _ 3 #[true, true, true, true, true, true, true, true, true, true, true, true, true, true, true, true, true, true, true, true, false, false, false] _ _
              try simp only [Act.put, List.setIfInBounds_toArray, List.set_cons_zero, List.set_cons_succ, List.getElem_toArray, List.getElem_cons_zero, List.getElem_cons_succ]
              clear hHeld
              have hHeld := hHeld'
              clear hHeld'
              have hNow := (hHeld.2)
              try simp at kBg
              try have hss := nwS hss (.cells #[.int .i64 30, .int .i64 0, .int .i64 0] 3)
              try have htf := nwF htf (.cells #[.int .i64 30, .int .i64 0, .int .i64 0] 3)
              refine rest_take (i := 20) (v := _) all_wide (noDefers_of (by kernel_rfl)) rfl (by kernel_rfl) (by kernel_rfl) (by kernel_rfl) (fun _ _ _ h => h) (Or.inl ⟨by rfl, by intro w hSw; clear hSw; go_simp; first | done | with_reducible rfl⟩) hHeld ?_
              change RestIn _ _ _ _ _ _ _ 2 #[true, true, true, true, true, true, true, true, true, true, true, true, true, true, true, true, true, true, true, true, true, false, false] _ _
              try simp only [Act.put, List.setIfInBounds_toArray, List.set_cons_zero, List.set_cons_succ, List.getElem_toArray, List.getElem_cons_zero, List.getElem_cons_succ]
              refine rest_ready (rs := [21]) (by kernel_rfl) (by simp) ?_
              refine AllRest.cons rfl (fun K hK => ?_) AllRest.nil
              go_simp
              gi_wp2_with ((refine ⟨trivial, ?_⟩; gi_at_call 31; (refine (callsIn_wide.2 (HB3.out As Af 2 1 _ _ hss htf kB)).mono ?_); rintro e wn ⟨rfl, hb⟩))
              refine hK.out _ _ ?_ (fun hHeld' => ?_)
              · exact ⟨hHeld.1.below hb hHeld.1.lt, (hHeld.2).trans (hb.mono (hHeld.2).size)⟩
              clear hK K
              change RestIn _ _ _ _ _ _ _ 1 #[true, true, true, true, true, true, true, true, true, true, true, true, true, true, true, true, true, true, true, true, true, true, false] _ _
              try simp only [Act.put, List.setIfInBounds_toArray, List.set_cons_zero, List.set_cons_succ, List.getElem_toArray, List.getElem_cons_zero, List.getElem_cons_succ]
              clear hHeld
              have hHeld := hHeld'
              clear hHeld'
              have hNow := (hHeld.2)
              try have kB := kB.below hb kB.lt
              refine rest_take (i := 22) (v := _) all_wide (noDefers_of (by kernel_rfl)) rfl (by kernel_rfl) (by kernel_rfl) (by kernel_rfl) (fun _ _ _ h => h) (Or.inl ⟨by rfl, by intro w hSw; clear hSw; go_simp; first | done | with_reducible rfl⟩) hHeld ?_
              change RestIn _ _ _ _ _ _ _ 0 #[true, true, true, true, true, true, true, true, true, true, true, true, true, true, true, true, true, true, true, true, true, true, true] _ _
              try simp only [Act.put, List.setIfInBounds_toArray, List.set_cons_zero, List.set_cons_succ, List.getElem_toArray, List.getElem_cons_zero, List.getElem_cons_succ]
              refine rest_done (by kernel_rfl) ?_
              exact TAIL _ _ _ _ _ _ _ _ _ _ _ _ _ _ _ _ _ _ _ _ _ _ _ hNow
            refine AllRest.cons rfl (fun K hK => ?_) ?_
            · have kBg := (hHeld.2).size
              have kB := blk_new_of (hHeld.2) 3 #[.int .i64 30, .int .i64 0, .int .i64 0]
              have hOld := (hHeld.2)
              go_simp
              refine hK.out _ _ ?_ (fun hHeld' => ?_)
              · exact (fun (hbel : Below W0.heap.size W0 _) => ⟨kx.below hbel kx.lt, hbel⟩) ((hHeld.2).alloc (hHeld.2).size _)
              clear hK K
              change RestIn _ _ _ _ _ _ _ 4 #[true, true, true, true, true, true, true, true, true, true, true, true, true, true, true, true, true, false, true, true, false, false, false] _ _
              try simp only [Act.put, List.setIfInBounds_toArray, List.set_cons_zero, List.set_cons_succ, List.getElem_toArray, List.getElem_cons_zero, List.getElem_cons_succ]
              clear hHeld
              have hHeld := hHeld'
              clear hHeld'
              have hNow := (hHeld.2)
              try simp at kBg
              try have hss := nwS hss (.cells #[.int .i64 30, .int .i64 0, .int .i64 0] 3)
              try have htf := nwF htf (.cells #[.int .i64 30, .int .i64 0, .int .i64 0] 3)
              refine rest_take (i := 20) (v := _) all_wide (noDefers_of (by kernel_rfl)) rfl (by kernel_rfl) (by kernel_rfl) (by kernel_rfl) (fun _ _ _ h => h) (Or.inl ⟨by rfl, by intro w hSw; clear hSw; go_simp; first | done | with_reducible rfl⟩) hHeld ?_
              change RestIn _ _ _ _ _ _ _ 3 #[true, true, true, true, true, true, true, true, true, true, true, true, true, true, true, true, true, false, true, true, true, false, false] _ _
              try simp only [Act.put, List.setIfInBounds_toArray, List.set_cons_zero, List.set_cons_succ, List.getElem_toArray, List.getElem_cons_zero, List.getElem_cons_succ]
              refine rest_ready (rs := [17]) (by kernel_rfl) (by simp) ?_
              refine AllRest.cons rfl (fun K hK => ?_) AllRest.nil
              go_simp
              gi_wp2_with ((refine ⟨trivial, ?_⟩; gi_at_call 38; (with_reducible refine (callsIn_wide.2 (four_any _)).mono ?_); rintro e wn ⟨Af, rfl, htf, hb⟩))
              refine hK.out _ _ ?_ (fun hHeld' => ?_)
              · exact ⟨hHeld.1.below hb hHeld.1.lt, (hHeld.2).trans (hb.mono (hHeld.2).size)⟩
              clear hK K
              change RestIn _ _ _ _ _ _ _ 2 #[true, true, true, true, true, true, true, true, true, true, true, true, true, true, true, true, true, true, true, true, true, false, false] _ _
              try simp only [Act.put, List.setIfInBounds_toArray, List.set_cons_zero, List.set_cons_succ, List.getElem_toArray, List.getElem_cons_zero, List.getElem_cons_succ]
              clear hHeld
              have hHeld := hHeld'
              clear hHeld'
              have hNow := (hHeld.2)
              have hss := hss.to hb
              try have kB := kB.below hb kB.lt
              refine rest_ready (rs := [21]) (by kernel_rfl) (by simp) ?_
              refine AllRest.cons rfl (fun K hK => ?_) AllRest.nil
              go_simp
              gi_wp2_with ((refine ⟨trivial, ?_⟩; gi_at_call 31; (refine (callsIn_wide.2 (HB3.out As Af 2 1 _ _ hss htf kB)).mono ?_); rintro e wn ⟨rfl, hb⟩))
              refine hK.out _ _ ?_ (fun hHeld' => ?_)
              · exact ⟨hHeld.1.below hb hHeld.1.lt, (hHeld.2).trans (hb.mono (hHeld.2).size)⟩
              clear hK K
              change RestIn _ _ _ _ _ _ _ 1 #[true, true, true, true, true, true, true, true, true, true, true, true, true, true, true, true, true, true, true, true, true, true, false] _ _
              try simp only [Act.put, List.setIfInBounds_toArray, List.set_cons_zero, List.set_cons_succ, List.getElem_toArray, List.getElem_cons_zero, List.getElem_cons_succ]
              clear hHeld
              have hHeld := hHeld'
              clear hHeld'
              have hNow := (hHeld.2)
              try have kB := kB.below hb kB.lt
              refine rest_take (i := 22) (v := _) all_wide (noDefers_of (by kernel_rfl)) rfl (by kernel_rfl) (by kernel_rfl) (by kernel_rfl) (fun _ _ _ h => h) (Or.inl ⟨by rfl, by intro w hSw; clear hSw; go_simp; first | done | with_reducible rfl⟩) hHeld ?_
              change RestIn _ _ _ _ _ _ _ 0 #[true, true, true, true, true, true, true, true, true, true, true, true, true, true, true, true, true, true, true, true, true, true, true] _ _
              try simp only [Act.put, List.setIfInBounds_toArray, List.set_cons_zero, List.set_cons_succ, List.getElem_toArray, List.getElem_cons_zero, List.getElem_cons_succ]
              refine rest_done (by kernel_rfl) ?_
              exact TAIL _ _ _ _ _ _ _ _ _ _ _ _ _ _ _ _ _ _ _ _ _ _ _ hNow
            exact AllRest.nil
          refine AllRest.cons rfl (fun K hK => ?_) ?_
          · have kBg := (hHeld.2).size
            have kB := blk_new_of (hHeld.2) 3 #[.int .i64 30, .int .i64 0, .int .i64 0]
            have hOld := (hHeld.2)
            go_simp
            refine hK.out _ _ ?_ (fun hHeld' => ?_)
            · exact (fun (hbel : Below W0.heap.size W0 _) => ⟨kx.below hbel kx.lt, hbel⟩) ((hHeld.2).alloc (hHeld.2).size _)
            clear hK K
            change RestIn _ _ _ _ _ _ _ 5 #[true, true, true, true, true, true, true, true, true, true, true, true, true, true, true, true, false, false, true, true, false, false, false] _ _
            try simp only [Act.put, List.setIfInBounds_toArray, List.set_cons_zero, List.set_cons_succ, List.getElem_toArray, List.getElem_cons_zero, List.getElem_cons_succ]
            clear hHeld
            have hHeld := hHeld'
            clear hHeld'
            have hNow := (hHeld.2)
            try simp at kBg
            try have hss := nwS hss (.cells #[.int .i64 30, .int .i64 0, .int .i64 0] 3)
            try have htf := nwF htf (.cells #[.int .i64 30, .int .i64 0, .int .i64 0] 3)
            refine rest_take (i := 20) (v := _) all_wide (noDefers_of (by kernel_rfl)) rfl (by kernel_rfl) (by kernel_rfl) (by kernel_rfl) (fun _ _ _ h => h) (Or.inl ⟨by rfl, by intro w hSw; clear hSw; go_simp; first | done | with_reducible rfl⟩) hHeld ?_
            change RestIn _ _ _ _ _ _ _ 4 #[true, true, true, true, true, true, true, true, true, true, true, true, true, true, true, true, false, false, true, true, true, false, false] _ _
            try simp only [Act.put, List.setIfInBounds_toArray, List.set_cons_zero, List.set_cons_succ, List.getElem_toArray, List.getElem_cons_zero, List.getElem_cons_succ]
            refine rest_ready (rs := [16]) (by kernel_rfl) (by simp) ?_
            refine AllRest.cons rfl (fun K hK => ?_) AllRest.nil
            go_simp
            gi_wp2_with ((refine ⟨trivial, ?_⟩; gi_at_call 34; (with_reducible refine (callsIn_wide.2 (soil_rs _)).mono ?_); rintro e wn ⟨As, rfl, hss, hb⟩))
            refine hK.out _ _ ?_ (fun hHeld' => ?_)
            · exact ⟨hHeld.1.below hb hHeld.1.lt, (hHeld.2).trans (hb.mono (hHeld.2).size)⟩
            clear hK K
            change RestIn _ _ _ _ _ _ _ 3 #[true, true, true, true, true, true, true, true, true, true, true, true, true, true, true, true, true, false, true, true, true, false, false] _ _
            try simp only [Act.put, List.setIfInBounds_toArray, List.set_cons_zero, List.set_cons_succ, List.getElem_toArray, List.getElem_cons_zero, List.getElem_cons_succ]
            clear hHeld
            have hHeld := hHeld'
            clear hHeld'
            have hNow := (hHeld.2)
            try have kB := kB.below hb kB.lt
            refine rest_ready (rs := [17]) (by kernel_rfl) (by simp) ?_
            refine AllRest.cons rfl (fun K hK => ?_) AllRest.nil
            go_simp
            gi_wp2_with ((refine ⟨trivial, ?_⟩; gi_at_call 38; (with_reducible refine (callsIn_wide.2 (four_any _)).mono ?_); rintro e wn ⟨Af, rfl, htf, hb⟩))
            refine hK.out _ _ ?_ (fun hHeld' => ?_)
            · exact ⟨hHeld.1.below hb hHeld.1.lt, (hHeld.2).trans (hb.mono (hHeld.2).size)⟩
            clear hK K
            change RestIn _ _ _ _ _ _ _ 2 #[true, true, true, true, true, true, true, true, true, true, true, true, true, true, true, true, true, true, true, true, true, false, false] _ _
            try simp only [Act.put, List.setIfInBounds_toArray, List.set_cons_zero, List.set_cons_succ, List.getElem_toArray, List.getElem_cons_zero, List.getElem_cons_succ]
            clear hHeld
            have hHeld := hHeld'
            clear hHeld'
            have hNow := (hHeld.2)
            have hss := hss.to hb
            try have kB := kB.below hb kB.lt
            refine rest_ready (rs := [21]) (by kernel_rfl) (by simp) ?_
            refine AllRest.cons rfl (fun K hK => ?_) AllRest.nil
            go_simp
            gi_wp2_with ((refine ⟨trivial, ?_⟩; gi_at_call 31; (refine (callsIn_wide.2 (HB3.out As Af 2 1 _ _ hss htf kB)).mono ?_); rintro e wn ⟨rfl, hb⟩))
            refine hK.out _ _ ?_ (fun hHeld' => ?_)
            · exact ⟨hHeld.1.below hb hHeld.1.lt, (hHeld.2).trans (hb.mono (hHeld.2).size)⟩
            clear hK K
            change RestIn _ _ _ _ _ _ _ 1 #[true, true, true, true, true, true, true, true, true, true, true, true, true, true, true, true, true, true, true, true, true, true, false] _ _
            try simp only [Act.put, List.setIfInBounds_toArray, List.set_cons_zero, List.set_cons_succ, List.getElem_toArray, List.getElem_cons_zero, List.getElem_cons_succ]
            clear hHeld
            have hHeld := hHeld'
            clear hHeld'
            have hNow := (hHeld.2)
            try have kB := kB.below hb kB.lt
            refine rest_take (i := 22) (v := _) all_wide (noDefers_of (by kernel_rfl)) rfl (by kernel_rfl) (by kernel_rfl) (by kernel_rfl) (fun _ _ _ h => h) (Or.inl ⟨by rfl, by intro w hSw; clear hSw; go_simp; first | done | with_reducible rfl⟩) hHeld ?_
            change RestIn _ _ _ _ _ _ _ 0 #[true, true, true, true, true, true, true, true, true, true, true, true, true, true, true, true, true, true, true, true, true, true, true] _ _
            try simp only [Act.put, List.setIfInBounds_toArray, List.set_cons_zero, List.set_cons_succ, List.getElem_toArray, List.getElem_cons_zero, List.getElem_cons_succ]
            refine rest_done (by kernel_rfl) ?_
            exact TAIL _ _ _ _ _ _ _ _ _ _ _ _ _ _ _ _ _ _ _ _ _ _ _ hNow
          exact AllRest.nil
        exact AllRest.nil
      refine AllRest.cons rfl (fun K hK => ?_) ?_
      · have kBg := (hHeld.2).size
        have kB := blk_new_of (hHeld.2) 3 #[.int .i64 30, .int .i64 0, .int .i64 0, .int .i64 11]
        have hOld := (hHeld.2)
        go_simp
        refine hK.out _ _ ?_ (fun hHeld' => ?_)
        · exact (fun (hbel : Below W0.heap.size W0 _) => ⟨kx.below hbel kx.lt, hbel⟩) ((hHeld.2).alloc (hHeld.2).size _)
        clear hK K
        change RestIn _ _ _ _ _ _ _ 13 #[true, true, true, true, true, true, true, true, false, false, true, true, false, false, false, false, false, false, false, false, false, false, false] _ _
        try simp only [Act.put, List.setIfInBounds_toArray, List.set_cons_zero, List.set_cons_succ, List.getElem_toArray, List.getElem_cons_zero, List.getElem_cons_succ]
        clear hHeld
        have hHeld := hHeld'
        clear hHeld'
        have hNow := (hHeld.2)
        try simp at kBg
        try have hss := nwS hss (.cells #[.int .i64 30, .int .i64 0, .int .i64 0, .int .i64 11] 3)
        try have htf := nwF htf (.cells #[.int .i64 30, .int .i64 0, .int .i64 0, .int .i64 11] 3)
        refine rest_take (i := 12) (v := _) all_wide (noDefers_of (by kernel_rfl)) rfl (by kernel_rfl) (by kernel_rfl) (by kernel_rfl) (fun _ _ _ h => h) (Or.inl ⟨by rfl, by intro w hSw; clear hSw; go_simp; first | done | with_reducible rfl⟩) hHeld ?_
        change RestIn _ _ _ _ _ _ _ 12 #[true, true, true, true, true, true, true, true, false, false, true, true, true, false, false, false, false, false, false, false, false, false, false] _ _
        try simp only [Act.put, List.setIfInBounds_toArray, List.set_cons_zero, List.set_cons_succ, List.getElem_toArray, List.getElem_cons_zero, List.getElem_cons_succ]
        refine rest_ready (rs := [8]) (by kernel_rfl) (by simp) ?_
        refine AllRest.cons rfl (fun K hK => ?_) AllRest.nil
        go_simp
        gi_wp2_with ((refine ⟨trivial, ?_⟩; gi_at_call 34; (with_reducible refine (callsIn_wide.2 (soil_rs _)).mono ?_); rintro e wn ⟨As, rfl, hss, hb⟩))
        refine hK.out _ _ ?_ (fun hHeld' => ?_)
        · exact ⟨hHeld.1.below hb hHeld.1.lt, (hHeld.2).trans (hb.mono (hHeld.2).size)⟩
        clear hK K
        change RestIn _ _ _ _ _ _ _ 11 #[true, true, true, true, true, true, true, true, true, false, true, true, true, false, false, false, false, false, false, false, false, false, false] _ _
        try simp only [Act.put, List.setIfInBounds_toArray, List.set_cons_zero, List.set_cons_succ, List.getElem_toArray, List.getElem_cons_zero, List.getElem_cons_succ]
        clear hHeld
        have hHeld := hHeld'
        clear hHeld'
        have hNow := (hHeld.2)
        try have kB := kB.below hb kB.lt
        refine rest_ready (rs := [9]) (by kernel_rfl) (by simp) ?_
        refine AllRest.cons rfl (fun K hK => ?_) AllRest.nil
        go_simp
        gi_wp2_with ((refine ⟨trivial, ?_⟩; gi_at_call 38; (with_reducible refine (callsIn_wide.2 (four_any _)).mono ?_); rintro e wn ⟨Af, rfl, htf, hb⟩))
        refine hK.out _ _ ?_ (fun hHeld' => ?_)
        · exact ⟨hHeld.1.below hb hHeld.1.lt, (hHeld.2).trans (hb.mono (hHeld.2).size)⟩
        clear hK K
        change RestIn _ _ _ _ _ _ _ 10 #[true, true, true, true, true, true, true, true, true, true, true, true, true, false, false, false, false, false, false, false, false, false, false] _ _
        try simp only [Act.put, List.setIfInBounds_toArray, List.set_cons_zero, List.set_cons_succ, List.getElem_toArray, List.getElem_cons_zero, List.getElem_cons_succ]
        clear hHeld
        have hHeld := hHeld'
        clear hHeld'
        have hNow := (hHeld.2)
        have hss := hss.to hb
        try have kB := kB.below hb kB.lt
        refine rest_ready (rs := [13]) (by kernel_rfl) (by simp) ?_
        refine AllRest.cons rfl (fun K hK => ?_) AllRest.nil
        go_simp
        gi_wp2_with ((refine ⟨trivial, ?_⟩; gi_at_call 31; (refine (callsIn_wide.2 (HB2.out As Af 2 1 _ _ hss htf kB)).mono ?_); rintro e wn ⟨rfl, hb⟩))
        refine hK.out _ _ ?_ (fun hHeld' => ?_)
        · exact ⟨hHeld.1.below hb hHeld.1.lt, (hHeld.2).trans (hb.mono (hHeld.2).size)⟩
        clear hK K
        change RestIn _ _ _ _ _ _ _ 9 #[true, true, true, true, true, true, true, true, true, true, true, true, true, true, false, false, false, false, false, false, false, false, false] _ _
        try simp only [Act.put, List.setIfInBounds_toArray, List.set_cons_zero, List.set_cons_succ, List.getElem_toArray, List.getElem_cons_zero, List.getElem_cons_succ]
        clear hHeld
        have hHeld := hHeld'
        clear hHeld'
        have hNow := (hHeld.2)
        try have kB := kB.below hb kB.lt
        refine rest_take (i := 14) (v := _) all_wide (noDefers_of (by kernel_rfl)) rfl (by kernel_rfl) (by kernel_rfl) (by kernel_rfl) (fun _ _ _ h => h) (Or.inl ⟨by rfl, by intro w hSw; clear hSw; go_simp; first | done | with_reducible rfl⟩) hHeld ?_
        change RestIn _ _ _ _ _ _ _ 8 #[true, true, true, true, true, true, true, true, true, true, true, true, true, true, true, false, false, false, false, false, false, false, false] _ _
        try simp only [Act.put, List.setIfInBounds_toArray, List.set_cons_zero, List.set_cons_succ, List.getElem_toArray, List.getElem_cons_zero, List.getElem_cons_succ]
        refine rest_take (i := 15) (v := _) all_wide (noDefers_of (by kernel_rfl)) rfl (by kernel_rfl) (by kernel_rfl) (by kernel_rfl) (fun _ _ _ h => h) (Or.inl ⟨by rfl, by intro w hSw; clear hSw; go_simp; first | done | with_reducible rfl⟩) hHeld ?_
        change RestIn _ _ _ _ _ _ _ 7 #[true, true, true, true, true, true, true, true, true, true, true, true, true, true, true, true, false, false, false, false, false, false, false] _ _
        try simp only [Act.put, List.setIfInBounds_toArray, List.set_cons_zero, List.set_cons_succ, List.getElem_toArray, List.getElem_cons_zero, List.getElem_cons_succ]
        refine rest_take (i := 18) (v := _) all_wide (noDefers_of (by kernel_rfl)) rfl (by kernel_rfl) (by kernel_rfl) (by kernel_rfl) (fun _ _ _ h => h) (Or.inl ⟨by rfl, by intro w hSw; (obtain ⟨q0, _⟩ := hSw; have q0x0 := q0.cell 0; have q0x1 := q0.cell 1; simp at q0x0 q0x1); go_simp; first | done | with_reducible rfl⟩) hHeld ?_
        change RestIn _ _ _ _ _ _ _ 6 #[true, true, true, true, true, true, true, true, true, true, true, true, true, true, true, true, false, false, true, false, false, false, false] _ _
        try simp only [Act.put, List.setIfInBounds_toArray, List.set_cons_zero, List.set_cons_succ, List.getElem_toArray, List.getElem_cons_zero, List.getElem_cons_succ]
        refine rest_ready (rs := [16, 19]) (by kernel_rfl) (by simp) ?_
        refine AllRest.cons rfl (fun K hK => ?_) ?_
        · go_simp
          gi_wp2_with ((refine ⟨trivial, ?_⟩; gi_at_call 34; (with_reducible refine (callsIn_wide.2 (soil_rs _)).mono ?_); rintro e wn ⟨As, rfl, hss, hb⟩))
          refine hK.out _ _ ?_ (fun hHeld' => ?_)
          · exact ⟨hHeld.1.below hb hHeld.1.lt, (hHeld.2).trans (hb.mono (hHeld.2).size)⟩
          clear hK K
          change RestIn _ _ _ _ _ _ _ 5 #[true, true, true, true, true, true, true, true, true, true, true, true, true, true, true, true, true, false, true, false, false, false, false] _ _
          try simp only [Act.put, List.setIfInBounds_toArray, List.set_cons_zero, List.set_cons_succ, List.getElem_toArray, List.getElem_cons_zero, List.getElem_cons_succ]
          clear hHeld
          have hHeld := hHeld'
          clear hHeld'
          have hNow := (hHeld.2)
          try have kB := kB.below hb kB.lt
          refine rest_ready (rs := [17, 19]) (by kernel_rfl) (by simp) ?_
          refine AllRest.cons rfl (fun K hK => ?_) ?_
          · go_simp
            gi_wp2_with ((refine ⟨trivial, ?_⟩; gi_at_call 38; (with_reducible refine (callsIn_wide.2 (four_any _)).mono ?_); rintro e wn ⟨Af, rfl, htf, hb⟩))
            refine hK.out _ _ ?_ (fun hHeld' => ?_)
            · exact ⟨hHeld.1.below hb hHeld.1.lt, (hHeld.2).trans (hb.mono (hHeld.2).size)⟩
            clear hK K
            change RestIn _ _ _ _ _ _ _ 4 #[true, true, true, true, true, true, true, true, true, true, true, true, true, true, true, true, true, true, true, false, false, false, false] _ _
            try simp only [Act.put, List.setIfInBounds_toArray, List.set_cons_zero, List.set_cons_succ, List.getElem_toArray, List.getElem_cons_zero, List.getElem_cons_succ]
            clear hHeld
            have hHeld := hHeld'
            clear hHeld'
            have hNow := (hHeld.2)
            have hss := hss.to hb
            try have kB := kB.below hb kB.lt
            refine rest_ready (rs := [19]) (by kernel_rfl) (by simp) ?_
            refine AllRest.cons rfl (fun K hK => ?_) AllRest.nil
            have kBg := (hHeld.2).size
            have kB := blk_new_of (hHeld.2) 3 #[.int .i64 30, .int .i64 0, .int .i64 0]
            have hOld := (hHeld.2)
            go_simp
            refine hK.out _ _ ?_ (fun hHeld' => ?_)
            · exact (fun (hbel : Below W0.heap.size W0 _) => ⟨kx.below hbel kx.lt, hbel⟩) ((hHeld.2).alloc (hHeld.2).size _)
            clear hK K
            change RestIn _ _ _ _ _ _ _ 3 #[true, true, true, true, true, true, true, true, true, true, true, true, true, true, true, true, true, true, true, true, false, false, false] _ _
            try simp only [Act.put, List.setIfInBounds_toArray, List.set_cons_zero, List.set_cons_succ, List.getElem_toArray, List.getElem_cons_zero, List.getElem_cons_succ]
            clear hHeld
            have hHeld := hHeld'
            clear hHeld'
            have hNow := (hHeld.2)
            try simp at kBg
            try have hss := nwS hss (.cells #[.int .i64 30, .int .i64 0, .int .i64 0] 3)
            try have htf := nwF htf (.cells #[.int .i64 30, .int .i64 0, .int .i64 0] 3)
            refine rest_take (i := 20) (v := _) all_wide (noDefers_of (by kernel_rfl)) rfl (by kernel_rfl) (by kernel_rfl) (by kernel_rfl) (fun _ _ _ h => h) (Or.inl ⟨by rfl, by intro w hSw; clear hSw; go_simp; first | done | with_reducible rfl⟩) hHeld ?_
            change RestIn _ _ _ _ _ _ _ 2 #[true, true, true, true, true, true, true, true, true, true, true, true, true, true, true, true, true, true, true, true, true, false, false] _ _
            try simp only [Act.put, List.setIfInBounds_toArray, List.set_cons_zero, List.set_cons_succ, List.getElem_toArray, List.getElem_cons_zero, List.getElem_cons_succ]
            refine rest_ready (rs := [21]) (by kernel_rfl) (by simp) ?_
            refine AllRest.cons rfl (fun K hK => ?_) AllRest.nil
            go_simp
            gi_wp2_with ((refine ⟨trivial, ?_⟩; gi_at_call 31; (refine (callsIn_wide.2 (HB3.out As Af 2 1 _ _ hss htf kB)).mono ?_); rintro e wn ⟨rfl, hb⟩))
            refine hK.out _ _ ?_ (fun hHeld' => ?_)
            · exact ⟨hHeld.1.below hb hHeld.1.lt, (hHeld.2).trans (hb.mono (hHeld.2).size)⟩
            clear hK K
            change RestIn _ _ _ _ _ _ _ 1 #[true, true, true, true, true, true, true, true, true, true, true, true, true, true, true, true, true, true, true, true, true, true, false] _ _
            try simp only [Act.put, List.setIfInBounds_toArray, List.set_cons_zero, List.set_cons_succ, List.getElem_toArray, List.getElem_cons_zero, List.getElem_cons_succ]
            clear hHeld
            have hHeld := hHeld'
            clear hHeld'
            have hNow := (hHeld.2)
            try have kB := kB.below hb kB.lt
            refine rest_take (i := 22) (v := _) all_wide (noDefers_of (by kernel_rfl)) rfl (by kernel_rfl) (by kernel_rfl) (by kernel_rfl) (fun _ _ _ h => h) (Or.inl ⟨by rfl, by intro w hSw; clear hSw; go_simp; first | done | with_reducible rfl⟩) hHeld ?_
            change RestIn _ _ _ _ _ _ _ 0 #[true, true, true, true, true, true, true, true, true, true, true, true, true, true, true, true, true, true, true, true, true, true, true] _ _
            try simp only [Act.put, List.setIfInBounds_toArray, List.set_cons_zero, List.set_cons_succ, List.getElem_toArray, List.getElem_cons_zero, List.getElem_cons_succ]
            refine rest_done (by kernel_rfl) ?_
            exact TAIL _ _ _ _ _ _ _ _ _ _ _ _ _ _ _ _ _ _ _ _ _ _ _ hNow
          refine AllRest.cons rfl (fun K hK => ?_) ?_
          · have kBg := (hHeld.2).size
            have kB := blk_new_of (hHeld.2) 3 #[.int .i64 30, .int .i64 0, .int .i64 0]
            have hOld := (hHeld.2)
            go_simp
            refine hK.out _ _ ?_ (fun hHeld' => ?_)
            · exact (fun (hbel : Below W0.heap.size W0 _) => ⟨kx.below hbel kx.lt, hbel⟩) ((hHeld.2).alloc (hHeld.2).size _)
            clear hK K
            change RestIn _ _ _ _ _ _ _ 4 #[true, true, true, true, true, true, true, true, true, true, true, true, true, true, true, true, true, false, true, true, false, false, false] _ _
            try simp only [Act.put, List.setIfInBounds_toArray, List.set_cons_zero, List.set_cons_succ, List.getElem_toArray, List.getElem_cons_zero, List.getElem_cons_succ]
            clear hHeld
            have hHeld := hHeld'
            clear hHeld'
            have hNow := (hHeld.2)
            try simp at kBg
            try have hss := nwS hss (.cells #[.int .i64 30, .int .i64 0, .int .i64 0] 3)
            try have htf := nwF htf (.cells #[.int .i64 30, .int .i64 0, .int .i64 0] 3)
            refine rest_take (i := 20) (v := _) all_wide (noDefers_of (by kernel_rfl)) rfl (by kernel_rfl) (by kernel_rfl) (by kernel_rfl) (fun _ _ _ h => h) (Or.inl ⟨by rfl, by intro w hSw; clear hSw; go_simp; first | done | with_reducible rfl⟩) hHeld ?_
            change RestIn _ _ _ _ _ _ _ 3 #[true, true, true, true, true, true, true, true, true, true, true, true, true, true, true, true, true, false, true, true, true, false, false] _ _
            try simp only [Act.put, List.setIfInBounds_toArray, List.set_cons_zero, List.set_cons_succ, List.getElem_toArray, List.getElem_cons_zero, List.getElem_cons_succ]
            refine rest_ready (rs := [17]) (by kernel_rfl) (by simp) ?_
            refine AllRest.cons rfl (fun K hK => ?_) AllRest.nil
            go_simp
            gi_wp2_with ((refine ⟨trivial, ?_⟩; gi_at_call 38; (with_reducible refine (callsIn_wide.2 (four_any _)).mono ?_); rintro e wn ⟨Af, rfl, htf, hb⟩))
            refine hK.out _ _ ?_ (fun hHeld' => ?_)
            · exact ⟨hHeld.1.below hb hHeld.1.lt, (hHeld.2).trans (hb.mono (hHeld.2).size)⟩
            clear hK K
            change RestIn _ _ _ _ _ _ _ 2 #[true, true, true, true, true, true, true, true, true, true, true, true, true, true, true, true, true, true, true, true, true, false, false] _ _
            try simp only [Act.put, List.setIfInBounds_toArray, List.set_cons_zero, List.set_cons_succ, List.getElem_toArray, List.getElem_cons_zero, List.getElem_cons_succ]
            clear hHeld
            have hHeld := hHeld'
            clear hHeld'
            have hNow := (hHeld.2)
            have hss := hss.to hb
            try have kB := kB.below hb kB.lt
            refine rest_ready (rs := [21]) (by kernel_rfl) (by simp) ?_
            refine AllRest.cons rfl (fun K hK => ?_) AllRest.nil
            go_simp
            gi_wp2_with ((refine ⟨trivial, ?_⟩; gi_at_call 31; (refine (callsIn_wide.2 (HB3.out As Af 2 1 _ _ hss htf kB)).mono ?_); rintro e wn ⟨rfl, hb⟩))
            refine hK.out _ _ ?_ (fun hHeld' => ?_)
            · exact ⟨hHeld.1.below hb hHeld.1.lt, (hHeld.2).trans (hb.mono (hHeld.2).size)⟩
            clear hK K
            change RestIn _ _ _ _ _ _ _ 1 #[true, true, true, true, true, true, true, true, true, true, true, true, true, true, true, true, true, true, true, true, true, true, false] _ _
            try simp only [Act.put, List.setIfInBounds_toArray, List.set_cons_zero, List.set_cons_succ, List.getElem_toArray, List.getElem_cons_zero, List.getElem_cons_succ]
            clear hHeld
            have hHeld := hHeld'
            clear hHeld'
            have hNow := (hHeld.2)
            try have kB := kB.below hb kB.lt
            refine rest_take (i := 22) (v := _) all_wide (noDefers_of (by kernel_rfl)) rfl (by kernel_rfl) (by kernel_rfl) (by kernel_rfl) (fun _ _ _ h => h) (Or.inl ⟨by rfl, by intro w hSw; clear hSw; go_simp; first | done | with_reducible rfl⟩) hHeld ?_
            change RestIn _ _ _ _ _ _ _ 0 #[true, true, true, true, true, true, true, true, true, true, true, true, true, true, true, true, true, true, true, true, true, true, true] _ _
            try simp only [Act.put, List.setIfInBounds_toArray, List.set_cons_zero, List.set_cons_succ, List.getElem_toArray, List.getElem_cons_zero, List.getElem_cons_succ]
            refine rest_done (by kernel_rfl) ?_
            exact TAIL _ _ _ _ _ _ _ _ _ _ _ _ _ _ _ _ _ _ _ _ _ _ _ hNow
          exact AllRest.nil
        refine AllRest.cons rfl (fun K hK => ?_) ?_
        · have kBg := (hHeld.2).size
          have kB := blk_new_of (hHeld.2) 3 #[.int .i64 30, .int .i64 0, .int .i64 0]
          have hOld := (hHeld.2)
          go_simp
          refine hK.out _ _ ?_ (fun hHeld' => ?_)
          · exact (fun (hbel : Below W0.heap.size W0 _) => ⟨kx.below hbel kx.lt, hbel⟩) ((hHeld.2).alloc (hHeld.2).size _)
          clear hK K
          change RestIn _ _ _ _ _ _ _ 5 #[true, true, true, true, true, true, true, true, true, true, true, true, true, true, true, true, false, false, true, true, false, false, false] _ _
          try simp only [Act.put, List.setIfInBounds_toArray, List.set_cons_zero, List.set_cons_succ, List.getElem_toArray, List.getElem_cons_zero, List.getElem_cons_succ]
          clear hHeld
          have hHeld := hHeld'
          clear hHeld'
          have hNow := (hHeld.2)
          try simp at kBg
          try have hss := nwS hss (.cells #[.int .i64 30, .int .i64 0, .int .i64 0] 3)
          try have htf := nwF htf (.cells #[.int .i64 30, .int .i64 0, .int .i64 0] 3)
          refine rest_take (i := 20) (v := _) all_wide (noDefers_of (by kernel_rfl)) rfl (by kernel_rfl) (by kernel_rfl) (by kernel_rfl) (fun _ _ _ h => h) (Or.inl ⟨by rfl, by intro w hSw; clear hSw; go_simp; first | done | with_reducible rfl⟩) hHeld ?_
          change RestIn _ _ _ _ _ _ _ 4 #[true, true, true, true, true, true, true, true, true, true, true, true, true, true, true, true, false, false, true, true, true, false, false] _ _
          try simp only [Act.put, List.setIfInBounds_toArray, List.set_cons_zero, List.set_cons_succ, List.getElem_toArray, List.getElem_cons_zero, List.getElem_cons_succ]
          refine rest_ready (rs := [16]) (by kernel_rfl) (by simp) ?_
          refine AllRest.cons rfl (fun K hK => ?_) AllRest.nil
          go_simp
          gi_wp2_with ((refine ⟨trivial, ?_⟩; gi_at_call 34; (with_reducible refine (callsIn_wide.2 (soil_rs _)).mono ?_); rintro e wn ⟨As, rfl, hss, hb⟩))
          refine hK.out _ _ ?_ (fun hHeld' => ?_)
          · exact ⟨hHeld.1.below hb hHeld.1.lt, (hHeld.2).trans (hb.mono (hHeld.2).size)⟩
          clear hK K
          change RestIn _ _ _ _ _ _ _ 3 #[true, true, true, true, true, true, true, true, true, true, true, true, true, true, true, true, true, false, true, true, true, false, false] _ _
          try simp only [Act.put, List.setIfInBounds_toArray, List.set_cons_zero, List.set_cons_succ, List.getElem_toArray, List.getElem_cons_zero, List.getElem_cons_succ]
          clear hHeld
          have hHeld := hHeld'
          clear hHeld'
          have hNow := (hHeld.2)
          try have kB := kB.below hb kB.lt
          refine rest_ready (rs := [17]) (by kernel_rfl) (by simp) ?_
          refine AllRest.cons rfl (fun K hK => ?_) AllRest.nil
          go_simp
          gi_wp2_with ((refine ⟨trivial, ?_⟩; gi_at_call 38; (with_reducible refine (callsIn_wide.2 (four_any _)).mono ?_); rintro e wn ⟨Af, rfl, htf, hb⟩))
          refine hK.out _ _ ?_ (fun hHeld' => ?_)
          · exact ⟨hHeld.1.below hb hHeld.1.lt, (hHeld.2).trans (hb.mono (hHeld.2).size)⟩
          clear hK K
          change RestIn _ _ _ _ _ _ _ 2 #[true, true, true, true, true, true, true, true, true, true, true, true, true, true, true, true, true, true, true, true, true, false, false] _ _
          try simp only [Act.put, List.setIfInBounds_toArray, List.set_cons_zero, List.set_cons_succ, List.getElem_toArray, List.getElem_cons_zero, List.getElem_cons_succ]
          clear hHeld
          have hHeld := hHeld'
          clear hHeld'
          have hNow := (hHeld.2)
          have hss := hss.to hb
          try have kB := kB.below hb kB.lt
          refine rest_ready (rs := [21]) (by kernel_rfl) (by simp) ?_
          refine AllRest.cons rfl (fun K hK => ?_) AllRest.nil
          go_simp
          gi_wp2_with ((refine ⟨trivial, ?_⟩; gi_at_call 31; (refine (callsIn_wide.2 (HB3.out As Af 2 1 _ _ hss htf kB)).mono ?_); rintro e wn ⟨rfl, hb⟩))
          refine hK.out _ _ ?_ (fun hHeld' => ?_)
          · exact ⟨hHeld.1.below hb hHeld.1.lt, (hHeld.2).trans (hb.mono (hHeld.2).size)⟩
          clear hK K
          change RestIn _ _ _ _ _ _ _ 1 #[true, true, true, true, true, true, true, true, true, true, true, true, true, true, true, true, true, true, true, true, true, true, false] _ _
          try simp only [Act.put, List.setIfInBounds_toArray, List.set_cons_zero, List.set_cons_succ, List.getElem_toArray, List.getElem_cons_zero, List.getElem_cons_succ]
          clear hHeld
          have hHeld := hHeld'
          clear hHeld'
          have hNow := (hHeld.2)
          try have kB := kB.below hb kB.lt
          refine rest_take (i := 22) (v := _) all_wide (noDefers_of (by kernel_rfl)) rfl (by kernel_rfl) (by kernel_rfl) (by kernel_rfl) (fun _ _ _ h => h) (Or.inl ⟨by rfl, by intro w hSw; clear hSw; go_simp; first | done | with_reducible rfl⟩) hHeld ?_
          change RestIn _ _ _ _ _ _ _ 0 #[true, true, true, true, true, true, true, true, true, true, true, true, true, true, true, true, true, true, true, true, true, true, true] _ _
          try simp only [Act.put, List.setIfInBounds_toArray, List.set_cons_zero, List.set_cons_succ, List.getElem_toArray, List.getElem_cons_zero, List.getElem_cons_succ]
          refine rest_done (by kernel_rfl) ?_
          exact TAIL _ _ _ _ _ _ _ _ _ _ _ _ _ _ _ _ _ _ _ _ _ _ _ hNow
        exact AllRest.nil
      exact AllRest.nil
    refine AllRest.cons rfl (fun K hK => ?_) ?_
    · have kBg := (hHeld.2).size
      have kB := blk_new_of (hHeld.2) 3 #[.int .i64 30, .int .i64 0, .int .i64 0, .int .i64 10]
      have hOld := (hHeld.2)
      go_simp
      refine hK.out _ _ ?_ (fun hHeld' => ?_)
      · exact (fun (hbel : Below W0.heap.size W0 _) => ⟨kx.below hbel kx.lt, hbel⟩) ((hHeld.2).alloc (hHeld.2).size _)
      clear hK K
      change RestIn _ _ _ _ _ _ _ 20 #[true, false, true, true, false, false, false, false, false, false, false, false, false, false, false, false, false, false, false, false, false, false, false] _ _
      try simp only [Act.put, List.setIfInBounds_toArray, List.set_cons_zero, List.set_cons_succ, List.getElem_toArray, List.getElem_cons_zero, List.getElem_cons_succ]
      clear hHeld
      have hHeld := hHeld'
      clear hHeld'
      have hNow := (hHeld.2)
      try simp at kBg
      try have hss := nwS hss (.cells #[.int .i64 30, .int .i64 0, .int .i64 0, .int .i64 10] 3)
      try have htf := nwF htf (.cells #[.int .i64 30, .int .i64 0, .int .i64 0, .int .i64 10] 3)
      refine rest_take (i := 4) (v := _) all_wide (noDefers_of (by kernel_rfl)) rfl (by kernel_rfl) (by kernel_rfl) (by kernel_rfl) (fun _ _ _ h => h) (Or.inl ⟨by rfl, by intro w hSw; clear hSw; go_simp; first | done | with_reducible rfl⟩) hHeld ?_
      change RestIn _ _ _ _ _ _ _ 19 #[true, false, true, true, true, false, false, false, false, false, false, false, false, false, false, false, false, false, false, false, false, false, false] _ _
      try simp only [Act.put, List.setIfInBounds_toArray, List.set_cons_zero, List.set_cons_succ, List.getElem_toArray, List.getElem_cons_zero, List.getElem_cons_succ]
      refine rest_ready (rs := [1]) (by kernel_rfl) (by simp) ?_
      refine AllRest.cons rfl (fun K hK => ?_) AllRest.nil
      go_simp
      gi_wp2_with ((refine ⟨trivial, ?_⟩; gi_at_call 38; (with_reducible refine (callsIn_wide.2 (four_any _)).mono ?_); rintro e wn ⟨Af, rfl, htf, hb⟩))
      refine hK.out _ _ ?_ (fun hHeld' => ?_)
      · exact ⟨hHeld.1.below hb hHeld.1.lt, (hHeld.2).trans (hb.mono (hHeld.2).size)⟩
      clear hK K
      change RestIn _ _ _ _ _ _ _ 18 #[true, true, true, true, true, false, false, false, false, false, false, false, false, false, false, false, false, false, false, false, false, false, false] _ _
      try simp only [Act.put, List.setIfInBounds_toArray, List.set_cons_zero, List.set_cons_succ, List.getElem_toArray, List.getElem_cons_zero, List.getElem_cons_succ]
      clear hHeld
      have hHeld := hHeld'
      clear hHeld'
      have hNow := (hHeld.2)
      have hss := hss.to hb
      try have kB := kB.below hb kB.lt
      refine rest_ready (rs := [5]) (by kernel_rfl) (by simp) ?_
      refine AllRest.cons rfl (fun K hK => ?_) AllRest.nil
      go_simp
      gi_wp2_with ((refine ⟨trivial, ?_⟩; gi_at_call 31; (refine (callsIn_wide.2 (HB1.out As Af 2 1 _ _ hss htf kB)).mono ?_); rintro e wn ⟨rfl, hb⟩))
      refine hK.out _ _ ?_ (fun hHeld' => ?_)
      · exact ⟨hHeld.1.below hb hHeld.1.lt, (hHeld.2).trans (hb.mono (hHeld.2).size)⟩
      clear hK K
      change RestIn _ _ _ _ _ _ _ 17 #[true, true, true, true, true, true, false, false, false, false, false, false, false, false, false, false, false, false, false, false, false, false, false] _ _
      try simp only [Act.put, List.setIfInBounds_toArray, List.set_cons_zero, List.set_cons_succ, List.getElem_toArray, List.getElem_cons_zero, List.getElem_cons_succ]
      clear hHeld
      have hHeld := hHeld'
      clear hHeld'
      have hNow := (hHeld.2)
      try have kB := kB.below hb kB.lt
      refine rest_take (i := 6) (v := _) all_wide (noDefers_of (by kernel_rfl)) rfl (by kernel_rfl) (by kernel_rfl) (by kernel_rfl) (fun _ _ _ h => h) (Or.inl ⟨by rfl, by intro w hSw; clear hSw; go_simp; first | done | with_reducible rfl⟩) hHeld ?_
      change RestIn _ _ _ _ _ _ _ 16 #[true, true, true, true, true, true, true, false, false, false, false, false, false, false, false, false, false, false, false, false, false, false, false] _ _
      try simp only [Act.put, List.setIfInBounds_toArray, List.set_cons_zero, List.set_cons_succ, List.getElem_toArray, List.getElem_cons_zero, List.getElem_cons_succ]
      refine rest_take (i := 7) (v := _) all_wide (noDefers_of (by kernel_rfl)) rfl (by kernel_rfl) (by kernel_rfl) (by kernel_rfl) (fun _ _ _ h => h) (Or.inl ⟨by rfl, by intro w hSw; clear hSw; go_simp; first | done | with_reducible rfl⟩) hHeld ?_
      change RestIn _ _ _ _ _ _ _ 15 #[true, true, true, true, true, true, true, true, false, false, false, false, false, false, false, false, false, false, false, false, false, false, false] _ _
      try simp only [Act.put, List.setIfInBounds_toArray, List.set_cons_zero, List.set_cons_succ, List.getElem_toArray, List.getElem_cons_zero, List.getElem_cons_succ]
      refine rest_take (i := 10) (v := _) all_wide (noDefers_of (by kernel_rfl)) rfl (by kernel_rfl) (by kernel_rfl) (by kernel_rfl) (fun _ _ _ h => h) (Or.inl ⟨by rfl, by intro w hSw; (obtain ⟨q0, _⟩ := hSw; have q0x0 := q0.cell 0; have q0x1 := q0.cell 1; simp at q0x0 q0x1); go_simp; first | done | with_reducible rfl⟩) hHeld ?_
      change RestIn _ _ _ _ _ _ _ 14 #[true, true, true, true, true, true, true, true, false, false, true, false, false, false, false, false, false, false, false, false, false, false, false] _ _
      try simp only [Act.put, List.setIfInBounds_toArray, List.set_cons_zero, List.set_cons_succ, List.getElem_toArray, List.getElem_cons_zero, List.getElem_cons_succ]
      refine rest_ready (rs := [8, 11]) (by kernel_rfl) (by simp) ?_
      refine AllRest.cons rfl (fun K hK => ?_) ?_
      · go_simp
        gi_wp2_with ((refine ⟨trivial, ?_⟩; gi_at_call 34; (with_reducible refine (callsIn_wide.2 (soil_rs _)).mono ?_); rintro e wn ⟨As, rfl, hss, hb⟩))
        refine hK.out _ _ ?_ (fun hHeld' => ?_)
        · exact ⟨hHeld.1.below hb hHeld.1.lt, (hHeld.2).trans (hb.mono (hHeld.2).size)⟩
        clear hK K
        change RestIn _ _ _ _ _ _ _ 13 #[true, true, true, true, true, true, true, true, true, false, true, false, false, false, false, false, false, false, false, false, false, false, false] _ _
        try simp only [Act.put, List.setIfInBounds_toArray, List.set_cons_zero, List.set_cons_succ, List.getElem_toArray, List.getElem_cons_zero, List.getElem_cons_succ]
        clear hHeld
        have hHeld := hHeld'
        clear hHeld'
        have hNow := (hHeld.2)
        try have kB := kB.below hb kB.lt
        refine rest_ready (rs := [9, 11]) (by kernel_rfl) (by simp) ?_
        refine AllRest.cons rfl (fun K hK => ?_) ?_
        · go_simp
          gi_wp2_with ((refine ⟨trivial, ?_⟩; gi_at_call 38; (with_reducible refine (callsIn_wide.2 (four_any _)).mono ?_); rintro e wn ⟨Af, rfl, htf, hb⟩))
          refine hK.out _ _ ?_ (fun hHeld' => ?_)
          · exact ⟨hHeld.1.below hb hHeld.1.lt, (hHeld.2).trans (hb.mono (hHeld.2).size)⟩
          clear hK K
          change RestIn _ _ _ _ _ _ _ 12 #[true, true, true, true, true, true, true, true, true, true, true, false, false, false, false, false, false, false, false, false, false, false, false] _ _
          try simp only [Act.put, List.setIfInBounds_toArray, List.set_cons_zero, List.set_cons_succ, List.getElem_toArray, List.getElem_cons_zero, List.getElem_cons_succ]
          clear hHeld
          have hHeld := hHeld'
          clear hHeld'
          have hNow := (hHeld.2)
          have hss := hss.to hb
          try have kB := kB.below hb kB.lt
          refine rest_ready (rs := [11]) (by kernel_rfl) (by simp) ?_
          refine AllRest.cons rfl (fun K hK => ?_) AllRest.nil
          have kBg := (hHeld.2).size
          have kB := blk_new_of (hHeld.2) 3 #[.int .i64 30, .int .i64 0, .int .i64 0, .int .i64 11]
          have hOld := (hHeld.2)
          go_simp
          refine hK.out _ _ ?_ (fun hHeld' => ?_)
          · exact (fun (hbel : Below W0.heap.size W0 _) => ⟨kx.below hbel kx.lt, hbel⟩) ((hHeld.2).alloc (hHeld.2).size _)
          clear hK K
          change RestIn _ _ _ _ _ _ _ 11 #[true, true, true, true, true, true, true, true, true, true, true, true, false, false, false, false, false, false, false, false, false, false, false] _ _
          try simp only [Act.put, List.setIfInBounds_toArray, List.set_cons_zero, List.set_cons_succ, List.getElem_toArray, List.getElem_cons_zero, List.getElem_cons_succ]
          clear hHeld
          have hHeld := hHeld'
          clear hHeld'
          have hNow := (hHeld.2)
          try simp at kBg
          try have hss := nwS hss (.cells #[.int .i64 30, .int .i64 0, .int .i64 0, .int .i64 11] 3)
          try have htf := nwF htf (.cells #[.int .i64 30, .int .i64 0, .int .i64 0, .int .i64 11] 3)
          refine rest_take (i := 12) (v := _) all_wide (noDefers_of (by kernel_rfl)) rfl (by kernel_rfl) (by kernel_rfl) (by kernel_rfl) (fun _ _ _ h => h) (Or.inl ⟨by rfl, by intro w hSw; clear hSw; go_simp; first | done | with_reducible rfl⟩) hHeld ?_
          change RestIn _ _ _ _ _ _ _ 10 #[true, true, true, true, true, true, true, true, true, true, true, true, true, false, false, false, false, false, false, false, false, false, false] _ _
          try simp only [Act.put, List.setIfInBounds_toArray, List.set_cons_zero, List.set_cons_succ, List.getElem_toArray, List.getElem_cons_zero, List.getElem_cons_succ]
          refine rest_ready (rs := [13]) (by kernel_rfl) (by simp) ?_
          refine AllRest.cons rfl (fun K hK => ?_) AllRest.nil
          go_simp
          gi_wp2_with ((refine ⟨trivial, ?_⟩; gi_at_call 31; (refine (callsIn_wide.2 (HB2.out As Af 2 1 _ _ hss htf kB)).mono ?_); rintro e wn ⟨rfl, hb⟩))
          refine hK.out _ _ ?_ (fun hHeld' => ?_)
          · exact ⟨hHeld.1.below hb hHeld.1.lt, (hHeld.2).trans (hb.mono (hHeld.2).size)⟩
          clear hK K
          change RestIn _ _ _ _ _ _ _ 9 #[true, true, true, true, true, true, true, true, true, true, true, true, true, true, false, false, false, false, false, false, false, false, false] _ _
          try simp only [Act.put, List.setIfInBounds_toArray, List.set_cons_zero, List.set_cons_succ, List.getElem_toArray, List.getElem_cons_zero, List.getElem_cons_succ]
          clear hHeld
          have hHeld := hHeld'
          clear hHeld'
          have hNow := (hHeld.2)
          try have kB := kB.below hb kB.lt
          refine rest_take (i := 14) (v := _) all_wide (noDefers_of (by kernel_rfl)) rfl (by kernel_rfl) (by kernel_rfl) (by kernel_rfl) (fun _ _ _ h => h) (Or.inl ⟨by rfl, by intro w hSw; clear hSw; go_simp; first | done | with_reducible rfl⟩) hHeld ?_
          change RestIn _ _ _ _ _ _ _ 8 #[true, true, true, true, true, true, true, true, true, true, true, true, true, true, true, false, false, false, false, false, false, false, false] _ _
          try simp only [Act.put, List.setIfInBounds_toArray, List.set_cons_zero, List.set_cons_succ, List.getElem_toArray, List.getElem_cons_zero, List.getElem_cons_succ]
          refine rest_take (i := 15) (v := _) all_wide (noDefers_of (by kernel_rfl)) rfl (by kernel_rfl) (by kernel_rfl) (by kernel_rfl) (fun _ _ _ h => h) (Or.inl ⟨by rfl, by intro w hSw; clear hSw; go_simp; first | done | with_reducible rfl⟩) hHeld ?_
          change RestIn _ _ _ _ _ _ _ 7 #[true, true, true, true, true, true, true, true, true, true, true, true, true, true, true, true, false, false, false, false, false, false, false] _ _
          try simp only [Act.put, List.setIfInBounds_toArray, List.set_cons_zero, List.set_cons_succ, List.getElem_toArray, List.getElem_cons_zero, List.getElem_cons_succ]
          refine rest_take (i := 18) (v := _) all_wide (noDefers_of (by kernel_rfl)) rfl (by kernel_rfl) (by kernel_rfl) (by kernel_rfl) (fun _ _ _ h => h) (Or.inl ⟨by rfl, by intro w hSw; (obtain ⟨q0, _⟩ := hSw; have q0x0 := q0.cell 0; have q0x1 := q0.cell 1; simp at q0x0 q0x1); go_simp; first | done | with_reducible rfl⟩) hHeld ?_
          change RestIn _ _ _ _ _ _ _ 6 #[true, true, true, true, true, true, true, true, true, true, true, true, true, true, true, true, false, false, true, false, false, false, false] _ _
          try simp only [Act.put, List.setIfInBounds_toArray, List.set_cons_zero, List.set_cons_succ, List.getElem_toArray, List.getElem_cons_zero, List.getElem_cons_succ]
          refine rest_ready (rs := [16, 19]) (by kernel_rfl) (by simp) ?_
          refine AllRest.cons rfl (fun K hK => ?_) ?_
          · go_simp
            gi_wp2_with ((refine ⟨trivial, ?_⟩; gi_at_call 34; (with_reducible refine (callsIn_wide.2 (soil_rs _)).mono ?_); rintro e wn ⟨As, rfl, hss, hb⟩))
            refine hK.out _ _ ?_ (fun hHeld' => ?_)
            · exact ⟨hHeld.1.below hb hHeld.1.lt, (hHeld.2).trans (hb.mono (hHeld.2).size)⟩
            clear hK K
            change RestIn _ _ _ _ _ _ _ 5 #[true, true, true, true, true, true, true, true, true, true, true, true, true, true, true, true, true, false, true, false, false, false, false] _ _
            try simp only [Act.put, List.setIfInBounds_toArray, List.set_cons_zero, List.set_cons_succ, List.getElem_toArray, List.getElem_cons_zero, List.getElem_cons_succ]
            clear hHeld
            have hHeld := hHeld'
            clear hHeld'
            have hNow := (hHeld.2)
            try have kB := kB.below hb kB.lt
            refine rest_ready (rs := [17, 19]) (by kernel_rfl) (by simp) ?_
            refine AllRest.cons rfl (fun K hK => ?_) ?_
            · go_simp
              gi_wp2_with ((refine ⟨trivial, ?_⟩; gi_at_call 38; (with_reducible refine (callsIn_wide.2 (four_any _)).mono ?_); rintro e wn ⟨Af, rfl, htf, hb⟩))
              refine hK.out _ _ ?_ (fun hHeld' => ?_)
              · exact ⟨hHeld.1.below hb hHeld.1.lt, (hHeld.2).trans (hb.mono (hHeld.2).size)⟩
              clear hK K
              change RestIn _ _ _ _ _ _ _ 4 #[true, true, true, true, true, true, true, true, true, true, true, true, true, true, true, true, true, true, true, false, false, false, false] _ _
              try simp only [Act.put, List.setIfInBounds_toArray, List.set_cons_zero, List.set_cons_succ, List.getElem_toArray, List.getElem_cons_zero, List.getElem_cons_succ]
              clear hHeld
              have hHeld := hHeld'
              clear hHeld'
              have hNow := (hHeld.2)
              have hss := hss.to hb
              try have kB := kB.below hb kB.lt
              refine rest_ready (rs := [19]) (by kernel_rfl) (by simp) ?_
              refine AllRest.cons rfl (fun K hK => ?_) AllRest.nil
              have kBg := (hHeld.2).size
              have kB := blk_new_of (hHeld.2) 3 #[.int .i64 30, .int .i64 0, .int .i64 0]
              have hOld := (hHeld.2)
              go_simp
              refine hK.out _ _ ?_ (fun hHeld' => ?_)
              · exact (fun (hbel : Below W0.heap.size W0 _) => ⟨kx.below hbel kx.lt, hbel⟩) ((hHeld.2).alloc (hHeld.2).size _)
              clear hK K
              change RestIn _ _ _ _ _ _ _ 3 #[true, true, true, true, true, true, true, true, true, true, true, true, true, true, true, true, true, true, true, true, false, false, false] _ _
              try simp only [Act.put, List.setIfInBounds_toArray, List.set_cons_zero, List.set_cons_succ, List.getElem_toArray, List.getElem_cons_zero, List.getElem_cons_succ]
              clear hHeld
              have hHeld := hHeld'
              clear hHeld'
              have hNow := (hHeld.2)
              try simp at kBg
              try have hss := nwS hss (.cells #[.int .i64 30, .int .i64 0, .int .i64 0] 3)
              try have htf := nwF htf (.cells #[.int .i64 30, .int .i64 0, .int .i64 0] 3)
              refine rest_take (i := 20) (v := _) all_wide (noDefers_of (by kernel_rfl)) rfl (by kernel_rfl) (by kernel_rfl) (by kernel_rfl) (fun _ _ _ h => h) (Or.inl ⟨by rfl, by intro w hSw; clear hSw; go_simp; first | done | with_reducible rfl⟩) hHeld ?_
              change RestIn _ _ _ _ _ _ _ 2 #[true, true, true, true, true, true, true, true, true, true, true, true, true, true, true, true, true, true, true, true, true, false, false] _ _
              try simp only [Act.put, List.setIfInBounds_toArray, List.set_cons_zero, List.set_cons_succ, List.getElem_toArray, List.getElem_cons_zero, List.getElem_cons_succ]
              refine rest_ready (rs := [21]) (by kernel_rfl) (by simp) ?_
              refine AllRest.cons rfl (fun K hK => ?_) AllRest.nil
              go_simp
              gi_wp2_with ((refine ⟨trivial, ?_⟩; gi_at_call 31; (refine (callsIn_wide.2 (HB3.out As Af 2 1 _ _ hss htf kB)).mono ?_); rintro e wn ⟨rfl, hb⟩))
              refine hK.out _ _ ?_ (fun hHeld' => ?_)
              · exact ⟨hHeld.1.below hb hHeld.1.lt, (hHeld.2).trans (hb.mono (hHeld.2).size)⟩
              clear hK K
              change RestIn _ _ _ _ _ _ _ 1 #[true, true, true, true, true, true, true, true, true, true, true, true, true, true, true, true, true, true, true, true, true, true, false] _ _
              try simp only [Act.put, List.setIfInBounds_toArray, List.set_cons_zero, List.set_cons_succ, List.getElem_toArray, List.getElem_cons_zero, List.getElem_cons_succ]
              clear hHeld
              have hHeld := hHeld'
              clear hHeld'
              have hNow := (hHeld.2)
              try have kB := kB.below hb kB.lt
              refine rest_take (i := 22) (v := _) all_wide (noDefers_of (by kernel_rfl)) rfl (by kernel_rfl) (by kernel_rfl) (by kernel_rfl) (fun _ _ _ h => h) (Or.inl ⟨by rfl, by intro w hSw; clear hSw; go_simp; first | done | with_reducible rfl⟩) hHeld ?_
              change RestIn _ _ _ _ _ _ _ 0 #[true, true, true, true, true, true, true, true, true, true, true, true, true, true, true, true, true, true, true, true, true, true, true] _ _
              try simp only [Act.put, List.setIfInBounds_toArray, List.set_cons_zero, List.set_cons_succ, List.getElem_toArray, List.getElem_cons_zero, List.getElem_cons_succ]
              refine rest_done (by kernel_rfl) ?_
              exact TAIL _ _ _ _ _ _ _ _ _ _ _ _ _ _ _ _ _ _ _ _ _ _ _ hNow
            refine AllRest.cons rfl (fun K hK => ?_) ?_
            · have kBg := (hHeld.2).size
              have kB := blk_new_of (hHeld.2) 3 #[.int .i64 30, .int .i64 0, .int .i64 0]
              have hOld := (hHeld.2)
              go_simp
              refine hK.out _ _ ?_ (fun hHeld' => ?_)
              · exact (fun (hbel : Below W0.heap.size W0 _) => ⟨kx.below hbel kx.lt, hbel⟩) ((hHeld.2).alloc (hHeld.2).size _)
              clear hK K
              change RestIn _ _ _ _ _ _ _ 4 #[true, true, true, true, true, true, true, true, true, true, true, true, true, true, true, true, true, false, true, true, false, false, false] _ _
              try simp only [Act.put, List.setIfInBounds_toArray, List.set_cons_zero, List.set_cons_succ, List.getElem_toArray, List.getElem_cons_zero, List.getElem_cons_succ]
              clear hHeld
              have hHeld := hHeld'
              clear hHeld'
              have hNow := (hHeld.2)
              try simp at kBg
              try have hss := nwS hss (.cells #[.int .i64 30, .int .i64 0, .int .i64 0] 3)
              try have htf := nwF htf (.cells #[.int .i64 30, .int .i64 0, .int .i64 0] 3)
              refine rest_take (i := 20) (v := _) all_wide (noDefers_of (by kernel_rfl)) rfl (by kernel_rfl) (by kernel_rfl) (by kernel_rfl) (fun _ _ _ h => h) (Or.inl ⟨by rfl, by intro w hSw; clear hSw; go_simp; first | done | with_reducible rfl⟩) hHeld ?_
              change RestIn _ _ _ _ _ _ _ 3 #[true, true, true, true, true, true, true, true, true, true, true, true, true, true, true, true, true, false, true, true, true, false, false] _ _
              try simp only [Act.put, List.setIfInBounds_toArray, List.set_cons_zero, List.set_cons_succ, List.getElem_toArray, List.getElem_cons_zero, List.getElem_cons_succ]
              refine rest_ready (rs := [17]) (by kernel_rfl) (by simp) ?_
              refine AllRest.cons rfl (fun K hK => ?_) AllRest.nil
              go_simp
              gi_wp2_with ((refine ⟨trivial, ?_⟩; gi_at_call 38; (with_reducible refine (callsIn_wide.2 (four_any _)).mono ?_); rintro e wn ⟨Af, rfl, htf, hb⟩))
              refine hK.out _ _ ?_ (fun hHeld' => ?_)
              · exact ⟨hHeld.1.below hb hHeld.1.lt, (hHeld.2).trans (hb.mono (hHeld.2).size)⟩
              clear hK K
              change RestIn _ _ _ _ _ _ _ 2 #[true, true, true, true, true, true, true, true, true, true, true, true, true, true, true, true, true, true, true, true, true, false, false] _ _
              try simp only [Act.put, List.setIfInBounds_toArray, List.set_cons_zero, List.set_cons_succ, List.getElem_toArray, List.getElem_cons_zero, List.getElem_cons_succ]
              clear hHeld
              have hHeld := hHeld'
              clear hHeld'
              have hNow := (hHeld.2)
              have hss := hss.to hb
              try have kB := kB.below hb kB.lt
              refine rest_ready (rs := [21]) (by kernel_rfl) (by simp) ?_
              refine AllRest.cons rfl (fun K hK => ?_) AllRest.nil
              go_simp
              gi_wp2_with ((refine ⟨trivial, ?_⟩; gi_at_call 31; (refine (callsIn_wide.2 (HB3.out As Af 2 1 _ _ hss htf kB)).mono ?_); rintro e wn ⟨rfl, hb⟩))
              refine hK.out _ _ ?_ (fun hHeld' => ?_)
              · exact ⟨hHeld.1.below hb hHeld.1.lt, (hHeld.2).trans (hb.mono (hHeld.2).size)⟩
              clear hK K
              change RestIn _ _ _ _ _ _ _ 1 #[true, true, true, true, true, true, true, true, true, true, true, true, true, true, true, true, true, true, true, true, true, true, false] _ _
              try simp only [Act.put, List.setIfInBounds_toArray, List.set_cons_zero, List.set_cons_succ, List.getElem_toArray, List.getElem_cons_zero, List.getElem_cons_succ]
              clear hHeld
              have hHeld := hHeld'
              clear hHeld'
              have hNow := (hHeld.2)
              try have kB := kB.below hb kB.lt
              refine rest_take (i := 22) (v := _) all_wide (noDefers_of (by kernel_rfl)) rfl (by kernel_rfl) (by kernel_rfl) (by kernel_rfl) (fun _ _ _ h => h) (Or.inl ⟨by rfl, by intro w hSw; clear hSw; go_simp; first | done | with_reducible rfl⟩) hHeld ?_
              change RestIn _ _ _ _ _ _ _ 0 #[true, true, true, true, true, true, true, true, true, true, true, true, true, true, true, true, true, true, true, true, true, true, true] _ _
              try simp only [Act.put, List.setIfInBounds_toArray, List.set_cons_zero, List.set_cons_succ, List.getElem_toArray, List.getElem_cons_zero, List.getElem_cons_succ]
              refine rest_done (by kernel_rfl) ?_
              exact TAIL _ _ _ _ _ _ _ _ _ _ _ _ _ _ _ _ _ _ _ _ _ _ _ hNow
            exact AllRest.nil
          refine AllRest.cons rfl (fun K hK => ?_) ?_
          · have kBg := (hHeld.2).size
            have kB := blk_new_of (hHeld.2) 3 #[.int .i64 30, .int .i64 0, .int .i64 0]
            have hOld := (hHeld.2)
            go_simp
            refine hK.out _ _ ?_ (fun hHeld' => ?_)
            · exact (fun (hbel : Below W0.heap.size W0 _) => ⟨kx.below hbel kx.lt, hbel⟩) ((hHeld.2).alloc (hHeld.2).size _)
            clear hK K
            change RestIn _ _ _ _ _ _ _ 5 #[true, true, true, true, true, true, true, true, true, true, true, true, true, true, true, true, false, false, true, true, false, false, false] _ _
            try simp only [Act.put, List.setIfInBounds_toArray, List.set_cons_zero, List.set_cons_succ, List.getElem_toArray, List.getElem_cons_zero, List.getElem_cons_succ]
            clear hHeld
            have hHeld := hHeld'
            clear hHeld'
            have hNow := (hHeld.2)
            try simp at kBg
            try have hss := nwS hss (.cells #[.int .i64 30, .int .i64 0, .int .i64 0] 3)
            try have htf := nwF htf (.cells #[.int .i64 30, .int .i64 0, .int .i64 0] 3)
            refine rest_take (i := 20) (v := _) all_wide (noDefers_of (by kernel_rfl)) rfl (by kernel_rfl) (by kernel_rfl) (by kernel_rfl) (fun _ _ _ h => h) (Or.inl ⟨by rfl, by intro w hSw; clear hSw; go_simp; first | done | with_reducible rfl⟩) hHeld ?_
            change RestIn _ _ _ _ _ _ _ 4 #[true, true, true, true, true, true, true, true, true, true, true, true, true, true, true, true, false, false, true, true, true, false, false] _ _
            try simp only [Act.put, List.setIfInBounds_toArray, List.set_cons_zero, List.set_cons_succ, List.getElem_toArray, List.getElem_cons_zero, List.getElem_cons_succ]
            refine rest_ready (rs := [16]) (by kernel_rfl) (by simp) ?_
            refine AllRest.cons rfl (fun K hK => ?_) AllRest.nil
            go_simp
            gi_wp2_with ((refine ⟨trivial, ?_⟩; gi_at_call 34; (with_reducible refine (callsIn_wide.2 (soil_rs _)).mono ?_); rintro e wn ⟨As, rfl, hss, hb⟩))
            refine hK.out _ _ ?_ (fun hHeld' => ?_)
            · exact ⟨hHeld.1.below hb hHeld.1.lt, (hHeld.2).trans (hb.mono (hHeld.2).size)⟩
            clear hK K
            change RestIn _ _ _ _ _ _ _ 3 #[true, true, true, true, true, true, true, true, true, true, true, true, true, true, true, true, true, false, true, true, true, false, false] _ _
            try simp only [Act.put, List.setIfInBounds_toArray, List.set_cons_zero, List.set_cons_succ, List.getElem_toArray, List.getElem_cons_zero, List.getElem_cons_succ]
            clear hHeld
            have hHeld := hHeld'
            clear hHeld'
            have hNow := (hHeld.2)
            try have kB := kB.below hb kB.lt
            refine rest_ready (rs := [17]) (by kernel_rfl) (by simp) ?_
            refine AllRest.cons rfl (fun K hK => ?_) AllRest.nil
            go_simp
            gi_wp2_with ((refine ⟨trivial, ?_⟩; gi_at_call 38; (with_reducible refine (callsIn_wide.2 (four_any _)).mono ?_); rintro e wn ⟨Af, rfl, htf, hb⟩))
            refine hK.out _ _ ?_ (fun hHeld' => ?_)
            · exact ⟨hHeld.1.below hb hHeld.1.lt, (hHeld.2).trans (hb.mono (hHeld.2).size)⟩
            clear hK K
            change RestIn _ _ _ _ _ _ _ 2 #[true, true, true, true, true, true, true, true, true, true, true, true, true, true, true, true, true, true, true, true, true, false, false] _ _
            try simp only [Act.put, List.setIfInBounds_toArray, List.set_cons_zero, List.set_cons_succ, List.getElem_toArray, List.getElem_cons_zero, List.getElem_cons_succ]
            clear hHeld
            have hHeld := hHeld'
            clear hHeld'
            have hNow := (hHeld.2)
            have hss := hss.to hb
            try have kB := kB.below hb kB.lt
            refine rest_ready (rs := [21]) (by kernel_rfl) (by simp) ?_
            refine AllRest.cons rfl (fun K hK => ?_) AllRest.nil
            go_simp
            gi_wp2_with ((refine ⟨trivial, ?_⟩; gi_at_call 31; (refine (callsIn_wide.2 (HB3.out As Af 2 1 _ _ hss htf kB)).mono ?_); rintro e wn ⟨rfl, hb⟩))
            refine hK.out _ _ ?_ (fun hHeld' => ?_)
            · exact ⟨hHeld.1.below hb hHeld.1.lt, (hHeld.2).trans (hb.mono (hHeld.2).size)⟩
            clear hK K
            change RestIn _ _ _ _ _ _ _ 1 #[true, true, true, true, true, true, true, true, true, true, true, true, true, true, true, true, true, true, true, true, true, true, false] _ _
            try simp only [Act.put, List.setIfInBounds_toArray, List.set_cons_zero, List.set_cons_succ, List.getElem_toArray, List.getElem_cons_zero, List.getElem_cons_succ]
            clear hHeld
            have hHeld := hHeld'
            clear hHeld'
            have hNow := (hHeld.2)
            try have kB := kB.below hb kB.lt
            refine rest_take (i := 22) (v := _) all_wide (noDefers_of (by kernel_rfl)) rfl (by kernel_rfl) (by kernel_rfl) (by kernel_rfl) (fun _ _ _ h => h) (Or.inl ⟨by rfl, by intro w hSw; clear hSw; go_simp; first | done | with_reducible rfl⟩) hHeld ?_
            change RestIn _ _ _ _ _ _ _ 0 #[true, true, true, true, true, true, true, true, true, true, true, true, true, true, true, true, true, true, true, true, true, true, true] _ _
            try simp only [Act.put, List.setIfInBounds_toArray, List.set_cons_zero, List.set_cons_succ, List.getElem_toArray, List.getElem_cons_zero, List.getElem_cons_succ]
            refine rest_done (by kernel_rfl) ?_
            exact TAIL _ _ _ _ _ _ _ _ _ _ _ _ _ _ _ _ _ _ _ _ _ _ _ hNow
          exact AllRest.nil
        refine AllRest.cons rfl (fun K hK => ?_) ?_
        · have kBg := (hHeld.2).size
          have kB := blk_new_of (hHeld.2) 3 #[.int .i64 30, .int .i64 0, .int .i64 0, .int .i64 11]
          have hOld := (hHeld.2)
          go_simp
          refine hK.out _ _ ?_ (fun hHeld' => ?_)
          · exact (fun (hbel : Below W0.heap.size W0 _) => ⟨kx.below hbel kx.lt, hbel⟩) ((hHeld.2).alloc (hHeld.2).size _)
          clear hK K
          change RestIn _ _ _ _ _ _ _ 12 #[true, true, true, true, true, true, true, true, true, false, true, true, false, false, false, false, false, false, false, false, false, false, false] _ _
          try simp only [Act.put, List.setIfInBounds_toArray, List.set_cons_zero, List.set_cons_succ, List.getElem_toArray, List.getElem_cons_zero, List.getElem_cons_succ]
          clear hHeld
          have hHeld := hHeld'
          clear hHeld'
          have hNow := (hHeld.2)
          try simp at kBg
          try have hss := nwS hss (.cells #[.int .i64 30, .int .i64 0, .int .i64 0, .int .i64 11] 3)
          try have htf := nwF htf (.cells #[.int .i64 30, .int .i64 0, .int .i64 0, .int .i64 11] 3)
          refine rest_take (i := 12) (v := _) all_wide (noDefers_of (by kernel_rfl)) rfl (by kernel_rfl) (by kernel_rfl) (by kernel_rfl) (fun _ _ _ h => h) (Or.inl ⟨by rfl, by intro w hSw; clear hSw; go_simp; first | done | with_reducible rfl⟩) hHeld ?_
          change RestIn _ _ _ _ _ _ _ 11 #[true, true, true, true, true, true, true, true, true, false, true, true, true, false, false, false, false, false, false, false, false, false, false] _ _
          try simp only [Act.put, List.setIfInBounds_toArray, List.set_cons_zero, List.set_cons_succ, List.getElem_toArray, List.getElem_cons_zero, List.getElem_cons_succ]
          refine rest_ready (rs := [9]) (by kernel_rfl) (by simp) ?_
          refine AllRest.cons rfl (fun K hK => ?_) AllRest.nil
          go_simp
          gi_wp2_with ((refine ⟨trivial, ?_⟩; gi_at_call 38; (with_reducible refine (callsIn_wide.2 (four_any _)).mono ?_); rintro e wn ⟨Af, rfl, htf, hb⟩))
          refine hK.out _ _ ?_ (fun hHeld' => ?_)
          · exact ⟨hHeld.1.below hb hHeld.1.lt, (hHeld.2).trans (hb.mono (hHeld.2).size)⟩
          clear hK K
          change RestIn _ _ _ _ _ _ _ 10 #[true, true, true, true, true, true, true, true, true, true, true, true, true, false, false, false, false, false, false, false, false, false, false] _ _
          try simp only [Act.put, List.setIfInBounds_toArray, List.set_cons_zero, List.set_cons_succ, List.getElem_toArray, List.getElem_cons_zero, List.getElem_cons_succ]
          clear hHeld
          have hHeld := hHeld'
          clear hHeld'
          have hNow := (hHeld.2)
          have hss := hss.to hb
          try have kB := kB.below hb kB.lt
          refine rest_ready (rs := [13]) (by kernel_rfl) (by simp) ?_
          refine AllRest.cons rfl (fun K hK => ?_) AllRest.nil
          go_simp
          gi_wp2_with ((refine ⟨trivial, ?_⟩; gi_at_call 31; (refine (callsIn_wide.2 (HB2.out As Af 2 1 _ _ hss htf kB)).mono ?_); rintro e wn ⟨rfl, hb⟩))
          refine hK.out _ _ ?_ (fun hHeld' => ?_)
          · exact ⟨hHeld.1.below hb hHeld.1.lt, (hHeld.2).trans (hb.mono (hHeld.2).size)⟩
          clear hK K
          change RestIn _ _ _ _ _ _ _ 9 #[true, true, true, true, true, true, true, true, true, true, true, true, true, true, false, false, false, false, false, false, false, false, false] _ _
          try simp only [Act.put, List.setIfInBounds_toArray, List.set_cons_zero, List.set_cons_succ, List.getElem_toArray, List.getElem_cons_zero, List.getElem_cons_succ]
          clear hHeld
          have hHeld := hHeld'
          clear hHeld'
          have hNow := (hHeld.2)
          try have kB := kB.below hb kB.lt
          refine rest_take (i := 14) (v := _) all_wide (noDefers_of (by kernel_rfl)) rfl (by kernel_rfl) (by kernel_rfl) (by kernel_rfl) (fun _ _ _ h => h) (Or.inl ⟨by rfl, by intro w hSw; clear hSw; go_simp; first | done | with_reducible rfl⟩) hHeld ?_
          change RestIn _ _ _ _ _ _ _ 8 #[true, true, true, true, true, true, true, true, true, true, true, true, true, true, true, false, false, false, false, false, false, false, false] _ _
          try simp only [Act.put, List.setIfInBounds_toArray, List.set_cons_zero, List.set_cons_succ, List.getElem_toArray, List.getElem_cons_zero, List.getElem_cons_succ]
          refine rest_take (i := 15) (v := _) all_wide (noDefers_of (by kernel_rfl)) rfl (by kernel_rfl) (by kernel_rfl) (by kernel_rfl) (fun _ _ _ h => h) (Or.inl ⟨by rfl, by intro w hSw; clear hSw; go_simp; first | done | with_reducible rfl⟩) hHeld ?_
          change RestIn _ _ _ _ _ _ _ 7 #[true, true, true, true, true, true, true, true, true, true, true, true, true, true, true, true, false, false, false, false, false, false, false] _ _
          try simp only [Act.put, List.setIfInBounds_toArray, List.set_cons_zero, List.set_cons_succ, List.getElem_toArray, List.getElem_cons_zero, List.getElem_cons_succ]
          refine rest_take (i := 18) (v := _) all_wide (noDefers_of (by kernel_rfl)) rfl (by kernel_rfl) (by kernel_rfl) (by kernel_rfl) (fun _ _ _ h => h) (Or.inl ⟨by rfl, by intro w hSw; (obtain ⟨q0, _⟩ := hSw; have q0x0 := q0.cell 0; have q0x1 := q0.cell 1; simp at q0x0 q0x1); go_simp; first | done | with_reducible rfl⟩) hHeld ?_
          change RestIn _ _ _ _ _ _ _ 6 #[true, true, true, true, true, true, true, true, true, true, true, true, true, true, true, true, false, false, true, false, false, false, false] _ _
          try simp only [Act.put, List.setIfInBounds_toArray, List.set_cons_zero, List.set_cons_succ, List.getElem_toArray, List.getElem_cons_zero, List.getElem_cons_succ]
          refine rest_ready (rs := [16, 19]) (by kernel_rfl) (by simp) ?_
          refine AllRest.cons rfl (fun K hK => ?_) ?_
          · go_simp
            gi_wp2_with ((refine ⟨trivial, ?_⟩; gi_at_call 34; (with_reducible refine (callsIn_wide.2 (soil_rs _)).mono ?_); rintro e wn ⟨As, rfl, hss, hb⟩))
            refine hK.out _ _ ?_ (fun hHeld' => ?_)
            · exact ⟨hHeld.1.below hb hHeld.1.lt, (hHeld.2).trans (hb.mono (hHeld.2).size)⟩
            clear hK K
            change RestIn _ _ _ _ _ _ _ 5 #[true, true, true, true, true, true, true, true, true, true, true, true, true, true, true, true, true, false, true, false, false, false, false] _ _
            try simp only [Act.put, List.setIfInBounds_toArray, List.set_cons_zero, List.set_cons_succ, List.getElem_toArray, List.getElem_cons_zero, List.getElem_cons_succ]
            clear hHeld
            have hHeld := hHeld'
            clear hHeld'
            have hNow := (hHeld.2)
            try have kB := kB.below hb kB.lt
            refine rest_ready (rs := [17, 19]) (by kernel_rfl) (by simp) ?_
            refine AllRest.cons rfl (fun K hK => ?_) ?_
            · go_simp
              gi_wp2_with ((refine ⟨trivial, ?_⟩; gi_at_call 38; (with_reducible refine (callsIn_wide.2 (four_any _)).mono ?_); rintro e wn ⟨Af, rfl, htf, hb⟩))
              refine hK.out _ _ ?_ (fun hHeld' => ?_)
              · exact ⟨hHeld.1.below hb hHeld.1.lt, (hHeld.2).trans (hb.mono (hHeld.2).size)⟩
              clear hK K
              change RestIn _ _ _ _ _ _ _ 4 #[true, true, true, true, true, true, true, true, true, true, true, true, true, true, true, true, true, true, true, false, false, false, false] _ _
              try simp only [Act.put, List.setIfInBounds_toArray, List.set_cons_zero, List.set_cons_succ, List.getElem_toArray, List.getElem_cons_zero, List.getElem_cons_succ]
              clear hHeld
              have hHeld := hHeld'
              clear hHeld'
              have hNow := (hHeld.2)
              have hss := hss.to hb
              try have kB := kB.below hb kB.lt
              refine rest_ready (rs := [19]) (by kernel_rfl) (by simp) ?_
              refine AllRest.cons rfl (fun K hK => ?_) AllRest.nil
              have kBg := (hHeld.2).size
              have kB := blk_new_of (hHeld.2) 3 #[.int .i64 30, .int .i64 0, .int .i64 0]
              have hOld := (hHeld.2)
              go_simp
              refine hK.out _ _ ?_ (fun hHeld' => ?_)
              · exact (fun (hbel : Below W0.heap.size W0 _) => ⟨kx.below hbel kx.lt, hbel⟩) ((hHeld.2).alloc (hHeld.2).size _)
              clear hK K
              change RestIn _ _ _ _ _ _ _ 3 #[true, true, true, true, true, true, true, true, true, true, true, true, true, true, true, true, true, true, true, true, false, false, false] _ _
              try simp only [Act.put, List.setIfInBounds_toArray, List.set_cons_zero, List.set_cons_succ, List.getElem_toArray, List.getElem_cons_zero, List.getElem_cons_succ]
              clear hHeld
              have hHeld := hHeld'
              clear hHeld'
              have hNow := (hHeld.2)
              try simp at kBg
              try have hss := nwS hss (.cells #[.int .i64 30, .int .i64 0, .int .i64 0] 3)
              try have htf := nwF htf (.cells #[.int .i64 30, .int .i64 0, .int .i64 0] 3)
              refine rest_take (i := 20) (v := _) all_wide (noDefers_of (by kernel_rfl)) rfl (by kernel_rfl) (by kernel_rfl) (by kernel_rfl) (fun _ _ _ h => h) (Or.inl ⟨by rfl, by intro w hSw; clear hSw; go_simp; first | done | with_reducible rfl⟩) hHeld ?_
              change RestIn _ _ _ _ _ _ _ 2 #[true, true, true, true, true, true, true, true, true, true, true, true, true, true, true, true, true, true, true, true, true, false, false] _ _
              try simp only [Act.put, List.setIfInBounds_toArray, List.set_cons_zero, List.set_cons_succ, List.getElem_toArray, List.getElem_cons_zero, List.getElem_cons_succ]
              refine rest_ready (rs := [21]) (by kernel_rfl) (by simp) ?_
              refine AllRest.cons rfl (fun K hK => ?_) AllRest.nil
              go_simp
              gi_wp2_with ((refine ⟨trivial, ?_⟩; gi_at_call 31; (refine (callsIn_wide.2 (HB3.out As Af 2 1 _ _ hss htf kB)).mono ?_); rintro e wn ⟨rfl, hb⟩))
              refine hK.out _ _ ?_ (fun hHeld' => ?_)
              · exact ⟨hHeld.1.below hb hHeld.1.lt, (hHeld.2).trans (hb.mono (hHeld.2).size)⟩
              clear hK K
              change RestIn _ _ _ _ _ _ _ 1 #[true, true, true, true, true, true, true, true, true, true, true, true, true, true, true, true, true, true, true, true, true, true, false] _ _
              try simp only [Act.put, List.setIfInBounds_toArray, List.set_cons_zero, List.set_cons_succ, List.getElem_toArray, List.getElem_cons_zero, List.getElem_cons_succ]
              clear hHeld
              have hHeld := hHeld'
              clear hHeld'
              have hNow := (hHeld.2)
              try have kB := kB.below hb kB.lt
              refine rest_take (i := 22) (v := _) all_wide (noDefers_of (by kernel_rfl)) rfl (by kernel_rfl) (by kernel_rfl) (by kernel_rfl) (fun _ _ _ h => h) (Or.inl ⟨by rfl, by intro w hSw; clear hSw; go_simp; first | done | with_reducible rfl⟩) hHeld ?_
              change RestIn _ _ _ _ _ _ _ 0 #[true, true, true, true, true, true, true, true, true, true, true, true, true, true, true, true, true, true, true, true, true, true, true] _ _
              try simp only [Act.put, List.setIfInBounds_toArray, List.set_cons_zero, List.set_cons_succ, List.getElem_toArray, List.getElem_cons_zero, List.getElem_cons_succ]
              refine rest_done (by kernel_rfl) ?_
              exact TAIL _ _ _ _ _ _ _ _ _ _ _ _ _ _ _ _ _ _ _ _ _ _ _ hNow
            refine AllRest.cons rfl (fun K hK => ?_) ?_
            · have kBg := (hHeld.2).size
              have kB := blk_new_of (hHeld.2) 3 #[.int .i64 30, .int .i64 0, .int .i64 0]
              have hOld := (hHeld.2)
              go_simp
              refine hK.out _ _ ?_ (fun hHeld' => ?_)
              · exact (fun (hbel : Below W0.heap.size W0 _) => ⟨kx.below hbel kx.lt, hbel⟩) ((hHeld.2).alloc (hHeld.2).size _)
              clear hK K
              change RestIn _ _ _ _ _ _ _ 4 #[true, true, true, true, true, true, true, true, true, true, true, true, true, true, true, true, true, false, true, true, false, false, false] _ _
              try simp only [Act.put, List.setIfInBounds_toArray, List.set_cons_zero, List.set_cons_succ, List.getElem_toArray, List.getElem_cons_zero, List.getElem_cons_succ]
              clear hHeld
              have hHeld := hHeld'
              clear hHeld'
              have hNow := (hHeld.2)
              try simp at kBg
              try have hss := nwS hss (.cells #[.int .i64 30, .int .i64 0, .int .i64 0] 3)
              try have htf := nwF htf (.cells #[.int .i64 30, .int .i64 0, .int .i64 0] 3)
              refine rest_take (i := 20) (v := _) all_wide (noDefers_of (by kernel_rfl)) rfl (by kernel_rfl) (by kernel_rfl) (by kernel_rfl) (fun _ _ _ h => h) (Or.inl ⟨by rfl, by intro w hSw; clear hSw; go_simp; first | done | with_reducible rfl⟩) hHeld ?_
              change RestIn _ _ _ _ _ _ _ 3 #[true, true, true, true, true, true, true, true, true, true, true, true, true, true, true, true, true, false, true, true, true, false, false] _ _
              try simp only [Act.put, List.setIfInBounds_toArray, List.set_cons_zero, List.set_cons_succ, List.getElem_toArray, List.getElem_cons_zero, List.getElem_cons_succ]
              refine rest_ready (rs := [17]) (by kernel_rfl) (by simp) ?_
              refine AllRest.cons rfl (fun K hK => ?_) AllRest.nil
              go_simp
              gi_wp2_with ((refine ⟨trivial, ?_⟩; gi_at_call 38; (with_reducible refine (callsIn_wide.2 (four_any _)).mono ?_); rintro e wn ⟨Af, rfl, htf, hb⟩))
              refine hK.out _ _ ?_ (fun hHeld' => ?_)
              · exact ⟨hHeld.1.below hb hHeld.1.lt, (hHeld.2).trans (hb.mono (hHeld.2).size)⟩
              clear hK K
              change RestIn _ _ _ _ _ _ _ 2 #[true, true, true, true, true, true, true, true, true, true, true, true, true, true, true, true, true, true, true, true, true, false, false] _ _
              try simp only [Act.put, List.setIfInBounds_toArray, List.set_cons_zero, List.set_cons_succ, List.getElem_toArray, List.getElem_cons_zero, List.getElem_cons_succ]
              clear hHeld
              have hHeld := hHeld'
              clear hHeld'
              have hNow := (hHeld.2)
              have hss := hss.to hb
              try have kB := kB.below hb kB.lt
              refine rest_ready (rs := [21]) (by kernel_rfl) (by simp) ?_
              refine AllRest.cons rfl (fun K hK => ?_) AllRest.nil
              go_simp
              gi_wp2_with ((refine ⟨trivial, ?_⟩; gi_at_call 31; (refine (callsIn_wide.2 (HB3.out As Af 2 1 _ _ hss htf kB)).mono ?_); rintro e wn ⟨rfl, hb⟩))
              refine hK.out _ _ ?_ (fun hHeld' => ?_)
              · exact ⟨hHeld.1.below hb hHeld.1.lt, (hHeld.2).trans (hb.mono (hHeld.2).size)⟩
              clear hK K
              change RestIn _ _ _ _ _ _ _ 1 #[true, true, true, true, true, true, true, true, true, true, true, true, true, true, true, true, true, true, true, true, true, true, false] _ _
              try simp only [Act.put, List.setIfInBounds_toArray, List.set_cons_zero, List.set_cons_succ, List.getElem_toArray, List.getElem_cons_zero, List.getElem_cons_succ]
              clear hHeld
              have hHeld := hHeld'
              clear hHeld'
              have hNow := (hHeld.2)
              try have kB := kB.below hb kB.lt
              refine rest_take (i := 22) (v := _) all_wide (noDefers_of (by kernel_rfl)) rfl (by kernel_rfl) (by kernel_rfl) (by kernel_rfl) (fun _ _ _ h => h) (Or.inl ⟨by rfl, by intro w hSw; clear hSw; go_simp; first | done | with_reducible rfl⟩) hHeld ?_
              change RestIn _ _ _ _ _ _ _ 0 #[true, true, true, true, true, true, true, true, true, true, true, true, true, true, true, true, true, true, true, true, true, true, true] _ _
              try simp only [Act.put, List.setIfInBounds_toArray, List.set_cons_zero, List.set_cons_succ, List.getElem_toArray, List.getElem_cons_zero, List.getElem_cons_succ]
              refine rest_done (by kernel_rfl) ?_
              exact TAIL _ _ _ _ _ _ _ _ _ _ _ _ _ _ _ _ _ _ _ _ _ _ _ hNow
            exact AllRest.nil
          refine AllRest.cons rfl (fun K hK => ?_) ?_
          · have kBg := (hHeld.2).size
            have kB := blk_new_of (hHeld.2) 3 #[.int .i64 30, .int .i64 0, .int .i64 0]
            have hOld := (hHeld.2)
            go_simp
            refine hK.out _ _ ?_ (fun hHeld' => ?_)
            · exact (fun (hbel : Below W0.heap.size W0 _) => ⟨kx.below hbel kx.lt, hbel⟩) ((hHeld.2).alloc (hHeld.2).size _)
            clear hK K
            change RestIn _ _ _ _ _ _ _ 5 #[true, true, true, true, true, true, true, true, true, true, true, true, true, true, true, true, false, false, true, true, false, false, false] _ _
            try simp only [Act.put, List.setIfInBounds_toArray, List.set_cons_zero, List.set_cons_succ, List.getElem_toArray, List.getElem_cons_zero, List.getElem_cons_succ]
            clear hHeld
            have hHeld := hHeld'
            clear hHeld'
            have hNow := (hHeld.2)
            try simp at kBg
            try have hss := nwS hss (.cells #[.int .i64 30, .int .i64 0, .int .i64 0] 3)
            try have htf := nwF htf (.cells #[.int .i64 30, .int .i64 0, .int .i64 0] 3)
            refine rest_take (i := 20) (v := _) all_wide (noDefers_of (by kernel_rfl)) rfl (by kernel_rfl) (by kernel_rfl) (by kernel_rfl) (fun _ _ _ h => h) (Or.inl ⟨by rfl, by intro w hSw; clear hSw; go_simp; first | done | with_reducible rfl⟩) hHeld ?_
            change RestIn _ _ _ _ _ _ _ 4 #[true, true, true, true, true, true, true, true, true, true, true, true, true, true, true, true, false, false, true, true, true, false, false] _ _
            try simp only [Act.put, List.setIfInBounds_toArray, List.set_cons_zero, List.set_cons_succ, List.getElem_toArray, List.getElem_cons_zero, List.getElem_cons_succ]
            refine rest_ready (rs := [16]) (by kernel_rfl) (by simp) ?_
            refine AllRest.cons rfl (fun K hK => ?_) AllRest.nil
            go_simp
            gi_wp2_with ((refine ⟨trivial, ?_⟩; gi_at_call 34; (with_reducible refine (callsIn_wide.2 (soil_rs _)).mono ?_); rintro e wn ⟨As, rfl, hss, hb⟩))
            refine hK.out _ _ ?_ (fun hHeld' => ?_)
            · exact ⟨hHeld.1.below hb hHeld.1.lt, (hHeld.2).trans (hb.mono (hHeld.2).size)⟩
            clear hK K
            change RestIn _ _ _ _ _ _ _ 3 #[true, true, true, true, true, true, true, true, true, true, true, true, true, true, true, true, true, false, true, true, true, false, false] _ _
            try simp only [Act.put, List.setIfInBounds_toArray, List.set_cons_zero, List.set_cons_succ, List.getElem_toArray, List.getElem_cons_zero, List.getElem_cons_succ]
            clear hHeld
            have hHeld := hHeld'
            clear hHeld'
            have hNow := (hHeld.2)
            try have kB := kB.below hb kB.lt
            refine rest_ready (rs := [17]) (by kernel_rfl) (by simp) ?_
            refine AllRest.cons rfl (fun K hK => ?_) AllRest.nil
            go_simp
            gi_wp2_with ((refine ⟨trivial, ?_⟩; gi_at_call 38; (with_reducible refine (callsIn_wide.2 (four_any _)).mono ?_); rintro e wn ⟨Af, rfl, htf, hb⟩))
            refine hK.out _ _ ?_ (fun hHeld' => ?_)
            · exact ⟨hHeld.1.below hb hHeld.1.lt, (hHeld.2).trans (hb.mono (hHeld.2).size)⟩
            clear hK K
            change RestIn _ _ _ _ _ _ _ 2 #[true, true, true, true, true, true, true, true, true, true, true, true, true, true, true, true, true, true, true, true, true, false, false] _ _
            try simp only [Act.put, List.setIfInBounds_toArray, List.set_cons_zero, List.set_cons_succ, List.getElem_toArray, List.getElem_cons_zero, List.getElem_cons_succ]
            clear hHeld
            have hHeld := hHeld'
            clear hHeld'
            have hNow := (hHeld.2)
            have hss := hss.to hb
            try have kB := kB.below hb kB.lt
            refine rest_ready (rs := [21]) (by kernel_rfl) (by simp) ?_
            refine AllRest.cons rfl (fun K hK => ?_) AllRest.nil
            go_simp
            gi_wp2_with ((refine ⟨trivial, ?_⟩; gi_at_call 31; (refine (callsIn_wide.2 (HB3.out As Af 2 1 _ _ hss htf kB)).mono ?_); rintro e wn ⟨rfl, hb⟩))
            refine hK.out _ _ ?_ (fun hHeld' => ?_)
            · exact ⟨hHeld.1.below hb hHeld.1.lt, (hHeld.2).trans (hb.mono (hHeld.2).size)⟩
            clear hK K
            change RestIn _ _ _ _ _ _ _ 1 #[true, true, true, true, true, true, true, true, true, true, true, true, true, true, true, true, true, true, true, true, true, true, false] _ _
            try simp only [Act.put, List.setIfInBounds_toArray, List.set_cons_zero, List.set_cons_succ, List.getElem_toArray, List.getElem_cons_zero, List.getElem_cons_succ]
            clear hHeld
            have hHeld := hHeld'
            clear hHeld'
            have hNow := (hHeld.2)
            try have kB := kB.below hb kB.lt
            refine rest_take (i := 22) (v := _) all_wide (noDefers_of (by kernel_rfl)) rfl (by kernel_rfl) (by kernel_rfl) (by kernel_rfl) (fun _ _ _ h => h) (Or.inl ⟨by rfl, by intro w hSw; clear hSw; go_simp; first | done | with_reducible rfl⟩) hHeld ?_
            change RestIn _ _ _ _ _ _ _ 0 #[true, true, true, true, true, true, true, true, true, true, true, true, true, true, true, true, true, true, true, true, true, true, true] _ _
            try simp only [Act.put, List.setIfInBounds_toArray, List.set_cons_zero, List.set_cons_succ, List.getElem_toArray, List.getElem_cons_zero, List.getElem_cons_succ]
            refine rest_done (by kernel_rfl) ?_
            exact TAIL _ _ _ _ _ _ _ _ _ _ _ _ _ _ _ _ _ _ _ _ _ _ _ hNow
          exact AllRest.nil
        exact AllRest.nil
      refine AllRest.cons rfl (fun K hK => ?_) ?_
      · have kBg := (hHeld.2).size
        have kB := blk_new_of (hHeld.2) 3 #[.int .i64 30, .int .i64 0, .int .i64 0, .int .i64 11]
        have hOld := (hHeld.2)
        go_simp
        refine hK.out _ _ ?_ (fun hHeld' => ?_)
        · exact (fun (hbel : Below W0.heap.size W0 _) => ⟨kx.below hbel kx.lt, hbel⟩) ((hHeld.2).alloc (hHeld.2).size _)
        clear hK K
        change RestIn _ _ _ _ _ _ _ 13 #[true, true, true, true, true, true, true, true, false, false, true, true, false, false, false, false, false, false, false, false, false, false, false] _ _
        try simp only [Act.put, List.setIfInBounds_toArray, List.set_cons_zero, List.set_cons_succ, List.getElem_toArray, List.getElem_cons_zero, List.getElem_cons_succ]
        clear hHeld
        have hHeld := hHeld'
        clear hHeld'
        have hNow := (hHeld.2)
        try simp at kBg
        try have hss := nwS hss (.cells #[.int .i64 30, .int .i64 0, .int .i64 0, .int .i64 11] 3)
        try have htf := nwF htf (.cells #[.int .i64 30, .int .i64 0, .int .i64 0, .int .i64 11] 3)
        refine rest_take (i := 12) (v := _) all_wide (noDefers_of (by kernel_rfl)) rfl (by kernel_rfl) (by kernel_rfl) (by kernel_rfl) (fun _ _ _ h => h) (Or.inl ⟨by rfl, by intro w hSw; clear hSw; go_simp; first | done | with_reducible rfl⟩) hHeld ?_
        change RestIn _ _ _ _ _ _ _ 12 #[true, true, true, true, true, true, true, true, false, false, true, true, true, false, false, false, false, false, false, false, false, false, false] _ _
        try simp only [Act.put, List.setIfInBounds_toArray, List.set_cons_zero, List.set_cons_succ, List.getElem_toArray, List.getElem_cons_zero, List.getElem_cons_succ]
        refine rest_ready (rs := [8]) (by kernel_rfl) (by simp) ?_
        refine AllRest.cons rfl (fun K hK => ?_) AllRest.nil
        go_simp
        gi_wp2_with ((refine ⟨trivial, ?_⟩; gi_at_call 34; (with_reducible refine (callsIn_wide.2 (soil_rs _)).mono ?_); rintro e wn ⟨As, rfl, hss, hb⟩))
        refine hK.out _ _ ?_ (fun hHeld' => ?_)
        · exact ⟨hHeld.1.below hb hHeld.1.lt, (hHeld.2).trans (hb.mono (hHeld.2).size)⟩
        clear hK K
        change RestIn _ _ _ _ _ _ _ 11 #[true, true, true, true, true, true, true, true, true, false, true, true, true, false, false, false, false, false, false, false, false, false, false] _ _
        try simp only [Act.put, List.setIfInBounds_toArray, List.set_cons_zero, List.set_cons_succ, List.getElem_toArray, List.getElem_cons_zero, List.getElem_cons_succ]
        clear hHeld
        have hHeld := hHeld'
        clear hHeld'
        have hNow := (hHeld.2)
        try have kB := kB.below hb kB.lt
        refine rest_ready (rs := [9]) (by kernel_rfl) (by simp) ?_
        refine AllRest.cons rfl (fun K hK => ?_) AllRest.nil
        go_simp
        gi_wp2_with ((refine ⟨trivial, ?_⟩; gi_at_call 38; (with_reducible refine (callsIn_wide.2 (four_any _)).mono ?_); rintro e wn ⟨Af, rfl, htf, hb⟩))
        refine hK.out _ _ ?_ (fun hHeld' => ?_)
        · exact ⟨hHeld.1.below hb hHeld.1.lt, (hHeld.2).trans (hb.mono (hHeld.2).size)⟩
        clear hK K
        change RestIn _ _ _ _ _ _ _ 10 #[true, true, true, true, true, true, true, true, true, true, true, true, true, false, false, false, false, false, false, false, false, false, false] _ _
        try simp only [Act.put, List.setIfInBounds_toArray, List.set_cons_zero, List.set_cons_succ, List.getElem_toArray, List.getElem_cons_zero, List.getElem_cons_succ]
        clear hHeld
        have hHeld := hHeld'
        clear hHeld'
        have hNow := (hHeld.2)
        have hss := hss.to hb
        try have kB := kB.below hb kB.lt
        refine rest_ready (rs := [13]) (by kernel_rfl) (by simp) ?_
        refine AllRest.cons rfl (fun K hK => ?_) AllRest.nil
        go_simp
        gi_wp2_with ((refine ⟨trivial, ?_⟩; gi_at_call 31; (refine (callsIn_wide.2 (HB2.out As Af 2 1 _ _ hss htf kB)).mono ?_); rintro e wn ⟨rfl, hb⟩))
        refine hK.out _ _ ?_ (fun hHeld' => ?_)
        · exact ⟨hHeld.1.below hb hHeld.1.lt, (hHeld.2).trans (hb.mono (hHeld.2).size)⟩
        clear hK K
        change RestIn _ _ _ _ _ _ _ 9 #[true, true, true, true, true, true, true, true, true, true, true, true, true, true, false, false, false, false, false, false, false, false, false] _ _
        try simp only [Act.put, List.setIfInBounds_toArray, List.set_cons_zero, List.set_cons_succ, List.getElem_toArray, List.getElem_cons_zero, List.getElem_cons_succ]
        clear hHeld
        have hHeld := hHeld'
        clear hHeld'
        have hNow := (hHeld.2)
        try have kB := kB.below hb kB.lt
        refine rest_take (i := 14) (v := _) all_wide (noDefers_of (by kernel_rfl)) rfl (by kernel_rfl) (by kernel_rfl) (by kernel_rfl) (fun _ _ _ h => h) (Or.inl ⟨by rfl, by intro w hSw; clear hSw; go_simp; first | done | with_reducible rfl⟩) hHeld ?_
        change RestIn _ _ _ _ _ _ _ 8 #[true, true, true, true, true, true, true, true, true, true, true, true, true, true, true, false, false, false, false, false, false, false, false] _ _
        try simp only [Act.put, List.setIfInBounds_toArray, List.set_cons_zero, List.set_cons_succ, List.getElem_toArray, List.getElem_cons_zero, List.getElem_cons_succ]
        refine rest_take (i := 15) (v := _) all_wide (noDefers_of (by kernel_rfl)) rfl (by kernel_rfl) (by kernel_rfl) (by kernel_rfl) (fun _ _ _ h => h) (Or.inl ⟨by rfl, by intro w hSw; clear hSw; go_simp; first | done | with_reducible rfl⟩) hHeld ?_
        change RestIn _ _ _ _ _ _ _ 7 #[true, true, true, true, true, true, true, true, true, true, true, true, true, true, true, true, false, false, false, false, false, false, false] _ _
        try simp only [Act.put, List.setIfInBounds_toArray, List.set_cons_zero, List.set_cons_succ, List.getElem_toArray, List.getElem_cons_zero, List.getElem_cons_succ]
        refine rest_take (i := 18) (v := _) all_wide (noDefers_of (by kernel_rfl)) rfl (by kernel_rfl) (by kernel_rfl) (by kernel_rfl) (fun _ _ _ h => h) (Or.inl ⟨by rfl, by intro w hSw; (obtain ⟨q0, _⟩ := hSw; have q0x0 := q0.cell 0; have q0x1 := q0.cell 1; simp at q0x0 q0x1); go_simp; first | done | with_reducible rfl⟩) hHeld ?_
        change RestIn _ _ _ _ _ _ _ 6 #[true, true, true, true, true, true, true, true, true, true, true, true, true, true, true, true, false, false, true, false, false, false, false] _ _
        try simp only [Act.put, List.setIfInBounds_toArray, List.set_cons_zero, List.set_cons_succ, List.getElem_toArray, List.getElem_cons_zero, List.getElem_cons_succ]
        refine rest_ready (rs := [16, 19]) (by kernel_rfl) (by simp) ?_
        refine AllRest.cons rfl (fun K hK => ?_) ?_
        · go_simp
          gi_wp2_with ((refine ⟨trivial, ?_⟩; gi_at_call 34; (with_reducible refine (callsIn_wide.2 (soil_rs _)).mono ?_); rintro e wn ⟨As, rfl, hss, hb⟩))
          refine hK.out _ _ ?_ (fun hHeld' => ?_)
          · exact ⟨hHeld.1.below hb hHeld.1.lt, (hHeld.2).trans (hb.mono (hHeld.2).size)⟩
          clear hK K
          change RestIn _ _ _ _ _ _ _ 5 #[true, true, true, true, true, true, true, true, true, true, true, true, true, true, true, true, true, false, true, false, false, false, false] _ _
          try simp only [Act.put, List.setIfInBounds_toArray, List.set_cons_zero, List.set_cons_succ, List.getElem_toArray, List.getElem_cons_zero, List.getElem_cons_succ]
          clear hHeld
          have hHeld := hHeld'
          clear hHeld'
          have hNow := (hHeld.2)
          try have kB := kB.below hb kB.lt
          refine rest_ready (rs := [17, 19]) (by kernel_rfl) (by simp) ?_
          refine AllRest.cons rfl (fun K hK => ?_) ?_
          · go_simp
            gi_wp2_with ((refine ⟨trivial, ?_⟩; gi_at_call 38; (with_reducible refine (callsIn_wide.2 (four_any _)).mono ?_); rintro e wn ⟨Af, rfl, htf, hb⟩))
            refine hK.out _ _ ?_ (fun hHeld' => ?_)
            · exact ⟨hHeld.1.below hb hHeld.1.lt, (hHeld.2).trans (hb.mono (hHeld.2).size)⟩
            clear hK K
            change RestIn _ _ _ _ _ _ _ 4 #[true, true, true, true, true, true, true, true, true, true, true, true, true, true, true, true, true, true, true, false, false, false, false] _ _
            try simp only [Act.put, List.setIfInBounds_toArray, List.set_cons_zero, List.set_cons_succ, List.getElem_toArray, List.getElem_cons_zero, List.getElem_cons_succ]
            clear hHeld
            have hHeld := hHeld'
            clear hHeld'
            have hNow := (hHeld.2)
            have hss := hss.to hb
            try have kB := kB.below hb kB.lt
            refine rest_ready (rs := [19]) (by kernel_rfl) (by simp) ?_
            refine AllRest.cons rfl (fun K hK => ?_) AllRest.nil
            have kBg := (hHeld.2).size
            have kB := blk_new_of (hHeld.2) 3 #[.int .i64 30, .int .i64 0, .int .i64 0]
            have hOld := (hHeld.2)
            go_simp
            refine hK.out _ _ ?_ (fun hHeld' => ?_)
            · exact (fun (hbel : Below W0.heap.size W0 _) => ⟨kx.below hbel kx.lt, hbel⟩) ((hHeld.2).alloc (hHeld.2).size _)
            clear hK K
            change RestIn _ _ _ _ _ _ _ 3 #[true, true, true, true, true, true, true, true, true, true, true, true, true, true, true, true, true, true, true, true, false, false, false] _ _
            try simp only [Act.put, List.setIfInBounds_toArray, List.set_cons_zero, List.set_cons_succ, List.getElem_toArray, List.getElem_cons_zero, List.getElem_cons_succ]
            clear hHeld
            have hHeld := hHeld'
            clear hHeld'
            have hNow := (hHeld.2)
            try simp at kBg
            try have hss := nwS hss (.cells #[.int .i64 30, .int .i64 0, .int .i64 0] 3)
            try have htf := nwF htf (.cells #[.int .i64 30, .int .i64 0, .int .i64 0] 3)
            refine rest_take (i := 20) (v := _) all_wide (noDefers_of (by kernel_rfl)) rfl (by kernel_rfl) (by kernel_rfl) (by kernel_rfl) (fun _ _ _ h => h) (Or.inl ⟨by rfl, by intro w hSw; clear hSw; go_simp; first | done | with_reducible rfl⟩) hHeld ?_
            change RestIn _ _ _ _ _ _ _ 2 #[true, true, true, true, true, true, true, true, true, true, true, true, true, true, true, true, true, true, true, true, true, false, false] _ _
            try simp only [Act.put, List.setIfInBounds_toArray, List.set_cons_zero, List.set_cons_succ, List.getElem_toArray, List.getElem_cons_zero, List.getElem_cons_succ]
            refine rest_ready (rs := [21]) (by kernel_rfl) (by simp) ?_
            refine AllRest.cons rfl (fun K hK => ?_) AllRest.nil
            go_simp
            gi_wp2_with ((refine ⟨trivial, ?_⟩; gi_at_call 31; (refine (callsIn_wide.2 (HB3.out As Af 2 1 _ _ hss htf kB)).mono ?_); rintro e wn ⟨rfl, hb⟩))
            refine hK.out _ _ ?_ (fun hHeld' => ?_)
            · exact ⟨hHeld.1.below hb hHeld.1.lt, (hHeld.2).trans (hb.mono (hHeld.2).size)⟩
            clear hK K
            change RestIn _ _ _ _ _ _ _ 1 #[true, true, true, true, true, true, true, true, true, true, true, true, true, true, true, true, true, true, true, true, true, true, false] _ _
            try simp only [Act.put, List.setIfInBounds_toArray, List.set_cons_zero, List.set_cons_succ, List.getElem_toArray, List.getElem_cons_zero, List.getElem_cons_succ]
            clear hHeld
            have hHeld := hHeld'
            clear hHeld'
            have hNow := (hHeld.2)
            try have kB := kB.below hb kB.lt
            refine rest_take (i := 22) (v := _) all_wide (noDefers_of (by kernel_rfl)) rfl (by kernel_rfl) (by kernel_rfl) (by kernel_rfl) (fun _ _ _ h => h) (Or.inl ⟨by rfl, by intro w hSw; clear hSw; go_simp; first | done | with_reducible rfl⟩) hHeld ?_
            change RestIn _ _ _ _ _ _ _ 0 #[true, true, true, true, true, true, true, true, true, true, true, true, true, true, true, true, true, true, true, true, true, true, true] _ _
            try simp only [Act.put, List.setIfInBounds_toArray, List.set_cons_zero, List.set_cons_succ, List.getElem_toArray, List.getElem_cons_zero, List.getElem_cons_succ]
            refine rest_done (by kernel_rfl) ?_
            exact TAIL _ _ _ _ _ _ _ _ _ _ _ _ _ _ _ _ _ _ _ _ _ _ _ hNow
          refine AllRest.cons rfl (fun K hK => ?_) ?_
          · have kBg := (hHeld.2).size
            have kB := blk_new_of (hHeld.2) 3 #[.int .i64 30, .int .i64 0, .int .i64 0]
            have hOld := (hHeld.2)
            go_simp
            refine hK.out _ _ ?_ (fun hHeld' => ?_)
            · exact (fun (hbel : Below W0.heap.size W0 _) => ⟨kx.below hbel kx.lt, hbel⟩) ((hHeld.2).alloc (hHeld.2).size _)
            clear hK K
            change RestIn _ _ _ _ _ _ _ 4 #[true, true, true, true, true, true, true, true, true, true, true, true, true, true, true, true, true, false, true, true, false, false, false] _ _
            try simp only [Act.put, List.setIfInBounds_toArray, List.set_cons_zero, List.set_cons_succ, List.getElem_toArray, List.getElem_cons_zero, List.getElem_cons_succ]
            clear hHeld
            have hHeld := hHeld'
            clear hHeld'
            have hNow := (hHeld.2)
            try simp at kBg
            try have hss := nwS hss (.cells #[.int .i64 30, .int .i64 0, .int .i64 0] 3)
            try have htf := nwF htf (.cells #[.int .i64 30, .int .i64 0, .int .i64 0] 3)
            refine rest_take (i := 20) (v := _) all_wide (noDefers_of (by kernel_rfl)) rfl (by kernel_rfl) (by kernel_rfl) (by kernel_rfl) (fun _ _ _ h => h) (Or.inl ⟨by rfl, by intro w hSw; clear hSw; go_simp; first | done | with_reducible rfl⟩) hHeld ?_
            change RestIn _ _ _ _ _ _ _ 3 #[true, true, true, true, true, true, true, true, true, true, true, true, true, true, true, true, true, false, true, true, true, false, false] _ _
            try simp only [Act.put, List.setIfInBounds_toArray, List.set_cons_zero, List.set_cons_succ, List.getElem_toArray, List.getElem_cons_zero, List.getElem_cons_succ]
            refine rest_ready (rs := [17]) (by kernel_rfl) (by simp) ?_
            refine AllRest.cons rfl (fun K hK => ?_) AllRest.nil
            go_simp
            gi_wp2_with ((refine ⟨trivial, ?_⟩; gi_at_call 38; (with_reducible refine (callsIn_wide.2 (four_any _)).mono ?_); rintro e wn ⟨Af, rfl, htf, hb⟩))
            refine hK.out _ _ ?_ (fun hHeld' => ?_)
            · exact ⟨hHeld.1.below hb hHeld.1.lt, (hHeld.2).trans (hb.mono (hHeld.2).size)⟩
            clear hK K
            change RestIn _ _ _ _ _ _ _ 2 #[true, true, true, true, true, true, true, true, true, true, true, true, true, true, true, true, true, true, true, true, true, false, false] _ _
            try simp only [Act.put, List.setIfInBounds_toArray, List.set_cons_zero, List.set_cons_succ, List.getElem_toArray, List.getElem_cons_zero, List.getElem_cons_succ]
            clear hHeld
            have hHeld := hHeld'
            clear hHeld'
            have hNow := (hHeld.2)
            have hss := hss.to hb
            try have kB := kB.below hb kB.lt
            refine rest_ready (rs := [21]) (by kernel_rfl) (by simp) ?_
            refine AllRest.cons rfl (fun K hK => ?_) AllRest.nil
            go_simp
            gi_wp2_with ((refine ⟨trivial, ?_⟩; gi_at_call 31; (refine (callsIn_wide.2 (HB3.out As Af 2 1 _ _ hss htf kB)).mono ?_); rintro e wn ⟨rfl, hb⟩))
            refine hK.out _ _ ?_ (fun hHeld' => ?_)
            · exact ⟨hHeld.1.below hb hHeld.1.lt, (hHeld.2).trans (hb.mono (hHeld.2).size)⟩
            clear hK K
            change RestIn _ _ _ _ _ _ _ 1 #[true, true, true, true, true, true, true, true, true, true, true, true, true, true, true, true, true, true, true, true, true, true, false] _ _
            try simp only [Act.put, List.setIfInBounds_toArray, List.set_cons_zero, List.set_cons_succ, List.getElem_toArray, List.getElem_cons_zero, List.getElem_cons_succ]
            clear hHeld
            have hHeld := hHeld'
            clear hHeld'
            have hNow := (hHeld.2)
            try have kB := kB.below hb kB.lt
            refine rest_take (i := 22) (v := _) all_wide (noDefers_of (by kernel_rfl)) rfl (by kernel_rfl) (by kernel_rfl) (by kernel_rfl) (fun _ _ _ h => h) (Or.inl ⟨by rfl, by intro w hSw; clear hSw; go_simp; first | done | with_reducible rfl⟩) hHeld ?_
            change RestIn _ _ _ _ _ _ _ 0 #[true, true, true, true, true, true, true, true, true, true, true, true, true, true, true, true, true, true, true, true, true, true, true] _ _
            try simp only [Act.put, List.setIfInBounds_toArray, List.set_cons_zero, List.set_cons_succ, List.getElem_toArray, List.getElem_cons_zero, List.getElem_cons_succ]
            refine rest_done (by kernel_rfl) ?_
            exact TAIL _ _ _ _ _ _ _ _ _ _ _ _ _ _ _ _ _ _ _ _ _ _ _ hNow
          exact AllRest.nil
        refine AllRest.cons rfl (fun K hK => ?_) ?_
        · have kBg := (hHeld.2).size
          have kB := blk_new_of (hHeld.2) 3 #[.int .i64 30, .int .i64 0, .int .i64 0]
          have hOld := (hHeld.2)
          go_simp
          refine hK.out _ _ ?_ (fun hHeld' => ?_)
          · exact (fun (hbel : Below W0.heap.size W0 _) => ⟨kx.below hbel kx.lt, hbel⟩) ((hHeld.2).alloc (hHeld.2).size _)
          clear hK K
          change RestIn _ _ _ _ _ _ _ 5 #[true, true, true, true, true, true, true, true, true, true, true, true, true, true, true, true, false, false, true, true, false, false, false] _ _
          try simp only [Act.put, List.setIfInBounds_toArray, List.set_cons_zero, List.set_cons_succ, List.getElem_toArray, List.getElem_cons_zero, List.getElem_cons_succ]
          clear hHeld
          have hHeld := hHeld'
          clear hHeld'
          have hNow := (hHeld.2)
          try simp at kBg
          try have hss := nwS hss (.cells #[.int .i64 30, .int .i64 0, .int .i64 0] 3)
          try have htf := nwF htf (.cells #[.int .i64 30, .int .i64 0, .int .i64 0] 3)
          refine rest_take (i := 20) (v := _) all_wide (noDefers_of (by kernel_rfl)) rfl (by kernel_rfl) (by kernel_rfl) (by kernel_rfl) (fun _ _ _ h => h) (Or.inl ⟨by rfl, by intro w hSw; clear hSw; go_simp; first | done | with_reducible rfl⟩) hHeld ?_
          change RestIn _ _ _ _ _ _ _ 4 #[true, true, true, true, true, true, true, true, true, true, true, true, true, true, true, true, false, false, true, true, true, false, false] _ _
          try simp only [Act.put, List.setIfInBounds_toArray, List.set_cons_zero, List.set_cons_succ, List.getElem_toArray, List.getElem_cons_zero, List.getElem_cons_succ]
          refine rest_ready (rs := [16]) (by kernel_rfl) (by simp) ?_
          refine AllRest.cons rfl (fun K hK => ?_) AllRest.nil
          go_simp
          gi_wp2_with ((refine ⟨trivial, ?_⟩; gi_at_call 34; (with_reducible refine (callsIn_wide.2 (soil_rs _)).mono ?_); rintro e wn ⟨As, rfl, hss, hb⟩))
          refine hK.out _ _ ?_ (fun hHeld' => ?_)
          · exact ⟨hHeld.1.below hb hHeld.1.lt, (hHeld.2).trans (hb.mono (hHeld.2).size)⟩
          clear hK K
          change RestIn _ _ _ _ _ _ _ 3 #[true, true, true, true, true, true, true, true, true, true, true, true, true, true, true, true, true, false, true, true, true, false, false] _ _
          try simp only [Act.put, List.setIfInBounds_toArray, List.set_cons_zero, List.set_cons_succ, List.getElem_toArray, List.getElem_cons_zero, List.getElem_cons_succ]
          clear hHeld
          have hHeld := hHeld'
          clear hHeld'
          have hNow := (hHeld.2)
          try have kB := kB.below hb kB.lt
          refine rest_ready (rs := [17]) (by kernel_rfl) (by simp) ?_
          refine AllRest.cons rfl (fun K hK => ?_) AllRest.nil
          go_simp
          gi_wp2_with ((refine ⟨trivial, ?_⟩; gi_at_call 38; (with_reducible refine (callsIn_wide.2 (four_any _)).mono ?_); rintro e wn ⟨Af, rfl, htf, hb⟩))
          refine hK.out _ _ ?_ (fun hHeld' => ?_)
          · exact ⟨hHeld.1.below hb hHeld.1.lt, (hHeld.2).trans (hb.mono (hHeld.2).size)⟩
          clear hK K
          change RestIn _ _ _ _ _ _ _ 2 #[true, true, true, true, true, true, true, true, true, true, true, true, true, true, true, true, true, true, true, true, true, false, false] _ _
          try simp only [Act.put, List.setIfInBounds_toArray, List.set_cons_zero, List.set_cons_succ, List.getElem_toArray, List.getElem_cons_zero, List.getElem_cons_succ]
          clear hHeld
          have hHeld := hHeld'
          clear hHeld'
          have hNow := (hHeld.2)
          have hss := hss.to hb
          try have kB := kB.below hb kB.lt
          refine rest_ready (rs := [21]) (by kernel_rfl) (by simp) ?_
          refine AllRest.cons rfl (fun K hK => ?_) AllRest.nil
          go_simp
          gi_wp2_with ((refine ⟨trivial, ?_⟩; gi_at_call 31; (refine (callsIn_wide.2 (HB3.out As Af 2 1 _ _ hss htf kB)).mono ?_); rintro e wn ⟨rfl, hb⟩))
          refine hK.out _ _ ?_ (fun hHeld' => ?_)
          · exact ⟨hHeld.1.below hb hHeld.1.lt, (hHeld.2).trans (hb.mono (hHeld.2).size)⟩
          clear hK K
          change RestIn _ _ _ _ _ _ _ 1 #[true, true, true, true, true, true, true, true, true, true, true, true, true, true, true, true, true, true, true, true, true, true, false] _ _
          try simp only [Act.put, List.setIfInBounds_toArray, List.set_cons_zero, List.set_cons_succ, List.getElem_toArray, List.getElem_cons_zero, List.getElem_cons_succ]
          clear hHeld
          have hHeld := hHeld'
          clear hHeld'
          have hNow := (hHeld.2)
          try have kB := kB.below hb kB.lt
          refine rest_take (i := 22) (v := _) all_wide (noDefers_of (by kernel_rfl)) rfl (by kernel_rfl) (by kernel_rfl) (by kernel_rfl) (fun _ _ _ h => h) (Or.inl ⟨by rfl, by intro w hSw; clear hSw; go_simp; first | done | with_reducible rfl⟩) hHeld ?_
          change RestIn _ _ _ _ _ _ _ 0 #[true, true, true, true, true, true, true, true, true, true, true, true, true, true, true, true, true, true, true, true, true, true, true] _ _
          try simp only [Act.put, List.setIfInBounds_toArray, List.set_cons_zero, List.set_cons_succ, List.getElem_toArray, List.getElem_cons_zero, List.getElem_cons_succ]
          refine rest_done (by kernel_rfl) ?_
          exact TAIL _ _ _ _ _ _ _ _ _ _ _ _ _ _ _ _ _ _ _ _ _ _ _ hNow
        exact AllRest.nil
      exact AllRest.nil
    exact AllRest.nil
  refine AllRest.cons rfl (fun K hK => ?_) ?_
  · have kBg := (hHeld.2).size
    have kB := blk_new_of (hHeld.2) 3 #[.int .i64 30, .int .i64 0, .int .i64 0, .int .i64 10]
    have hOld := (hHeld.2)
    go_simp
    refine hK.out _ _ ?_ (fun hHeld' => ?_)
    · exact (fun (hbel : Below W0.heap.size W0 _) => ⟨kx.below hbel kx.lt, hbel⟩) ((hHeld.2).alloc (hHeld.2).size _)
    clear hK K
    change RestIn _ _ _ _ _ _ _ 21 #[false, false, true, true, false, false, false, false, false, false, false, false, false, false, false, false, false, false, false, false, false, false, false] _ _
    try simp only [Act.put, List.setIfInBounds_toArray, List.set_cons_zero, List.set_cons_succ, List.getElem_toArray, List.getElem_cons_zero, List.getElem_cons_succ]
    clear hHeld
    have hHeld := hHeld'
    clear hHeld'
    have hNow := (hHeld.2)
    try simp at kBg
    try have hss := nwS hss (.cells #[.int .i64 30, .int .i64 0, .int .i64 0, .int .i64 10] 3)
    try have htf := nwF htf (.cells #[.int .i64 30, .int .i64 0, .int .i64 0, .int .i64 10] 3)
    refine rest_take (i := 4) (v := _) all_wide (noDefers_of (by kernel_rfl)) rfl (by kernel_rfl) (by kernel_rfl) (by kernel_rfl) (fun _ _ _ h => h) (Or.inl ⟨by rfl, by intro w hSw; clear hSw; go_simp; first | done | with_reducible rfl⟩) hHeld ?_
    change RestIn _ _ _ _ _ _ _ 20 #[false, false, true, true, true, false, false, false, false, false, false, false, false, false, false, false, false, false, false, false, false, false, false] _ _
    try simp only [Act.put, List.setIfInBounds_toArray, List.set_cons_zero, List.set_cons_succ, List.getElem_toArray, List.getElem_cons_zero, List.getElem_cons_succ]
    refine rest_ready (rs := [0]) (by kernel_rfl) (by simp) ?_
    refine AllRest.cons rfl (fun K hK => ?_) AllRest.nil
    go_simp
    gi_wp2_with ((refine ⟨trivial, ?_⟩; gi_at_call 34; (with_reducible refine (callsIn_wide.2 (soil_rs _)).mono ?_); rintro e wn ⟨As, rfl, hss, hb⟩))
    refine hK.out _ _ ?_ (fun hHeld' => ?_)
    · exact ⟨hHeld.1.below hb hHeld.1.lt, (hHeld.2).trans (hb.mono (hHeld.2).size)⟩
    clear hK K
    change RestIn _ _ _ _ _ _ _ 19 #[true, false, true, true, true, false, false, false, false, false, false, false, false, false, false, false, false, false, false, false, false, false, false] _ _
    try simp only [Act.put, List.setIfInBounds_toArray, List.set_cons_zero, List.set_cons_succ, List.getElem_toArray, List.getElem_cons_zero, List.getElem_cons_succ]
    clear hHeld
    have hHeld := hHeld'
    clear hHeld'
    have hNow := (hHeld.2)
    try have kB := kB.below hb kB.lt
    refine rest_ready (rs := [1]) (by kernel_rfl) (by simp) ?_
    refine AllRest.cons rfl (fun K hK => ?_) AllRest.nil
    go_simp
    gi_wp2_with ((refine ⟨trivial, ?_⟩; gi_at_call 38; (with_reducible refine (callsIn_wide.2 (four_any _)).mono ?_); rintro e wn ⟨Af, rfl, htf, hb⟩))
    refine hK.out _ _ ?_ (fun hHeld' => ?_)
    · exact ⟨hHeld.1.below hb hHeld.1.lt, (hHeld.2).trans (hb.mono (hHeld.2).size)⟩
    clear hK K
    change RestIn _ _ _ _ _ _ _ 18 #[true, true, true, true, true, false, false, false, false, false, false, false, false, false, false, false, false, false, false, false, false, false, false] _ _
    try simp only [Act.put, List.setIfInBounds_toArray, List.set_cons_zero, List.set_cons_succ, List.getElem_toArray, List.getElem_cons_zero, List.getElem_cons_succ]
    clear hHeld
    have hHeld := hHeld'
    clear hHeld'
    have hNow := (hHeld.2)
    have hss := hss.to hb
    try have kB := kB.below hb kB.lt
    refine rest_ready (rs := [5]) (by kernel_rfl) (by simp) ?_
    refine AllRest.cons rfl (fun K hK => ?_) AllRest.nil
    go_simp
    gi_wp2_with ((refine ⟨trivial, ?_⟩; gi_at_call 31; (refine (callsIn_wide.2 (HB1.out As Af 2 1 _ _ hss htf kB)).mono ?_); rintro e wn ⟨rfl, hb⟩))
    refine hK.out _ _ ?_ (fun hHeld' => ?_)
    · exact ⟨hHeld.1.below hb hHeld.1.lt, (hHeld.2).trans (hb.mono (hHeld.2).size)⟩
    clear hK K
    change RestIn _ _ _ _ _ _ _ 17 #[true, true, true, true, true, true, false, false, false, false, false, false, false, false, false, false, false, false, false, false, false, false, false] _ _
    try simp only [Act.put, List.setIfInBounds_toArray, List.set_cons_zero, List.set_cons_succ, List.getElem_toArray, List.getElem_cons_zero, List.getElem_cons_succ]
    clear hHeld
    have hHeld := hHeld'
    clear hHeld'
    have hNow := (hHeld.2)
    try have kB := kB.below hb kB.lt
    refine rest_take (i := 6) (v := _) all_wide (noDefers_of (by kernel_rfl)) rfl (by kernel_rfl) (by kernel_rfl) (by kernel_rfl) (fun _ _ _ h => h) (Or.inl ⟨by rfl, by intro w hSw; clear hSw; go_simp; first | done | with_reducible rfl⟩) hHeld ?_
    change RestIn _ _ _ _ _ _ _ 16 #[true, true, true, true, true, true, true, false, false, false, false, false, false, false, false, false, false, false, false, false, false, false, false] _ _
    try simp only [Act.put, List.setIfInBounds_toArray, List.set_cons_zero, List.set_cons_succ, List.getElem_toArray, List.getElem_cons_zero, List.getElem_cons_succ]
    refine rest_take (i := 7) (v := _) all_wide (noDefers_of (by kernel_rfl)) rfl (by kernel_rfl) (by kernel_rfl) (by kernel_rfl) (fun _ _ _ h => h) (Or.inl ⟨by rfl, by intro w hSw; clear hSw; go_simp; first | done | with_reducible rfl⟩) hHeld ?_
    change RestIn _ _ _ _ _ _ _ 15 #[true, true, true, true, true, true, true, true, false, false, false, false, false, false, false, false, false, false, false, false, false, false, false] _ _
    try simp only [Act.put, List.setIfInBounds_toArray, List.set_cons_zero, List.set_cons_succ, List.getElem_toArray, List.getElem_cons_zero, List.getElem_cons_succ]
    refine rest_take (i := 10) (v := _) all_wide (noDefers_of (by kernel_rfl)) rfl (by kernel_rfl) (by kernel_rfl) (by kernel_rfl) (fun _ _ _ h => h) (Or.inl ⟨by rfl, by intro w hSw; (obtain ⟨q0, _⟩ := hSw; have q0x0 := q0.cell 0; have q0x1 := q0.cell 1; simp at q0x0 q0x1); go_simp; first | done | with_reducible rfl⟩) hHeld ?_
    change RestIn _ _ _ _ _ _ _ 14 #[true, true, true, true, true, true, true, true, false, false, true, false, false, false, false, false, false, false, false, false, false, false, false] _ _
    try simp only [Act.put, List.setIfInBounds_toArray, List.set_cons_zero, List.set_cons_succ, List.getElem_toArray, List.getElem_cons_zero, List.getElem_cons_succ]
    refine rest_ready (rs := [8, 11]) (by kernel_rfl) (by simp) ?_
    refine AllRest.cons rfl (fun K hK => ?_) ?_
    · go_simp
      gi_wp2_with ((refine ⟨trivial, ?_⟩; gi_at_call 34; (with_reducible refine (callsIn_wide.2 (soil_rs _)).mono ?_); rintro e wn ⟨As, rfl, hss, hb⟩))
      refine hK.out _ _ ?_ (fun hHeld' => ?_)
      · exact ⟨hHeld.1.below hb hHeld.1.lt, (hHeld.2).trans (hb.mono (hHeld.2).size)⟩
      clear hK K
      change RestIn _ _ _ _ _ _ _ 13 #[true, true, true, true, true, true, true, true, true, false, true, false, false, false, false, false, false, false, false, false, false, false, false] _ _
      try simp only [Act.put, List.setIfInBounds_toArray, List.set_cons_zero, List.set_cons_succ, List.getElem_toArray, List.getElem_cons_zero, List.getElem_cons_succ]
      clear hHeld
      have hHeld := hHeld'
      clear hHeld'
      have hNow := (hHeld.2)
      try have kB := kB.below hb kB.lt
      refine rest_ready (rs := [9, 11]) (by kernel_rfl) (by simp) ?_
      refine AllRest.cons rfl (fun K hK => ?_) ?_
      · go_simp
        gi_wp2_with ((refine ⟨trivial, ?_⟩; gi_at_call 38; (with_reducible refine (callsIn_wide.2 (four_any _)).mono ?_); rintro e wn ⟨Af, rfl, htf, hb⟩))
        refine hK.out _ _ ?_ (fun hHeld' => ?_)
        · exact ⟨hHeld.1.below hb hHeld.1.lt, (hHeld.2).trans (hb.mono (hHeld.2).size)⟩
        clear hK K
        change RestIn _ _ _ _ _ _ _ 12 #[true, true, true, true, true, true, true, true, true, true, true, false, false, false, false, false, false, false, false, false, false, false, false] _ _
        try simp only [Act.put, List.setIfInBounds_toArray, List.set_cons_zero, List.set_cons_succ, List.getElem_toArray, List.getElem_cons_zero, List.getElem_cons_succ]
        clear hHeld
        have hHeld := hHeld'
        clear hHeld'
        have hNow := (hHeld.2)
        have hss := hss.to hb
        try have kB := kB.below hb kB.lt
        refine rest_ready (rs := [11]) (by kernel_rfl) (by simp) ?_
        refine AllRest.cons rfl (fun K hK => ?_) AllRest.nil
        have kBg := (hHeld.2).size
        have kB := blk_new_of (hHeld.2) 3 #[.int .i64 30, .int .i64 0, .int .i64 0, .int .i64 11]
        have hOld := (hHeld.2)
        go_simp
        refine hK.out _ _ ?_ (fun hHeld' => ?_)
        · exact (fun (hbel : Below W0.heap.size W0 _) => ⟨kx.below hbel kx.lt, hbel⟩) ((hHeld.2).alloc (hHeld.2).size _)
        clear hK K
        change RestIn _ _ _ _ _ _ _ 11 #[true, true, true, true, true, true, true, true, true, true, true, true, false, false, false, false, false, false, false, false, false, false, false] _ _
        try simp only [Act.put, List.setIfInBounds_toArray, List.set_cons_zero, List.set_cons_succ, List.getElem_toArray, List.getElem_cons_zero, List.getElem_cons_succ]
        clear hHeld
        have hHeld := hHeld'
        clear hHeld'
        have hNow := (hHeld.2)
        try simp at kBg
        try have hss := nwS hss (.cells #[.int .i64 30, .int .i64 0, .int .i64 0, .int .i64 11] 3)
        try have htf := nwF htf (.cells #[.int .i64 30, .int .i64 0, .int .i64 0, .int .i64 11] 3)
        refine rest_take (i := 12) (v := _) all_wide (noDefers_of (by kernel_rfl)) rfl (by kernel_rfl) (by kernel_rfl) (by kernel_rfl) (fun _ _ _ h => h) (Or.inl ⟨by rfl, by intro w hSw; clear hSw; go_simp; first | done | with_reducible rfl⟩) hHeld ?_
        change RestIn _ _ _ _ _ _ _ 10 #[true, true, true, true, true, true, true, true, true, true, true, true, true, false, false, false, false, false, false, false, false, false, false] _ _
        try simp only [Act.put, List.setIfInBounds_toArray, List.set_cons_zero, List.set_cons_succ, List.getElem_toArray, List.getElem_cons_zero, List.getElem_cons_succ]
        refine rest_ready (rs := [13]) (by kernel_rfl) (by simp) ?_
        refine AllRest.cons rfl (fun K hK => ?_) AllRest.nil
        go_simp
        gi_wp2_with ((refine ⟨trivial, ?_⟩; gi_at_call 31; (refine (callsIn_wide.2 (HB2.out As Af 2 1 _ _ hss htf kB)).mono ?_); rintro e wn ⟨rfl, hb⟩))
        refine hK.out _ _ ?_ (fun hHeld' => ?_)
        · exact ⟨hHeld.1.below hb hHeld.1.lt, (hHeld.2).trans (hb.mono (hHeld.2).size)⟩
        clear hK K
        change RestIn _ _ _ _ _ _ _ 9 #[true, true, true, true, true, true, true, true, true, true, true, true, true, true, false, false, false, false, false, false, false, false, false] _ _
        try simp only [Act.put, List.setIfInBounds_toArray, List.set_cons_zero, List.set_cons_succ, List.getElem_toArray, List.getElem_cons_zero, List.getElem_cons_succ]
        clear hHeld
        have hHeld := hHeld'
        clear hHeld'
        have hNow := (hHeld.2)
        try have kB := kB.below hb kB.lt
        refine rest_take (i := 14) (v := _) all_wide (noDefers_of (by kernel_rfl)) rfl (by kernel_rfl) (by kernel_rfl) (by kernel_rfl) (fun _ _ _ h => h) (Or.inl ⟨by rfl, by intro w hSw; clear hSw; go_simp; first | done | with_reducible rfl⟩) hHeld ?_
        change RestIn _ _ _ _ _ _ _ 8 #[true, true, true, true, true, true, true, true, true, true, true, true, true, true, true, false, false, false, false, false, false, false, false] _ _
        try simp only [Act.put, List.setIfInBounds_toArray, List.set_cons_zero, List.set_cons_succ, List.getElem_toArray, List.getElem_cons_zero, List.getElem_cons_succ]
        refine rest_take (i := 15) (v := _) all_wide (noDefers_of (by kernel_rfl)) rfl (by kernel_rfl) (by kernel_rfl) (by kernel_rfl) (fun _ _ _ h => h) (Or.inl ⟨by rfl, by intro w hSw; clear hSw; go_simp; first | done | with_reducible rfl⟩) hHeld ?_
        change RestIn _ _ _ _ _ _ _ 7 #[true, true, true, true, true, true, true, true, true, true, true, true, true, true, true, true, false, false, false, false, false, false, false] _ _
        try simp only [Act.put, List.setIfInBounds_toArray, List.set_cons_zero, List.set_cons_succ, List.getElem_toArray, List.getElem_cons_zero, List.getElem_cons_succ]
        refine rest_take (i := 18) (v := _) all_wide (noDefers_of (by kernel_rfl)) rfl (by kernel_rfl) (by kernel_rfl) (by kernel_rfl) (fun _ _ _ h => h) (Or.inl ⟨by rfl, by intro w hSw; (obtain ⟨q0, _⟩ := hSw; have q0x0 := q0.cell 0; have q0x1 := q0.cell 1; simp at q0x0 q0x1); go_simp; first | done | with_reducible rfl⟩) hHeld ?_
        change RestIn _ _ _ _ _ _ _ 6 #[true, true, true, true, true, true, true, true, true, true, true, true, true, true, true, true, false, false, true, false, false, false, false] _ _
        try simp only [Act.put, List.setIfInBounds_toArray, List.set_cons_zero, List.set_cons_succ, List.getElem_toArray, List.getElem_cons_zero, List.getElem_cons_succ]
        refine rest_ready (rs := [16, 19]) (by kernel_rfl) (by simp) ?_
        refine AllRest.cons rfl (fun K hK => ?_) ?_
        · go_simp
          gi_wp2_with ((refine ⟨trivial, ?_⟩; gi_at_call 34; (with_reducible refine (callsIn_wide.2 (soil_rs _)).mono ?_); rintro e wn ⟨As, rfl, hss, hb⟩))
          refine hK.out _ _ ?_ (fun hHeld' => ?_)
          · exact ⟨hHeld.1.below hb hHeld.1.lt, (hHeld.2).trans (hb.mono (hHeld.2).size)⟩
          clear hK K
          change RestIn _ _ _ _ _ _ _ 5 #[true, true, true, true, true, true, true, true, true, true, true, true, true, true, true, true, true, false, true, false, false, false, false] _ _
          try simp only [Act.put, List.setIfInBounds_toArray, List.set_cons_zero, List.set_cons_succ, List.getElem_toArray, List.getElem_cons_zero, List.getElem_cons_succ]
          clear hHeld
          have hHeld := hHeld'
          clear hHeld'
          have hNow := (hHeld.2)
          try have kB := kB.below hb kB.lt
          refine rest_ready (rs := [17, 19]) (by kernel_rfl) (by simp) ?_
          refine AllRest.cons rfl (fun K hK => ?_) ?_
          · go_simp
            gi_wp2_with ((refine ⟨trivial, ?_⟩; gi_at_call 38; (with_reducible refine (callsIn_wide.2 (four_any _)).mono ?_); rintro e wn ⟨Af, rfl, htf, hb⟩))
            refine hK.out _ _ ?_ (fun hHeld' => ?_)
            · exact ⟨hHeld.1.below hb hHeld.1.lt, (hHeld.2).trans (hb.mono (hHeld.2).size)⟩
            clear hK K
            change RestIn _ _ _ _ _ _ _ 4 #[true, true, true, true, true, true, true, true, true, true, true, true, true, true, true, true, true, true, true, false, false, false, false] _ _
            try simp only [Act.put, List.setIfInBounds_toArray, List.set_cons_zero, List.set_cons_succ, List.getElem_toArray, List.getElem_cons_zero, List.getElem_cons_succ]
            clear hHeld
            have hHeld := hHeld'
            clear hHeld'
            have hNow := (hHeld.2)
            have hss := hss.to hb
            try have kB := kB.below hb kB.lt
            refine rest_ready (rs := [19]) (by kernel_rfl) (by simp) ?_
            refine AllRest.cons rfl (fun K hK => ?_) AllRest.nil
            have kBg := (hHeld.2).size
            have kB := blk_new_of (hHeld.2) 3 #[.int .i64 30, .int .i64 0, .int .i64 0]
            have hOld := (hHeld.2)
            go_simp
            refine hK.out _ _ ?_ (fun hHeld' => ?_)
            · exact (fun (hbel : Below W0.heap.size W0 _) => ⟨kx.below hbel kx.lt, hbel⟩) ((hHeld.2).alloc (hHeld.2).size _)
            clear hK K
            change RestIn _ _ _ _ _ _ _ 3 #[true, true, true, true, true, true, true, true, true, true, true, true, true, true, true, true, true, true, true, true, false, false, false] _ _
            try simp only [Act.put, List.setIfInBounds_toArray, List.set_cons_zero, List.set_cons_succ, List.getElem_toArray, List.getElem_cons_zero, List.getElem_cons_succ]
            clear hHeld
            have hHeld := hHeld'
            clear hHeld'
            have hNow := (hHeld.2)
            try simp at kBg
            try have hss := nwS hss (.cells #[.int .i64 30, .int .i64 0, .int .i64 0] 3)
            try have htf := nwF htf (.cells #[.int .i64 30, .int .i64 0, .int .i64 0] 3)
            refine rest_take (i := 20) (v := _) all_wide (noDefers_of (by kernel_rfl)) rfl (by kernel_rfl) (by kernel_rfl) (by kernel_rfl) (fun _ _ _ h => h) (Or.inl ⟨by rfl, by intro w hSw; clear hSw; go_simp; first | done | with_reducible rfl⟩) hHeld ?_
            change RestIn _ _ _ _ _ _ _ 2 #[true, true, true, true, true, true, true, true, true, true, true, true, true, true, true, true, true, true, true, true, true, false, false] _ _
            try simp only [Act.put, List.setIfInBounds_toArray, List.set_cons_zero, List.set_cons_succ, List.getElem_toArray, List.getElem_cons_zero, List.getElem_cons_succ]
            refine rest_ready (rs := [21]) (by kernel_rfl) (by simp) ?_
            refine AllRest.cons rfl (fun K hK => ?_) AllRest.nil
            go_simp
            gi_wp2_with ((refine ⟨trivial, ?_⟩; gi_at_call 31; (refine (callsIn_wide.2 (HB3.out As Af 2 1 _ _ hss htf kB)).mono ?_); rintro e wn ⟨rfl, hb⟩))
            refine hK.out _ _ ?_ (fun hHeld' => ?_)
            · exact ⟨hHeld.1.below hb hHeld.1.lt, (hHeld.2).trans (hb.mono (hHeld.2).size)⟩
            clear hK K
            change RestIn _ _ _ _ _ _ _ 1 #[true, true, true, true, true, true, true, true, true, true, true, true, true, true, true, true, true, true, true, true, true, true, false] _ _
            try simp only [Act.put, List.setIfInBounds_toArray, List.set_cons_zero, List.set_cons_succ, List.getElem_toArray, List.getElem_cons_zero, List.getElem_cons_succ]
            clear hHeld
            have hHeld := hHeld'
            clear hHeld'
            have hNow := (hHeld.2)
            try have kB := kB.below hb kB.lt
            refine rest_take (i := 22) (v := _) all_wide (noDefers_of (by kernel_rfl)) rfl (by kernel_rfl) (by kernel_rfl) (by kernel_rfl) (fun _ _ _ h => h) (Or.inl ⟨by rfl, by intro w hSw; clear hSw; go_simp; first | done | with_reducible rfl⟩) hHeld ?_
            change RestIn _ _ _ _ _ _ _ 0 #[true, true, true, true, true, true, true, true, true, true, true, true, true, true, true, true, true, true, true, true, true, true, true] _ _
            try simp only [Act.put, List.setIfInBounds_toArray, List.set_cons_zero, List.set_cons_succ, List.getElem_toArray, List.getElem_cons_zero, List.getElem_cons_succ]
            refine rest_done (by kernel_rfl) ?_
            exact TAIL _ _ _ _ _ _ _ _ _ _ _ _ _ _ _ _ _ _ _ _ _ _ _ hNow
          refine AllRest.cons rfl (fun K hK => ?_) ?_
          · have kBg := (hHeld.2).size
            have kB := blk_new_of (hHeld.2) 3 #[.int .i64 30, .int .i64 0, .int .i64 0]
            have hOld := (hHeld.2)
            go_simp
            refine hK.out _ _ ?_ (fun hHeld' => ?_)
            · exact (fun (hbel : Below W0.heap.size W0 _) => ⟨kx.below hbel kx.lt, hbel⟩) ((hHeld.2).alloc (hHeld.2).size _)
            clear hK K
            change RestIn _ _ _ _ _ _ _ 4 #[true, true, true, true, true, true, true, true, true, true, true, true, true, true, true, true, true, false, true, true, false, false, false] _ _
            try simp only [Act.put, List.setIfInBounds_toArray, List.set_cons_zero, List.set_cons_succ, List.getElem_toArray, List.getElem_cons_zero, List.getElem_cons_succ]
            clear hHeld
            have hHeld := hHeld'
            clear hHeld'
            have hNow := (hHeld.2)
            try simp at kBg
            try have hss := nwS hss (.cells #[.int .i64 30, .int .i64 0, .int .i64 0] 3)
            try have htf := nwF htf (.cells #[.int .i64 30, .int .i64 0, .int .i64 0] 3)
            refine rest_take (i := 20) (v := _) all_wide (noDefers_of (by kernel_rfl)) rfl (by kernel_rfl) (by kernel_rfl) (by kernel_rfl) (fun _ _ _ h => h) (Or.inl ⟨by rfl, by intro w hSw; clear hSw; go_simp; first | done | with_reducible rfl⟩) hHeld ?_
            change RestIn _ _ _ _ _ _ _ 3 #[true, true, true, true, true, true, true, true, true, true, true, true, true, true, true, true, true, false, true, true, true, false, false] _ _
            try simp only [Act.put, List.setIfInBounds_toArray, List.set_cons_zero, List.set_cons_succ, List.getElem_toArray, List.getElem_cons_zero, List.getElem_cons_succ]
            refine rest_ready (rs := [17]) (by kernel_rfl) (by simp) ?_
            refine AllRest.cons rfl (fun K hK => ?_) AllRest.nil
            go_simp
            gi_wp2_with ((refine ⟨trivial, ?_⟩; gi_at_call 38; (with_reducible refine (callsIn_wide.2 (four_any _)).mono ?_); rintro e wn ⟨Af, rfl, htf, hb⟩))
            refine hK.out _ _ ?_ (fun hHeld' => ?_)
            · exact ⟨hHeld.1.below hb hHeld.1.lt, (hHeld.2).trans (hb.mono (hHeld.2).size)⟩
            clear hK K
            change RestIn _ _ _ _ _ _ _ 2 #[true, true, true, true, true, true, true, true, true, true, true, true, true, true, true, true, true, true, true, true, true, false, false] _ _
            try simp only [Act.put, List.setIfInBounds_toArray, List.set_cons_zero, List.set_cons_succ, List.getElem_toArray, List.getElem_cons_zero, List.getElem_cons_succ]
            clear hHeld
            have hHeld := hHeld'
            clear hHeld'
            have hNow := (hHeld.2)
            have hss := hss.to hb
            try have kB := kB.below hb kB.lt
            refine rest_ready (rs := [21]) (by kernel_rfl) (by simp) ?_
            refine AllRest.cons rfl (fun K hK => ?_) AllRest.nil
            go_simp
            gi_wp2_with ((refine ⟨trivial, ?_⟩; gi_at_call 31; (refine (callsIn_wide.2 (HB3.out As Af 2 1 _ _ hss htf kB)).mono ?_); rintro e wn ⟨rfl, hb⟩))
            refine hK.out _ _ ?_ (fun hHeld' => ?_)
            · exact ⟨hHeld.1.below hb hHeld.1.lt, (hHeld.2).trans (hb.mono (hHeld.2).size)⟩
            clear hK K
            change RestIn _ _ _ _ _ _ _ 1 #[true, true, true, true, true, true, true, true, true, true, true, true, true, true, true, true, true, true, true, true, true, true, false] _ _
            try simp only [Act.put, List.setIfInBounds_toArray, List.set_cons_zero, List.set_cons_succ, List.getElem_toArray, List.getElem_cons_zero, List.getElem_cons_succ]
            clear hHeld
            have hHeld := hHeld'
            clear hHeld'
            have hNow := (hHeld.2)
            try have kB := kB.below hb kB.lt
            refine rest_take (i := 22) (v := _) all_wide (noDefers_of (by kernel_rfl)) rfl (by kernel_rfl) (by kernel_rfl) (by kernel_rfl) (fun _ _ _ h => h) (Or.inl ⟨by rfl, by intro w hSw; clear hSw; go_simp; first | done | with_reducible rfl⟩) hHeld ?_
            change RestIn _ _ _ _ _ _ _ 0 #[true, true, true, true, true, true, true, true, true, true, true, true, true, true, true, true, true, true, true, true, true, true, true] _ _
            try simp only [Act.put, List.setIfInBounds_toArray, List.set_cons_zero, List.set_cons_succ, List.getElem_toArray, List.getElem_cons_zero, List.getElem_cons_succ]
            refine rest_done (by kernel_rfl) ?_
            exact TAIL _ _ _ _ _ _ _ _ _ _ _ _ _ _ _ _ _ _ _ _ _ _ _ hNow
          exact AllRest.nil
        refine AllRest.cons rfl (fun K hK => ?_) ?_
        · have kBg := (hHeld.2).size
          have kB := blk_new_of (hHeld.2) 3 #[.int .i64 30, .int .i64 0, .int .i64 0]
          have hOld := (hHeld.2)
          go_simp
          refine hK.out _ _ ?_ (fun hHeld' => ?_)
          · exact (fun (hbel : Below W0.heap.size W0 _) => ⟨kx.below hbel kx.lt, hbel⟩) ((hHeld.2).alloc (hHeld.2).size _)
          clear hK K
          change RestIn _ _ _ _ _ _ _ 5 #[true, true, true, true, true, true, true, true, true, true, true, true, true, true, true, true, false, false, true, true, false, false, false] _ _
          try simp only [Act.put, List.setIfInBounds_toArray, List.set_cons_zero, List.set_cons_succ, List.getElem_toArray, List.getElem_cons_zero, List.getElem_cons_succ]
          clear hHeld
          have hHeld := hHeld'
          clear hHeld'
          have hNow := (hHeld.2)
          try simp at kBg
          try have hss := nwS hss (.cells #[.int .i64 30, .int .i64 0, .int .i64 0] 3)
          try have htf := nwF htf (.cells #[.int .i64 30, .int .i64 0, .int .i64 0] 3)
          refine rest_take (i := 20) (v := _) all_wide (noDefers_of (by kernel_rfl)) rfl (by kernel_rfl) (by kernel_rfl) (by kernel_rfl) (fun _ _ _ h => h) (Or.inl ⟨by rfl, by intro w hSw; clear hSw; go_simp; first | done | with_reducible rfl⟩) hHeld ?_
          change RestIn _ _ _ _ _ _ _ 4 #[true, true, true, true, true, true, true, true, true, true, true, true, true, true, true, true, false, false, true, true, true, false, false] _ _
          try simp only [Act.put, List.setIfInBounds_toArray, List.set_cons_zero, List.set_cons_succ, List.getElem_toArray, List.getElem_cons_zero, List.getElem_cons_succ]
          refine rest_ready (rs := [16]) (by kernel_rfl) (by simp) ?_
          refine AllRest.cons rfl (fun K hK => ?_) AllRest.nil
          go_simp
          gi_wp2_with ((refine ⟨trivial, ?_⟩; gi_at_call 34; (with_reducible refine (callsIn_wide.2 (soil_rs _)).mono ?_); rintro e wn ⟨As, rfl, hss, hb⟩))
          refine hK.out _ _ ?_ (fun hHeld' => ?_)
          · exact ⟨hHeld.1.below hb hHeld.1.lt, (hHeld.2).trans (hb.mono (hHeld.2).size)⟩
          clear hK K
          change RestIn _ _ _ _ _ _ _ 3 #[true, true, true, true, true, true, true, true, true, true, true, true, true, true, true, true, true, false, true, true, true, false, false] _ _
          try simp only [Act.put, List.setIfInBounds_toArray, List.set_cons_zero, List.set_cons_succ, List.getElem_toArray, List.getElem_cons_zero, List.getElem_cons_succ]
          clear hHeld
          have hHeld := hHeld'
          clear hHeld'
          have hNow := (hHeld.2)
          try have kB := kB.below hb kB.lt
          refine rest_ready (rs := [17]) (by kernel_rfl) (by simp) ?_
          refine AllRest.cons rfl (fun K hK => ?_) AllRest.nil
          go_simp
          gi_wp2_with ((refine ⟨trivial, ?_⟩; gi_at_call 38; (with_reducible refine (callsIn_wide.2 (four_any _)).mono ?_); rintro e wn ⟨Af, rfl, htf, hb⟩))
          refine hK.out _ _ ?_ (fun hHeld' => ?_)
          · exact ⟨hHeld.1.below hb hHeld.1.lt, (hHeld.2).trans (hb.mono (hHeld.2).size)⟩
          clear hK K
          change RestIn _ _ _ _ _ _ _ 2 #[true, true, true, true, true, true, true, true, true, true, true, true, true, true, true, true, true, true, true, true, true, false, false] _ _
          try simp only [Act.put, List.setIfInBounds_toArray, List.set_cons_zero, List.set_cons_succ, List.getElem_toArray, List.getElem_cons_zero, List.getElem_cons_succ]
          clear hHeld
          have hHeld := hHeld'
          clear hHeld'
          have hNow := (hHeld.2)
          have hss := hss.to hb
          try have kB := kB.below hb kB.lt
          refine rest_ready (rs := [21]) (by kernel_rfl) (by simp) ?_
          refine AllRest.cons rfl (fun K hK => ?_) AllRest.nil
          go_simp
          gi_wp2_with ((refine ⟨trivial, ?_⟩; gi_at_call 31; (refine (callsIn_wide.2 (HB3.out As Af 2 1 _ _ hss htf kB)).mono ?_); rintro e wn ⟨rfl, hb⟩))
          refine hK.out _ _ ?_ (fun hHeld' => ?_)
          · exact ⟨hHeld.1.below hb hHeld.1.lt, (hHeld.2).trans (hb.mono (hHeld.2).size)⟩
          clear hK K
          change RestIn _ _ _ _ _ _ _ 1 #[true, true, true, true, true, true, true, true, true, true, true, true, true, true, true, true, true, true, true, true, true, true, false] _ _
          try simp only [Act.put, List.setIfInBounds_toArray, List.set_cons_zero, List.set_cons_succ, List.getElem_toArray, List.getElem_cons_zero, List.getElem_cons_succ]
          clear hHeld
          have hHeld := hHeld'
          clear hHeld'
          have hNow := (hHeld.2)
          try have kB := kB.below hb kB.lt
          refine rest_take (i := 22) (v := _) all_wide (noDefers_of (by kernel_rfl)) rfl (by kernel_rfl) (by kernel_rfl) (by kernel_rfl) (fun _ _ _ h => h) (Or.inl ⟨by rfl, by intro w hSw; clear hSw; go_simp; first | done | with_reducible rfl⟩) hHeld ?_
          change RestIn _ _ _ _ _ _ _ 0 #[true, true, true, true, true, true, true, true, true, true, true, true, true, true, true, true, true, true, true, true, true, true, true] _ _
          try simp only [Act.put, List.setIfInBounds_toArray, List.set_cons_zero, List.set_cons_succ, List.getElem_toArray, List.getElem_cons_zero, List.getElem_cons_succ]
          refine rest_done (by kernel_rfl) ?_
          exact TAIL _ _ _ _ _ _ _ _ _ _ _ _ _ _ _ _ _ _ _ _ _ _ _ hNow
        exact AllRest.nil
      refine AllRest.cons rfl (fun K hK => ?_) ?_
      · have kBg := (hHeld.2).size
        have kB := blk_new_of (hHeld.2) 3 #[.int .i64 30, .int .i64 0, .int .i64 0, .int .i64 11]
        have hOld := (hHeld.2)
        go_simp
        refine hK.out _ _ ?_ (fun hHeld' => ?_)
        · exact (fun (hbel : Below W0.heap.size W0 _) => ⟨kx.below hbel kx.lt, hbel⟩) ((hHeld.2).alloc (hHeld.2).size _)
        clear hK K
        change RestIn _ _ _ _ _ _ _ 12 #[true, true, true, true, true, true, true, true, true, false, true, true, false, false, false, false, false, false, false, false, false, false, false] _ _
        try simp only [Act.put, List.setIfInBounds_toArray, List.set_cons_zero, List.set_cons_succ, List.getElem_toArray, List.getElem_cons_zero, List.getElem_cons_succ]
        clear hHeld
        have hHeld := hHeld'
        clear hHeld'
        have hNow := (hHeld.2)
        try simp at kBg
        try have hss := nwS hss (.cells #[.int .i64 30, .int .i64 0, .int .i64 0, .int .i64 11] 3)
        try have htf := nwF htf (.cells #[.int .i64 30, .int .i64 0, .int .i64 0, .int .i64 11] 3)
        refine rest_take (i := 12) (v := _) all_wide (noDefers_of (by kernel_rfl)) rfl (by kernel_rfl) (by kernel_rfl) (by kernel_rfl) (fun _ _ _ h => h) (Or.inl ⟨by rfl, by intro w hSw; clear hSw; go_simp; first | done | with_reducible rfl⟩) hHeld ?_
        change RestIn _ _ _ _ _ _ _ 11 #[true, true, true, true, true, true, true, true, true, false, true, true, true, false, false, false, false, false, false, false, false, false, false] _ _
        try simp only [Act.put, List.setIfInBounds_toArray, List.set_cons_zero, List.set_cons_succ, List.getElem_toArray, List.getElem_cons_zero, List.getElem_cons_succ]
        refine rest_ready (rs := [9]) (by kernel_rfl) (by simp) ?_
        refine AllRest.cons rfl (fun K hK => ?_) AllRest.nil
        go_simp
        gi_wp2_with ((refine ⟨trivial, ?_⟩; gi_at_call 38; (with_reducible refine (callsIn_wide.2 (four_any _)).mono ?_); rintro e wn ⟨Af, rfl, htf, hb⟩))
        refine hK.out _ _ ?_ (fun hHeld' => ?_)
        · exact ⟨hHeld.1.below hb hHeld.1.lt, (hHeld.2).trans (hb.mono (hHeld.2).size)⟩
        clear hK K
        change RestIn _ _ _ _ _ _ _ 10 #[true, true, true, true, true, true, true, true, true, true, true, true, true, false, false, false, false, false, false, false, false, false, false] _ _
        try simp only [Act.put, List.setIfInBounds_toArray, List.set_cons_zero, List.set_cons_succ, List.getElem_toArray, List.getElem_cons_zero, List.getElem_cons_succ]
        clear hHeld
        have hHeld := hHeld'
        clear hHeld'
        have hNow := (hHeld.2)
        have hss := hss.to hb
        try have kB := kB.below hb kB.lt
        refine rest_ready (rs := [13]) (by kernel_rfl) (by simp) ?_
        refine AllRest.cons rfl (fun K hK => ?_) AllRest.nil
        go_simp
        gi_wp2_with ((refine ⟨trivial, ?_⟩; gi_at_call 31; (refine (callsIn_wide.2 (HB2.out As Af 2 1 _ _ hss htf kB)).mono ?_); rintro e wn ⟨rfl, hb⟩))
        refine hK.out _ _ ?_ (fun hHeld' => ?_)
        · exact ⟨hHeld.1.below hb hHeld.1.lt, (hHeld.2).trans (hb.mono (hHeld.2).size)⟩
        clear hK K
        change RestIn _ _ _ _ _ _ _ 9 #[true, true, true, true, true, true, true, true, true, true, true, true, true, true, false, false, false, false, false, false, false, false, false] _ _
        try simp only [Act.put, List.setIfInBounds_toArray, List.set_cons_zero, List.set_cons_succ, List.getElem_toArray, List.getElem_cons_zero, List.getElem_cons_succ]
        clear hHeld
        have hHeld := hHeld'
        clear hHeld'
        have hNow := (hHeld.2)
        try have kB := kB.below hb kB.lt
        refine rest_take (i := 14) (v := _) all_wide (noDefers_of (by kernel_rfl)) rfl (by kernel_rfl) (by kernel_rfl) (by kernel_rfl) (fun _ _ _ h => h) (Or.inl ⟨by rfl, by intro w hSw; clear hSw; go_simp; first | done | with_reducible rfl⟩) hHeld ?_
        change RestIn _ _ _ _ _ _ _ 8 #[true, true, true, true, true, true, true, true, true, true, true, true, true, true, true, false, false, false, false, false, false, false, false] _ _
        try simp only [Act.put, List.setIfInBounds_toArray, List.set_cons_zero, List.set_cons_succ, List.getElem_toArray, List.getElem_cons_zero, List.getElem_cons_succ]
        refine rest_take (i := 15) (v := _) all_wide (noDefers_of (by kernel_rfl)) rfl (by kernel_rfl) (by kernel_rfl) (by kernel_rfl) (fun _ _ _ h => h) (Or.inl ⟨by rfl, by intro w hSw; clear hSw; go_simp; first | done | with_reducible rfl⟩) hHeld ?_
        change RestIn _ _ _ _ _ _ _ 7 #[true, true, true, true, true, true, true, true, true, true, true, true, true, true, true, true, false, false, false, false, false, false, false] _ _
        try simp only [Act.put, List.setIfInBounds_toArray, List.set_cons_zero, List.set_cons_succ, List.getElem_toArray, List.getElem_cons_zero, List.getElem_cons_succ]
        refine rest_take (i := 18) (v := _) all_wide (noDefers_of (by kernel_rfl)) rfl (by kernel_rfl) (by kernel_rfl) (by kernel_rfl) (fun _ _ _ h => h) (Or.inl ⟨by rfl, by intro w hSw; (obtain ⟨q0, _⟩ := hSw; have q0x0 := q0.cell 0; have q0x1 := q0.cell 1; simp at q0x0 q0x1); go_simp; first | done | with_reducible rfl⟩) hHeld ?_
        change RestIn _ _ _ _ _ _ _ 6 #[true, true, true, true, true, true, true, true, true, true, true, true, true, true, true, true, false, false, true, false, false, false, false] _ _
        try simp only [Act.put, List.setIfInBounds_toArray, List.set_cons_zero, List.set_cons_succ, List.getElem_toArray, List.getElem_cons_zero, List.getElem_cons_succ]
        refine rest_ready (rs := [16, 19]) (by kernel_rfl) (by simp) ?_
        refine AllRest.cons rfl (fun K hK => ?_) ?_
        · go_simp
          gi_wp2_with ((refine ⟨trivial, ?_⟩; gi_at_call 34; (with_reducible refine (callsIn_wide.2 (soil_rs _)).mono ?_); rintro e wn ⟨As, rfl, hss, hb⟩))
          refine hK.out _ _ ?_ (fun hHeld' => ?_)
          · exact ⟨hHeld.1.below hb hHeld.1.lt, (hHeld.2).trans (hb.mono (hHeld.2).size)⟩
          clear hK K
          change RestIn _ _ _ _ _ _ _ 5 #[true, true, true, true, true, true, true, true, true, true, true, true, true, true, true, true, true, false, true, false, false, false, false] _ _
          try simp only [Act.put, List.setIfInBounds_toArray, List.set_cons_zero, List.set_cons_succ, List.getElem_toArray, List.getElem_cons_zero, List.getElem_cons_succ]
          clear hHeld
          have hHeld := hHeld'
          clear hHeld'
          have hNow := (hHeld.2)
          try have kB := kB.below hb kB.lt
          refine rest_ready (rs := [17, 19]) (by kernel_rfl) (by simp) ?_
          refine AllRest.cons rfl (fun K hK => ?_) ?_
          · go_simp
            gi_wp2_with ((refine ⟨trivial, ?_⟩; gi_at_call 38; (with_reducible refine (callsIn_wide.2 (four_any _)).mono ?_); rintro e wn ⟨Af, rfl, htf, hb⟩))
            refine hK.out _ _ ?_ (fun hHeld' => ?_)
            · exact ⟨hHeld.1.below hb hHeld.1.lt, (hHeld.2).trans (hb.mono (hHeld.2).size)⟩
            clear hK K
            change RestIn _ _ _ _ _ _ _ 4 #[true, true, true, true, true, true, true, true, true, true, true, true, true, true, true, true, true, true, true, false, false, false, false] _ _
            try simp only [Act.put, List.setIfInBounds_toArray, List.set_cons_zero, List.set_cons_succ, List.getElem_toArray, List.getElem_cons_zero, List.getElem_cons_succ]
            clear hHeld
            have hHeld := hHeld'
            clear hHeld'
            have hNow := (hHeld.2)
            have hss := hss.to hb
            try have kB := kB.below hb kB.lt
            refine rest_ready (rs := [19]) (by kernel_rfl) (by simp) ?_
            refine AllRest.cons rfl (fun K hK => ?_) AllRest.nil
            have kBg := (hHeld.2).size
            have kB := blk_new_of (hHeld.2) 3 #[.int .i64 30, .int .i64 0, .int .i64 0]
            have hOld := (hHeld.2)
            go_simp
            refine hK.out _ _ ?_ (fun hHeld' => ?_)
            · exact (fun (hbel : Below W0.heap.size W0 _) => ⟨kx.below hbel kx.lt, hbel⟩) ((hHeld.2).alloc (hHeld.2).size _)
            clear hK K
            change RestIn _ _ _ _ _ _ _ 3 #[true, true, true, true, true, true, true, true, true, true, true, true, true, true, true, true, true, true, true, true, false, false, false] _ _
            try simp only [Act.put, List.setIfInBounds_toArray, List.set_cons_zero, List.set_cons_succ, List.getElem_toArray, List.getElem_cons_zero, List.getElem_cons_succ]
            clear hHeld
            have hHeld := hHeld'
            clear hHeld'
            have hNow := (hHeld.2)
            try simp at kBg
            try have hss := nwS hss (.cells #[.int .i64 30, .int .i64 0, .int .i64 0] 3)
            try have htf := nwF htf (.cells #[.int .i64 30, .int .i64 0, .int .i64 0] 3)
            refine rest_take (i := 20) (v := _) all_wide (noDefers_of (by kernel_rfl)) rfl (by kernel_rfl) (by kernel_rfl) (by kernel_rfl) (fun _ _ _ h => h) (Or.inl ⟨by rfl, by intro w hSw; clear hSw; go_simp; first | done | with_reducible rfl⟩) hHeld ?_
            change RestIn _ _ _ _ _ _ _ 2 #[true, true, true, true, true, true, true, true, true, true, true, true, true, true, true, true, true, true, true, true, true, false, false] _ _
            try simp only [Act.put, List.setIfInBounds_toArray, List.set_cons_zero, List.set_cons_succ, List.getElem_toArray, List.getElem_cons_zero, List.getElem_cons_succ]
            refine rest_ready (rs := [21]) (by kernel_rfl) (by simp) ?_
            refine AllRest.cons rfl (fun K hK => ?_) AllRest.nil
            go_simp
            gi_wp2_with ((refine ⟨trivial, ?_⟩; gi_at_call 31; (refine (callsIn_wide.2 (HB3.out As Af 2 1 _ _ hss htf kB)).mono ?_); rintro e wn ⟨rfl, hb⟩))
            refine hK.out _ _ ?_ (fun hHeld' => ?_)
            · exact ⟨hHeld.1.below hb hHeld.1.lt, (hHeld.2).trans (hb.mono (hHeld.2).size)⟩
            clear hK K
            change RestIn _ _ _ _ _ _ _ 1 #[true, true, true, true, true, true, true, true, true, true, true, true, true, true, true, true, true, true, true, true, true, true, false] _ _
            try simp only [Act.put, List.setIfInBounds_toArray, List.set_cons_zero, List.set_cons_succ, List.getElem_toArray, List.getElem_cons_zero, List.getElem_cons_succ]
            clear hHeld
            have hHeld := hHeld'
            clear hHeld'
            have hNow := (hHeld.2)
            try have kB := kB.below hb kB.lt
            refine rest_take (i := 22) (v := _) all_wide (noDefers_of (by kernel_rfl)) rfl (by kernel_rfl) (by kernel_rfl) (by kernel_rfl) (fun _ _ _ h => h) (Or.inl ⟨by rfl, by intro w hSw; clear hSw; go_simp; first | done | with_reducible rfl⟩) hHeld ?_
            change RestIn _ _ _ _ _ _ _ 0 #[true, true, true, true, true, true, true, true, true, true, true, true, true, true, true, true, true, true, true, true, true, true, true] _ _
            try simp only [Act.put, List.setIfInBounds_toArray, List.set_cons_zero, List.set_cons_succ, List.getElem_toArray, List.getElem_cons_zero, List.getElem_cons_succ]
            refine rest_done (by kernel_rfl) ?_
            exact TAIL _ _ _ _ _ _ _ _ _ _ _ _ _ _ _ _ _ _ _ _ _ _ _ hNow
          refine AllRest.cons rfl (fun K hK => ?_) ?_
          · have kBg := (hHeld.2).size
            have kB := blk_new_of (hHeld.2) 3 #[.int .i64 30, .int .i64 0, .int .i64 0]
            have hOld := (hHeld.2)
            go_simp
            refine hK.out _ _ ?_ (fun hHeld' => ?_)
            · exact (fun (hbel : Below W0.heap.size W0 _) => ⟨kx.below hbel kx.lt, hbel⟩) ((hHeld.2).alloc (hHeld.2).size _)
            clear hK K
            change RestIn _ _ _ _ _ _ _ 4 #[true, true, true, true, true, true, true, true, true, true, true, true, true, true, true, true, true, false, true, true, false, false, false] _ _
            try simp only [Act.put, List.setIfInBounds_toArray, List.set_cons_zero, List.set_cons_succ, List.getElem_toArray, List.getElem_cons_zero, List.getElem_cons_succ]
            clear hHeld
            have hHeld := hHeld'
            clear hHeld'
            have hNow := (hHeld.2)
            try simp at kBg
            try have hss := nwS hss (.cells #[.int .i64 30, .int .i64 0, .int .i64 0] 3)
            try have htf := nwF htf (.cells #[.int .i64 30, .int .i64 0, .int .i64 0] 3)
            refine rest_take (i := 20) (v := _) all_wide (noDefers_of (by kernel_rfl)) rfl (by kernel_rfl) (by kernel_rfl) (by kernel_rfl) (fun _ _ _ h => h) (Or.inl ⟨by rfl, by intro w hSw; clear hSw; go_simp; first | done | with_reducible rfl⟩) hHeld ?_
            change RestIn _ _ _ _ _ _ _ 3 #[true, true, true, true, true, true, true, true, true, true, true, true, true, true, true, true, true, false, true, true, true, false, false] _ _
            try simp only [Act.put, List.setIfInBounds_toArray, List.set_cons_zero, List.set_cons_succ, List.getElem_toArray, List.getElem_cons_zero, List.getElem_cons_succ]
            refine rest_ready (rs := [17]) (by kernel_rfl) (by simp) ?_
            refine AllRest.cons rfl (fun K hK => ?_) AllRest.nil
            go_simp
            gi_wp2_with ((refine ⟨trivial, ?_⟩; gi_at_call 38; (with_reducible refine (callsIn_wide.2 (four_any _)).mono ?_); rintro e wn ⟨Af, rfl, htf, hb⟩))
            refine hK.out _ _ ?_ (fun hHeld' => ?_)
            · exact ⟨hHeld.1.below hb hHeld.1.lt, (hHeld.2).trans (hb.mono (hHeld.2).size)⟩
            clear hK K
            change RestIn _ _ _ _ _ _ _ 2 #[true, true, true, true, true, true, true, true, true, true, true, true, true, true, true, true, true, true, true, true, true, false, false] _ _
            try simp only [Act.put, List.setIfInBounds_toArray, List.set_cons_zero, List.set_cons_succ, List.getElem_toArray, List.getElem_cons_zero, List.getElem_cons_succ]
            clear hHeld
            have hHeld := hHeld'
            clear hHeld'
            have hNow := (hHeld.2)
            have hss := hss.to hb
            try have kB := kB.below hb kB.lt
            refine rest_ready (rs := [21]) (by kernel_rfl) (by simp) ?_
            refine AllRest.cons rfl (fun K hK => ?_) AllRest.nil
            go_simp
            gi_wp2_with ((refine ⟨trivial, ?_⟩; gi_at_call 31; (refine (callsIn_wide.2 (HB3.out As Af 2 1 _ _ hss htf kB)).mono ?_); rintro e wn ⟨rfl, hb⟩))
            refine hK.out _ _ ?_ (fun hHeld' => ?_)
            · exact ⟨hHeld.1.below hb hHeld.1.lt, (hHeld.2).trans (hb.mono (hHeld.2).size)⟩
            clear hK K
            change RestIn _ _ _ _ _ _ _ 1 #[true, true, true, true, true, true, true, true, true, true, true, true, true, true, true, true, true, true, true, true, true, true, false] _ _
            try simp only [Act.put, List.setIfInBounds_toArray, List.set_cons_zero, List.set_cons_succ, List.getElem_toArray, List.getElem_cons_zero, List.getElem_cons_succ]
            clear hHeld
            have hHeld := hHeld'
            clear hHeld'
            have hNow := (hHeld.2)
            try have kB := kB.below hb kB.lt
            refine rest_take (i := 22) (v := _) all_wide (noDefers_of (by kernel_rfl)) rfl (by kernel_rfl) (by kernel_rfl) (by kernel_rfl) (fun _ _ _ h => h) (Or.inl ⟨by rfl, by intro w hSw; clear hSw; go_simp; first | done | with_reducible rfl⟩) hHeld ?_
            change RestIn _ _ _ _ _ _ _ 0 #[true, true, true, true, true, true, true, true, true, true, true, true, true, true, true, true, true, true, true, true, true, true, true] _ _
            try simp only [Act.put, List.setIfInBounds_toArray, List.set_cons_zero, List.set_cons_succ, List.getElem_toArray, List.getElem_cons_zero, List.getElem_cons_succ]
            refine rest_done (by kernel_rfl) ?_
            exact TAIL _ _ _ _ _ _ _ _ _ _ _ _ _ _ _ _ _ _ _ _ _ _ _ hNow
          exact AllRest.nil
        refine AllRest.cons rfl (fun K hK => ?_) ?_
        · have kBg := (hHeld.2).size
          have kB := blk_new_of (hHeld.2) 3 #[.int .i64 30, .int .i64 0, .int .i64 0]
          have hOld := (hHeld.2)
          go_simp
          refine hK.out _ _ ?_ (fun hHeld' => ?_)
          · exact (fun (hbel : Below W0.heap.size W0 _) => ⟨kx.below hbel kx.lt, hbel⟩) ((hHeld.2).alloc (hHeld.2).size _)
          clear hK K
          change RestIn _ _ _ _ _ _ _ 5 #[true, true, true, true, true, true, true, true, true, true, true, true, true, true, true, true, false, false, true, true, false, false, false] _ _
          try simp only [Act.put, List.setIfInBounds_toArray, List.set_cons_zero, List.set_cons_succ, List.getElem_toArray, List.getElem_cons_zero, List.getElem_cons_succ]
          clear hHeld
          have hHeld := hHeld'
          clear hHeld'
          have hNow := (hHeld.2)
          try simp at kBg
          try have hss := nwS hss (.cells #[.int .i64 30, .int .i64 0, .int .i64 0] 3)
          try have htf := nwF htf (.cells #[.int .i64 30, .int .i64 0, .int .i64 0] 3)
          refine rest_take (i := 20) (v := _) all_wide (noDefers_of (by kernel_rfl)) rfl (by kernel_rfl) (by kernel_rfl) (by kernel_rfl) (fun _ _ _ h => h) (Or.inl ⟨by rfl, by intro w hSw; clear hSw; go_simp; first | done | with_reducible rfl⟩) hHeld ?_
          change RestIn _ _ _ _ _ _ _ 4 #[true, true, true, true, true, true, true, true, true, true, true, true, true, true, true, true, false, false, true, true, true, false, false] _ _
          try simp only [Act.put, List.setIfInBounds_toArray, List.set_cons_zero, List.set_cons_succ, List.getElem_toArray, List.getElem_cons_zero, List.getElem_cons_succ]
          refine rest_ready (rs := [16]) (by kernel_rfl) (by simp) ?_
          refine AllRest.cons rfl (fun K hK => ?_) AllRest.nil
          go_simp
          gi_wp2_with ((refine ⟨trivial, ?_⟩; gi_at_call 34; (with_reducible refine (callsIn_wide.2 (soil_rs _)).mono ?_); rintro e wn ⟨As, rfl, hss, hb⟩))
          refine hK.out _ _ ?_ (fun hHeld' => ?_)
          · exact ⟨hHeld.1.below hb hHeld.1.lt, (hHeld.2).trans (hb.mono (hHeld.2).size)⟩
          clear hK K
          change RestIn _ _ _ _ _ _ _ 3 #[true, true, true, true, true, true, true, true, true, true, true, true, true, true, true, true, true, false, true, true, true, false, false] _ _
          try simp only [Act.put, List.setIfInBounds_toArray, List.set_cons_zero, List.set_cons_succ, List.getElem_toArray, List.getElem_cons_zero, List.getElem_cons_succ]
          clear hHeld
          have hHeld := hHeld'
          clear hHeld'
          have hNow := (hHeld.2)
          try have kB := kB.below hb kB.lt
          refine rest_ready (rs := [17]) (by kernel_rfl) (by simp) ?_
          refine AllRest.cons rfl (fun K hK => ?_) AllRest.nil
          go_simp
          gi_wp2_with ((refine ⟨trivial, ?_⟩; gi_at_call 38; (with_reducible refine (callsIn_wide.2 (four_any _)).mono ?_); rintro e wn ⟨Af, rfl, htf, hb⟩))
          refine hK.out _ _ ?_ (fun hHeld' => ?_)
          · exact ⟨hHeld.1.below hb hHeld.1.lt, (hHeld.2).trans (hb.mono (hHeld.2).size)⟩
          clear hK K
          change RestIn _ _ _ _ _ _ _ 2 #[true, true, true, true, true, true, true, true, true, true, true, true, true, true, true, true, true, true, true, true, true, false, false] _ _
          try simp only [Act.put, List.setIfInBounds_toArray, List.set_cons_zero, List.set_cons_succ, List.getElem_toArray, List.getElem_cons_zero, List.getElem_cons_succ]
          clear hHeld
          have hHeld := hHeld'
          clear hHeld'
          have hNow := (hHeld.2)
          have hss := hss.to hb
          try have kB := kB.below hb kB.lt
          refine rest_ready (rs := [21]) (by kernel_rfl) (by simp) ?_
          refine AllRest.cons rfl (fun K hK => ?_) AllRest.nil
          go_simp
          gi_wp2_with ((refine ⟨trivial, ?_⟩; gi_at_call 31; (refine (callsIn_wide.2 (HB3.out As Af 2 1 _ _ hss htf kB)).mono ?_); rintro e wn ⟨rfl, hb⟩))
          refine hK.out _ _ ?_ (fun hHeld' => ?_)
          · exact ⟨hHeld.1.below hb hHeld.1.lt, (hHeld.2).trans (hb.mono (hHeld.2).size)⟩
          clear hK K
          change RestIn _ _ _ _ _ _ _ 1 #[true, true, true, true, true, true, true, true, true, true, true, true, true, true, true, true, true, true, true, true, true, true, false] _ _
          try simp only [Act.put, List.setIfInBounds_toArray, List.set_cons_zero, List.set_cons_succ, List.getElem_toArray, List.getElem_cons_zero, List.getElem_cons_succ]
          clear hHeld
          have hHeld := hHeld'
          clear hHeld'
          have hNow := (hHeld.2)
          try have kB := kB.below hb kB.lt
          refine rest_take (i := 22) (v := _) all_wide (noDefers_of (by kernel_rfl)) rfl (by kernel_rfl) (by kernel_rfl) (by kernel_rfl) (fun _ _ _ h => h) (Or.inl ⟨by rfl, by intro w hSw; clear hSw; go_simp; first | done | with_reducible rfl⟩) hHeld ?_
          change RestIn _ _ _ _ _ _ _ 0 #[true, true, true, true, true, true, true, true, true, true, true, true, true, true, true, true, true, true, true, true, true, true, true] _ _
          try simp only [Act.put, List.setIfInBounds_toArray, List.set_cons_zero, List.set_cons_succ, List.getElem_toArray, List.getElem_cons_zero, List.getElem_cons_succ]
          refine rest_done (by kernel_rfl) ?_
          exact TAIL _ _ _ _ _ _ _ _ _ _ _ _ _ _ _ _ _ _ _ _ _ _ _ hNow
        exact AllRest.nil
      exact AllRest.nil
    refine AllRest.cons rfl (fun K hK => ?_) ?_
    · have kBg := (hHeld.2).size
      have kB := blk_new_of (hHeld.2) 3 #[.int .i64 30, .int .i64 0, .int .i64 0, .int .i64 11]
      have hOld := (hHeld.2)
      go_simp
      refine hK.out _ _ ?_ (fun hHeld' => ?_)
      · exact (fun (hbel : Below W0.heap.size W0 _) => ⟨kx.below hbel kx.lt, hbel⟩) ((hHeld.2).alloc (hHeld.2).size _)
      clear hK K
      change RestIn _ _ _ _ _ _ _ 13 #[true, true, true, true, true, true, true, true, false, false, true, true, false, false, false, false, false, false, false, false, false, false, false] _ _
      try simp only [Act.put, List.setIfInBounds_toArray, List.set_cons_zero, List.set_cons_succ, List.getElem_toArray, List.getElem_cons_zero, List.getElem_cons_succ]
      clear hHeld
      have hHeld := hHeld'
      clear hHeld'
      have hNow := (hHeld.2)
      try simp at kBg
      try have hss := nwS hss (.cells #[.int .i64 30, .int .i64 0, .int .i64 0, .int .i64 11] 3)
      try have htf := nwF htf (.cells #[.int .i64 30, .int .i64 0, .int .i64 0, .int .i64 11] 3)
      refine rest_take (i := 12) (v := _) all_wide (noDefers_of (by kernel_rfl)) rfl (by kernel_rfl) (by kernel_rfl) (by kernel_rfl) (fun _ _ _ h => h) (Or.inl ⟨by rfl, by intro w hSw; clear hSw; go_simp; first | done | with_reducible rfl⟩) hHeld ?_
      change RestIn _ _ _ _ _ _ _ 12 #[true, true, true, true, true, true, true, true, false, false, true, true, true, false, false, false, false, false, false, false, false, false, false] _ _
      try simp only [Act.put, List.setIfInBounds_toArray, List.set_cons_zero, List.set_cons_succ, List.getElem_toArray, List.getElem_cons_zero, List.getElem_cons_succ]
      refine rest_ready (rs := [8]) (by kernel_rfl) (by simp) ?_
      refine AllRest.cons rfl (fun K hK => ?_) AllRest.nil
      go_simp
      gi_wp2_with ((refine ⟨trivial, ?_⟩; gi_at_call 34; (with_reducible refine (callsIn_wide.2 (soil_rs _)).mono ?_); rintro e wn ⟨As, rfl, hss, hb⟩))
      refine hK.out _ _ ?_ (fun hHeld' => ?_)
      · exact ⟨hHeld.1.below hb hHeld.1.lt, (hHeld.2).trans (hb.mono (hHeld.2).size)⟩
      clear hK K
      change RestIn _ _ _ _ _ _ _ 11 #[true, true, true, true, true, true, true, true, true, false, true, true, true, false, false, false, false, false, false, false, false, false, false] _ _
      try simp only [Act.put, List.setIfInBounds_toArray, List.set_cons_zero, List.set_cons_succ, List.getElem_toArray, List.getElem_cons_zero, List.getElem_cons_succ]
      clear hHeld
      have hHeld := hHeld'
      clear hHeld'
      have hNow := (hHeld.2)
      try have kB := kB.below hb kB.lt
      refine rest_ready (rs := [9]) (by kernel_rfl) (by simp) ?_
      refine AllRest.cons rfl (fun K hK => ?_) AllRest.nil
      go_simp
      gi_wp2_with ((refine ⟨trivial, ?_⟩; gi_at_call 38; (with_reducible refine (callsIn_wide.2 (four_any _)).mono ?_); rintro e wn ⟨Af, rfl, htf, hb⟩))
      refine hK.out _ _ ?_ (fun hHeld' => ?_)
      · exact ⟨hHeld.1.below hb hHeld.1.lt, (hHeld.2).trans (hb.mono (hHeld.2).size)⟩
      clear hK K
      change RestIn _ _ _ _ _ _ _ 10 #[true, true, true, true, true, true, true, true, true, true, true, true, true, false, false, false, false, false, false, false, false, false, false] _ _
      try simp only [Act.put, List.setIfInBounds_toArray, List.set_cons_zero, List.set_cons_succ, List.getElem_toArray, List.getElem_cons_zero, List.getElem_cons_succ]
      clear hHeld
      have hHeld := hHeld'
      clear hHeld'
      have hNow := (hHeld.2)
      have hss := hss.to hb
      try have kB := kB.below hb kB.lt
      refine rest_ready (rs := [13]) (by kernel_rfl) (by simp) ?_
      refine AllRest.cons rfl (fun K hK => ?_) AllRest.nil
      go_simp
      gi_wp2_with ((refine ⟨trivial, ?_⟩; gi_at_call 31; (refine (callsIn_wide.2 (HB2.out As Af 2 1 _ _ hss htf kB)).mono ?_); rintro e wn ⟨rfl, hb⟩))
      refine hK.out _ _ ?_ (fun hHeld' => ?_)
      · exact ⟨hHeld.1.below hb hHeld.1.lt, (hHeld.2).trans (hb.mono (hHeld.2).size)⟩
      clear hK K
      change RestIn _ _ _ _ _ _ _ 9 #[true, true, true, true, true, true, true, true, true, true, true, true, true, true, false, false, false, false, false, false, false, false, false] _ _
      try simp only [Act.put, List.setIfInBounds_toArray, List.set_cons_zero, List.set_cons_succ, List.getElem_toArray, List.getElem_cons_zero, List.getElem_cons_succ]
      clear hHeld
      have hHeld := hHeld'
      clear hHeld'
      have hNow := (hHeld.2)
      try have kB := kB.below hb kB.lt
      refine rest_take (i := 14) (v := _) all_wide (noDefers_of (by kernel_rfl)) rfl (by kernel_rfl) (by kernel_rfl) (by kernel_rfl) (fun _ _ _ h => h) (Or.inl ⟨by rfl, by intro w hSw; clear hSw; go_simp; first | done | with_reducible rfl⟩) hHeld ?_
      change RestIn _ _ _ _ _ _ _ 8 #[true, true, true, true, true, true, true, true, true, true, true, true, true, true, true, false, false, false, false, false, false, false, false] _ _
      try simp only [Act.put, List.setIfInBounds_toArray, List.set_cons_zero, List.set_cons_succ, List.getElem_toArray, List.getElem_cons_zero, List.getElem_cons_succ]
      refine rest_take (i := 15) (v := _) all_wide (noDefers_of (by kernel_rfl)) rfl (by kernel_rfl) (by kernel_rfl) (by kernel_rfl) (fun _ _ _ h => h) (Or.inl ⟨by rfl, by intro w hSw; clear hSw; go_simp; first | done | with_reducible rfl⟩) hHeld ?_
      change RestIn _ _ _ _ _ _ _ 7 #[true, true, true, true, true, true, true, true, true, true, true, true, true, true, true, true, false, false, false, false, false, false, false] _ _
      try simp only [Act.put, List.setIfInBounds_toArray, List.set_cons_zero, List.set_cons_succ, List.getElem_toArray, List.getElem_cons_zero, List.getElem_cons_succ]
      refine rest_take (i := 18) (v := _) all_wide (noDefers_of (by kernel_rfl)) rfl (by kernel_rfl) (by kernel_rfl) (by kernel_rfl) (fun _ _ _ h => h) (Or.inl ⟨by rfl, by intro w hSw; (obtain ⟨q0, _⟩ := hSw; have q0x0 := q0.cell 0; have q0x1 := q0.cell 1; simp at q0x0 q0x1); go_simp; first | done | with_reducible rfl⟩) hHeld ?_
      change RestIn _ _ _ _ _ _ _ 6 #[true, true, true, true, true, true, true, true, true, true, true, true, true, true, true, true, false, false, true, false, false, false, false] _ _
      try simp only [Act.put, List.setIfInBounds_toArray, List.set_cons_zero, List.set_cons_succ, List.getElem_toArray, List.getElem_cons_zero, List.getElem_cons_succ]
      refine rest_ready (rs := [16, 19]) (by kernel_rfl) (by simp) ?_
      refine AllRest.cons rfl (fun K hK => ?_) ?_
      · go_simp
        gi_wp2_with ((refine ⟨trivial, ?_⟩; gi_at_call 34; (with_reducible refine (callsIn_wide.2 (soil_rs _)).mono ?_); rintro e wn ⟨As, rfl, hss, hb⟩))
        refine hK.out _ _ ?_ (fun hHeld' => ?_)
        · exact ⟨hHeld.1.below hb hHeld.1.lt, (hHeld.2).trans (hb.mono (hHeld.2).size)⟩
        clear hK K
        change RestIn _ _ _ _ _ _ _ 5 #[true, true, true, true, true, true, true, true, true, true, true, true, true, true, true, true, true, false, true, false, false, false, false] _ _
        try simp only [Act.put, List.setIfInBounds_toArray, List.set_cons_zero, List.set_cons_succ, List.getElem_toArray, List.getElem_cons_zero, List.getElem_cons_succ]
        clear hHeld
        have hHeld := hHeld'
        clear hHeld'
        have hNow := (hHeld.2)
        try have kB := kB.below hb kB.lt
        refine rest_ready (rs := [17, 19]) (by kernel_rfl) (by simp) ?_
        refine AllRest.cons rfl (fun K hK => ?_) ?_
        · go_simp
          gi_wp2_with ((refine ⟨trivial, ?_⟩; gi_at_call 38; (with_reducible refine (callsIn_wide.2 (four_any _)).mono ?_); rintro e wn ⟨Af, rfl, htf, hb⟩))
          refine hK.out _ _ ?_ (fun hHeld' => ?_)
          · exact ⟨hHeld.1.below hb hHeld.1.lt, (hHeld.2).trans (hb.mono (hHeld.2).size)⟩
          clear hK K
          change RestIn _ _ _ _ _ _ _ 4 #[true, true, true, true, true, true, true, true, true, true, true, true, true, true, true, true, true, true, true, false, false, false, false] _ _
          try simp only [Act.put, List.setIfInBounds_toArray, List.set_cons_zero, List.set_cons_succ, List.getElem_toArray, List.getElem_cons_zero, List.getElem_cons_succ]
          clear hHeld
          have hHeld := hHeld'
          clear hHeld'
          have hNow := (hHeld.2)
          have hss := hss.to hb
          try have kB := kB.below hb kB.lt
          refine rest_ready (rs := [19]) (by kernel_rfl) (by simp) ?_
          refine AllRest.cons rfl (fun K hK => ?_) AllRest.nil
          have kBg := (hHeld.2).size
          have kB := blk_new_of (hHeld.2) 3 #[.int .i64 30, .int .i64 0, .int .i64 0]
          have hOld := (hHeld.2)
          go_simp
          refine hK.out _ _ ?_ (fun hHeld' => ?_)
          · exact (fun (hbel : Below W0.heap.size W0 _) => ⟨kx.below hbel kx.lt, hbel⟩) ((hHeld.2).alloc (hHeld.2).size _)
          clear hK K
          change RestIn _ _ _ _ _ _ _ 3 #[true, true, true, true, true, true, true, true, true, true, true, true, true, true, true, true, true, true, true, true, false, false, false] _ _
          try simp only [Act.put, List.setIfInBounds_toArray, List.set_cons_zero, List.set_cons_succ, List.getElem_toArray, List.getElem_cons_zero, List.getElem_cons_succ]
          clear hHeld
          have hHeld := hHeld'
          clear hHeld'
          have hNow := (hHeld.2)
          try simp at kBg
          try have hss := nwS hss (.cells #[.int .i64 30, .int .i64 0, .int .i64 0] 3)
          try have htf := nwF htf (.cells #[.int .i64 30, .int .i64 0, .int .i64 0] 3)
          refine rest_take (i := 20) (v := _) all_wide (noDefers_of (by kernel_rfl)) rfl (by kernel_rfl) (by kernel_rfl) (by kernel_rfl) (fun _ _ _ h => h) (Or.inl ⟨by rfl, by intro w hSw; clear hSw; go_simp; first | done | with_reducible rfl⟩) hHeld ?_
          change RestIn _ _ _ _ _ _ _ 2 #[true, true, true, true, true, true, true, true, true, true, true, true, true, true, true, true, true, true, true, true, true, false, false] _ _
          try simp only [Act.put, List.setIfInBounds_toArray, List.set_cons_zero, List.set_cons_succ, List.getElem_toArray, List.getElem_cons_zero, List.getElem_cons_succ]
          refine rest_ready (rs := [21]) (by kernel_rfl) (by simp) ?_
          refine AllRest.cons rfl (fun K hK => ?_) AllRest.nil
          go_simp
          gi_wp2_with ((refine ⟨trivial, ?_⟩; gi_at_call 31; (refine (callsIn_wide.2 (HB3.out As Af 2 1 _ _ hss htf kB)).mono ?_); rintro e wn ⟨rfl, hb⟩))
          refine hK.out _ _ ?_ (fun hHeld' => ?_)
          · exact ⟨hHeld.1.below hb hHeld.1.lt, (hHeld.2).trans (hb.mono (hHeld.2).size)⟩
          clear hK K
          change RestIn _ _ _ _ _ _ _ 1 #[true, true, true, true, true, true, true, true, true, true, true, true, true, true, true, true, true, true, true, true, true, true, false] _ _
          try simp only [Act.put, List.setIfInBounds_toArray, List.set_cons_zero, List.set_cons_succ, List.getElem_toArray, List.getElem_cons_zero, List.getElem_cons_succ]
          clear hHeld
          have hHeld := hHeld'
          clear hHeld'
          have hNow := (hHeld.2)
          try have kB := kB.below hb kB.lt
          refine rest_take (i := 22) (v := _) all_wide (noDefers_of (by kernel_rfl)) rfl (by kernel_rfl) (by kernel_rfl) (by kernel_rfl) (fun _ _ _ h => h) (Or.inl ⟨by rfl, by intro w hSw; clear hSw; go_simp; first | done | with_reducible rfl⟩) hHeld ?_
          change RestIn _ _ _ _ _ _ _ 0 #[true, true, true, true, true, true, true, true, true, true, true, true, true, true, true, true, true, true, true, true, true, true, true] _ _
          try simp only [Act.put, List.setIfInBounds_toArray, List.set_cons_zero, List.set_cons_succ, List.getElem_toArray, List.getElem_cons_zero, List.getElem_cons_succ]
          refine rest_done (by kernel_rfl) ?_
          exact TAIL _ _ _ _ _ _ _ _ _ _ _ _ _ _ _ _ _ _ _ _ _ _ _ hNow
        refine AllRest.cons rfl (fun K hK => ?_) ?_
        · have kBg := (hHeld.2).size
          have kB := blk_new_of (hHeld.2) 3 #[.int .i64 30, .int .i64 0, .int .i64 0]
          have hOld := (hHeld.2)
          go_simp
          refine hK.out _ _ ?_ (fun hHeld' => ?_)
          · exact (fun (hbel : Below W0.heap.size W0 _) => ⟨kx.below hbel kx.lt, hbel⟩) ((hHeld.2).alloc (hHeld.2).size _)
          clear hK K
          change RestIn _ _ _ _ _ _ _ 4 #[true, true, true, true, true, true, true, true, true, true, true, true, true, true, true, true, true, false, true, true, false, false, false] _ _
          try simp only [Act.put, List.setIfInBounds_toArray, List.set_cons_zero, List.set_cons_succ, List.getElem_toArray, List.getElem_cons_zero, List.getElem_cons_succ]
          clear hHeld
          have hHeld := hHeld'
          clear hHeld'
          have hNow := (hHeld.2)
          try simp at kBg
          try have hss := nwS hss (.cells #[.int .i64 30, .int .i64 0, .int .i64 0] 3)
          try have htf := nwF htf (.cells #[.int .i64 30, .int .i64 0, .int .i64 0] 3)
          refine rest_take (i := 20) (v := _) all_wide (noDefers_of (by kernel_rfl)) rfl (by kernel_rfl) (by kernel_rfl) (by kernel_rfl) (fun _ _ _ h => h) (Or.inl ⟨by rfl, by intro w hSw; clear hSw; go_simp; first | done | with_reducible rfl⟩) hHeld ?_
          change RestIn _ _ _ _ _ _ _ 3 #[true, true, true, true, true, true, true, true, true, true, true, true, true, true, true, true, true, false, true, true, true, false, false] _ _
          try simp only [Act.put, List.setIfInBounds_toArray, List.set_cons_zero, List.set_cons_succ, List.getElem_toArray, List.getElem_cons_zero, List.getElem_cons_succ]
          refine rest_ready (rs := [17]) (by kernel_rfl) (by simp) ?_
          refine AllRest.cons rfl (fun K hK => ?_) AllRest.nil
          go_simp
          gi_wp2_with ((refine ⟨trivial, ?_⟩; gi_at_call 38; (with_reducible refine (callsIn_wide.2 (four_any _)).mono ?_); rintro e wn ⟨Af, rfl, htf, hb⟩))
          refine hK.out _ _ ?_ (fun hHeld' => ?_)
          · exact ⟨hHeld.1.below hb hHeld.1.lt, (hHeld.2).trans (hb.mono (hHeld.2).size)⟩
          clear hK K
          change RestIn _ _ _ _ _ _ _ 2 #[true, true, true, true, true, true, true, true, true, true, true, true, true, true, true, true, true, true, true, true, true, false, false] _ _
          try simp only [Act.put, List.setIfInBounds_toArray, List.set_cons_zero, List.set_cons_succ, List.getElem_toArray, List.getElem_cons_zero, List.getElem_cons_succ]
          clear hHeld
          have hHeld := hHeld'
          clear hHeld'
          have hNow := (hHeld.2)
          have hss := hss.to hb
          try have kB := kB.below hb kB.lt
          refine rest_ready (rs := [21]) (by kernel_rfl) (by simp) ?_
          refine AllRest.cons rfl (fun K hK => ?_) AllRest.nil
          go_simp
          gi_wp2_with ((refine ⟨trivial, ?_⟩; gi_at_call 31; (refine (callsIn_wide.2 (HB3.out As Af 2 1 _ _ hss htf kB)).mono ?_); rintro e wn ⟨rfl, hb⟩))
          refine hK.out _ _ ?_ (fun hHeld' => ?_)
          · exact ⟨hHeld.1.below hb hHeld.1.lt, (hHeld.2).trans (hb.mono (hHeld.2).size)⟩
          clear hK K
          change RestIn _ _ _ _ _ _ _ 1 #[true, true, true, true, true, true, true, true, true, true, true, true, true, true, true, true, true, true, true, true, true, true, false] _ _
          try simp only [Act.put, List.setIfInBounds_toArray, List.set_cons_zero, List.set_cons_succ, List.getElem_toArray, List.getElem_cons_zero, List.getElem_cons_succ]
          clear hHeld
          have hHeld := hHeld'
          clear hHeld'
          have hNow := (hHeld.2)
          try have kB := kB.below hb kB.lt
          refine rest_take (i := 22) (v := _) all_wide (noDefers_of (by kernel_rfl)) rfl (by kernel_rfl) (by kernel_rfl) (by kernel_rfl) (fun _ _ _ h => h) (Or.inl ⟨by rfl, by intro w hSw; clear hSw; go_simp; first | done | with_reducible rfl⟩) hHeld ?_
          change RestIn _ _ _ _ _ _ _ 0 #[true, true, true, true, true, true, true, true, true, true, true, true, true, true, true, true, true, true, true, true, true, true, true] _ _
          try simp only [Act.put, List.setIfInBounds_toArray, List.set_cons_zero, List.set_cons_succ, List.getElem_toArray, List.getElem_cons_zero, List.getElem_cons_succ]
          refine rest_done (by kernel_rfl) ?_
          exact TAIL _ _ _ _ _ _ _ _ _ _ _ _ _ _ _ _ _ _ _ _ _ _ _ hNow
        exact AllRest.nil
      refine AllRest.cons rfl (fun K hK => ?_) ?_
      · have kBg := (hHeld.2).size
        have kB := blk_new_of (hHeld.2) 3 #[.int .i64 30, .int .i64 0, .int .i64 0]
        have hOld := (hHeld.2)
        go_simp
        refine hK.out _ _ ?_ (fun hHeld' => ?_)
        · exact (fun (hbel : Below W0.heap.size W0 _) => ⟨kx.below hbel kx.lt, hbel⟩) ((hHeld.2).alloc (hHeld.2).size _)
        clear hK K
        change RestIn _ _ _ _ _ _ _ 5 #[true, true, true, true, true, true, true, true, true, true, true, true, true, true, true, true, false, false, true, true, false, false, false] _ _
        try simp only [Act.put, List.setIfInBounds_toArray, List.set_cons_zero, List.set_cons_succ, List.getElem_toArray, List.getElem_cons_zero, List.getElem_cons_succ]
        clear hHeld
        have hHeld := hHeld'
        clear hHeld'
        have hNow := (hHeld.2)
        try simp at kBg
        try have hss := nwS hss (.cells #[.int .i64 30, .int .i64 0, .int .i64 0] 3)
        try have htf := nwF htf (.cells #[.int .i64 30, .int .i64 0, .int .i64 0] 3)
        refine rest_take (i := 20) (v := _) all_wide (noDefers_of (by kernel_rfl)) rfl (by kernel_rfl) (by kernel_rfl) (by kernel_rfl) (fun _ _ _ h => h) (Or.inl ⟨by rfl, by intro w hSw; clear hSw; go_simp; first | done | with_reducible rfl⟩) hHeld ?_
        change RestIn _ _ _ _ _ _ _ 4 #[true, true, true, true, true, true, true, true, true, true, true, true, true, true, true, true, false, false, true, true, true, false, false] _ _
        try simp only [Act.put, List.setIfInBounds_toArray, List.set_cons_zero, List.set_cons_succ, List.getElem_toArray, List.getElem_cons_zero, List.getElem_cons_succ]
        refine rest_ready (rs := [16]) (by kernel_rfl) (by simp) ?_
        refine AllRest.cons rfl (fun K hK => ?_) AllRest.nil
        go_simp
        gi_wp2_with ((refine ⟨trivial, ?_⟩; gi_at_call 34; (with_reducible refine (callsIn_wide.2 (soil_rs _)).mono ?_); rintro e wn ⟨As, rfl, hss, hb⟩))
        refine hK.out _ _ ?_ (fun hHeld' => ?_)
        · exact ⟨hHeld.1.below hb hHeld.1.lt, (hHeld.2).trans (hb.mono (hHeld.2).size)⟩
        clear hK K
        change RestIn _ _ _ _ _ _ _ 3 #[true, true, true, true, true, true, true, true, true, true, true, true, true, true, true, true, true, false, true, true, true, false, false] _ _
        try simp only [Act.put, List.setIfInBounds_toArray, List.set_cons_zero, List.set_cons_succ, List.getElem_toArray, List.getElem_cons_zero, List.getElem_cons_succ]
        clear hHeld
        have hHeld := hHeld'
        clear hHeld'
        have hNow := (hHeld.2)
        try have kB := kB.below hb kB.lt
        refine rest_ready (rs := [17]) (by kernel_rfl) (by simp) ?_
        refine AllRest.cons rfl (fun K hK => ?_) AllRest.nil
        go_simp
        gi_wp2_with ((refine ⟨trivial, ?_⟩; gi_at_call 38; (with_reducible refine (callsIn_wide.2 (four_any _)).mono ?_); rintro e wn ⟨Af, rfl, htf, hb⟩))
        refine hK.out _ _ ?_ (fun hHeld' => ?_)
        · exact ⟨hHeld.1.below hb hHeld.1.lt, (hHeld.2).trans (hb.mono (hHeld.2).size)⟩
        clear hK K
        change RestIn _ _ _ _ _ _ _ 2 #[true, true, true, true, true, true, true, true, true, true, true, true, true, true, true, true, true, true, true, true, true, false, false] _ _
        try simp only [Act.put, List.setIfInBounds_toArray, List.set_cons_zero, List.set_cons_succ, List.getElem_toArray, List.getElem_cons_zero, List.getElem_cons_succ]
        clear hHeld
        have hHeld := hHeld'
        clear hHeld'
        have hNow := (hHeld.2)
        have hss := hss.to hb
        try have kB := kB.below hb kB.lt
        refine rest_ready (rs := [21]) (by kernel_rfl) (by simp) ?_
        refine AllRest.cons rfl (fun K hK => ?_) AllRest.nil
        go_simp
        gi_wp2_with ((refine ⟨trivial, ?_⟩; gi_at_call 31; (refine (callsIn_wide.2 (HB3.out As Af 2 1 _ _ hss htf kB)).mono ?_); rintro e wn ⟨rfl, hb⟩))
        refine hK.out _ _ ?_ (fun hHeld' => ?_)
        · exact ⟨hHeld.1.below hb hHeld.1.lt, (hHeld.2).trans (hb.mono (hHeld.2).size)⟩
        clear hK K
        change RestIn _ _ _ _ _ _ _ 1 #[true, true, true, true, true, true, true, true, true, true, true, true, true, true, true, true, true, true, true, true, true, true, false] _ _
        try simp only [Act.put, List.setIfInBounds_toArray, List.set_cons_zero, List.set_cons_succ, List.getElem_toArray, List.getElem_cons_zero, List.getElem_cons_succ]
        clear hHeld
        have hHeld := hHeld'
        clear hHeld'
        have hNow := (hHeld.2)
        try have kB := kB.below hb kB.lt
        refine rest_take (i := 22) (v := _) all_wide (noDefers_of (by kernel_rfl)) rfl (by kernel_rfl) (by kernel_rfl) (by kernel_rfl) (fun _ _ _ h => h) (Or.inl ⟨by rfl, by intro w hSw; clear hSw; go_simp; first | done | with_reducible rfl⟩) hHeld ?_
        change RestIn _ _ _ _ _ _ _ 0 #[true, true, true, true, true, true, true, true, true, true, true, true, true, true, true, true, true, true, true, true, true, true, true] _ _
        try simp only [Act.put, List.setIfInBounds_toArray, List.set_cons_zero, List.set_cons_succ, List.getElem_toArray, List.getElem_cons_zero, List.getElem_cons_succ]
        refine rest_done (by kernel_rfl) ?_
        exact TAIL _ _ _ _ _ _ _ _ _ _ _ _ _ _ _ _ _ _ _ _ _ _ _ hNow
      exact AllRest.nil
    exact AllRest.nil
  exact AllRest.nil
end Go.Proofs.Ytkeicglphmnilaa
