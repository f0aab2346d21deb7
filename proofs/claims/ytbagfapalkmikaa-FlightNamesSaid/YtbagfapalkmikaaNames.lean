import Derived.Test.YtbagfapalkmikaaNamesM
import Derived.Test.YtbagfapalkmikaaWinLh
import Derived.Test.YtbagfapalkmikaaLight

/- The document's examples, and the errors. -/
namespace Go.Proofs.Ytbagfapalkmikaa
open Go.RowKit Go.Shelf
theorem neqR (a b c d : Int) (w : World) : (binOp .neq 35 (.agg #[.int .i64 a, .int .i64 b]) (.agg #[.int .i64 c, .int .i64 d])).run Try.prog w = .ok (.bool (!(a == c && b == d))) w := by
  rw [run_neq_struct, show (10000 : Nat) = 9998 + 2 from rfl, eqInR]; rfl
theorem neqW (a b c d : Int) (w : World) : (binOp .neq 92 (.agg #[.int .i64 a, .int .i64 b]) (.agg #[.int .i64 c, .int .i64 d])).run Try.prog w = .ok (.bool (!(a == c && b == d))) w := by
  rw [run_neq_struct, show (10000 : Nat) = 9998 + 2 from rfl, eqInW]; rfl
set_option linter.unusedSimpArgs false in
set_option maxRecDepth 100000 in
set_option maxHeartbeats 32000000 in
theorem names_any (w : World) : Calls Try.prog 13 #[] w fun e w' => e = .returned (.bool true) ∧ Below w.heap.size w w' := by
  have hmx : Try.prog.follows .mixedOrders = true := by kernel_rfl
  have eR1 : ∀ w, (binOp .neq 35 (.agg #[.int .i64 634, .int .i64 635]) (.agg #[.int .i64 634, .int .i64 635])).run Try.prog w = .ok (.bool false) w := fun w => neqR 634 635 634 635 w
  have eR2 : ∀ w, (binOp .neq 35 (.agg #[.int .i64 124, .int .i64 124]) (.agg #[.int .i64 124, .int .i64 124])).run Try.prog w = .ok (.bool false) w := fun w => neqR 124 124 124 124 w
  have eW1 : ∀ w, (binOp .neq 92 (.agg #[.int .i64 0, .int .i64 50]) (.agg #[.int .i64 0, .int .i64 50])).run Try.prog w = .ok (.bool false) w := fun w => neqW 0 50 0 50 w
  have eW2 : ∀ w, (binOp .neq 92 (.agg #[.int .i64 0, .int .i64 4]) (.agg #[.int .i64 0, .int .i64 4])).run Try.prog w = .ok (.bool false) w := fun w => neqW 0 4 0 4 w
  have eW3 : ∀ w, (binOp .neq 92 (.agg #[.int .i64 154, .int .i64 158]) (.agg #[.int .i64 154, .int .i64 158])).run Try.prog w = .ok (.bool false) w := fun w => neqW 154 158 154 158 w
  have HP1 : Hid (∀ (A : Option Addr) (c : Nat) (W : World), RS encB 4 W W.heap.size A leapF.cycle → Calls Try.prog 41 #[.agg #[.int .i64 leapF.fly.pos.x.lo, .int .i64 leapF.fly.pos.x.hi, .int .i64 leapF.fly.pos.z.lo, .int .i64 leapF.fly.pos.z.hi, .int .i64 leapF.fly.speed.x.lo, .int .i64 leapF.fly.speed.x.hi, .int .i64 leapF.fly.speed.z.lo, .int .i64 leapF.fly.speed.z.hi, .int .i64 leapF.fly.mass, .slice A leapF.cycle.length c, .int .i64 leapF.reach, .int .i64 leapF.soft, .int .i64 leapF.bears, .int .i64 leapF.least, .int .i64 leapF.most], .agg #[.int .i64 7, .int .i64 8], .slice (some ⟨W.heap.size, 0, none⟩) 2 2] (W.alloc (.cells #[.int .i64 45, .int .i64 48] 3)) fun e w' => e = .returned (.bool true) ∧ Below W.heap.size W w') := fun A c W h =>
    (nm_PW A (some ⟨W.heap.size, 0, none⟩) c 2 [45, 48] true 2 _ (h.to ((Below.refl _ _).alloc (Nat.le_refl _) (.cells #[.int .i64 45, .int .i64 48] 3))) (RS.of_blk (enc := encI) (sz := 1) (l := [45, 48]) (fun _ => rfl) (Blk.new W 3 #[.int .i64 45, .int .i64 48])) rfl nm_p1).mono fun e w' ⟨h1, h2⟩ => ⟨h1, ((Below.refl _ _).alloc (Nat.le_refl _) (.cells #[.int .i64 45, .int .i64 48] 3)).trans (h2.mono (by simp))⟩
  have HP2 : Hid (∀ (A : Option Addr) (c : Nat) (W : World), RS encB 4 W W.heap.size A leapF.cycle → Calls Try.prog 41 #[.agg #[.int .i64 leapF.fly.pos.x.lo, .int .i64 leapF.fly.pos.x.hi, .int .i64 leapF.fly.pos.z.lo, .int .i64 leapF.fly.pos.z.hi, .int .i64 leapF.fly.speed.x.lo, .int .i64 leapF.fly.speed.x.hi, .int .i64 leapF.fly.speed.z.lo, .int .i64 leapF.fly.speed.z.hi, .int .i64 leapF.fly.mass, .slice A leapF.cycle.length c, .int .i64 leapF.reach, .int .i64 leapF.soft, .int .i64 leapF.bears, .int .i64 leapF.least, .int .i64 leapF.most], .agg #[.int .i64 7, .int .i64 8], .slice (some ⟨W.heap.size, 0, none⟩) 2 2] (W.alloc (.cells #[.int .i64 45, .int .i64 49] 3)) fun e w' => e = .returned (.bool false) ∧ Below W.heap.size W w') := fun A c W h =>
    (nm_PW A (some ⟨W.heap.size, 0, none⟩) c 2 [45, 49] false 2 _ (h.to ((Below.refl _ _).alloc (Nat.le_refl _) (.cells #[.int .i64 45, .int .i64 49] 3))) (RS.of_blk (enc := encI) (sz := 1) (l := [45, 49]) (fun _ => rfl) (Blk.new W 3 #[.int .i64 45, .int .i64 49])) rfl nm_p2).mono fun e w' ⟨h1, h2⟩ => ⟨h1, ((Below.refl _ _).alloc (Nat.le_refl _) (.cells #[.int .i64 45, .int .i64 49] 3)).trans (h2.mono (by simp))⟩
  have HP3 : Hid (∀ (A : Option Addr) (c : Nat) (W : World), RS encB 4 W W.heap.size A leapF.cycle → Calls Try.prog 41 #[.agg #[.int .i64 leapF.fly.pos.x.lo, .int .i64 leapF.fly.pos.x.hi, .int .i64 leapF.fly.pos.z.lo, .int .i64 leapF.fly.pos.z.hi, .int .i64 leapF.fly.speed.x.lo, .int .i64 leapF.fly.speed.x.hi, .int .i64 leapF.fly.speed.z.lo, .int .i64 leapF.fly.speed.z.hi, .int .i64 leapF.fly.mass, .slice A leapF.cycle.length c, .int .i64 leapF.reach, .int .i64 leapF.soft, .int .i64 leapF.bears, .int .i64 leapF.least, .int .i64 leapF.most], .agg #[.int .i64 7, .int .i64 8], .slice (some ⟨W.heap.size, 0, none⟩) 1 1] (W.alloc (.cells #[.int .i64 45] 3)) fun e w' => e = .returned (.bool false) ∧ Below W.heap.size W w') := fun A c W h =>
    (nm_PW A (some ⟨W.heap.size, 0, none⟩) c 1 [45] false 1 _ (h.to ((Below.refl _ _).alloc (Nat.le_refl _) (.cells #[.int .i64 45] 3))) (RS.of_blk (enc := encI) (sz := 1) (l := [45]) (fun _ => rfl) (Blk.new W 3 #[.int .i64 45])) rfl nm_p3).mono fun e w' ⟨h1, h2⟩ => ⟨h1, ((Below.refl _ _).alloc (Nat.le_refl _) (.cells #[.int .i64 45] 3)).trans (h2.mono (by simp))⟩
  have HC1 : Hid (∀ (A1 A2 : Option Addr) (c1 c2 : Nat) (W : World), RS encB 4 W W.heap.size A1 leapF.cycle → RS encB 4 W W.heap.size A2 leapF.cycle → Calls Try.prog 47 #[.slice (some ⟨W.heap.size, 0, none⟩) 2 2, .int .i64 5, .int .i64 100] (W.alloc (.cells #[.int .i64 leapF.fly.pos.x.lo, .int .i64 leapF.fly.pos.x.hi, .int .i64 leapF.fly.pos.z.lo, .int .i64 leapF.fly.pos.z.hi, .int .i64 leapF.fly.speed.x.lo, .int .i64 leapF.fly.speed.x.hi, .int .i64 leapF.fly.speed.z.lo, .int .i64 leapF.fly.speed.z.hi, .int .i64 leapF.fly.mass, .slice A1 leapF.cycle.length c1, .int .i64 leapF.reach, .int .i64 leapF.soft, .int .i64 leapF.bears, .int .i64 leapF.least, .int .i64 leapF.most, .int .i64 leapF.fly.pos.x.lo, .int .i64 leapF.fly.pos.x.hi, .int .i64 leapF.fly.pos.z.lo, .int .i64 leapF.fly.pos.z.hi, .int .i64 leapF.fly.speed.x.lo, .int .i64 leapF.fly.speed.x.hi, .int .i64 leapF.fly.speed.z.lo, .int .i64 leapF.fly.speed.z.hi, .int .i64 leapF.fly.mass, .slice A2 leapF.cycle.length c2, .int .i64 leapF.reach, .int .i64 leapF.soft, .int .i64 leapF.bears, .int .i64 leapF.least, .int .i64 leapF.most] 50)) fun e w' => ∃ A' c', e = .returned (.tuple #[.slice A' 2 c', .int .i64 0, .int .i64 0]) ∧ RS encW 2 w' w'.heap.size A' [(0, 4), (154, 158)] ∧ Below W.heap.size W w') := fun A1 A2 c1 c2 W h1 h2 =>
    (nm_Chain1 A1 A2 c1 c2 W.heap.size _ (Blk.new W _ _) (h1.to ((Below.refl _ _).alloc (Nat.le_refl _) _)) (h2.to ((Below.refl _ _).alloc (Nat.le_refl _) _))).mono fun e w' ⟨A', c', g1, g2, g3⟩ => ⟨A', c', g1, g2, ((Below.refl _ _).alloc (Nat.le_refl _) (.cells #[.int .i64 leapF.fly.pos.x.lo, .int .i64 leapF.fly.pos.x.hi, .int .i64 leapF.fly.pos.z.lo, .int .i64 leapF.fly.pos.z.hi, .int .i64 leapF.fly.speed.x.lo, .int .i64 leapF.fly.speed.x.hi, .int .i64 leapF.fly.speed.z.lo, .int .i64 leapF.fly.speed.z.hi, .int .i64 leapF.fly.mass, .slice A1 leapF.cycle.length c1, .int .i64 leapF.reach, .int .i64 leapF.soft, .int .i64 leapF.bears, .int .i64 leapF.least, .int .i64 leapF.most, .int .i64 leapF.fly.pos.x.lo, .int .i64 leapF.fly.pos.x.hi, .int .i64 leapF.fly.pos.z.lo, .int .i64 leapF.fly.pos.z.hi, .int .i64 leapF.fly.speed.x.lo, .int .i64 leapF.fly.speed.x.hi, .int .i64 leapF.fly.speed.z.lo, .int .i64 leapF.fly.speed.z.hi, .int .i64 leapF.fly.mass, .slice A2 leapF.cycle.length c2, .int .i64 leapF.reach, .int .i64 leapF.soft, .int .i64 leapF.bears, .int .i64 leapF.least, .int .i64 leapF.most] 50)).trans (g3.mono (by simp))⟩
  have hX := Below.refl w.heap.size w
  go_enter Try.func13, Try.ntmps13
  go_upto_region 2 with (first | (go_at_call 50; (with_reducible refine (nm_Swing _).mono ?_); rintro e wq ⟨rfl, hb⟩; have hX := sh_next hX hb))
  have k1 := Blk.new wq 35 #[.int .i64 634, .int .i64 635]
  have hX := hX.alloc hX.size (.cells #[.int .i64 634, .int .i64 635] 35)
  have HB0 := Lib.hid (hX)
  refine name_world (motive := fun W => Code.wp _ _ _ _ W) _ ?_
  intro W1 hW
  have HB0 := Lib.hid (hW.below HB0.out)
  have k1 := hW.blk k1
  clear hb
  clear hX hW
  have hX := Below.refl W1.heap.size W1
  go_upto_region 3 with (first | (go_at_call 51; refine (leap_any _).mono ?_; rintro e wn ⟨An, cn, rfl, hsn, hb⟩; have hX := sh_next hX hb) | (go_at_call 18; (with_reducible refine (nm_Load An cn _ hsn).mono ?_); rintro e wq ⟨rfl, hb⟩; have hX := sh_next hX hb))
  have k1 := k1.below hX k1.lt
  have HB0 := Lib.hid (HB0.out.trans (hX.mono HB0.out.size))
  refine name_world (motive := fun W => Code.wp _ _ _ _ W) _ ?_
  intro W2 hW
  have HB0 := Lib.hid (hW.below HB0.out)
  have k1 := hW.blk k1
  clear hb hsn
  clear hX hW
  have hX := Below.refl W2.heap.size W2
  go_upto_region 4 with (first | (go_at_call 51; refine (leap_any _).mono ?_; rintro e wn ⟨An, cn, rfl, hsn, hb⟩; have hX := sh_next hX hb) | (go_at_call 43; (with_reducible refine (nm_Widest An cn _ hsn).mono ?_); rintro e wq ⟨rfl, hb⟩; have hX := sh_next hX hb))
  have k1 := (k1.below hX k1.lt).alloc (.cells #[.int .i64 0, .int .i64 50] 92)
  have k2 := Blk.new wq 92 #[.int .i64 0, .int .i64 50]
  have hX := hX.alloc hX.size (.cells #[.int .i64 0, .int .i64 50] 92)
  have HB0 := Lib.hid (HB0.out.trans (hX.mono HB0.out.size))
  refine name_world (motive := fun W => Code.wp _ _ _ _ W) _ ?_
  intro W3 hW
  have HB0 := Lib.hid (hW.below HB0.out)
  have k1 := hW.blk k1
  have k2 := hW.blk k2
  clear hb hsn
  clear hX hW
  have hX := Below.refl W3.heap.size W3
  go_upto_region 5 with (first | (go_at_call 51; refine (leap_any _).mono ?_; rintro e wn ⟨An, cn, rfl, hsn, hb⟩; have hX := sh_next hX hb) | (go_at_call 27; (with_reducible refine (nm_Landing _).mono ?_); rintro e wq ⟨rfl, hb⟩; have hX := sh_next hX hb))
  have k1 := (k1.below hX k1.lt).alloc (.cells #[.int .i64 124, .int .i64 124] 35)
  have k2 := (k2.below hX k2.lt).alloc (.cells #[.int .i64 124, .int .i64 124] 35)
  have k3 := Blk.new wq 35 #[.int .i64 124, .int .i64 124]
  have hX := hX.alloc hX.size (.cells #[.int .i64 124, .int .i64 124] 35)
  have HB0 := Lib.hid (HB0.out.trans (hX.mono HB0.out.size))
  refine name_world (motive := fun W => Code.wp _ _ _ _ W) _ ?_
  intro W4 hW
  have HB0 := Lib.hid (hW.below HB0.out)
  have k1 := hW.blk k1
  have k2 := hW.blk k2
  have k3 := hW.blk k3
  clear hb hsn
  clear hX hW
  have hX := Below.refl W4.heap.size W4
  have a0 := k1.cell 0; have a1 := k1.cell 1; simp at a0 a1
  have b0 := k2.cell 0; have b1 := k2.cell 1; simp at b0 b1
  have d0 := k3.cell 0; have d1 := k3.cell 1; simp at d0 d1
  have l1 := k1.lt; have l2 := k2.lt; have l3 := k3.lt
  go_upto_region 7 with fail
  clear a0 a1 b0 b1 d0 d1 l1 l2 l3 k1 k2 k3
  go_upto_region 9 with (first | (go_at_call 51; refine (leap_any _).mono ?_; rintro e wn ⟨An, cn, rfl, hsn, hb⟩; have hX := sh_next hX hb) | (go_at_call 41; (with_reducible refine (HP1.out _ _ _ hsn).mono ?_); rintro e wq ⟨rfl, hb⟩; have hX := sh_next hX hb) | (go_at_call 41; (with_reducible refine (HP2.out _ _ _ hsn).mono ?_); rintro e wq ⟨rfl, hb⟩; have hX := sh_next hX hb) | (go_at_call 41; (with_reducible refine (HP3.out _ _ _ hsn).mono ?_); rintro e wq ⟨rfl, hb⟩; have hX := sh_next hX hb))
  have HB0 := Lib.hid (HB0.out.trans (hX.mono HB0.out.size))
  refine name_world (motive := fun W => Code.wp _ _ _ _ W) _ ?_
  intro W5 hW
  have HB0 := Lib.hid (hW.below HB0.out)
  clear hb hsn
  clear hX hW
  have hX := Below.refl W5.heap.size W5
  have tk1 : True := trivial
  go_upto_region 10 with (first | (go_at_call 51; have := tk1; clear this tk1; refine (leap_any _).mono ?_; rintro e wm ⟨Am, cm, rfl, hsm, hb⟩; have hX := sh_next hX hb) | (go_at_call 51; refine (leap_any _).mono ?_; rintro e wn ⟨An, cn, rfl, hsn, hb⟩; have hX := sh_next hX hb) | (go_at_call 47; (with_reducible refine (HC1.out _ _ _ _ _ (hsm.to hb) hsn).mono ?_); rintro e wq ⟨A3, c3, rfl, hs3, hb⟩; have hX := sh_next hX hb))
  obtain ⟨q3, o3, rfl, hq3, hc3⟩ := hs3.at_ (k := 0) (x := (0, 4)) rfl
  obtain ⟨q4, o4, hA4, hq4, hc4⟩ := hs3.at_ (k := 1) (x := (154, 158)) rfl
  cases hA4
  have e0 := hc3 0 _ rfl; have e1 := hc3 1 _ rfl; have e2 := hc4 0 _ rfl; have e3 := hc4 1 _ rfl
  simp only [Nat.zero_mul, Nat.one_mul, Nat.add_zero, Nat.add_assoc, Nat.reduceAdd] at e0 e1 e2 e3
  clear hc3 hc4 hs3 hsm hsn hb
  go_upto_region 12 with fail
  clear e0 e1 e2 e3
  go_upto_region 13 with (go_at_call 51; refine (leap_any _).mono ?_; rintro e wn ⟨An, cn, rfl, hsn, hb⟩; have hX := sh_next hX hb)
  have hKz : w.heap.size ≤ wn.heap.size := by have := HB0.out.size; have := hX.size; omega
  have hKl : ∀ ad, An = some ad → ad.block < wn.heap.size := hsn.lt (by decide)
  have kK := Blk.new wn 50 #[.int .i64 leapF.fly.pos.x.lo, .int .i64 leapF.fly.pos.x.hi, .int .i64 leapF.fly.pos.z.lo, .int .i64 leapF.fly.pos.z.hi, .int .i64 leapF.fly.speed.x.lo, .int .i64 leapF.fly.speed.x.hi, .int .i64 leapF.fly.speed.z.lo, .int .i64 leapF.fly.speed.z.hi, .int .i64 leapF.fly.mass, .slice An leapF.cycle.length cn, .int .i64 leapF.reach, .int .i64 leapF.soft, .int .i64 leapF.bears, .int .i64 leapF.least, .int .i64 leapF.most]
  have hX := hX.alloc hX.size (.cells #[.int .i64 leapF.fly.pos.x.lo, .int .i64 leapF.fly.pos.x.hi, .int .i64 leapF.fly.pos.z.lo, .int .i64 leapF.fly.pos.z.hi, .int .i64 leapF.fly.speed.x.lo, .int .i64 leapF.fly.speed.x.hi, .int .i64 leapF.fly.speed.z.lo, .int .i64 leapF.fly.speed.z.hi, .int .i64 leapF.fly.mass, .slice An leapF.cycle.length cn, .int .i64 leapF.reach, .int .i64 leapF.soft, .int .i64 leapF.bears, .int .i64 leapF.least, .int .i64 leapF.most] 50)
  have hsn := hsn.to ((Below.refl _ _).alloc (Nat.le_refl _) (.cells #[.int .i64 leapF.fly.pos.x.lo, .int .i64 leapF.fly.pos.x.hi, .int .i64 leapF.fly.pos.z.lo, .int .i64 leapF.fly.pos.z.hi, .int .i64 leapF.fly.speed.x.lo, .int .i64 leapF.fly.speed.x.hi, .int .i64 leapF.fly.speed.z.lo, .int .i64 leapF.fly.speed.z.hi, .int .i64 leapF.fly.mass, .slice An leapF.cycle.length cn, .int .i64 leapF.reach, .int .i64 leapF.soft, .int .i64 leapF.bears, .int .i64 leapF.least, .int .i64 leapF.most] 50))
  have HB0 := Lib.hid (HB0.out.trans (hX.mono HB0.out.size))
  obtain ⟨K, hK⟩ : ∃ K, wn.heap.size = K := ⟨_, rfl⟩
  rw [hK] at kK hKz hKl
  simp only [hK]
  refine name_world (motive := fun W => Code.wp _ _ _ _ W) _ ?_
  intro W8 hW
  have HB0 := Lib.hid (hW.below HB0.out)
  have kK := hW.blk kK
  have hsn := hsn.to (hW.below (Below.refl _ _))
  clear hb hX hW hK
  have y0 := kK.cell 0; have yf0 := kK.frozen 0; have y1 := kK.cell 1; have yf1 := kK.frozen 1; have y2 := kK.cell 2; have yf2 := kK.frozen 2; have y3 := kK.cell 3; have yf3 := kK.frozen 3; have y4 := kK.cell 4; have yf4 := kK.frozen 4; have y5 := kK.cell 5; have yf5 := kK.frozen 5; have y6 := kK.cell 6; have yf6 := kK.frozen 6; have y7 := kK.cell 7; have yf7 := kK.frozen 7; have y8 := kK.cell 8; have yf8 := kK.frozen 8; have y9 := kK.cell 9; have yf9 := kK.frozen 9; have y10 := kK.cell 10; have yf10 := kK.frozen 10; have y11 := kK.cell 11; have yf11 := kK.frozen 11; have y12 := kK.cell 12; have yf12 := kK.frozen 12; have y13 := kK.cell 13; have yf13 := kK.frozen 13; have y14 := kK.cell 14; have yf14 := kK.frozen 14; have yl := kK.lt; simp at y0 y1 y2 y3 y4 y5 y6 y7 y8 y9 y10 y11 y12 y13 y14
  go_upto_region 14 with fail
  have kK := kK.set_ 10 (.int .i64 100)
  simp at kK
  have hsn := (hsn.far (p := ⟨K, 10, none⟩) (fun ad had => by have := hKl ad had; show ad.block ≠ K; omega) (.int .i64 100)).more (B' := (W8.setCell ⟨K, 10, none⟩ (.int .i64 100)).heap.size) (by simp)
  have HB0 := Lib.hid (HB0.out.setCell (p := ⟨K, 10, none⟩) hKz (.int .i64 100))
  clear y0 y1 y2 y3 y4 y5 y6 y7 y8 y9 y10 y11 y12 y13 y14 yf0 yf1 yf2 yf3 yf4 yf5 yf6 yf7 yf8 yf9 yf10 yf11 yf12 yf13 yf14 yl hKl hKz
  refine name_world (motive := fun W => Code.wp _ _ _ _ W) _ ?_
  intro W0 hW
  have HB0 := Lib.hid (hW.below HB0.out)
  have kK := hW.blk kK
  have hsn := hsn.to (hW.below (Below.refl _ _))
  clear hW
  have HC2 : Hid (∀ (A1 A2 : Option Addr) (c1 c2 B : Nat) (W : World), Blk W B 50 #[.int .i64 leapF.fly.pos.x.lo, .int .i64 leapF.fly.pos.x.hi, .int .i64 leapF.fly.pos.z.lo, .int .i64 leapF.fly.pos.z.hi, .int .i64 leapF.fly.speed.x.lo, .int .i64 leapF.fly.speed.x.hi, .int .i64 leapF.fly.speed.z.lo, .int .i64 leapF.fly.speed.z.hi, .int .i64 leapF.fly.mass, .slice A1 leapF.cycle.length c1, .int .i64 leapF.reach, .int .i64 leapF.soft, .int .i64 leapF.bears, .int .i64 leapF.least, .int .i64 leapF.most, .int .i64 leapF.fly.pos.x.lo, .int .i64 leapF.fly.pos.x.hi, .int .i64 leapF.fly.pos.z.lo, .int .i64 leapF.fly.pos.z.hi, .int .i64 leapF.fly.speed.x.lo, .int .i64 leapF.fly.speed.x.hi, .int .i64 leapF.fly.speed.z.lo, .int .i64 leapF.fly.speed.z.hi, .int .i64 leapF.fly.mass, .slice A2 leapF.cycle.length c2, .int .i64 100, .int .i64 leapF.soft, .int .i64 leapF.bears, .int .i64 leapF.least, .int .i64 leapF.most] → RS encB 4 W W.heap.size A1 leapF.cycle → RS encB 4 W W.heap.size A2 leapF.cycle → Calls Try.prog 47 #[.slice (some ⟨B, 0, none⟩) 2 2, .int .i64 5, .int .i64 100] W fun e w' => ∃ A' c', e = .returned (.tuple #[.slice A' 0 c', .int .i64 1, .int .i64 7]) ∧ Below W.heap.size W w') := fun A1 A2 c1 c2 B W hk h1 h2 => nm_Chain2 A1 A2 c1 c2 B W hk h1 h2
  refine (wpIn_wide (n := 9)).1 ?_
  have hLast := trivial
  refine region_rest (S := (fun w' => Blk w' (K) 50 #[.int .i64 leapF.fly.pos.x.lo, .int .i64 leapF.fly.pos.x.hi, .int .i64 leapF.fly.pos.z.lo, .int .i64 leapF.fly.pos.z.hi, .int .i64 leapF.fly.speed.x.lo, .int .i64 leapF.fly.speed.x.hi, .int .i64 leapF.fly.speed.z.lo, .int .i64 leapF.fly.speed.z.hi, .int .i64 leapF.fly.mass, .slice An leapF.cycle.length cn, .int .i64 100, .int .i64 leapF.soft, .int .i64 leapF.bears, .int .i64 leapF.least, .int .i64 leapF.most] ∧ Below W0.heap.size W0 w')) hmx ?_ (fun hHeld => ?_)
  · exact ⟨kK.drew, (Below.refl W0.heap.size W0).drew⟩
  change RestIn _ _ _ _ _ _ _ 10 #[false, false, false, false, false, false, false, false, false, false] _ (World.drew _)
  refine rest_take (i := 1) (v := _) all_wide (noDefers_of (by kernel_rfl)) rfl (by kernel_rfl) (by kernel_rfl) (by kernel_rfl) (fun _ _ _ h => h) (Or.inl ⟨by rfl, by intro w hSw; (obtain ⟨q0, _⟩ := hSw; have q0x0 := q0.cell 0; have q0x1 := q0.cell 1; have q0x2 := q0.cell 2; have q0x3 := q0.cell 3; have q0x4 := q0.cell 4; have q0x5 := q0.cell 5; have q0x6 := q0.cell 6; have q0x7 := q0.cell 7; have q0x8 := q0.cell 8; have q0x9 := q0.cell 9; have q0x10 := q0.cell 10; have q0x11 := q0.cell 11; have q0x12 := q0.cell 12; have q0x13 := q0.cell 13; have q0x14 := q0.cell 14; simp at q0x0 q0x1 q0x2 q0x3 q0x4 q0x5 q0x6 q0x7 q0x8 q0x9 q0x10 q0x11 q0x12 q0x13 q0x14); go_simp; first | done | with_reducible rfl⟩) hHeld ?_
  change RestIn _ _ _ _ _ _ _ 9 #[false, true, false, false, false, false, false, false, false, false] _ _
  try simp only [Act.put, List.setIfInBounds_toArray, List.set_cons_zero, List.set_cons_succ, List.getElem_toArray, List.getElem_cons_zero, List.getElem_cons_succ]
  refine rest_ready (rs := [0]) (by kernel_rfl) (by simp) ?_
  refine AllRest.cons rfl (fun K hK => ?_) AllRest.nil
  have hNow := (hHeld.2)
  clear hLast
  have hLast := hNow
  go_simp
  gi_wp2_with ((refine ⟨trivial, ?_⟩; gi_at_call 51; (with_reducible refine (callsIn_wide.2 (leap_any _)).mono ?_); rintro e wn ⟨Am, cm, rfl, hsm, hb⟩))
  refine hK.out _ _ ?_ (fun hHeld' => ?_)
  · exact ⟨hHeld.1.below hb hHeld.1.lt, (hHeld.2).trans (hb.mono (hHeld.2).size)⟩
  clear hK K
  change RestIn _ _ _ _ _ _ _ 8 #[true, true, false, false, false, false, false, false, false, false] _ _
  try simp only [Act.put, List.setIfInBounds_toArray, List.set_cons_zero, List.set_cons_succ, List.getElem_toArray, List.getElem_cons_zero, List.getElem_cons_succ]
  clear hHeld
  have hHeld := hHeld'
  clear hHeld'
  have hNow := (hHeld.2)
  try have kG := kG.below hb kG.lt
  refine rest_ready (rs := [2]) (by kernel_rfl) (by simp) ?_
  refine AllRest.cons rfl (fun K hK => ?_) AllRest.nil
  have kGg := (hHeld.2).size
  have kG := blk_new_of (hHeld.2) 50 #[.int .i64 leapF.fly.pos.x.lo, .int .i64 leapF.fly.pos.x.hi, .int .i64 leapF.fly.pos.z.lo, .int .i64 leapF.fly.pos.z.hi, .int .i64 leapF.fly.speed.x.lo, .int .i64 leapF.fly.speed.x.hi, .int .i64 leapF.fly.speed.z.lo, .int .i64 leapF.fly.speed.z.hi, .int .i64 leapF.fly.mass, .slice Am leapF.cycle.length cm, .int .i64 leapF.reach, .int .i64 leapF.soft, .int .i64 leapF.bears, .int .i64 leapF.least, .int .i64 leapF.most, .int .i64 leapF.fly.pos.x.lo, .int .i64 leapF.fly.pos.x.hi, .int .i64 leapF.fly.pos.z.lo, .int .i64 leapF.fly.pos.z.hi, .int .i64 leapF.fly.speed.x.lo, .int .i64 leapF.fly.speed.x.hi, .int .i64 leapF.fly.speed.z.lo, .int .i64 leapF.fly.speed.z.hi, .int .i64 leapF.fly.mass, .slice An leapF.cycle.length cn, .int .i64 100, .int .i64 leapF.soft, .int .i64 leapF.bears, .int .i64 leapF.least, .int .i64 leapF.most]
  have hOld := (hHeld.2)
  go_simp
  refine hK.out _ _ ?_ (fun hHeld' => ?_)
  · exact (fun (hbel : Below W0.heap.size W0 _) => ⟨kK.below hbel kK.lt, hbel⟩) ((hHeld.2).alloc (hHeld.2).size _)
  clear hK K
  change RestIn _ _ _ _ _ _ _ 7 #[true, true, true, false, false, false, false, false, false, false] _ _
  try simp only [Act.put, List.setIfInBounds_toArray, List.set_cons_zero, List.set_cons_succ, List.getElem_toArray, List.getElem_cons_zero, List.getElem_cons_succ]
  clear hHeld
  have hHeld := hHeld'
  clear hHeld'
  have hNow := (hHeld.2)
  try simp at kGg
  refine rest_ready (rs := [3]) (by kernel_rfl) (by simp) ?_
  refine AllRest.cons rfl (fun K hK => ?_) AllRest.nil
  have hNow := (hHeld.2)
  clear hLast
  have hLast := hNow
  go_simp
  gi_wp2_with ((refine ⟨trivial, ?_⟩; gi_at_call 47; (with_reducible refine (callsIn_wide.2 (HC2.out Am An cm cn _ _ kG (hsm.to ((Below.refl _ _).alloc (Nat.le_refl _) _)) (hsn.to hNow))).mono ?_); rintro e wn ⟨A9, c9, rfl, hb⟩))
  refine hK.out _ _ ?_ (fun hHeld' => ?_)
  · exact ⟨hHeld.1.below hb hHeld.1.lt, (hHeld.2).trans (hb.mono (hHeld.2).size)⟩
  clear hK K
  change RestIn _ _ _ _ _ _ _ 6 #[true, true, true, true, false, false, false, false, false, false] _ _
  try simp only [Act.put, List.setIfInBounds_toArray, List.set_cons_zero, List.set_cons_succ, List.getElem_toArray, List.getElem_cons_zero, List.getElem_cons_succ]
  clear hHeld
  have hHeld := hHeld'
  clear hHeld'
  have hNow := (hHeld.2)
  try have kG := kG.below hb kG.lt
  refine rest_take (i := 4) (v := _) all_wide (noDefers_of (by kernel_rfl)) rfl (by kernel_rfl) (by kernel_rfl) (by kernel_rfl) (fun _ _ _ h => h) (Or.inl ⟨by rfl, by intro w hSw; clear hSw; go_simp; first | done | with_reducible rfl⟩) hHeld ?_
  change RestIn _ _ _ _ _ _ _ 5 #[true, true, true, true, true, false, false, false, false, false] _ _
  try simp only [Act.put, List.setIfInBounds_toArray, List.set_cons_zero, List.set_cons_succ, List.getElem_toArray, List.getElem_cons_zero, List.getElem_cons_succ]
  refine rest_take (i := 5) (v := _) all_wide (noDefers_of (by kernel_rfl)) rfl (by kernel_rfl) (by kernel_rfl) (by kernel_rfl) (fun _ _ _ h => h) (Or.inl ⟨by rfl, by intro w hSw; clear hSw; go_simp; first | done | with_reducible rfl⟩) hHeld ?_
  change RestIn _ _ _ _ _ _ _ 4 #[true, true, true, true, true, true, false, false, false, false] _ _
  try simp only [Act.put, List.setIfInBounds_toArray, List.set_cons_zero, List.set_cons_succ, List.getElem_toArray, List.getElem_cons_zero, List.getElem_cons_succ]
  refine rest_take (i := 6) (v := _) all_wide (noDefers_of (by kernel_rfl)) rfl (by kernel_rfl) (by kernel_rfl) (by kernel_rfl) (fun _ _ _ h => h) (Or.inl ⟨by rfl, by intro w hSw; clear hSw; go_simp; first | done | with_reducible rfl⟩) hHeld ?_
  change RestIn _ _ _ _ _ _ _ 3 #[true, true, true, true, true, true, true, false, false, false] _ _
  try simp only [Act.put, List.setIfInBounds_toArray, List.set_cons_zero, List.set_cons_succ, List.getElem_toArray, List.getElem_cons_zero, List.getElem_cons_succ]
  refine rest_take (i := 7) (v := _) all_wide (noDefers_of (by kernel_rfl)) rfl (by kernel_rfl) (by kernel_rfl) (by kernel_rfl) (fun _ _ _ h => h) (Or.inl ⟨by rfl, by intro w hSw; clear hSw; go_simp; first | done | with_reducible rfl⟩) hHeld ?_
  change RestIn _ _ _ _ _ _ _ 2 #[true, true, true, true, true, true, true, true, false, false] _ _
  try simp only [Act.put, List.setIfInBounds_toArray, List.set_cons_zero, List.set_cons_succ, List.getElem_toArray, List.getElem_cons_zero, List.getElem_cons_succ]
  refine rest_take (i := 8) (v := _) all_wide (noDefers_of (by kernel_rfl)) rfl (by kernel_rfl) (by kernel_rfl) (by kernel_rfl) (fun _ _ _ h => h) (Or.inl ⟨by rfl, by intro w hSw; clear hSw; go_simp; first | done | with_reducible rfl⟩) hHeld ?_
  change RestIn _ _ _ _ _ _ _ 1 #[true, true, true, true, true, true, true, true, true, false] _ _
  try simp only [Act.put, List.setIfInBounds_toArray, List.set_cons_zero, List.set_cons_succ, List.getElem_toArray, List.getElem_cons_zero, List.getElem_cons_succ]
  refine rest_take (i := 9) (v := _) all_wide (noDefers_of (by kernel_rfl)) rfl (by kernel_rfl) (by kernel_rfl) (by kernel_rfl) (fun _ _ _ h => h) (Or.inl ⟨by rfl, by intro w hSw; clear hSw; go_simp; first | done | with_reducible rfl⟩) hHeld ?_
  change RestIn _ _ _ _ _ _ _ 0 #[true, true, true, true, true, true, true, true, true, true] _ _
  try simp only [Act.put, List.setIfInBounds_toArray, List.set_cons_zero, List.set_cons_succ, List.getElem_toArray, List.getElem_cons_zero, List.getElem_cons_succ]
  refine rest_done (by kernel_rfl) ?_
  have kK := hHeld.1
  have hX := hHeld.2
  have hsn := hsn.to hX
  clear HC2 kG hHeld hNow hLast
  have y0 := kK.cell 0; have y1 := kK.cell 1; have y2 := kK.cell 2; have y3 := kK.cell 3; have y4 := kK.cell 4; have y5 := kK.cell 5; have y6 := kK.cell 6; have y7 := kK.cell 7; have y8 := kK.cell 8; have y9 := kK.cell 9; have y10 := kK.cell 10; have y11 := kK.cell 11; have y12 := kK.cell 12; have y13 := kK.cell 13; have y14 := kK.cell 14; simp at y0 y1 y2 y3 y4 y5 y6 y7 y8 y9 y10 y11 y12 y13 y14
  have yl := kK.lt
  go_upto_region 16 with (go_at_call 43; (with_reducible refine (nm_WidestF An cn _ hsn).mono ?_); rintro e wq ⟨rfl, hb⟩; have hX := sh_next hX hb)
  clear y0 y1 y2 y3 y4 y5 y6 y7 y8 y9 y10 y11 y12 y13 y14 yl kK hsn hb
  go_upto_region 17 with (go_at_call 50; (with_reducible refine (nm_SwingB _).mono ?_); rintro e wq ⟨rfl, hb⟩; have hX := sh_next hX hb)
  go_upto_region 18 with (first | (go_at_call 51; refine (leap_any _).mono ?_; rintro e wn ⟨An, cn, rfl, hsn, hb⟩; have hX := sh_next hX hb) | (go_at_call 27; (with_reducible refine (nm_LandingB _).mono ?_); rintro e wq ⟨rfl, hb⟩; have hX := sh_next hX hb))
  clear hsn hb
  go_upto_region 19 with (first | (go_at_call 51; refine (leap_any _).mono ?_; rintro e wn ⟨An, cn, rfl, hsn, hb⟩; have hX := sh_next hX hb) | (go_at_call 35; (with_reducible refine (nm_CatchB An cn _ hsn).mono ?_); rintro e wq ⟨rfl, hb⟩; have hX := sh_next hX hb))
  clear hsn hb
  go_upto_region 20 with (go_at_call 47; (with_reducible refine (nm_Chain0 _).mono ?_); rintro e wq ⟨rfl, hb⟩; have hX := sh_next hX hb)
  go_wp2_with (first | (go_at_call 23; (with_reducible refine (nm_Check _).mono ?_); rintro e wq ⟨rfl, hb⟩; have hX := sh_next hX hb) | (go_at_call 15; refine (wakes_any _).mono ?_; rintro e wk ⟨rfl, hb⟩; have hX := sh_next hX hb))
  go_ret
  exact ⟨rfl, HB0.out.trans (hX.mono HB0.out.size)⟩
end Go.Proofs.Ytbagfapalkmikaa
