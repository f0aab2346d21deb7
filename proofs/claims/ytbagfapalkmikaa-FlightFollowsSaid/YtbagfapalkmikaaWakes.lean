import Derived.Test.YtbagfapalkmikaaLeap

/- wakes() is true. -/
namespace Go.Proofs.Ytbagfapalkmikaa
open Go.RowKit Go.Shelf
theorem wk_Swing (w : World) : Calls Try.prog 50 #[.int .i64 10000, .int .i64 20] w fun e w' => e = .returned (.tuple #[.agg #[.int .i64 634, .int .i64 648], .int .i64 0]) ∧ Below w.heap.size w w' := by
  have := Swing_ok 10000 20 w (by omega) (by omega)
  rw [leap_swing] at this
  exact this
theorem wk_After (w : World) : Calls Try.prog 16 #[.agg #[.int .i64 leapF.fly.pos.x.lo, .int .i64 leapF.fly.pos.x.hi, .int .i64 leapF.fly.pos.z.lo, .int .i64 leapF.fly.pos.z.hi, .int .i64 leapF.fly.speed.x.lo, .int .i64 leapF.fly.speed.x.hi, .int .i64 leapF.fly.speed.z.lo, .int .i64 leapF.fly.speed.z.hi, .int .i64 leapF.fly.mass], .int .i64 40] w fun e w' => e = .returned (.tuple #[.agg #[.int .i64 120000, .int .i64 121000, .int .i64 501600, .int .i64 502000], .int .i64 0]) ∧ Below w.heap.size w w' := by
  have := After_ok leapF.fly 40 w leap_flyer (by decide)
  rw [leap_after] at this
  exact this
theorem wk_Catches (A : Option Addr) (c : Nat) (w : World) (h : RS encB 4 w w.heap.size A leapF.cycle) : Calls Try.prog 35 #[.agg #[.int .i64 leapF.fly.pos.x.lo, .int .i64 leapF.fly.pos.x.hi, .int .i64 leapF.fly.pos.z.lo, .int .i64 leapF.fly.pos.z.hi, .int .i64 leapF.fly.speed.x.lo, .int .i64 leapF.fly.speed.x.hi, .int .i64 leapF.fly.speed.z.lo, .int .i64 leapF.fly.speed.z.hi, .int .i64 leapF.fly.mass, .slice A leapF.cycle.length c, .int .i64 leapF.reach, .int .i64 leapF.soft, .int .i64 leapF.bears, .int .i64 leapF.least, .int .i64 leapF.most], .int .i64 100] w fun e w' => ∃ A' c', e = .returned (.tuple #[.slice A' 3 c', .int .i64 0]) ∧ RS encI 1 w' w'.heap.size A' [138, 139, 140] ∧ Below w.heap.size w w' := by
  have := Catches_ok leapF A c 100 w leap_ok h (by decide)
  rw [leap_sure] at this
  exact this
theorem wk_Takes (w : World) : Calls Try.prog 29 #[.agg #[.int .i64 leapF.fly.pos.x.lo, .int .i64 leapF.fly.pos.x.hi, .int .i64 leapF.fly.pos.z.lo, .int .i64 leapF.fly.pos.z.hi, .int .i64 leapF.fly.speed.x.lo, .int .i64 leapF.fly.speed.x.hi, .int .i64 leapF.fly.speed.z.lo, .int .i64 leapF.fly.speed.z.hi, .int .i64 leapF.fly.mass], .agg #[.int .i64 300000, .int .i64 600000, .int .i64 0]] w fun e w' => e = .returned (.tuple #[.bool true, .int .i64 0]) ∧ Below w.heap.size w w' := by
  have := Takes_ok leapF.fly netF w leap_flyer leap_net
  rw [leap_takes] at this
  exact this
theorem wk_ints (A1 A2 : Option Addr) (c1 c2 : Nat) (w : World) (ha : RS encI 1 w w.heap.size A1 [138, 139, 140]) (hb : RS encI 1 w w.heap.size A2 [138, 139, 140]) :
    Calls Try.prog 52 #[.slice A1 3 c1, .slice A2 3 c2] w fun e w' => e = .returned (.bool true) ∧ Below w.heap.size w w' :=
  ints_any A1 A2 c1 c2 [138, 139, 140] [138, 139, 140] w ha hb (by decide) (by decide)

set_option maxRecDepth 100000 in
set_option maxHeartbeats 4000000 in
theorem wakes_any (w : World) : Calls Try.prog 15 #[] w fun e w' => e = .returned (.bool true) ∧ Below w.heap.size w w' := by
  have eR : ∀ w, (binOp .eql 35 (.agg #[.int .i64 634, .int .i64 648]) (.agg #[.int .i64 634, .int .i64 648])).run Try.prog w = .ok (.bool true) w := fun w => eqR 634 648 634 648 w
  have eB : ∀ w, (binOp .eql 37 (.agg #[.int .i64 120000, .int .i64 121000, .int .i64 501600, .int .i64 502000]) (.agg #[.int .i64 120000, .int .i64 121000, .int .i64 501600, .int .i64 502000])).run Try.prog w = .ok (.bool true) w := fun w => eqB 120000 121000 501600 502000 120000 121000 501600 502000 w
  go_enter Try.func15, Try.ntmps15
  go_upto_region 2 with ((go_at_call 50; refine (wk_Swing _).mono ?_; rintro e w1 ⟨rfl, hb1⟩))
  refine name_world (motive := fun W => Code.wp _ _ _ _ W) _ ?_
  intro W1 hW1
  have hX1 := hW1.below (hb1.alloc hb1.size (.cells #[.int .i64 634, .int .i64 648] 35))
  have kR := hW1.blk (Blk.new w1 35 #[.int .i64 634, .int .i64 648])
  have hz1 := hb1.size
  clear hW1 hb1
  go_upto_region 3 with (first | (go_at_call 51; refine (leap_any _).mono ?_; rintro e w2 ⟨A2, c2, rfl, hs2, hb2⟩) | (go_at_call 16; refine (wk_After _).mono ?_; rintro e w3 ⟨rfl, hb3⟩))
  have hX3 := sh_next hb2 hb3
  have kR3 := kR.below hX3 kR.lt
  have hX4 := (hX1.trans (hX3.mono hX1.size))
  have hX5 := hX4.alloc hX4.size (.cells #[.int .i64 120000, .int .i64 121000, .int .i64 501600, .int .i64 502000] 37)
  have kR5 := kR3.alloc (.cells #[.int .i64 120000, .int .i64 121000, .int .i64 501600, .int .i64 502000] 37)
  have kB5 := Blk.new w3 37 #[.int .i64 120000, .int .i64 121000, .int .i64 501600, .int .i64 502000]
  clear hs2 hb2 hb3 hX3 hX4 hX1 kR kR3
  refine name_world (motive := fun W => Code.wp _ _ _ _ W) _ ?_
  intro W2 hW2
  have hX6 := hW2.below hX5
  have kR6 := hW2.blk kR5
  have kB6 := hW2.blk kB5
  clear hW2 hX5 kR5 kB5
  go_upto_region 4 with (first | (go_at_call 51; refine (leap_any _).mono ?_; rintro e w4 ⟨A4, c4, rfl, hs4, hb4⟩) | (go_at_call 35; refine (wk_Catches A4 c4 _ hs4).mono ?_; rintro e w5 ⟨A5, c5, rfl, hs5, hb5⟩))
  have hX7 := sh_next hb4 hb5
  have kR7 := kR6.below hX7 kR6.lt
  have kB7 := kB6.below hX7 kB6.lt
  have hX8 := (hX6.trans (hX7.mono hX6.size))
  clear hs4 hb4 hb5 hX7 hX6 kR6 kB6
  go_upto_region 5 with (first | (go_at_call 51; refine (leap_any _).mono ?_; rintro e w6 ⟨A6, c6, rfl, hs6, hb6⟩) | (go_at_call 29; refine (wk_Takes _).mono ?_; rintro e w7 ⟨rfl, hb7⟩))
  have hX9 := sh_next hb6 hb7
  have kR9 := kR7.below hX9 kR7.lt
  have kB9 := kB7.below hX9 kB7.lt
  have hs9 := hs5.to hX9
  have hXa := (hX8.trans (hX9.mono hX8.size))
  clear hs6 hb6 hb7 hX9 hX8 kR7 kB7 hs5
  have r0 := kR9.cell 0
  have r1 := kR9.cell 1
  have b0 := kB9.cell 0
  have b1 := kB9.cell 1
  have b2 := kB9.cell 2
  have b3 := kB9.cell 3
  have hzb := kB9.lt
  have hzr := kR9.lt
  simp at r0 r1 b0 b1 b2 b3
  have kI := Blk.new w7 3 #[.int .i64 138, .int .i64 139, .int .i64 140]
  have hs10 := hs9.to ((Below.refl _ _).alloc (Nat.le_refl _) (.cells #[.int .i64 138, .int .i64 139, .int .i64 140] 3))
  have hri := RS.of_blk (enc := encI) (sz := 1) (l := [138, 139, 140]) (fun _ => rfl) kI
  go_wp2_with ((go_at_call 52; refine (wk_ints A5 (some ⟨w7.heap.size, 0, none⟩) c5 3 _ hs10 hri).mono ?_; rintro e w8 ⟨rfl, hb8⟩))
  go_ret
  exact ⟨rfl, (hXa.alloc hXa.size _).trans (hb8.mono (by have := hXa.size; simp; omega))⟩
end Go.Proofs.Ytbagfapalkmikaa
