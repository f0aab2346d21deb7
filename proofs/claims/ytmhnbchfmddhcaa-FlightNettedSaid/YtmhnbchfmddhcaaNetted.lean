import Derived.Test.YtmhnbchfmddhcaaTakeR
import Derived.Test.YtmhnbchfmddhcaaRefE
import Derived.Test.YtmhnbchfmddhcaaPick
import Derived.Test.YtmhnbchfmddhcaaWords

/- Whoever is missed falls into the net. -/
namespace Go.Proofs.Ytmhnbchfmddhcaa
open Go.RowKit Go.Shelf

set_option linter.unusedSimpArgs false in
set_option maxRecDepth 100000 in
set_option maxHeartbeats 16000000 in
theorem netted_0 (f : Fly) (n : Net) (a0 a1 a2 a3 : Int) (w : World) (hfy : f.ok = false) :
    Calls Try.prog 5 #[.agg #[.int .i64 f.pos.x.lo, .int .i64 f.pos.x.hi, .int .i64 f.pos.z.lo, .int .i64 f.pos.z.hi, .int .i64 f.speed.x.lo, .int .i64 f.speed.x.hi, .int .i64 f.speed.z.lo, .int .i64 f.speed.z.hi, .int .i64 f.mass], .agg #[.int .i64 n.x.lo, .int .i64 n.x.hi, .int .i64 n.height], .agg #[.int .u16 a0, .int .u16 a1, .int .u16 a2, .int .u16 a3]] w fun e w' => e = .returned (.bool true) ∧ Below w.heap.size w w' := by
  have hB0 := (((Below.refl w.heap.size w).alloc (Nat.le_refl _) (.cells #[.int .i64 f.pos.x.lo, .int .i64 f.pos.x.hi, .int .i64 f.pos.z.lo, .int .i64 f.pos.z.hi, .int .i64 f.speed.x.lo, .int .i64 f.speed.x.hi, .int .i64 f.speed.z.lo, .int .i64 f.speed.z.hi, .int .i64 f.mass] 27)).alloc (by simp) (.cells #[.int .i64 n.x.lo, .int .i64 n.x.hi, .int .i64 n.height] 60)).alloc (by simp <;> omega) (.cells #[.int .u16 a0, .int .u16 a1, .int .u16 a2, .int .u16 a3] 74)
  have kY0 := ((Blk.new w 27 #[.int .i64 f.pos.x.lo, .int .i64 f.pos.x.hi, .int .i64 f.pos.z.lo, .int .i64 f.pos.z.hi, .int .i64 f.speed.x.lo, .int .i64 f.speed.x.hi, .int .i64 f.speed.z.lo, .int .i64 f.speed.z.hi, .int .i64 f.mass]).alloc (.cells #[.int .i64 n.x.lo, .int .i64 n.x.hi, .int .i64 n.height] 60)).alloc (.cells #[.int .u16 a0, .int .u16 a1, .int .u16 a2, .int .u16 a3] 74)
  have kN0 := (Blk.new (w.alloc (.cells #[.int .i64 f.pos.x.lo, .int .i64 f.pos.x.hi, .int .i64 f.pos.z.lo, .int .i64 f.pos.z.hi, .int .i64 f.speed.x.lo, .int .i64 f.speed.x.hi, .int .i64 f.speed.z.lo, .int .i64 f.speed.z.hi, .int .i64 f.mass] 27)) 60 #[.int .i64 n.x.lo, .int .i64 n.x.hi, .int .i64 n.height]).alloc (.cells #[.int .u16 a0, .int .u16 a1, .int .u16 a2, .int .u16 a3] 74)
  have kD0 := Blk.new ((w.alloc (.cells #[.int .i64 f.pos.x.lo, .int .i64 f.pos.x.hi, .int .i64 f.pos.z.lo, .int .i64 f.pos.z.hi, .int .i64 f.speed.x.lo, .int .i64 f.speed.x.hi, .int .i64 f.speed.z.lo, .int .i64 f.speed.z.hi, .int .i64 f.mass] 27)).alloc (.cells #[.int .i64 n.x.lo, .int .i64 n.x.hi, .int .i64 n.height] 60)) 74 #[.int .u16 a0, .int .u16 a1, .int .u16 a2, .int .u16 a3]
  simp only [World.size_alloc] at kN0 kD0
  have HRY : Hid (∀ W : World, Calls Try.prog 21 #[.agg #[.int .i64 f.pos.x.lo, .int .i64 f.pos.x.hi, .int .i64 f.pos.z.lo, .int .i64 f.pos.z.hi, .int .i64 f.speed.x.lo, .int .i64 f.speed.x.hi, .int .i64 f.speed.z.lo, .int .i64 f.speed.z.hi, .int .i64 f.mass]] W fun e w' => e = .returned (.bool false) ∧ Below W.heap.size W w') := fun W => by rw [← hfy]; exact rightFlyer_any f W
  clear hfy
  have hmx : Try.prog.follows .mixedOrders = true := by kernel_rfl
  go_enter Try.func5, Try.ntmps5
  go_upto_region 1 with fail
  refine name_world (motive := fun W => Code.wp _ _ _ _ W) _ ?_
  intro W0 hW
  have hWc := hW.cell
  have hWz := hW.size
  have hWb := hW.below (hB0)
  have kY := hW.blk kY0
  have kN := hW.blk kN0
  have kD := hW.blk kD0
  have HB0 := Lib.hid hWb
  clear hB0 kY0 kN0 kD0 hW hWc hWz hWb
  have y0 := kY.cell 0; have y1 := kY.cell 1; have y2 := kY.cell 2; have y3 := kY.cell 3; have y4 := kY.cell 4; have y5 := kY.cell 5; have y6 := kY.cell 6; have y7 := kY.cell 7; have y8 := kY.cell 8; simp at y0 y1 y2 y3 y4 y5 y6 y7 y8
  go_wp2_with (first | (go_at_call 21; (with_reducible refine (HRY.out _).mono ?_); rintro e w1 ⟨rfl, hb1⟩; have kY2 := kY.below hb1 kY.lt; have kN2 := kN.below hb1 kN.lt; have kD2 := kD.below hb1 kD.lt; have hX2 := hb1; have n0 := kN2.cell 0; have n1 := kN2.cell 1; have n2 := kN2.cell 2; simp at n0 n1 n2) | (go_at_call 15; refine (wakes_any _).mono ?_; rintro e wk ⟨rfl, hbk⟩))
  go_ret
  exact ⟨rfl, HB0.out.trans ((sh_next hX2 hbk).mono HB0.out.size)⟩
set_option linter.unusedSimpArgs false in
set_option maxRecDepth 100000 in
set_option maxHeartbeats 16000000 in
theorem netted_1 (f : Fly) (n : Net) (a0 a1 a2 a3 : Int) (w : World) (hfy : f.ok = true) (hnk : n.ok = false) :
    Calls Try.prog 5 #[.agg #[.int .i64 f.pos.x.lo, .int .i64 f.pos.x.hi, .int .i64 f.pos.z.lo, .int .i64 f.pos.z.hi, .int .i64 f.speed.x.lo, .int .i64 f.speed.x.hi, .int .i64 f.speed.z.lo, .int .i64 f.speed.z.hi, .int .i64 f.mass], .agg #[.int .i64 n.x.lo, .int .i64 n.x.hi, .int .i64 n.height], .agg #[.int .u16 a0, .int .u16 a1, .int .u16 a2, .int .u16 a3]] w fun e w' => e = .returned (.bool true) ∧ Below w.heap.size w w' := by
  have hB0 := (((Below.refl w.heap.size w).alloc (Nat.le_refl _) (.cells #[.int .i64 f.pos.x.lo, .int .i64 f.pos.x.hi, .int .i64 f.pos.z.lo, .int .i64 f.pos.z.hi, .int .i64 f.speed.x.lo, .int .i64 f.speed.x.hi, .int .i64 f.speed.z.lo, .int .i64 f.speed.z.hi, .int .i64 f.mass] 27)).alloc (by simp) (.cells #[.int .i64 n.x.lo, .int .i64 n.x.hi, .int .i64 n.height] 60)).alloc (by simp <;> omega) (.cells #[.int .u16 a0, .int .u16 a1, .int .u16 a2, .int .u16 a3] 74)
  have kY0 := ((Blk.new w 27 #[.int .i64 f.pos.x.lo, .int .i64 f.pos.x.hi, .int .i64 f.pos.z.lo, .int .i64 f.pos.z.hi, .int .i64 f.speed.x.lo, .int .i64 f.speed.x.hi, .int .i64 f.speed.z.lo, .int .i64 f.speed.z.hi, .int .i64 f.mass]).alloc (.cells #[.int .i64 n.x.lo, .int .i64 n.x.hi, .int .i64 n.height] 60)).alloc (.cells #[.int .u16 a0, .int .u16 a1, .int .u16 a2, .int .u16 a3] 74)
  have kN0 := (Blk.new (w.alloc (.cells #[.int .i64 f.pos.x.lo, .int .i64 f.pos.x.hi, .int .i64 f.pos.z.lo, .int .i64 f.pos.z.hi, .int .i64 f.speed.x.lo, .int .i64 f.speed.x.hi, .int .i64 f.speed.z.lo, .int .i64 f.speed.z.hi, .int .i64 f.mass] 27)) 60 #[.int .i64 n.x.lo, .int .i64 n.x.hi, .int .i64 n.height]).alloc (.cells #[.int .u16 a0, .int .u16 a1, .int .u16 a2, .int .u16 a3] 74)
  have kD0 := Blk.new ((w.alloc (.cells #[.int .i64 f.pos.x.lo, .int .i64 f.pos.x.hi, .int .i64 f.pos.z.lo, .int .i64 f.pos.z.hi, .int .i64 f.speed.x.lo, .int .i64 f.speed.x.hi, .int .i64 f.speed.z.lo, .int .i64 f.speed.z.hi, .int .i64 f.mass] 27)).alloc (.cells #[.int .i64 n.x.lo, .int .i64 n.x.hi, .int .i64 n.height] 60)) 74 #[.int .u16 a0, .int .u16 a1, .int .u16 a2, .int .u16 a3]
  simp only [World.size_alloc] at kN0 kD0
  have HRY : Hid (∀ W : World, Calls Try.prog 21 #[.agg #[.int .i64 f.pos.x.lo, .int .i64 f.pos.x.hi, .int .i64 f.pos.z.lo, .int .i64 f.pos.z.hi, .int .i64 f.speed.x.lo, .int .i64 f.speed.x.hi, .int .i64 f.speed.z.lo, .int .i64 f.speed.z.hi, .int .i64 f.mass]] W fun e w' => e = .returned (.bool true) ∧ Below W.heap.size W w') := fun W => by rw [← hfy]; exact rightFlyer_any f W
  have HRN : Hid (∀ W : World, Calls Try.prog 30 #[.agg #[.int .i64 n.x.lo, .int .i64 n.x.hi, .int .i64 n.height]] W fun e w' => e = .returned (.bool false) ∧ Below W.heap.size W w') := fun W => by rw [← hnk]; exact rightNet_any n W
  clear hfy hnk
  have hmx : Try.prog.follows .mixedOrders = true := by kernel_rfl
  go_enter Try.func5, Try.ntmps5
  go_upto_region 1 with fail
  refine name_world (motive := fun W => Code.wp _ _ _ _ W) _ ?_
  intro W0 hW
  have hWc := hW.cell
  have hWz := hW.size
  have hWb := hW.below (hB0)
  have kY := hW.blk kY0
  have kN := hW.blk kN0
  have kD := hW.blk kD0
  have HB0 := Lib.hid hWb
  clear hB0 kY0 kN0 kD0 hW hWc hWz hWb
  have y0 := kY.cell 0; have y1 := kY.cell 1; have y2 := kY.cell 2; have y3 := kY.cell 3; have y4 := kY.cell 4; have y5 := kY.cell 5; have y6 := kY.cell 6; have y7 := kY.cell 7; have y8 := kY.cell 8; simp at y0 y1 y2 y3 y4 y5 y6 y7 y8
  go_wp2_with (first | (go_at_call 21; (with_reducible refine (HRY.out _).mono ?_); rintro e w1 ⟨rfl, hb1⟩; have kY2 := kY.below hb1 kY.lt; have kN2 := kN.below hb1 kN.lt; have kD2 := kD.below hb1 kD.lt; have hX2 := hb1; have n0 := kN2.cell 0; have n1 := kN2.cell 1; have n2 := kN2.cell 2; simp at n0 n1 n2) | (go_at_call 30; (with_reducible refine (HRN.out _).mono ?_); rintro e w2 ⟨rfl, hb2⟩; have kY3 := kY2.below hb2 kY2.lt; have kN3 := kN2.below hb2 kN2.lt; have kD3 := kD2.below hb2 kD2.lt; have hX3 := sh_next hX2 hb2) | (go_at_call 15; refine (wakes_any _).mono ?_; rintro e wk ⟨rfl, hbk⟩))
  go_ret
  exact ⟨rfl, HB0.out.trans ((sh_next hX3 hbk).mono HB0.out.size)⟩
set_option linter.unusedSimpArgs false in
set_option maxRecDepth 100000 in
set_option maxHeartbeats 16000000 in
theorem netted_2 (f : Fly) (n : Net) (a0 a1 a2 a3 : Int) (w : World) (hfy : f.ok = true) (hnk : n.ok = true) (hc : comesB f n = false) :
    Calls Try.prog 5 #[.agg #[.int .i64 f.pos.x.lo, .int .i64 f.pos.x.hi, .int .i64 f.pos.z.lo, .int .i64 f.pos.z.hi, .int .i64 f.speed.x.lo, .int .i64 f.speed.x.hi, .int .i64 f.speed.z.lo, .int .i64 f.speed.z.hi, .int .i64 f.mass], .agg #[.int .i64 n.x.lo, .int .i64 n.x.hi, .int .i64 n.height], .agg #[.int .u16 a0, .int .u16 a1, .int .u16 a2, .int .u16 a3]] w fun e w' => e = .returned (.bool true) ∧ Below w.heap.size w w' := by
  have hB0 := (((Below.refl w.heap.size w).alloc (Nat.le_refl _) (.cells #[.int .i64 f.pos.x.lo, .int .i64 f.pos.x.hi, .int .i64 f.pos.z.lo, .int .i64 f.pos.z.hi, .int .i64 f.speed.x.lo, .int .i64 f.speed.x.hi, .int .i64 f.speed.z.lo, .int .i64 f.speed.z.hi, .int .i64 f.mass] 27)).alloc (by simp) (.cells #[.int .i64 n.x.lo, .int .i64 n.x.hi, .int .i64 n.height] 60)).alloc (by simp <;> omega) (.cells #[.int .u16 a0, .int .u16 a1, .int .u16 a2, .int .u16 a3] 74)
  have kY0 := ((Blk.new w 27 #[.int .i64 f.pos.x.lo, .int .i64 f.pos.x.hi, .int .i64 f.pos.z.lo, .int .i64 f.pos.z.hi, .int .i64 f.speed.x.lo, .int .i64 f.speed.x.hi, .int .i64 f.speed.z.lo, .int .i64 f.speed.z.hi, .int .i64 f.mass]).alloc (.cells #[.int .i64 n.x.lo, .int .i64 n.x.hi, .int .i64 n.height] 60)).alloc (.cells #[.int .u16 a0, .int .u16 a1, .int .u16 a2, .int .u16 a3] 74)
  have kN0 := (Blk.new (w.alloc (.cells #[.int .i64 f.pos.x.lo, .int .i64 f.pos.x.hi, .int .i64 f.pos.z.lo, .int .i64 f.pos.z.hi, .int .i64 f.speed.x.lo, .int .i64 f.speed.x.hi, .int .i64 f.speed.z.lo, .int .i64 f.speed.z.hi, .int .i64 f.mass] 27)) 60 #[.int .i64 n.x.lo, .int .i64 n.x.hi, .int .i64 n.height]).alloc (.cells #[.int .u16 a0, .int .u16 a1, .int .u16 a2, .int .u16 a3] 74)
  have kD0 := Blk.new ((w.alloc (.cells #[.int .i64 f.pos.x.lo, .int .i64 f.pos.x.hi, .int .i64 f.pos.z.lo, .int .i64 f.pos.z.hi, .int .i64 f.speed.x.lo, .int .i64 f.speed.x.hi, .int .i64 f.speed.z.lo, .int .i64 f.speed.z.hi, .int .i64 f.mass] 27)).alloc (.cells #[.int .i64 n.x.lo, .int .i64 n.x.hi, .int .i64 n.height] 60)) 74 #[.int .u16 a0, .int .u16 a1, .int .u16 a2, .int .u16 a3]
  simp only [World.size_alloc] at kN0 kD0
  have HRY : Hid (∀ W : World, Calls Try.prog 21 #[.agg #[.int .i64 f.pos.x.lo, .int .i64 f.pos.x.hi, .int .i64 f.pos.z.lo, .int .i64 f.pos.z.hi, .int .i64 f.speed.x.lo, .int .i64 f.speed.x.hi, .int .i64 f.speed.z.lo, .int .i64 f.speed.z.hi, .int .i64 f.mass]] W fun e w' => e = .returned (.bool true) ∧ Below W.heap.size W w') := fun W => by rw [← hfy]; exact rightFlyer_any f W
  have HRN : Hid (∀ W : World, Calls Try.prog 30 #[.agg #[.int .i64 n.x.lo, .int .i64 n.x.hi, .int .i64 n.height]] W fun e w' => e = .returned (.bool true) ∧ Below W.heap.size W w') := fun W => by rw [← hnk]; exact rightNet_any n W
  have ht : takesB f n = false := by unfold takesB; rw [hc]; rfl
  have HT : Hid (∀ W : World, Calls Try.prog 29 #[.agg #[.int .i64 f.pos.x.lo, .int .i64 f.pos.x.hi, .int .i64 f.pos.z.lo, .int .i64 f.pos.z.hi, .int .i64 f.speed.x.lo, .int .i64 f.speed.x.hi, .int .i64 f.speed.z.lo, .int .i64 f.speed.z.hi, .int .i64 f.mass], .agg #[.int .i64 n.x.lo, .int .i64 n.x.hi, .int .i64 n.height]] W fun e w' => e = .returned (.tuple #[.bool false, .int .i64 0]) ∧ Below W.heap.size W w') := fun W => by rw [← ht]; exact Takes_ok f n W hfy hnk
  have HL : Hid (∀ W : World, Calls Try.prog 27 #[.agg #[.int .i64 f.pos.x.lo, .int .i64 f.pos.x.hi, .int .i64 f.pos.z.lo, .int .i64 f.pos.z.hi, .int .i64 f.speed.x.lo, .int .i64 f.speed.x.hi, .int .i64 f.speed.z.lo, .int .i64 f.speed.z.hi, .int .i64 f.mass], .agg #[.int .i64 n.x.lo, .int .i64 n.x.hi, .int .i64 n.height]] W fun e w' => e = .returned (.tuple #[.agg #[.int .i64 0, .int .i64 0], .int .i64 7]) ∧ Below W.heap.size W w') := fun W => by
    have := Landing_ok f n W hfy hnk
    rw [hc, show landR f n = ⟨0, 0⟩ by unfold landR; rw [hc]; rfl] at this
    exact this
  clear hfy hnk hc ht
  have hmx : Try.prog.follows .mixedOrders = true := by kernel_rfl
  go_enter Try.func5, Try.ntmps5
  go_upto_region 1 with fail
  refine name_world (motive := fun W => Code.wp _ _ _ _ W) _ ?_
  intro W0 hW
  have hWc := hW.cell
  have hWz := hW.size
  have hWb := hW.below (hB0)
  have kY := hW.blk kY0
  have kN := hW.blk kN0
  have kD := hW.blk kD0
  have HB0 := Lib.hid hWb
  clear hB0 kY0 kN0 kD0 hW hWc hWz hWb
  have y0 := kY.cell 0; have y1 := kY.cell 1; have y2 := kY.cell 2; have y3 := kY.cell 3; have y4 := kY.cell 4; have y5 := kY.cell 5; have y6 := kY.cell 6; have y7 := kY.cell 7; have y8 := kY.cell 8; simp at y0 y1 y2 y3 y4 y5 y6 y7 y8
  go_upto_region 3 with (first | (go_at_call 21; (with_reducible refine (HRY.out _).mono ?_); rintro e w1 ⟨rfl, hb1⟩; have kY2 := kY.below hb1 kY.lt; have kN2 := kN.below hb1 kN.lt; have kD2 := kD.below hb1 kD.lt; have hX2 := hb1; have n0 := kN2.cell 0; have n1 := kN2.cell 1; have n2 := kN2.cell 2; simp at n0 n1 n2) | (go_at_call 30; (with_reducible refine (HRN.out _).mono ?_); rintro e w2 ⟨rfl, hb2⟩; have kY3 := kY2.below hb2 kY2.lt; have kN3 := kN2.below hb2 kN2.lt; have kD3 := kD2.below hb2 kD2.lt; have hX3 := sh_next hX2 hb2))
  clear kY kN kD
  refine name_world (motive := fun W => Code.wp _ _ _ _ W) _ ?_
  intro W0 hW
  have hWc := hW.cell
  have hWz := hW.size
  have hWb := hW.below (hX3)
  have kY := hW.blk kY3
  have kN := hW.blk kN3
  have kD := hW.blk kD3
  have HB1 := Lib.hid (HB0.out.trans (hWb.mono HB0.out.size))
  clear HB0 hW hWc hWz hWb hX3 hX2 kY2 kN2 kD2 kY3 kN3 kD3 hb1 hb2 y0 y1 y2 y3 y4 y5 y6 y7 y8 n0 n1 n2
  refine (wpIn_wide (n := 9)).1 ?_
  have hLast := trivial
  refine region_rest (S := (fun w' => Blk w' (w.heap.size) 27 #[.int .i64 f.pos.x.lo, .int .i64 f.pos.x.hi, .int .i64 f.pos.z.lo, .int .i64 f.pos.z.hi, .int .i64 f.speed.x.lo, .int .i64 f.speed.x.hi, .int .i64 f.speed.z.lo, .int .i64 f.speed.z.hi, .int .i64 f.mass] ∧ Blk w' (w.heap.size + 1) 60 #[.int .i64 n.x.lo, .int .i64 n.x.hi, .int .i64 n.height] ∧ Blk w' (w.heap.size + 1 + 1) 74 #[.int .u16 a0, .int .u16 a1, .int .u16 a2, .int .u16 a3] ∧ Below W0.heap.size W0 w')) hmx ?_ (fun hHeld => ?_)
  · exact ⟨kY.drew, kN.drew, kD.drew, (Below.refl W0.heap.size W0).drew⟩
  change RestIn _ _ _ _ _ _ _ 10 #[false, false, false, false, false, false, false, false, false, false] _ (World.drew _)
  refine rest_take (i := 0) (v := _) all_wide (noDefers_of (by kernel_rfl)) rfl (by kernel_rfl) (by kernel_rfl) (by kernel_rfl) (fun _ _ _ h => h) (Or.inl ⟨by rfl, by intro w hSw; (obtain ⟨q0, q1, q2, _⟩ := hSw; have q0x0 := q0.cell 0; have q0x1 := q0.cell 1; have q0x2 := q0.cell 2; have q0x3 := q0.cell 3; have q0x4 := q0.cell 4; have q0x5 := q0.cell 5; have q0x6 := q0.cell 6; have q0x7 := q0.cell 7; have q0x8 := q0.cell 8; have q1x0 := q1.cell 0; have q1x1 := q1.cell 1; have q1x2 := q1.cell 2; have q2x0 := q2.cell 0; have q2x1 := q2.cell 1; have q2x2 := q2.cell 2; have q2x3 := q2.cell 3; simp at q0x0 q0x1 q0x2 q0x3 q0x4 q0x5 q0x6 q0x7 q0x8 q1x0 q1x1 q1x2 q2x0 q2x1 q2x2 q2x3); go_simp; first | done | with_reducible rfl⟩) hHeld ?_
  change RestIn _ _ _ _ _ _ _ 9 #[true, false, false, false, false, false, false, false, false, false] _ _
  try simp only [Act.put, List.setIfInBounds_toArray, List.set_cons_zero, List.set_cons_succ, List.getElem_toArray, List.getElem_cons_zero, List.getElem_cons_succ]
  refine rest_take (i := 2) (v := _) all_wide (noDefers_of (by kernel_rfl)) rfl (by kernel_rfl) (by kernel_rfl) (by kernel_rfl) (fun _ _ _ h => h) (Or.inl ⟨by rfl, by intro w hSw; (obtain ⟨q0, q1, q2, _⟩ := hSw; have q0x0 := q0.cell 0; have q0x1 := q0.cell 1; have q0x2 := q0.cell 2; have q0x3 := q0.cell 3; have q0x4 := q0.cell 4; have q0x5 := q0.cell 5; have q0x6 := q0.cell 6; have q0x7 := q0.cell 7; have q0x8 := q0.cell 8; have q1x0 := q1.cell 0; have q1x1 := q1.cell 1; have q1x2 := q1.cell 2; have q2x0 := q2.cell 0; have q2x1 := q2.cell 1; have q2x2 := q2.cell 2; have q2x3 := q2.cell 3; simp at q0x0 q0x1 q0x2 q0x3 q0x4 q0x5 q0x6 q0x7 q0x8 q1x0 q1x1 q1x2 q2x0 q2x1 q2x2 q2x3); go_simp; first | done | with_reducible rfl⟩) hHeld ?_
  change RestIn _ _ _ _ _ _ _ 8 #[true, false, true, false, false, false, false, false, false, false] _ _
  try simp only [Act.put, List.setIfInBounds_toArray, List.set_cons_zero, List.set_cons_succ, List.getElem_toArray, List.getElem_cons_zero, List.getElem_cons_succ]
  refine rest_ready (rs := [1]) (by kernel_rfl) (by simp) ?_
  refine AllRest.cons rfl (fun K hK => ?_) AllRest.nil
  have hNow := (hHeld.2.2.2)
  clear hLast
  have hLast := hNow
  go_simp
  gi_wp2_with ((refine ⟨trivial, ?_⟩; gi_at_call 17; (with_reducible refine (callsIn_wide.2 (lawFlyer_any _ _)).mono ?_); rintro e wn ⟨rfl, hb⟩))
  refine hK.out _ _ ?_ (fun hHeld' => ?_)
  · exact ⟨hHeld.1.below hb hHeld.1.lt, hHeld.2.1.below hb hHeld.2.1.lt, hHeld.2.2.1.below hb hHeld.2.2.1.lt, (hHeld.2.2.2).trans (hb.mono (hHeld.2.2.2).size)⟩
  clear hK K
  change RestIn _ _ _ _ _ _ _ 7 #[true, true, true, false, false, false, false, false, false, false] _ _
  try simp only [Act.put, List.setIfInBounds_toArray, List.set_cons_zero, List.set_cons_succ, List.getElem_toArray, List.getElem_cons_zero, List.getElem_cons_succ]
  clear hHeld
  have hHeld := hHeld'
  clear hHeld'
  have hNow := (hHeld.2.2.2)
  refine rest_ready (rs := [3]) (by kernel_rfl) (by simp) ?_
  refine AllRest.cons rfl (fun K hK => ?_) AllRest.nil
  have hNow := (hHeld.2.2.2)
  clear hLast
  have hLast := hNow
  go_simp
  gi_wp2_with ((refine ⟨trivial, ?_⟩; gi_at_call 28; (with_reducible refine (callsIn_wide.2 (lawNet_any _ _)).mono ?_); rintro e wn ⟨rfl, hb⟩))
  refine hK.out _ _ ?_ (fun hHeld' => ?_)
  · exact ⟨hHeld.1.below hb hHeld.1.lt, hHeld.2.1.below hb hHeld.2.1.lt, hHeld.2.2.1.below hb hHeld.2.2.1.lt, (hHeld.2.2.2).trans (hb.mono (hHeld.2.2.2).size)⟩
  clear hK K
  change RestIn _ _ _ _ _ _ _ 6 #[true, true, true, true, false, false, false, false, false, false] _ _
  try simp only [Act.put, List.setIfInBounds_toArray, List.set_cons_zero, List.set_cons_succ, List.getElem_toArray, List.getElem_cons_zero, List.getElem_cons_succ]
  clear hHeld
  have hHeld := hHeld'
  clear hHeld'
  have hNow := (hHeld.2.2.2)
  refine rest_ready (rs := [4]) (by kernel_rfl) (by simp) ?_
  refine AllRest.cons rfl (fun K hK => ?_) AllRest.nil
  have hNow := (hHeld.2.2.2)
  clear hLast
  have hLast := hNow
  go_simp
  gi_wp2_with ((refine ⟨trivial, ?_⟩; gi_at_call 29; (with_reducible refine (callsIn_wide.2 (HT.out _)).mono ?_); rintro e wn ⟨rfl, hb⟩))
  refine hK.out _ _ ?_ (fun hHeld' => ?_)
  · exact ⟨hHeld.1.below hb hHeld.1.lt, hHeld.2.1.below hb hHeld.2.1.lt, hHeld.2.2.1.below hb hHeld.2.2.1.lt, (hHeld.2.2.2).trans (hb.mono (hHeld.2.2.2).size)⟩
  clear hK K
  change RestIn _ _ _ _ _ _ _ 5 #[true, true, true, true, true, false, false, false, false, false] _ _
  try simp only [Act.put, List.setIfInBounds_toArray, List.set_cons_zero, List.set_cons_succ, List.getElem_toArray, List.getElem_cons_zero, List.getElem_cons_succ]
  clear hHeld
  have hHeld := hHeld'
  clear hHeld'
  have hNow := (hHeld.2.2.2)
  refine rest_take (i := 5) (v := _) all_wide (noDefers_of (by kernel_rfl)) rfl (by kernel_rfl) (by kernel_rfl) (by kernel_rfl) (fun _ _ _ h => h) (Or.inl ⟨by rfl, by intro w hSw; clear hSw; go_simp; first | done | with_reducible rfl⟩) hHeld ?_
  change RestIn _ _ _ _ _ _ _ 4 #[true, true, true, true, true, true, false, false, false, false] _ _
  try simp only [Act.put, List.setIfInBounds_toArray, List.set_cons_zero, List.set_cons_succ, List.getElem_toArray, List.getElem_cons_zero, List.getElem_cons_succ]
  refine rest_take (i := 6) (v := _) all_wide (noDefers_of (by kernel_rfl)) rfl (by kernel_rfl) (by kernel_rfl) (by kernel_rfl) (fun _ _ _ h => h) (Or.inl ⟨by rfl, by intro w hSw; clear hSw; go_simp; first | done | with_reducible rfl⟩) hHeld ?_
  change RestIn _ _ _ _ _ _ _ 3 #[true, true, true, true, true, true, true, false, false, false] _ _
  try simp only [Act.put, List.setIfInBounds_toArray, List.set_cons_zero, List.set_cons_succ, List.getElem_toArray, List.getElem_cons_zero, List.getElem_cons_succ]
  refine rest_take (i := 7) (v := _) all_wide (noDefers_of (by kernel_rfl)) rfl (by kernel_rfl) (by kernel_rfl) (by kernel_rfl) (fun _ _ _ h => h) (Or.inl ⟨by rfl, by intro w hSw; clear hSw; go_simp; first | done | with_reducible rfl⟩) hHeld ?_
  change RestIn _ _ _ _ _ _ _ 2 #[true, true, true, true, true, true, true, true, false, false] _ _
  try simp only [Act.put, List.setIfInBounds_toArray, List.set_cons_zero, List.set_cons_succ, List.getElem_toArray, List.getElem_cons_zero, List.getElem_cons_succ]
  refine rest_take (i := 8) (v := _) all_wide (noDefers_of (by kernel_rfl)) rfl (by kernel_rfl) (by kernel_rfl) (by kernel_rfl) (fun _ _ _ h => h) (Or.inl ⟨by rfl, by intro w hSw; clear hSw; go_simp; first | done | with_reducible rfl⟩) hHeld ?_
  change RestIn _ _ _ _ _ _ _ 1 #[true, true, true, true, true, true, true, true, true, false] _ _
  try simp only [Act.put, List.setIfInBounds_toArray, List.set_cons_zero, List.set_cons_succ, List.getElem_toArray, List.getElem_cons_zero, List.getElem_cons_succ]
  refine rest_take (i := 9) (v := _) all_wide (noDefers_of (by kernel_rfl)) rfl (by kernel_rfl) (by kernel_rfl) (by kernel_rfl) (fun _ _ _ h => h) (Or.inl ⟨by rfl, by intro w hSw; clear hSw; go_simp; first | done | with_reducible rfl⟩) hHeld ?_
  change RestIn _ _ _ _ _ _ _ 0 #[true, true, true, true, true, true, true, true, true, true] _ _
  try simp only [Act.put, List.setIfInBounds_toArray, List.set_cons_zero, List.set_cons_succ, List.getElem_toArray, List.getElem_cons_zero, List.getElem_cons_succ]
  refine rest_done (by kernel_rfl) ?_
  clear hLast
  obtain ⟨kY1, kN1, kD1, hX⟩ := hHeld
  clear hNow kY kN kD
  go_upto_region 4 with fail
  refine name_world (motive := fun W => Code.wp _ _ _ _ W) _ ?_
  intro W0 hW
  have hWc := hW.cell
  have hWz := hW.size
  have hWb := hW.below (hX)
  have kY := hW.blk kY1
  have kN := hW.blk kN1
  have kD := hW.blk kD1
  have HB0 := Lib.hid (HB1.out.trans (hWb.mono HB1.out.size))
  clear HB1 hW hWc hWz hWb hX kY1 kN1 kD1
  go_cut [9, 10] (fun s9 s10 wx => ∃ g : Nat, s9 = .pointer (some ⟨g, 0, none⟩) ∧ s10 = .int .i64 7 ∧ Blk wx g 35 #[.int .i64 0, .int .i64 0] ∧ Below W0.heap.size W0 wx)
  case first =>
    refine (wpIn_wide (n := 9)).1 ?_
    have hLast := trivial
    refine region_rest (S := (fun w' => Blk w' (w.heap.size) 27 #[.int .i64 f.pos.x.lo, .int .i64 f.pos.x.hi, .int .i64 f.pos.z.lo, .int .i64 f.pos.z.hi, .int .i64 f.speed.x.lo, .int .i64 f.speed.x.hi, .int .i64 f.speed.z.lo, .int .i64 f.speed.z.hi, .int .i64 f.mass] ∧ Blk w' (w.heap.size + 1) 60 #[.int .i64 n.x.lo, .int .i64 n.x.hi, .int .i64 n.height] ∧ Below W0.heap.size W0 w')) hmx ?_ (fun hHeld => ?_)
    · exact ⟨kY.drew, kN.drew, (Below.refl W0.heap.size W0).drew⟩
    change RestIn _ _ _ _ _ _ _ 11 #[false, false, false, false, false, false, false, false, false, false, false] _ (World.drew _)
    refine rest_take (i := 0) (v := _) all_wide (noDefers_of (by kernel_rfl)) rfl (by kernel_rfl) (by kernel_rfl) (by kernel_rfl) (fun _ _ _ h => h) (Or.inl ⟨by rfl, by intro w hSw; (obtain ⟨q0, q1, _⟩ := hSw; have q0x0 := q0.cell 0; have q0x1 := q0.cell 1; have q0x2 := q0.cell 2; have q0x3 := q0.cell 3; have q0x4 := q0.cell 4; have q0x5 := q0.cell 5; have q0x6 := q0.cell 6; have q0x7 := q0.cell 7; have q0x8 := q0.cell 8; have q1x0 := q1.cell 0; have q1x1 := q1.cell 1; have q1x2 := q1.cell 2; simp at q0x0 q0x1 q0x2 q0x3 q0x4 q0x5 q0x6 q0x7 q0x8 q1x0 q1x1 q1x2); go_simp; first | done | with_reducible rfl⟩) hHeld ?_
    change RestIn _ _ _ _ _ _ _ 10 #[true, false, false, false, false, false, false, false, false, false, false] _ _
    try simp only [Act.put, List.setIfInBounds_toArray, List.set_cons_zero, List.set_cons_succ, List.getElem_toArray, List.getElem_cons_zero, List.getElem_cons_succ]
    refine rest_take (i := 2) (v := _) all_wide (noDefers_of (by kernel_rfl)) rfl (by kernel_rfl) (by kernel_rfl) (by kernel_rfl) (fun _ _ _ h => h) (Or.inl ⟨by rfl, by intro w hSw; (obtain ⟨q0, q1, _⟩ := hSw; have q0x0 := q0.cell 0; have q0x1 := q0.cell 1; have q0x2 := q0.cell 2; have q0x3 := q0.cell 3; have q0x4 := q0.cell 4; have q0x5 := q0.cell 5; have q0x6 := q0.cell 6; have q0x7 := q0.cell 7; have q0x8 := q0.cell 8; have q1x0 := q1.cell 0; have q1x1 := q1.cell 1; have q1x2 := q1.cell 2; simp at q0x0 q0x1 q0x2 q0x3 q0x4 q0x5 q0x6 q0x7 q0x8 q1x0 q1x1 q1x2); go_simp; first | done | with_reducible rfl⟩) hHeld ?_
    change RestIn _ _ _ _ _ _ _ 9 #[true, false, true, false, false, false, false, false, false, false, false] _ _
    try simp only [Act.put, List.setIfInBounds_toArray, List.set_cons_zero, List.set_cons_succ, List.getElem_toArray, List.getElem_cons_zero, List.getElem_cons_succ]
    refine rest_ready (rs := [1, 8]) (by kernel_rfl) (by simp) ?_
    refine AllRest.cons rfl (fun K hK => ?_) ?_
    · have hNow := (hHeld.2.2)
      clear hLast
      have hLast := hNow
      go_simp
      gi_wp2_with ((refine ⟨trivial, ?_⟩; gi_at_call 17; (with_reducible refine (callsIn_wide.2 (lawFlyer_any _ _)).mono ?_); rintro e wn ⟨rfl, hb⟩))
      refine hK.out _ _ ?_ (fun hHeld' => ?_)
      · exact ⟨hHeld.1.below hb hHeld.1.lt, hHeld.2.1.below hb hHeld.2.1.lt, (hHeld.2.2).trans (hb.mono (hHeld.2.2).size)⟩
      clear hK K
      change RestIn _ _ _ _ _ _ _ 8 #[true, true, true, false, false, false, false, false, false, false, false] _ _
      try simp only [Act.put, List.setIfInBounds_toArray, List.set_cons_zero, List.set_cons_succ, List.getElem_toArray, List.getElem_cons_zero, List.getElem_cons_succ]
      clear hHeld
      have hHeld := hHeld'
      clear hHeld'
      have hNow := (hHeld.2.2)
      try have kG := kG.below hb kG.lt
      refine rest_ready (rs := [3, 8]) (by kernel_rfl) (by simp) ?_
      refine AllRest.cons rfl (fun K hK => ?_) ?_
      · have hNow := (hHeld.2.2)
        clear hLast
        have hLast := hNow
        go_simp
        gi_wp2_with ((refine ⟨trivial, ?_⟩; gi_at_call 28; (with_reducible refine (callsIn_wide.2 (lawNet_any _ _)).mono ?_); rintro e wn ⟨rfl, hb⟩))
        refine hK.out _ _ ?_ (fun hHeld' => ?_)
        · exact ⟨hHeld.1.below hb hHeld.1.lt, hHeld.2.1.below hb hHeld.2.1.lt, (hHeld.2.2).trans (hb.mono (hHeld.2.2).size)⟩
        clear hK K
        change RestIn _ _ _ _ _ _ _ 7 #[true, true, true, true, false, false, false, false, false, false, false] _ _
        try simp only [Act.put, List.setIfInBounds_toArray, List.set_cons_zero, List.set_cons_succ, List.getElem_toArray, List.getElem_cons_zero, List.getElem_cons_succ]
        clear hHeld
        have hHeld := hHeld'
        clear hHeld'
        have hNow := (hHeld.2.2)
        try have kG := kG.below hb kG.lt
        refine rest_ready (rs := [4, 8]) (by kernel_rfl) (by simp) ?_
        refine AllRest.cons rfl (fun K hK => ?_) ?_
        · have hNow := (hHeld.2.2)
          clear hLast
          have hLast := hNow
          go_simp
          gi_wp2_with ((refine ⟨trivial, ?_⟩; gi_at_call 27; (with_reducible refine (callsIn_wide.2 (HL.out _)).mono ?_); rintro e wn ⟨rfl, hb⟩))
          refine hK.out _ _ ?_ (fun hHeld' => ?_)
          · exact ⟨hHeld.1.below hb hHeld.1.lt, hHeld.2.1.below hb hHeld.2.1.lt, (hHeld.2.2).trans (hb.mono (hHeld.2.2).size)⟩
          clear hK K
          change RestIn _ _ _ _ _ _ _ 6 #[true, true, true, true, true, false, false, false, false, false, false] _ _
          try simp only [Act.put, List.setIfInBounds_toArray, List.set_cons_zero, List.set_cons_succ, List.getElem_toArray, List.getElem_cons_zero, List.getElem_cons_succ]
          clear hHeld
          have hHeld := hHeld'
          clear hHeld'
          have hNow := (hHeld.2.2)
          try have kG := kG.below hb kG.lt
          refine rest_take (i := 5) (v := _) all_wide (noDefers_of (by kernel_rfl)) rfl (by kernel_rfl) (by kernel_rfl) (by kernel_rfl) (fun _ _ _ h => h) (Or.inl ⟨by rfl, by intro w hSw; clear hSw; go_simp; first | done | with_reducible rfl⟩) hHeld ?_
          change RestIn _ _ _ _ _ _ _ 5 #[true, true, true, true, true, true, false, false, false, false, false] _ _
          try simp only [Act.put, List.setIfInBounds_toArray, List.set_cons_zero, List.set_cons_succ, List.getElem_toArray, List.getElem_cons_zero, List.getElem_cons_succ]
          refine rest_take (i := 6) (v := _) all_wide (noDefers_of (by kernel_rfl)) rfl (by kernel_rfl) (by kernel_rfl) (by kernel_rfl) (fun _ _ _ h => h) (Or.inl ⟨by rfl, by intro w hSw; clear hSw; go_simp; first | done | with_reducible rfl⟩) hHeld ?_
          change RestIn _ _ _ _ _ _ _ 4 #[true, true, true, true, true, true, true, false, false, false, false] _ _
          try simp only [Act.put, List.setIfInBounds_toArray, List.set_cons_zero, List.set_cons_succ, List.getElem_toArray, List.getElem_cons_zero, List.getElem_cons_succ]
          refine rest_take (i := 7) (v := _) all_wide (noDefers_of (by kernel_rfl)) rfl (by kernel_rfl) (by kernel_rfl) (by kernel_rfl) (fun _ _ _ h => h) (Or.inl ⟨by rfl, by intro w hSw; clear hSw; go_simp; first | done | with_reducible rfl⟩) hHeld ?_
          change RestIn _ _ _ _ _ _ _ 3 #[true, true, true, true, true, true, true, true, false, false, false] _ _
          try simp only [Act.put, List.setIfInBounds_toArray, List.set_cons_zero, List.set_cons_succ, List.getElem_toArray, List.getElem_cons_zero, List.getElem_cons_succ]
          refine rest_ready (rs := [8]) (by kernel_rfl) (by simp) ?_
          refine AllRest.cons rfl (fun K hK => ?_) AllRest.nil
          have kGg := (hHeld.2.2).size
          have kG := blk_new_of (hHeld.2.2) 35 #[.int .i64 0, .int .i64 0]
          have hOld := (hHeld.2.2)
          go_simp
          refine hK.out _ _ ?_ (fun hHeld' => ?_)
          · exact (fun (hbel : Below W0.heap.size W0 _) => ⟨kY.below hbel kY.lt, kN.below hbel kN.lt, hbel⟩) ((hHeld.2.2).alloc (hHeld.2.2).size _)
          clear hK K
          change RestIn _ _ _ _ _ _ _ 2 #[true, true, true, true, true, true, true, true, true, false, false] _ _
          try simp only [Act.put, List.setIfInBounds_toArray, List.set_cons_zero, List.set_cons_succ, List.getElem_toArray, List.getElem_cons_zero, List.getElem_cons_succ]
          clear hHeld
          have hHeld := hHeld'
          clear hHeld'
          have hNow := (hHeld.2.2)
          try simp at kGg
          refine rest_ready (rs := [9]) (by kernel_rfl) (by simp) ?_
          refine AllRest.cons rfl (fun K hK => ?_) AllRest.nil
          have kGc0 := kG.cell 0
          have kGc1 := kG.cell 1
          have kGf0 := kG.frozen 0
          have kGf1 := kG.frozen 1
          have kGl := kG.lt
          try simp at kGc0
          try simp at kGc1
          try simp at kGf0
          try simp at kGf1
          try simp at kGl
          have hNow := (hHeld.2.2)
          go_simp
          refine hK.out _ _ ?_ (fun hHeld' => ?_)
          · (refine (fun (hbel : Below W0.heap.size W0 _) => ⟨kY.below hbel kY.lt, kN.below hbel kN.lt, hbel⟩) ?_; repeat' (first | with_reducible exact hNow | with_reducible exact hOld | with_reducible refine Below.setCell ?_ (by (try simp) <;> omega) _ | with_reducible refine Below.alloc ?_ (by (try simp) <;> omega) _))
          clear hK K
          change RestIn _ _ _ _ _ _ _ 1 #[true, true, true, true, true, true, true, true, true, true, false] _ _
          try simp only [Act.put, List.setIfInBounds_toArray, List.set_cons_zero, List.set_cons_succ, List.getElem_toArray, List.getElem_cons_zero, List.getElem_cons_succ]
          clear hHeld
          have hHeld := hHeld'
          clear hHeld'
          have hNow := (hHeld.2.2)
          refine rest_take (i := 10) (v := _) all_wide (noDefers_of (by kernel_rfl)) rfl (by kernel_rfl) (by kernel_rfl) (by kernel_rfl) (fun _ _ _ h => h) (Or.inl ⟨by rfl, by intro w hSw; clear hSw; go_simp; first | done | with_reducible rfl⟩) hHeld ?_
          change RestIn _ _ _ _ _ _ _ 0 #[true, true, true, true, true, true, true, true, true, true, true] _ _
          try simp only [Act.put, List.setIfInBounds_toArray, List.set_cons_zero, List.set_cons_succ, List.getElem_toArray, List.getElem_cons_zero, List.getElem_cons_succ]
          refine rest_done (by kernel_rfl) ?_
          go_wp2_with fail
          go_meet
          first | exact ⟨_, rfl, rfl, (kG.set_ 0 (.int .i64 0)).set_ 1 (.int .i64 0), hNow⟩ | exact ⟨_, rfl, rfl, Blk.new _ _ _, hNow⟩
        refine AllRest.cons rfl (fun K hK => ?_) ?_
        · have kGg := (hHeld.2.2).size
          have kG := blk_new_of (hHeld.2.2) 35 #[.int .i64 0, .int .i64 0]
          have hOld := (hHeld.2.2)
          go_simp
          refine hK.out _ _ ?_ (fun hHeld' => ?_)
          · exact (fun (hbel : Below W0.heap.size W0 _) => ⟨kY.below hbel kY.lt, kN.below hbel kN.lt, hbel⟩) ((hHeld.2.2).alloc (hHeld.2.2).size _)
          clear hK K
          change RestIn _ _ _ _ _ _ _ 6 #[true, true, true, true, false, false, false, false, true, false, false] _ _
          try simp only [Act.put, List.setIfInBounds_toArray, List.set_cons_zero, List.set_cons_succ, List.getElem_toArray, List.getElem_cons_zero, List.getElem_cons_succ]
          clear hHeld
          have hHeld := hHeld'
          clear hHeld'
          have hNow := (hHeld.2.2)
          try simp at kGg
          refine rest_ready (rs := [4]) (by kernel_rfl) (by simp) ?_
          refine AllRest.cons rfl (fun K hK => ?_) AllRest.nil
          have hNow := (hHeld.2.2)
          clear hLast
          have hLast := hNow
          go_simp
          gi_wp2_with ((refine ⟨trivial, ?_⟩; gi_at_call 27; (with_reducible refine (callsIn_wide.2 (HL.out _)).mono ?_); rintro e wn ⟨rfl, hb⟩))
          refine hK.out _ _ ?_ (fun hHeld' => ?_)
          · exact ⟨hHeld.1.below hb hHeld.1.lt, hHeld.2.1.below hb hHeld.2.1.lt, (hHeld.2.2).trans (hb.mono (hHeld.2.2).size)⟩
          clear hK K
          change RestIn _ _ _ _ _ _ _ 5 #[true, true, true, true, true, false, false, false, true, false, false] _ _
          try simp only [Act.put, List.setIfInBounds_toArray, List.set_cons_zero, List.set_cons_succ, List.getElem_toArray, List.getElem_cons_zero, List.getElem_cons_succ]
          clear hHeld
          have hHeld := hHeld'
          clear hHeld'
          have hNow := (hHeld.2.2)
          try have kG := kG.below hb kG.lt
          refine rest_take (i := 5) (v := _) all_wide (noDefers_of (by kernel_rfl)) rfl (by kernel_rfl) (by kernel_rfl) (by kernel_rfl) (fun _ _ _ h => h) (Or.inl ⟨by rfl, by intro w hSw; clear hSw; go_simp; first | done | with_reducible rfl⟩) hHeld ?_
          change RestIn _ _ _ _ _ _ _ 4 #[true, true, true, true, true, true, false, false, true, false, false] _ _
          try simp only [Act.put, List.setIfInBounds_toArray, List.set_cons_zero, List.set_cons_succ, List.getElem_toArray, List.getElem_cons_zero, List.getElem_cons_succ]
          refine rest_take (i := 6) (v := _) all_wide (noDefers_of (by kernel_rfl)) rfl (by kernel_rfl) (by kernel_rfl) (by kernel_rfl) (fun _ _ _ h => h) (Or.inl ⟨by rfl, by intro w hSw; clear hSw; go_simp; first | done | with_reducible rfl⟩) hHeld ?_
          change RestIn _ _ _ _ _ _ _ 3 #[true, true, true, true, true, true, true, false, true, false, false] _ _
          try simp only [Act.put, List.setIfInBounds_toArray, List.set_cons_zero, List.set_cons_succ, List.getElem_toArray, List.getElem_cons_zero, List.getElem_cons_succ]
          refine rest_take (i := 7) (v := _) all_wide (noDefers_of (by kernel_rfl)) rfl (by kernel_rfl) (by kernel_rfl) (by kernel_rfl) (fun _ _ _ h => h) (Or.inl ⟨by rfl, by intro w hSw; clear hSw; go_simp; first | done | with_reducible rfl⟩) hHeld ?_
          change RestIn _ _ _ _ _ _ _ 2 #[true, true, true, true, true, true, true, true, true, false, false] _ _
          try simp only [Act.put, List.setIfInBounds_toArray, List.set_cons_zero, List.set_cons_succ, List.getElem_toArray, List.getElem_cons_zero, List.getElem_cons_succ]
          refine rest_ready (rs := [9]) (by kernel_rfl) (by simp) ?_
          refine AllRest.cons rfl (fun K hK => ?_) AllRest.nil
          have kGc0 := kG.cell 0
          have kGc1 := kG.cell 1
          have kGf0 := kG.frozen 0
          have kGf1 := kG.frozen 1
          have kGl := kG.lt
          try simp at kGc0
          try simp at kGc1
          try simp at kGf0
          try simp at kGf1
          try simp at kGl
          have hNow := (hHeld.2.2)
          go_simp
          refine hK.out _ _ ?_ (fun hHeld' => ?_)
          · (refine (fun (hbel : Below W0.heap.size W0 _) => ⟨kY.below hbel kY.lt, kN.below hbel kN.lt, hbel⟩) ?_; repeat' (first | with_reducible exact hNow | with_reducible exact hOld | with_reducible refine Below.setCell ?_ (by (try simp) <;> omega) _ | with_reducible refine Below.alloc ?_ (by (try simp) <;> omega) _))
          clear hK K
          change RestIn _ _ _ _ _ _ _ 1 #[true, true, true, true, true, true, true, true, true, true, false] _ _
          try simp only [Act.put, List.setIfInBounds_toArray, List.set_cons_zero, List.set_cons_succ, List.getElem_toArray, List.getElem_cons_zero, List.getElem_cons_succ]
          clear hHeld
          have hHeld := hHeld'
          clear hHeld'
          have hNow := (hHeld.2.2)
          refine rest_take (i := 10) (v := _) all_wide (noDefers_of (by kernel_rfl)) rfl (by kernel_rfl) (by kernel_rfl) (by kernel_rfl) (fun _ _ _ h => h) (Or.inl ⟨by rfl, by intro w hSw; clear hSw; go_simp; first | done | with_reducible rfl⟩) hHeld ?_
          change RestIn _ _ _ _ _ _ _ 0 #[true, true, true, true, true, true, true, true, true, true, true] _ _
          try simp only [Act.put, List.setIfInBounds_toArray, List.set_cons_zero, List.set_cons_succ, List.getElem_toArray, List.getElem_cons_zero, List.getElem_cons_succ]
          refine rest_done (by kernel_rfl) ?_
          go_wp2_with fail
          go_meet
          first | exact ⟨_, rfl, rfl, (kG.set_ 0 (.int .i64 0)).set_ 1 (.int .i64 0), hNow⟩ | exact ⟨_, rfl, rfl, Blk.new _ _ _, hNow⟩
        exact AllRest.nil
      refine AllRest.cons rfl (fun K hK => ?_) ?_
      · have kGg := (hHeld.2.2).size
        have kG := blk_new_of (hHeld.2.2) 35 #[.int .i64 0, .int .i64 0]
        have hOld := (hHeld.2.2)
        go_simp
        refine hK.out _ _ ?_ (fun hHeld' => ?_)
        · exact (fun (hbel : Below W0.heap.size W0 _) => ⟨kY.below hbel kY.lt, kN.below hbel kN.lt, hbel⟩) ((hHeld.2.2).alloc (hHeld.2.2).size _)
        clear hK K
        change RestIn _ _ _ _ _ _ _ 7 #[true, true, true, false, false, false, false, false, true, false, false] _ _
        try simp only [Act.put, List.setIfInBounds_toArray, List.set_cons_zero, List.set_cons_succ, List.getElem_toArray, List.getElem_cons_zero, List.getElem_cons_succ]
        clear hHeld
        have hHeld := hHeld'
        clear hHeld'
        have hNow := (hHeld.2.2)
        try simp at kGg
        refine rest_ready (rs := [3]) (by kernel_rfl) (by simp) ?_
        refine AllRest.cons rfl (fun K hK => ?_) AllRest.nil
        have hNow := (hHeld.2.2)
        clear hLast
        have hLast := hNow
        go_simp
        gi_wp2_with ((refine ⟨trivial, ?_⟩; gi_at_call 28; (with_reducible refine (callsIn_wide.2 (lawNet_any _ _)).mono ?_); rintro e wn ⟨rfl, hb⟩))
        refine hK.out _ _ ?_ (fun hHeld' => ?_)
        · exact ⟨hHeld.1.below hb hHeld.1.lt, hHeld.2.1.below hb hHeld.2.1.lt, (hHeld.2.2).trans (hb.mono (hHeld.2.2).size)⟩
        clear hK K
        change RestIn _ _ _ _ _ _ _ 6 #[true, true, true, true, false, false, false, false, true, false, false] _ _
        try simp only [Act.put, List.setIfInBounds_toArray, List.set_cons_zero, List.set_cons_succ, List.getElem_toArray, List.getElem_cons_zero, List.getElem_cons_succ]
        clear hHeld
        have hHeld := hHeld'
        clear hHeld'
        have hNow := (hHeld.2.2)
        try have kG := kG.below hb kG.lt
        refine rest_ready (rs := [4]) (by kernel_rfl) (by simp) ?_
        refine AllRest.cons rfl (fun K hK => ?_) AllRest.nil
        have hNow := (hHeld.2.2)
        clear hLast
        have hLast := hNow
        go_simp
        gi_wp2_with ((refine ⟨trivial, ?_⟩; gi_at_call 27; (with_reducible refine (callsIn_wide.2 (HL.out _)).mono ?_); rintro e wn ⟨rfl, hb⟩))
        refine hK.out _ _ ?_ (fun hHeld' => ?_)
        · exact ⟨hHeld.1.below hb hHeld.1.lt, hHeld.2.1.below hb hHeld.2.1.lt, (hHeld.2.2).trans (hb.mono (hHeld.2.2).size)⟩
        clear hK K
        change RestIn _ _ _ _ _ _ _ 5 #[true, true, true, true, true, false, false, false, true, false, false] _ _
        try simp only [Act.put, List.setIfInBounds_toArray, List.set_cons_zero, List.set_cons_succ, List.getElem_toArray, List.getElem_cons_zero, List.getElem_cons_succ]
        clear hHeld
        have hHeld := hHeld'
        clear hHeld'
        have hNow := (hHeld.2.2)
        try have kG := kG.below hb kG.lt
        refine rest_take (i := 5) (v := _) all_wide (noDefers_of (by kernel_rfl)) rfl (by kernel_rfl) (by kernel_rfl) (by kernel_rfl) (fun _ _ _ h => h) (Or.inl ⟨by rfl, by intro w hSw; clear hSw; go_simp; first | done | with_reducible rfl⟩) hHeld ?_
        change RestIn _ _ _ _ _ _ _ 4 #[true, true, true, true, true, true, false, false, true, false, false] _ _
        try simp only [Act.put, List.setIfInBounds_toArray, List.set_cons_zero, List.set_cons_succ, List.getElem_toArray, List.getElem_cons_zero, List.getElem_cons_succ]
        refine rest_take (i := 6) (v := _) all_wide (noDefers_of (by kernel_rfl)) rfl (by kernel_rfl) (by kernel_rfl) (by kernel_rfl) (fun _ _ _ h => h) (Or.inl ⟨by rfl, by intro w hSw; clear hSw; go_simp; first | done | with_reducible rfl⟩) hHeld ?_
        change RestIn _ _ _ _ _ _ _ 3 #[true, true, true, true, true, true, true, false, true, false, false] _ _
        try simp only [Act.put, List.setIfInBounds_toArray, List.set_cons_zero, List.set_cons_succ, List.getElem_toArray, List.getElem_cons_zero, List.getElem_cons_succ]
        refine rest_take (i := 7) (v := _) all_wide (noDefers_of (by kernel_rfl)) rfl (by kernel_rfl) (by kernel_rfl) (by kernel_rfl) (fun _ _ _ h => h) (Or.inl ⟨by rfl, by intro w hSw; clear hSw; go_simp; first | done | with_reducible rfl⟩) hHeld ?_
        change RestIn _ _ _ _ _ _ _ 2 #[true, true, true, true, true, true, true, true, true, false, false] _ _
        try simp only [Act.put, List.setIfInBounds_toArray, List.set_cons_zero, List.set_cons_succ, List.getElem_toArray, List.getElem_cons_zero, List.getElem_cons_succ]
        refine rest_ready (rs := [9]) (by kernel_rfl) (by simp) ?_
        refine AllRest.cons rfl (fun K hK => ?_) AllRest.nil
        have kGc0 := kG.cell 0
        have kGc1 := kG.cell 1
        have kGf0 := kG.frozen 0
        have kGf1 := kG.frozen 1
        have kGl := kG.lt
        try simp at kGc0
        try simp at kGc1
        try simp at kGf0
        try simp at kGf1
        try simp at kGl
        have hNow := (hHeld.2.2)
        go_simp
        refine hK.out _ _ ?_ (fun hHeld' => ?_)
        · (refine (fun (hbel : Below W0.heap.size W0 _) => ⟨kY.below hbel kY.lt, kN.below hbel kN.lt, hbel⟩) ?_; repeat' (first | with_reducible exact hNow | with_reducible exact hOld | with_reducible refine Below.setCell ?_ (by (try simp) <;> omega) _ | with_reducible refine Below.alloc ?_ (by (try simp) <;> omega) _))
        clear hK K
        change RestIn _ _ _ _ _ _ _ 1 #[true, true, true, true, true, true, true, true, true, true, false] _ _
        try simp only [Act.put, List.setIfInBounds_toArray, List.set_cons_zero, List.set_cons_succ, List.getElem_toArray, List.getElem_cons_zero, List.getElem_cons_succ]
        clear hHeld
        have hHeld := hHeld'
        clear hHeld'
        have hNow := (hHeld.2.2)
        refine rest_take (i := 10) (v := _) all_wide (noDefers_of (by kernel_rfl)) rfl (by kernel_rfl) (by kernel_rfl) (by kernel_rfl) (fun _ _ _ h => h) (Or.inl ⟨by rfl, by intro w hSw; clear hSw; go_simp; first | done | with_reducible rfl⟩) hHeld ?_
        change RestIn _ _ _ _ _ _ _ 0 #[true, true, true, true, true, true, true, true, true, true, true] _ _
        try simp only [Act.put, List.setIfInBounds_toArray, List.set_cons_zero, List.set_cons_succ, List.getElem_toArray, List.getElem_cons_zero, List.getElem_cons_succ]
        refine rest_done (by kernel_rfl) ?_
        go_wp2_with fail
        go_meet
        first | exact ⟨_, rfl, rfl, (kG.set_ 0 (.int .i64 0)).set_ 1 (.int .i64 0), hNow⟩ | exact ⟨_, rfl, rfl, Blk.new _ _ _, hNow⟩
      exact AllRest.nil
    refine AllRest.cons rfl (fun K hK => ?_) ?_
    · have kGg := (hHeld.2.2).size
      have kG := blk_new_of (hHeld.2.2) 35 #[.int .i64 0, .int .i64 0]
      have hOld := (hHeld.2.2)
      go_simp
      refine hK.out _ _ ?_ (fun hHeld' => ?_)
      · exact (fun (hbel : Below W0.heap.size W0 _) => ⟨kY.below hbel kY.lt, kN.below hbel kN.lt, hbel⟩) ((hHeld.2.2).alloc (hHeld.2.2).size _)
      clear hK K
      change RestIn _ _ _ _ _ _ _ 8 #[true, false, true, false, false, false, false, false, true, false, false] _ _
      try simp only [Act.put, List.setIfInBounds_toArray, List.set_cons_zero, List.set_cons_succ, List.getElem_toArray, List.getElem_cons_zero, List.getElem_cons_succ]
      clear hHeld
      have hHeld := hHeld'
      clear hHeld'
      have hNow := (hHeld.2.2)
      try simp at kGg
      refine rest_ready (rs := [1]) (by kernel_rfl) (by simp) ?_
      refine AllRest.cons rfl (fun K hK => ?_) AllRest.nil
      have hNow := (hHeld.2.2)
      clear hLast
      have hLast := hNow
      go_simp
      gi_wp2_with ((refine ⟨trivial, ?_⟩; gi_at_call 17; (with_reducible refine (callsIn_wide.2 (lawFlyer_any _ _)).mono ?_); rintro e wn ⟨rfl, hb⟩))
      refine hK.out _ _ ?_ (fun hHeld' => ?_)
      · exact ⟨hHeld.1.below hb hHeld.1.lt, hHeld.2.1.below hb hHeld.2.1.lt, (hHeld.2.2).trans (hb.mono (hHeld.2.2).size)⟩
      clear hK K
      change RestIn _ _ _ _ _ _ _ 7 #[true, true, true, false, false, false, false, false, true, false, false] _ _
      try simp only [Act.put, List.setIfInBounds_toArray, List.set_cons_zero, List.set_cons_succ, List.getElem_toArray, List.getElem_cons_zero, List.getElem_cons_succ]
      clear hHeld
      have hHeld := hHeld'
      clear hHeld'
      have hNow := (hHeld.2.2)
      try have kG := kG.below hb kG.lt
      refine rest_ready (rs := [3]) (by kernel_rfl) (by simp) ?_
      refine AllRest.cons rfl (fun K hK => ?_) AllRest.nil
      have hNow := (hHeld.2.2)
      clear hLast
      have hLast := hNow
      go_simp
      gi_wp2_with ((refine ⟨trivial, ?_⟩; gi_at_call 28; (with_reducible refine (callsIn_wide.2 (lawNet_any _ _)).mono ?_); rintro e wn ⟨rfl, hb⟩))
      refine hK.out _ _ ?_ (fun hHeld' => ?_)
      · exact ⟨hHeld.1.below hb hHeld.1.lt, hHeld.2.1.below hb hHeld.2.1.lt, (hHeld.2.2).trans (hb.mono (hHeld.2.2).size)⟩
      clear hK K
      change RestIn _ _ _ _ _ _ _ 6 #[true, true, true, true, false, false, false, false, true, false, false] _ _
      try simp only [Act.put, List.setIfInBounds_toArray, List.set_cons_zero, List.set_cons_succ, List.getElem_toArray, List.getElem_cons_zero, List.getElem_cons_succ]
      clear hHeld
      have hHeld := hHeld'
      clear hHeld'
      have hNow := (hHeld.2.2)
      try have kG := kG.below hb kG.lt
      refine rest_ready (rs := [4]) (by kernel_rfl) (by simp) ?_
      refine AllRest.cons rfl (fun K hK => ?_) AllRest.nil
      have hNow := (hHeld.2.2)
      clear hLast
      have hLast := hNow
      go_simp
      gi_wp2_with ((refine ⟨trivial, ?_⟩; gi_at_call 27; (with_reducible refine (callsIn_wide.2 (HL.out _)).mono ?_); rintro e wn ⟨rfl, hb⟩))
      refine hK.out _ _ ?_ (fun hHeld' => ?_)
      · exact ⟨hHeld.1.below hb hHeld.1.lt, hHeld.2.1.below hb hHeld.2.1.lt, (hHeld.2.2).trans (hb.mono (hHeld.2.2).size)⟩
      clear hK K
      change RestIn _ _ _ _ _ _ _ 5 #[true, true, true, true, true, false, false, false, true, false, false] _ _
      try simp only [Act.put, List.setIfInBounds_toArray, List.set_cons_zero, List.set_cons_succ, List.getElem_toArray, List.getElem_cons_zero, List.getElem_cons_succ]
      clear hHeld
      have hHeld := hHeld'
      clear hHeld'
      have hNow := (hHeld.2.2)
      try have kG := kG.below hb kG.lt
      refine rest_take (i := 5) (v := _) all_wide (noDefers_of (by kernel_rfl)) rfl (by kernel_rfl) (by kernel_rfl) (by kernel_rfl) (fun _ _ _ h => h) (Or.inl ⟨by rfl, by intro w hSw; clear hSw; go_simp; first | done | with_reducible rfl⟩) hHeld ?_
      change RestIn _ _ _ _ _ _ _ 4 #[true, true, true, true, true, true, false, false, true, false, false] _ _
      try simp only [Act.put, List.setIfInBounds_toArray, List.set_cons_zero, List.set_cons_succ, List.getElem_toArray, List.getElem_cons_zero, List.getElem_cons_succ]
      refine rest_take (i := 6) (v := _) all_wide (noDefers_of (by kernel_rfl)) rfl (by kernel_rfl) (by kernel_rfl) (by kernel_rfl) (fun _ _ _ h => h) (Or.inl ⟨by rfl, by intro w hSw; clear hSw; go_simp; first | done | with_reducible rfl⟩) hHeld ?_
      change RestIn _ _ _ _ _ _ _ 3 #[true, true, true, true, true, true, true, false, true, false, false] _ _
      try simp only [Act.put, List.setIfInBounds_toArray, List.set_cons_zero, List.set_cons_succ, List.getElem_toArray, List.getElem_cons_zero, List.getElem_cons_succ]
      refine rest_take (i := 7) (v := _) all_wide (noDefers_of (by kernel_rfl)) rfl (by kernel_rfl) (by kernel_rfl) (by kernel_rfl) (fun _ _ _ h => h) (Or.inl ⟨by rfl, by intro w hSw; clear hSw; go_simp; first | done | with_reducible rfl⟩) hHeld ?_
      change RestIn _ _ _ _ _ _ _ 2 #[true, true, true, true, true, true, true, true, true, false, false] _ _
      try simp only [Act.put, List.setIfInBounds_toArray, List.set_cons_zero, List.set_cons_succ, List.getElem_toArray, List.getElem_cons_zero, List.getElem_cons_succ]
      refine rest_ready (rs := [9]) (by kernel_rfl) (by simp) ?_
      refine AllRest.cons rfl (fun K hK => ?_) AllRest.nil
      have kGc0 := kG.cell 0
      have kGc1 := kG.cell 1
      have kGf0 := kG.frozen 0
      have kGf1 := kG.frozen 1
      have kGl := kG.lt
      try simp at kGc0
      try simp at kGc1
      try simp at kGf0
      try simp at kGf1
      try simp at kGl
      have hNow := (hHeld.2.2)
      go_simp
      refine hK.out _ _ ?_ (fun hHeld' => ?_)
      · (refine (fun (hbel : Below W0.heap.size W0 _) => ⟨kY.below hbel kY.lt, kN.below hbel kN.lt, hbel⟩) ?_; repeat' (first | with_reducible exact hNow | with_reducible exact hOld | with_reducible refine Below.setCell ?_ (by (try simp) <;> omega) _ | with_reducible refine Below.alloc ?_ (by (try simp) <;> omega) _))
      clear hK K
      change RestIn _ _ _ _ _ _ _ 1 #[true, true, true, true, true, true, true, true, true, true, false] _ _
      try simp only [Act.put, List.setIfInBounds_toArray, List.set_cons_zero, List.set_cons_succ, List.getElem_toArray, List.getElem_cons_zero, List.getElem_cons_succ]
      clear hHeld
      have hHeld := hHeld'
      clear hHeld'
      have hNow := (hHeld.2.2)
      refine rest_take (i := 10) (v := _) all_wide (noDefers_of (by kernel_rfl)) rfl (by kernel_rfl) (by kernel_rfl) (by kernel_rfl) (fun _ _ _ h => h) (Or.inl ⟨by rfl, by intro w hSw; clear hSw; go_simp; first | done | with_reducible rfl⟩) hHeld ?_
      change RestIn _ _ _ _ _ _ _ 0 #[true, true, true, true, true, true, true, true, true, true, true] _ _
      try simp only [Act.put, List.setIfInBounds_toArray, List.set_cons_zero, List.set_cons_succ, List.getElem_toArray, List.getElem_cons_zero, List.getElem_cons_succ]
      refine rest_done (by kernel_rfl) ?_
      go_wp2_with fail
      go_meet
      first | exact ⟨_, rfl, rfl, (kG.set_ 0 (.int .i64 0)).set_ 1 (.int .i64 0), hNow⟩ | exact ⟨_, rfl, rfl, Blk.new _ _ _, hNow⟩
    exact AllRest.nil
  case rest =>
    obtain ⟨g, rfl, rfl, kR, hX⟩ := hcut
    have kY1 := kY.below hX kY.lt
    have kN1 := kN.below hX kN.lt
    have kD1 := kD.below hX kD.lt
    have HB1 := Lib.hid (HB0.out.trans (hX.mono HB0.out.size))
    clear kY kN kD HB0
    go_wp2_with (go_at_call 15; refine (wakes_any _).mono ?_; rintro e wk ⟨rfl, hbk⟩)
    go_ret
    exact ⟨rfl, HB1.out.trans (hbk.mono HB1.out.size)⟩
set_option linter.unusedSimpArgs false in
set_option maxRecDepth 100000 in
set_option maxHeartbeats 16000000 in
theorem netted_3 (f : Fly) (n : Net) (a0 a1 a2 a3 : Int) (w : World) (hfy : f.ok = true) (hnk : n.ok = true) (hc : comesB f n = true) (ht : takesB f n = false) :
    Calls Try.prog 5 #[.agg #[.int .i64 f.pos.x.lo, .int .i64 f.pos.x.hi, .int .i64 f.pos.z.lo, .int .i64 f.pos.z.hi, .int .i64 f.speed.x.lo, .int .i64 f.speed.x.hi, .int .i64 f.speed.z.lo, .int .i64 f.speed.z.hi, .int .i64 f.mass], .agg #[.int .i64 n.x.lo, .int .i64 n.x.hi, .int .i64 n.height], .agg #[.int .u16 a0, .int .u16 a1, .int .u16 a2, .int .u16 a3]] w fun e w' => e = .returned (.bool true) ∧ Below w.heap.size w w' := by
  have hB0 := (((Below.refl w.heap.size w).alloc (Nat.le_refl _) (.cells #[.int .i64 f.pos.x.lo, .int .i64 f.pos.x.hi, .int .i64 f.pos.z.lo, .int .i64 f.pos.z.hi, .int .i64 f.speed.x.lo, .int .i64 f.speed.x.hi, .int .i64 f.speed.z.lo, .int .i64 f.speed.z.hi, .int .i64 f.mass] 27)).alloc (by simp) (.cells #[.int .i64 n.x.lo, .int .i64 n.x.hi, .int .i64 n.height] 60)).alloc (by simp <;> omega) (.cells #[.int .u16 a0, .int .u16 a1, .int .u16 a2, .int .u16 a3] 74)
  have kY0 := ((Blk.new w 27 #[.int .i64 f.pos.x.lo, .int .i64 f.pos.x.hi, .int .i64 f.pos.z.lo, .int .i64 f.pos.z.hi, .int .i64 f.speed.x.lo, .int .i64 f.speed.x.hi, .int .i64 f.speed.z.lo, .int .i64 f.speed.z.hi, .int .i64 f.mass]).alloc (.cells #[.int .i64 n.x.lo, .int .i64 n.x.hi, .int .i64 n.height] 60)).alloc (.cells #[.int .u16 a0, .int .u16 a1, .int .u16 a2, .int .u16 a3] 74)
  have kN0 := (Blk.new (w.alloc (.cells #[.int .i64 f.pos.x.lo, .int .i64 f.pos.x.hi, .int .i64 f.pos.z.lo, .int .i64 f.pos.z.hi, .int .i64 f.speed.x.lo, .int .i64 f.speed.x.hi, .int .i64 f.speed.z.lo, .int .i64 f.speed.z.hi, .int .i64 f.mass] 27)) 60 #[.int .i64 n.x.lo, .int .i64 n.x.hi, .int .i64 n.height]).alloc (.cells #[.int .u16 a0, .int .u16 a1, .int .u16 a2, .int .u16 a3] 74)
  have kD0 := Blk.new ((w.alloc (.cells #[.int .i64 f.pos.x.lo, .int .i64 f.pos.x.hi, .int .i64 f.pos.z.lo, .int .i64 f.pos.z.hi, .int .i64 f.speed.x.lo, .int .i64 f.speed.x.hi, .int .i64 f.speed.z.lo, .int .i64 f.speed.z.hi, .int .i64 f.mass] 27)).alloc (.cells #[.int .i64 n.x.lo, .int .i64 n.x.hi, .int .i64 n.height] 60)) 74 #[.int .u16 a0, .int .u16 a1, .int .u16 a2, .int .u16 a3]
  simp only [World.size_alloc] at kN0 kD0
  have HRY : Hid (∀ W : World, Calls Try.prog 21 #[.agg #[.int .i64 f.pos.x.lo, .int .i64 f.pos.x.hi, .int .i64 f.pos.z.lo, .int .i64 f.pos.z.hi, .int .i64 f.speed.x.lo, .int .i64 f.speed.x.hi, .int .i64 f.speed.z.lo, .int .i64 f.speed.z.hi, .int .i64 f.mass]] W fun e w' => e = .returned (.bool true) ∧ Below W.heap.size W w') := fun W => by rw [← hfy]; exact rightFlyer_any f W
  have HRN : Hid (∀ W : World, Calls Try.prog 30 #[.agg #[.int .i64 n.x.lo, .int .i64 n.x.hi, .int .i64 n.height]] W fun e w' => e = .returned (.bool true) ∧ Below W.heap.size W w') := fun W => by rw [← hnk]; exact rightNet_any n W
  have HT : Hid (∀ W : World, Calls Try.prog 29 #[.agg #[.int .i64 f.pos.x.lo, .int .i64 f.pos.x.hi, .int .i64 f.pos.z.lo, .int .i64 f.pos.z.hi, .int .i64 f.speed.x.lo, .int .i64 f.speed.x.hi, .int .i64 f.speed.z.lo, .int .i64 f.speed.z.hi, .int .i64 f.mass], .agg #[.int .i64 n.x.lo, .int .i64 n.x.hi, .int .i64 n.height]] W fun e w' => e = .returned (.tuple #[.bool false, .int .i64 0]) ∧ Below W.heap.size W w') := fun W => by rw [← ht]; exact Takes_ok f n W hfy hnk
  obtain ⟨lo, hlo⟩ : ∃ lo, (landR f n).lo = lo := ⟨_, rfl⟩
  obtain ⟨hi, hhi⟩ : ∃ hi, (landR f n).hi = hi := ⟨_, rfl⟩
  have HL : Hid (∀ W : World, Calls Try.prog 27 #[.agg #[.int .i64 f.pos.x.lo, .int .i64 f.pos.x.hi, .int .i64 f.pos.z.lo, .int .i64 f.pos.z.hi, .int .i64 f.speed.x.lo, .int .i64 f.speed.x.hi, .int .i64 f.speed.z.lo, .int .i64 f.speed.z.hi, .int .i64 f.mass], .agg #[.int .i64 n.x.lo, .int .i64 n.x.hi, .int .i64 n.height]] W fun e w' => e = .returned (.tuple #[.agg #[.int .i64 lo, .int .i64 hi], .int .i64 0]) ∧ Below W.heap.size W w') := fun W => by
    have := Landing_ok f n W hfy hnk
    rw [hc, hlo, hhi] at this
    exact this
  clear hlo hhi
  clear hfy hnk hc ht
  have hmx : Try.prog.follows .mixedOrders = true := by kernel_rfl
  go_enter Try.func5, Try.ntmps5
  go_upto_region 1 with fail
  refine name_world (motive := fun W => Code.wp _ _ _ _ W) _ ?_
  intro W0 hW
  have hWc := hW.cell
  have hWz := hW.size
  have hWb := hW.below (hB0)
  have kY := hW.blk kY0
  have kN := hW.blk kN0
  have kD := hW.blk kD0
  have HB0 := Lib.hid hWb
  clear hB0 kY0 kN0 kD0 hW hWc hWz hWb
  have y0 := kY.cell 0; have y1 := kY.cell 1; have y2 := kY.cell 2; have y3 := kY.cell 3; have y4 := kY.cell 4; have y5 := kY.cell 5; have y6 := kY.cell 6; have y7 := kY.cell 7; have y8 := kY.cell 8; simp at y0 y1 y2 y3 y4 y5 y6 y7 y8
  go_upto_region 3 with (first | (go_at_call 21; (with_reducible refine (HRY.out _).mono ?_); rintro e w1 ⟨rfl, hb1⟩; have kY2 := kY.below hb1 kY.lt; have kN2 := kN.below hb1 kN.lt; have kD2 := kD.below hb1 kD.lt; have hX2 := hb1; have n0 := kN2.cell 0; have n1 := kN2.cell 1; have n2 := kN2.cell 2; simp at n0 n1 n2) | (go_at_call 30; (with_reducible refine (HRN.out _).mono ?_); rintro e w2 ⟨rfl, hb2⟩; have kY3 := kY2.below hb2 kY2.lt; have kN3 := kN2.below hb2 kN2.lt; have kD3 := kD2.below hb2 kD2.lt; have hX3 := sh_next hX2 hb2))
  clear kY kN kD
  refine name_world (motive := fun W => Code.wp _ _ _ _ W) _ ?_
  intro W0 hW
  have hWc := hW.cell
  have hWz := hW.size
  have hWb := hW.below (hX3)
  have kY := hW.blk kY3
  have kN := hW.blk kN3
  have kD := hW.blk kD3
  have HB1 := Lib.hid (HB0.out.trans (hWb.mono HB0.out.size))
  clear HB0 hW hWc hWz hWb hX3 hX2 kY2 kN2 kD2 kY3 kN3 kD3 hb1 hb2 y0 y1 y2 y3 y4 y5 y6 y7 y8 n0 n1 n2
  refine (wpIn_wide (n := 9)).1 ?_
  have hLast := trivial
  refine region_rest (S := (fun w' => Blk w' (w.heap.size) 27 #[.int .i64 f.pos.x.lo, .int .i64 f.pos.x.hi, .int .i64 f.pos.z.lo, .int .i64 f.pos.z.hi, .int .i64 f.speed.x.lo, .int .i64 f.speed.x.hi, .int .i64 f.speed.z.lo, .int .i64 f.speed.z.hi, .int .i64 f.mass] ∧ Blk w' (w.heap.size + 1) 60 #[.int .i64 n.x.lo, .int .i64 n.x.hi, .int .i64 n.height] ∧ Blk w' (w.heap.size + 1 + 1) 74 #[.int .u16 a0, .int .u16 a1, .int .u16 a2, .int .u16 a3] ∧ Below W0.heap.size W0 w')) hmx ?_ (fun hHeld => ?_)
  · exact ⟨kY.drew, kN.drew, kD.drew, (Below.refl W0.heap.size W0).drew⟩
  change RestIn _ _ _ _ _ _ _ 10 #[false, false, false, false, false, false, false, false, false, false] _ (World.drew _)
  refine rest_take (i := 0) (v := _) all_wide (noDefers_of (by kernel_rfl)) rfl (by kernel_rfl) (by kernel_rfl) (by kernel_rfl) (fun _ _ _ h => h) (Or.inl ⟨by rfl, by intro w hSw; (obtain ⟨q0, q1, q2, _⟩ := hSw; have q0x0 := q0.cell 0; have q0x1 := q0.cell 1; have q0x2 := q0.cell 2; have q0x3 := q0.cell 3; have q0x4 := q0.cell 4; have q0x5 := q0.cell 5; have q0x6 := q0.cell 6; have q0x7 := q0.cell 7; have q0x8 := q0.cell 8; have q1x0 := q1.cell 0; have q1x1 := q1.cell 1; have q1x2 := q1.cell 2; have q2x0 := q2.cell 0; have q2x1 := q2.cell 1; have q2x2 := q2.cell 2; have q2x3 := q2.cell 3; simp at q0x0 q0x1 q0x2 q0x3 q0x4 q0x5 q0x6 q0x7 q0x8 q1x0 q1x1 q1x2 q2x0 q2x1 q2x2 q2x3); go_simp; first | done | with_reducible rfl⟩) hHeld ?_
  change RestIn _ _ _ _ _ _ _ 9 #[true, false, false, false, false, false, false, false, false, false] _ _
  try simp only [Act.put, List.setIfInBounds_toArray, List.set_cons_zero, List.set_cons_succ, List.getElem_toArray, List.getElem_cons_zero, List.getElem_cons_succ]
  refine rest_take (i := 2) (v := _) all_wide (noDefers_of (by kernel_rfl)) rfl (by kernel_rfl) (by kernel_rfl) (by kernel_rfl) (fun _ _ _ h => h) (Or.inl ⟨by rfl, by intro w hSw; (obtain ⟨q0, q1, q2, _⟩ := hSw; have q0x0 := q0.cell 0; have q0x1 := q0.cell 1; have q0x2 := q0.cell 2; have q0x3 := q0.cell 3; have q0x4 := q0.cell 4; have q0x5 := q0.cell 5; have q0x6 := q0.cell 6; have q0x7 := q0.cell 7; have q0x8 := q0.cell 8; have q1x0 := q1.cell 0; have q1x1 := q1.cell 1; have q1x2 := q1.cell 2; have q2x0 := q2.cell 0; have q2x1 := q2.cell 1; have q2x2 := q2.cell 2; have q2x3 := q2.cell 3; simp at q0x0 q0x1 q0x2 q0x3 q0x4 q0x5 q0x6 q0x7 q0x8 q1x0 q1x1 q1x2 q2x0 q2x1 q2x2 q2x3); go_simp; first | done | with_reducible rfl⟩) hHeld ?_
  change RestIn _ _ _ _ _ _ _ 8 #[true, false, true, false, false, false, false, false, false, false] _ _
  try simp only [Act.put, List.setIfInBounds_toArray, List.set_cons_zero, List.set_cons_succ, List.getElem_toArray, List.getElem_cons_zero, List.getElem_cons_succ]
  refine rest_ready (rs := [1]) (by kernel_rfl) (by simp) ?_
  refine AllRest.cons rfl (fun K hK => ?_) AllRest.nil
  have hNow := (hHeld.2.2.2)
  clear hLast
  have hLast := hNow
  go_simp
  gi_wp2_with ((refine ⟨trivial, ?_⟩; gi_at_call 17; (with_reducible refine (callsIn_wide.2 (lawFlyer_any _ _)).mono ?_); rintro e wn ⟨rfl, hb⟩))
  refine hK.out _ _ ?_ (fun hHeld' => ?_)
  · exact ⟨hHeld.1.below hb hHeld.1.lt, hHeld.2.1.below hb hHeld.2.1.lt, hHeld.2.2.1.below hb hHeld.2.2.1.lt, (hHeld.2.2.2).trans (hb.mono (hHeld.2.2.2).size)⟩
  clear hK K
  change RestIn _ _ _ _ _ _ _ 7 #[true, true, true, false, false, false, false, false, false, false] _ _
  try simp only [Act.put, List.setIfInBounds_toArray, List.set_cons_zero, List.set_cons_succ, List.getElem_toArray, List.getElem_cons_zero, List.getElem_cons_succ]
  clear hHeld
  have hHeld := hHeld'
  clear hHeld'
  have hNow := (hHeld.2.2.2)
  refine rest_ready (rs := [3]) (by kernel_rfl) (by simp) ?_
  refine AllRest.cons rfl (fun K hK => ?_) AllRest.nil
  have hNow := (hHeld.2.2.2)
  clear hLast
  have hLast := hNow
  go_simp
  gi_wp2_with ((refine ⟨trivial, ?_⟩; gi_at_call 28; (with_reducible refine (callsIn_wide.2 (lawNet_any _ _)).mono ?_); rintro e wn ⟨rfl, hb⟩))
  refine hK.out _ _ ?_ (fun hHeld' => ?_)
  · exact ⟨hHeld.1.below hb hHeld.1.lt, hHeld.2.1.below hb hHeld.2.1.lt, hHeld.2.2.1.below hb hHeld.2.2.1.lt, (hHeld.2.2.2).trans (hb.mono (hHeld.2.2.2).size)⟩
  clear hK K
  change RestIn _ _ _ _ _ _ _ 6 #[true, true, true, true, false, false, false, false, false, false] _ _
  try simp only [Act.put, List.setIfInBounds_toArray, List.set_cons_zero, List.set_cons_succ, List.getElem_toArray, List.getElem_cons_zero, List.getElem_cons_succ]
  clear hHeld
  have hHeld := hHeld'
  clear hHeld'
  have hNow := (hHeld.2.2.2)
  refine rest_ready (rs := [4]) (by kernel_rfl) (by simp) ?_
  refine AllRest.cons rfl (fun K hK => ?_) AllRest.nil
  have hNow := (hHeld.2.2.2)
  clear hLast
  have hLast := hNow
  go_simp
  gi_wp2_with ((refine ⟨trivial, ?_⟩; gi_at_call 29; (with_reducible refine (callsIn_wide.2 (HT.out _)).mono ?_); rintro e wn ⟨rfl, hb⟩))
  refine hK.out _ _ ?_ (fun hHeld' => ?_)
  · exact ⟨hHeld.1.below hb hHeld.1.lt, hHeld.2.1.below hb hHeld.2.1.lt, hHeld.2.2.1.below hb hHeld.2.2.1.lt, (hHeld.2.2.2).trans (hb.mono (hHeld.2.2.2).size)⟩
  clear hK K
  change RestIn _ _ _ _ _ _ _ 5 #[true, true, true, true, true, false, false, false, false, false] _ _
  try simp only [Act.put, List.setIfInBounds_toArray, List.set_cons_zero, List.set_cons_succ, List.getElem_toArray, List.getElem_cons_zero, List.getElem_cons_succ]
  clear hHeld
  have hHeld := hHeld'
  clear hHeld'
  have hNow := (hHeld.2.2.2)
  refine rest_take (i := 5) (v := _) all_wide (noDefers_of (by kernel_rfl)) rfl (by kernel_rfl) (by kernel_rfl) (by kernel_rfl) (fun _ _ _ h => h) (Or.inl ⟨by rfl, by intro w hSw; clear hSw; go_simp; first | done | with_reducible rfl⟩) hHeld ?_
  change RestIn _ _ _ _ _ _ _ 4 #[true, true, true, true, true, true, false, false, false, false] _ _
  try simp only [Act.put, List.setIfInBounds_toArray, List.set_cons_zero, List.set_cons_succ, List.getElem_toArray, List.getElem_cons_zero, List.getElem_cons_succ]
  refine rest_take (i := 6) (v := _) all_wide (noDefers_of (by kernel_rfl)) rfl (by kernel_rfl) (by kernel_rfl) (by kernel_rfl) (fun _ _ _ h => h) (Or.inl ⟨by rfl, by intro w hSw; clear hSw; go_simp; first | done | with_reducible rfl⟩) hHeld ?_
  change RestIn _ _ _ _ _ _ _ 3 #[true, true, true, true, true, true, true, false, false, false] _ _
  try simp only [Act.put, List.setIfInBounds_toArray, List.set_cons_zero, List.set_cons_succ, List.getElem_toArray, List.getElem_cons_zero, List.getElem_cons_succ]
  refine rest_take (i := 7) (v := _) all_wide (noDefers_of (by kernel_rfl)) rfl (by kernel_rfl) (by kernel_rfl) (by kernel_rfl) (fun _ _ _ h => h) (Or.inl ⟨by rfl, by intro w hSw; clear hSw; go_simp; first | done | with_reducible rfl⟩) hHeld ?_
  change RestIn _ _ _ _ _ _ _ 2 #[true, true, true, true, true, true, true, true, false, false] _ _
  try simp only [Act.put, List.setIfInBounds_toArray, List.set_cons_zero, List.set_cons_succ, List.getElem_toArray, List.getElem_cons_zero, List.getElem_cons_succ]
  refine rest_take (i := 8) (v := _) all_wide (noDefers_of (by kernel_rfl)) rfl (by kernel_rfl) (by kernel_rfl) (by kernel_rfl) (fun _ _ _ h => h) (Or.inl ⟨by rfl, by intro w hSw; clear hSw; go_simp; first | done | with_reducible rfl⟩) hHeld ?_
  change RestIn _ _ _ _ _ _ _ 1 #[true, true, true, true, true, true, true, true, true, false] _ _
  try simp only [Act.put, List.setIfInBounds_toArray, List.set_cons_zero, List.set_cons_succ, List.getElem_toArray, List.getElem_cons_zero, List.getElem_cons_succ]
  refine rest_take (i := 9) (v := _) all_wide (noDefers_of (by kernel_rfl)) rfl (by kernel_rfl) (by kernel_rfl) (by kernel_rfl) (fun _ _ _ h => h) (Or.inl ⟨by rfl, by intro w hSw; clear hSw; go_simp; first | done | with_reducible rfl⟩) hHeld ?_
  change RestIn _ _ _ _ _ _ _ 0 #[true, true, true, true, true, true, true, true, true, true] _ _
  try simp only [Act.put, List.setIfInBounds_toArray, List.set_cons_zero, List.set_cons_succ, List.getElem_toArray, List.getElem_cons_zero, List.getElem_cons_succ]
  refine rest_done (by kernel_rfl) ?_
  clear hLast
  obtain ⟨kY1, kN1, kD1, hX⟩ := hHeld
  clear hNow kY kN kD
  go_upto_region 4 with fail
  refine name_world (motive := fun W => Code.wp _ _ _ _ W) _ ?_
  intro W0 hW
  have hWc := hW.cell
  have hWz := hW.size
  have hWb := hW.below (hX)
  have kY := hW.blk kY1
  have kN := hW.blk kN1
  have kD := hW.blk kD1
  have HB0 := Lib.hid (HB1.out.trans (hWb.mono HB1.out.size))
  clear HB1 hW hWc hWz hWb hX kY1 kN1 kD1
  go_cut [9, 10] (fun s9 s10 wx => ∃ g : Nat, s9 = .pointer (some ⟨g, 0, none⟩) ∧ s10 = .int .i64 0 ∧ Blk wx g 35 #[.int .i64 lo, .int .i64 hi] ∧ Below W0.heap.size W0 wx)
  case first =>
    refine (wpIn_wide (n := 9)).1 ?_
    have hLast := trivial
    refine region_rest (S := (fun w' => Blk w' (w.heap.size) 27 #[.int .i64 f.pos.x.lo, .int .i64 f.pos.x.hi, .int .i64 f.pos.z.lo, .int .i64 f.pos.z.hi, .int .i64 f.speed.x.lo, .int .i64 f.speed.x.hi, .int .i64 f.speed.z.lo, .int .i64 f.speed.z.hi, .int .i64 f.mass] ∧ Blk w' (w.heap.size + 1) 60 #[.int .i64 n.x.lo, .int .i64 n.x.hi, .int .i64 n.height] ∧ Below W0.heap.size W0 w')) hmx ?_ (fun hHeld => ?_)
    · exact ⟨kY.drew, kN.drew, (Below.refl W0.heap.size W0).drew⟩
    change RestIn _ _ _ _ _ _ _ 11 #[false, false, false, false, false, false, false, false, false, false, false] _ (World.drew _)
    refine rest_take (i := 0) (v := _) all_wide (noDefers_of (by kernel_rfl)) rfl (by kernel_rfl) (by kernel_rfl) (by kernel_rfl) (fun _ _ _ h => h) (Or.inl ⟨by rfl, by intro w hSw; (obtain ⟨q0, q1, _⟩ := hSw; have q0x0 := q0.cell 0; have q0x1 := q0.cell 1; have q0x2 := q0.cell 2; have q0x3 := q0.cell 3; have q0x4 := q0.cell 4; have q0x5 := q0.cell 5; have q0x6 := q0.cell 6; have q0x7 := q0.cell 7; have q0x8 := q0.cell 8; have q1x0 := q1.cell 0; have q1x1 := q1.cell 1; have q1x2 := q1.cell 2; simp at q0x0 q0x1 q0x2 q0x3 q0x4 q0x5 q0x6 q0x7 q0x8 q1x0 q1x1 q1x2); go_simp; first | done | with_reducible rfl⟩) hHeld ?_
    change RestIn _ _ _ _ _ _ _ 10 #[true, false, false, false, false, false, false, false, false, false, false] _ _
    try simp only [Act.put, List.setIfInBounds_toArray, List.set_cons_zero, List.set_cons_succ, List.getElem_toArray, List.getElem_cons_zero, List.getElem_cons_succ]
    refine rest_take (i := 2) (v := _) all_wide (noDefers_of (by kernel_rfl)) rfl (by kernel_rfl) (by kernel_rfl) (by kernel_rfl) (fun _ _ _ h => h) (Or.inl ⟨by rfl, by intro w hSw; (obtain ⟨q0, q1, _⟩ := hSw; have q0x0 := q0.cell 0; have q0x1 := q0.cell 1; have q0x2 := q0.cell 2; have q0x3 := q0.cell 3; have q0x4 := q0.cell 4; have q0x5 := q0.cell 5; have q0x6 := q0.cell 6; have q0x7 := q0.cell 7; have q0x8 := q0.cell 8; have q1x0 := q1.cell 0; have q1x1 := q1.cell 1; have q1x2 := q1.cell 2; simp at q0x0 q0x1 q0x2 q0x3 q0x4 q0x5 q0x6 q0x7 q0x8 q1x0 q1x1 q1x2); go_simp; first | done | with_reducible rfl⟩) hHeld ?_
    change RestIn _ _ _ _ _ _ _ 9 #[true, false, true, false, false, false, false, false, false, false, false] _ _
    try simp only [Act.put, List.setIfInBounds_toArray, List.set_cons_zero, List.set_cons_succ, List.getElem_toArray, List.getElem_cons_zero, List.getElem_cons_succ]
    refine rest_ready (rs := [1, 8]) (by kernel_rfl) (by simp) ?_
    refine AllRest.cons rfl (fun K hK => ?_) ?_
    · have hNow := (hHeld.2.2)
      clear hLast
      have hLast := hNow
      go_simp
      gi_wp2_with ((refine ⟨trivial, ?_⟩; gi_at_call 17; (with_reducible refine (callsIn_wide.2 (lawFlyer_any _ _)).mono ?_); rintro e wn ⟨rfl, hb⟩))
      refine hK.out _ _ ?_ (fun hHeld' => ?_)
      · exact ⟨hHeld.1.below hb hHeld.1.lt, hHeld.2.1.below hb hHeld.2.1.lt, (hHeld.2.2).trans (hb.mono (hHeld.2.2).size)⟩
      clear hK K
      change RestIn _ _ _ _ _ _ _ 8 #[true, true, true, false, false, false, false, false, false, false, false] _ _
      try simp only [Act.put, List.setIfInBounds_toArray, List.set_cons_zero, List.set_cons_succ, List.getElem_toArray, List.getElem_cons_zero, List.getElem_cons_succ]
      clear hHeld
      have hHeld := hHeld'
      clear hHeld'
      have hNow := (hHeld.2.2)
      try have kG := kG.below hb kG.lt
      refine rest_ready (rs := [3, 8]) (by kernel_rfl) (by simp) ?_
      refine AllRest.cons rfl (fun K hK => ?_) ?_
      · have hNow := (hHeld.2.2)
        clear hLast
        have hLast := hNow
        go_simp
        gi_wp2_with ((refine ⟨trivial, ?_⟩; gi_at_call 28; (with_reducible refine (callsIn_wide.2 (lawNet_any _ _)).mono ?_); rintro e wn ⟨rfl, hb⟩))
        refine hK.out _ _ ?_ (fun hHeld' => ?_)
        · exact ⟨hHeld.1.below hb hHeld.1.lt, hHeld.2.1.below hb hHeld.2.1.lt, (hHeld.2.2).trans (hb.mono (hHeld.2.2).size)⟩
        clear hK K
        change RestIn _ _ _ _ _ _ _ 7 #[true, true, true, true, false, false, false, false, false, false, false] _ _
        try simp only [Act.put, List.setIfInBounds_toArray, List.set_cons_zero, List.set_cons_succ, List.getElem_toArray, List.getElem_cons_zero, List.getElem_cons_succ]
        clear hHeld
        have hHeld := hHeld'
        clear hHeld'
        have hNow := (hHeld.2.2)
        try have kG := kG.below hb kG.lt
        refine rest_ready (rs := [4, 8]) (by kernel_rfl) (by simp) ?_
        refine AllRest.cons rfl (fun K hK => ?_) ?_
        · have hNow := (hHeld.2.2)
          clear hLast
          have hLast := hNow
          go_simp
          gi_wp2_with ((refine ⟨trivial, ?_⟩; gi_at_call 27; (with_reducible refine (callsIn_wide.2 (HL.out _)).mono ?_); rintro e wn ⟨rfl, hb⟩))
          refine hK.out _ _ ?_ (fun hHeld' => ?_)
          · exact ⟨hHeld.1.below hb hHeld.1.lt, hHeld.2.1.below hb hHeld.2.1.lt, (hHeld.2.2).trans (hb.mono (hHeld.2.2).size)⟩
          clear hK K
          change RestIn _ _ _ _ _ _ _ 6 #[true, true, true, true, true, false, false, false, false, false, false] _ _
          try simp only [Act.put, List.setIfInBounds_toArray, List.set_cons_zero, List.set_cons_succ, List.getElem_toArray, List.getElem_cons_zero, List.getElem_cons_succ]
          clear hHeld
          have hHeld := hHeld'
          clear hHeld'
          have hNow := (hHeld.2.2)
          try have kG := kG.below hb kG.lt
          refine rest_take (i := 5) (v := _) all_wide (noDefers_of (by kernel_rfl)) rfl (by kernel_rfl) (by kernel_rfl) (by kernel_rfl) (fun _ _ _ h => h) (Or.inl ⟨by rfl, by intro w hSw; clear hSw; go_simp; first | done | with_reducible rfl⟩) hHeld ?_
          change RestIn _ _ _ _ _ _ _ 5 #[true, true, true, true, true, true, false, false, false, false, false] _ _
          try simp only [Act.put, List.setIfInBounds_toArray, List.set_cons_zero, List.set_cons_succ, List.getElem_toArray, List.getElem_cons_zero, List.getElem_cons_succ]
          refine rest_take (i := 6) (v := _) all_wide (noDefers_of (by kernel_rfl)) rfl (by kernel_rfl) (by kernel_rfl) (by kernel_rfl) (fun _ _ _ h => h) (Or.inl ⟨by rfl, by intro w hSw; clear hSw; go_simp; first | done | with_reducible rfl⟩) hHeld ?_
          change RestIn _ _ _ _ _ _ _ 4 #[true, true, true, true, true, true, true, false, false, false, false] _ _
          try simp only [Act.put, List.setIfInBounds_toArray, List.set_cons_zero, List.set_cons_succ, List.getElem_toArray, List.getElem_cons_zero, List.getElem_cons_succ]
          refine rest_take (i := 7) (v := _) all_wide (noDefers_of (by kernel_rfl)) rfl (by kernel_rfl) (by kernel_rfl) (by kernel_rfl) (fun _ _ _ h => h) (Or.inl ⟨by rfl, by intro w hSw; clear hSw; go_simp; first | done | with_reducible rfl⟩) hHeld ?_
          change RestIn _ _ _ _ _ _ _ 3 #[true, true, true, true, true, true, true, true, false, false, false] _ _
          try simp only [Act.put, List.setIfInBounds_toArray, List.set_cons_zero, List.set_cons_succ, List.getElem_toArray, List.getElem_cons_zero, List.getElem_cons_succ]
          refine rest_ready (rs := [8]) (by kernel_rfl) (by simp) ?_
          refine AllRest.cons rfl (fun K hK => ?_) AllRest.nil
          have kGg := (hHeld.2.2).size
          have kG := blk_new_of (hHeld.2.2) 35 #[.int .i64 0, .int .i64 0]
          have hOld := (hHeld.2.2)
          go_simp
          refine hK.out _ _ ?_ (fun hHeld' => ?_)
          · exact (fun (hbel : Below W0.heap.size W0 _) => ⟨kY.below hbel kY.lt, kN.below hbel kN.lt, hbel⟩) ((hHeld.2.2).alloc (hHeld.2.2).size _)
          clear hK K
          change RestIn _ _ _ _ _ _ _ 2 #[true, true, true, true, true, true, true, true, true, false, false] _ _
          try simp only [Act.put, List.setIfInBounds_toArray, List.set_cons_zero, List.set_cons_succ, List.getElem_toArray, List.getElem_cons_zero, List.getElem_cons_succ]
          clear hHeld
          have hHeld := hHeld'
          clear hHeld'
          have hNow := (hHeld.2.2)
          try simp at kGg
          refine rest_ready (rs := [9]) (by kernel_rfl) (by simp) ?_
          refine AllRest.cons rfl (fun K hK => ?_) AllRest.nil
          have kGc0 := kG.cell 0
          have kGc1 := kG.cell 1
          have kGf0 := kG.frozen 0
          have kGf1 := kG.frozen 1
          have kGl := kG.lt
          try simp at kGc0
          try simp at kGc1
          try simp at kGf0
          try simp at kGf1
          try simp at kGl
          have hNow := (hHeld.2.2)
          go_simp
          refine hK.out _ _ ?_ (fun hHeld' => ?_)
          · (refine (fun (hbel : Below W0.heap.size W0 _) => ⟨kY.below hbel kY.lt, kN.below hbel kN.lt, hbel⟩) ?_; repeat' (first | with_reducible exact hNow | with_reducible exact hOld | with_reducible refine Below.setCell ?_ (by (try simp) <;> omega) _ | with_reducible refine Below.alloc ?_ (by (try simp) <;> omega) _))
          clear hK K
          change RestIn _ _ _ _ _ _ _ 1 #[true, true, true, true, true, true, true, true, true, true, false] _ _
          try simp only [Act.put, List.setIfInBounds_toArray, List.set_cons_zero, List.set_cons_succ, List.getElem_toArray, List.getElem_cons_zero, List.getElem_cons_succ]
          clear hHeld
          have hHeld := hHeld'
          clear hHeld'
          have hNow := (hHeld.2.2)
          refine rest_take (i := 10) (v := _) all_wide (noDefers_of (by kernel_rfl)) rfl (by kernel_rfl) (by kernel_rfl) (by kernel_rfl) (fun _ _ _ h => h) (Or.inl ⟨by rfl, by intro w hSw; clear hSw; go_simp; first | done | with_reducible rfl⟩) hHeld ?_
          change RestIn _ _ _ _ _ _ _ 0 #[true, true, true, true, true, true, true, true, true, true, true] _ _
          try simp only [Act.put, List.setIfInBounds_toArray, List.set_cons_zero, List.set_cons_succ, List.getElem_toArray, List.getElem_cons_zero, List.getElem_cons_succ]
          refine rest_done (by kernel_rfl) ?_
          go_wp2_with fail
          go_meet
          first | exact ⟨_, rfl, rfl, (kG.set_ 0 (.int .i64 lo)).set_ 1 (.int .i64 hi), hNow⟩ | exact ⟨_, rfl, rfl, Blk.new _ _ _, hNow⟩
        refine AllRest.cons rfl (fun K hK => ?_) ?_
        · have kGg := (hHeld.2.2).size
          have kG := blk_new_of (hHeld.2.2) 35 #[.int .i64 0, .int .i64 0]
          have hOld := (hHeld.2.2)
          go_simp
          refine hK.out _ _ ?_ (fun hHeld' => ?_)
          · exact (fun (hbel : Below W0.heap.size W0 _) => ⟨kY.below hbel kY.lt, kN.below hbel kN.lt, hbel⟩) ((hHeld.2.2).alloc (hHeld.2.2).size _)
          clear hK K
          change RestIn _ _ _ _ _ _ _ 6 #[true, true, true, true, false, false, false, false, true, false, false] _ _
          try simp only [Act.put, List.setIfInBounds_toArray, List.set_cons_zero, List.set_cons_succ, List.getElem_toArray, List.getElem_cons_zero, List.getElem_cons_succ]
          clear hHeld
          have hHeld := hHeld'
          clear hHeld'
          have hNow := (hHeld.2.2)
          try simp at kGg
          refine rest_ready (rs := [4]) (by kernel_rfl) (by simp) ?_
          refine AllRest.cons rfl (fun K hK => ?_) AllRest.nil
          have hNow := (hHeld.2.2)
          clear hLast
          have hLast := hNow
          go_simp
          gi_wp2_with ((refine ⟨trivial, ?_⟩; gi_at_call 27; (with_reducible refine (callsIn_wide.2 (HL.out _)).mono ?_); rintro e wn ⟨rfl, hb⟩))
          refine hK.out _ _ ?_ (fun hHeld' => ?_)
          · exact ⟨hHeld.1.below hb hHeld.1.lt, hHeld.2.1.below hb hHeld.2.1.lt, (hHeld.2.2).trans (hb.mono (hHeld.2.2).size)⟩
          clear hK K
          change RestIn _ _ _ _ _ _ _ 5 #[true, true, true, true, true, false, false, false, true, false, false] _ _
          try simp only [Act.put, List.setIfInBounds_toArray, List.set_cons_zero, List.set_cons_succ, List.getElem_toArray, List.getElem_cons_zero, List.getElem_cons_succ]
          clear hHeld
          have hHeld := hHeld'
          clear hHeld'
          have hNow := (hHeld.2.2)
          try have kG := kG.below hb kG.lt
          refine rest_take (i := 5) (v := _) all_wide (noDefers_of (by kernel_rfl)) rfl (by kernel_rfl) (by kernel_rfl) (by kernel_rfl) (fun _ _ _ h => h) (Or.inl ⟨by rfl, by intro w hSw; clear hSw; go_simp; first | done | with_reducible rfl⟩) hHeld ?_
          change RestIn _ _ _ _ _ _ _ 4 #[true, true, true, true, true, true, false, false, true, false, false] _ _
          try simp only [Act.put, List.setIfInBounds_toArray, List.set_cons_zero, List.set_cons_succ, List.getElem_toArray, List.getElem_cons_zero, List.getElem_cons_succ]
          refine rest_take (i := 6) (v := _) all_wide (noDefers_of (by kernel_rfl)) rfl (by kernel_rfl) (by kernel_rfl) (by kernel_rfl) (fun _ _ _ h => h) (Or.inl ⟨by rfl, by intro w hSw; clear hSw; go_simp; first | done | with_reducible rfl⟩) hHeld ?_
          change RestIn _ _ _ _ _ _ _ 3 #[true, true, true, true, true, true, true, false, true, false, false] _ _
          try simp only [Act.put, List.setIfInBounds_toArray, List.set_cons_zero, List.set_cons_succ, List.getElem_toArray, List.getElem_cons_zero, List.getElem_cons_succ]
          refine rest_take (i := 7) (v := _) all_wide (noDefers_of (by kernel_rfl)) rfl (by kernel_rfl) (by kernel_rfl) (by kernel_rfl) (fun _ _ _ h => h) (Or.inl ⟨by rfl, by intro w hSw; clear hSw; go_simp; first | done | with_reducible rfl⟩) hHeld ?_
          change RestIn _ _ _ _ _ _ _ 2 #[true, true, true, true, true, true, true, true, true, false, false] _ _
          try simp only [Act.put, List.setIfInBounds_toArray, List.set_cons_zero, List.set_cons_succ, List.getElem_toArray, List.getElem_cons_zero, List.getElem_cons_succ]
          refine rest_ready (rs := [9]) (by kernel_rfl) (by simp) ?_
          refine AllRest.cons rfl (fun K hK => ?_) AllRest.nil
          have kGc0 := kG.cell 0
          have kGc1 := kG.cell 1
          have kGf0 := kG.frozen 0
          have kGf1 := kG.frozen 1
          have kGl := kG.lt
          try simp at kGc0
          try simp at kGc1
          try simp at kGf0
          try simp at kGf1
          try simp at kGl
          have hNow := (hHeld.2.2)
          go_simp
          refine hK.out _ _ ?_ (fun hHeld' => ?_)
          · (refine (fun (hbel : Below W0.heap.size W0 _) => ⟨kY.below hbel kY.lt, kN.below hbel kN.lt, hbel⟩) ?_; repeat' (first | with_reducible exact hNow | with_reducible exact hOld | with_reducible refine Below.setCell ?_ (by (try simp) <;> omega) _ | with_reducible refine Below.alloc ?_ (by (try simp) <;> omega) _))
          clear hK K
          change RestIn _ _ _ _ _ _ _ 1 #[true, true, true, true, true, true, true, true, true, true, false] _ _
          try simp only [Act.put, List.setIfInBounds_toArray, List.set_cons_zero, List.set_cons_succ, List.getElem_toArray, List.getElem_cons_zero, List.getElem_cons_succ]
          clear hHeld
          have hHeld := hHeld'
          clear hHeld'
          have hNow := (hHeld.2.2)
          refine rest_take (i := 10) (v := _) all_wide (noDefers_of (by kernel_rfl)) rfl (by kernel_rfl) (by kernel_rfl) (by kernel_rfl) (fun _ _ _ h => h) (Or.inl ⟨by rfl, by intro w hSw; clear hSw; go_simp; first | done | with_reducible rfl⟩) hHeld ?_
          change RestIn _ _ _ _ _ _ _ 0 #[true, true, true, true, true, true, true, true, true, true, true] _ _
          try simp only [Act.put, List.setIfInBounds_toArray, List.set_cons_zero, List.set_cons_succ, List.getElem_toArray, List.getElem_cons_zero, List.getElem_cons_succ]
          refine rest_done (by kernel_rfl) ?_
          go_wp2_with fail
          go_meet
          first | exact ⟨_, rfl, rfl, (kG.set_ 0 (.int .i64 lo)).set_ 1 (.int .i64 hi), hNow⟩ | exact ⟨_, rfl, rfl, Blk.new _ _ _, hNow⟩
        exact AllRest.nil
      refine AllRest.cons rfl (fun K hK => ?_) ?_
      · have kGg := (hHeld.2.2).size
        have kG := blk_new_of (hHeld.2.2) 35 #[.int .i64 0, .int .i64 0]
        have hOld := (hHeld.2.2)
        go_simp
        refine hK.out _ _ ?_ (fun hHeld' => ?_)
        · exact (fun (hbel : Below W0.heap.size W0 _) => ⟨kY.below hbel kY.lt, kN.below hbel kN.lt, hbel⟩) ((hHeld.2.2).alloc (hHeld.2.2).size _)
        clear hK K
        change RestIn _ _ _ _ _ _ _ 7 #[true, true, true, false, false, false, false, false, true, false, false] _ _
        try simp only [Act.put, List.setIfInBounds_toArray, List.set_cons_zero, List.set_cons_succ, List.getElem_toArray, List.getElem_cons_zero, List.getElem_cons_succ]
        clear hHeld
        have hHeld := hHeld'
        clear hHeld'
        have hNow := (hHeld.2.2)
        try simp at kGg
        refine rest_ready (rs := [3]) (by kernel_rfl) (by simp) ?_
        refine AllRest.cons rfl (fun K hK => ?_) AllRest.nil
        have hNow := (hHeld.2.2)
        clear hLast
        have hLast := hNow
        go_simp
        gi_wp2_with ((refine ⟨trivial, ?_⟩; gi_at_call 28; (with_reducible refine (callsIn_wide.2 (lawNet_any _ _)).mono ?_); rintro e wn ⟨rfl, hb⟩))
        refine hK.out _ _ ?_ (fun hHeld' => ?_)
        · exact ⟨hHeld.1.below hb hHeld.1.lt, hHeld.2.1.below hb hHeld.2.1.lt, (hHeld.2.2).trans (hb.mono (hHeld.2.2).size)⟩
        clear hK K
        change RestIn _ _ _ _ _ _ _ 6 #[true, true, true, true, false, false, false, false, true, false, false] _ _
        try simp only [Act.put, List.setIfInBounds_toArray, List.set_cons_zero, List.set_cons_succ, List.getElem_toArray, List.getElem_cons_zero, List.getElem_cons_succ]
        clear hHeld
        have hHeld := hHeld'
        clear hHeld'
        have hNow := (hHeld.2.2)
        try have kG := kG.below hb kG.lt
        refine rest_ready (rs := [4]) (by kernel_rfl) (by simp) ?_
        refine AllRest.cons rfl (fun K hK => ?_) AllRest.nil
        have hNow := (hHeld.2.2)
        clear hLast
        have hLast := hNow
        go_simp
        gi_wp2_with ((refine ⟨trivial, ?_⟩; gi_at_call 27; (with_reducible refine (callsIn_wide.2 (HL.out _)).mono ?_); rintro e wn ⟨rfl, hb⟩))
        refine hK.out _ _ ?_ (fun hHeld' => ?_)
        · exact ⟨hHeld.1.below hb hHeld.1.lt, hHeld.2.1.below hb hHeld.2.1.lt, (hHeld.2.2).trans (hb.mono (hHeld.2.2).size)⟩
        clear hK K
        change RestIn _ _ _ _ _ _ _ 5 #[true, true, true, true, true, false, false, false, true, false, false] _ _
        try simp only [Act.put, List.setIfInBounds_toArray, List.set_cons_zero, List.set_cons_succ, List.getElem_toArray, List.getElem_cons_zero, List.getElem_cons_succ]
        clear hHeld
        have hHeld := hHeld'
        clear hHeld'
        have hNow := (hHeld.2.2)
        try have kG := kG.below hb kG.lt
        refine rest_take (i := 5) (v := _) all_wide (noDefers_of (by kernel_rfl)) rfl (by kernel_rfl) (by kernel_rfl) (by kernel_rfl) (fun _ _ _ h => h) (Or.inl ⟨by rfl, by intro w hSw; clear hSw; go_simp; first | done | with_reducible rfl⟩) hHeld ?_
        change RestIn _ _ _ _ _ _ _ 4 #[true, true, true, true, true, true, false, false, true, false, false] _ _
        try simp only [Act.put, List.setIfInBounds_toArray, List.set_cons_zero, List.set_cons_succ, List.getElem_toArray, List.getElem_cons_zero, List.getElem_cons_succ]
        refine rest_take (i := 6) (v := _) all_wide (noDefers_of (by kernel_rfl)) rfl (by kernel_rfl) (by kernel_rfl) (by kernel_rfl) (fun _ _ _ h => h) (Or.inl ⟨by rfl, by intro w hSw; clear hSw; go_simp; first | done | with_reducible rfl⟩) hHeld ?_
        change RestIn _ _ _ _ _ _ _ 3 #[true, true, true, true, true, true, true, false, true, false, false] _ _
        try simp only [Act.put, List.setIfInBounds_toArray, List.set_cons_zero, List.set_cons_succ, List.getElem_toArray, List.getElem_cons_zero, List.getElem_cons_succ]
        refine rest_take (i := 7) (v := _) all_wide (noDefers_of (by kernel_rfl)) rfl (by kernel_rfl) (by kernel_rfl) (by kernel_rfl) (fun _ _ _ h => h) (Or.inl ⟨by rfl, by intro w hSw; clear hSw; go_simp; first | done | with_reducible rfl⟩) hHeld ?_
        change RestIn _ _ _ _ _ _ _ 2 #[true, true, true, true, true, true, true, true, true, false, false] _ _
        try simp only [Act.put, List.setIfInBounds_toArray, List.set_cons_zero, List.set_cons_succ, List.getElem_toArray, List.getElem_cons_zero, List.getElem_cons_succ]
        refine rest_ready (rs := [9]) (by kernel_rfl) (by simp) ?_
        refine AllRest.cons rfl (fun K hK => ?_) AllRest.nil
        have kGc0 := kG.cell 0
        have kGc1 := kG.cell 1
        have kGf0 := kG.frozen 0
        have kGf1 := kG.frozen 1
        have kGl := kG.lt
        try simp at kGc0
        try simp at kGc1
        try simp at kGf0
        try simp at kGf1
        try simp at kGl
        have hNow := (hHeld.2.2)
        go_simp
        refine hK.out _ _ ?_ (fun hHeld' => ?_)
        · (refine (fun (hbel : Below W0.heap.size W0 _) => ⟨kY.below hbel kY.lt, kN.below hbel kN.lt, hbel⟩) ?_; repeat' (first | with_reducible exact hNow | with_reducible exact hOld | with_reducible refine Below.setCell ?_ (by (try simp) <;> omega) _ | with_reducible refine Below.alloc ?_ (by (try simp) <;> omega) _))
        clear hK K
        change RestIn _ _ _ _ _ _ _ 1 #[true, true, true, true, true, true, true, true, true, true, false] _ _
        try simp only [Act.put, List.setIfInBounds_toArray, List.set_cons_zero, List.set_cons_succ, List.getElem_toArray, List.getElem_cons_zero, List.getElem_cons_succ]
        clear hHeld
        have hHeld := hHeld'
        clear hHeld'
        have hNow := (hHeld.2.2)
        refine rest_take (i := 10) (v := _) all_wide (noDefers_of (by kernel_rfl)) rfl (by kernel_rfl) (by kernel_rfl) (by kernel_rfl) (fun _ _ _ h => h) (Or.inl ⟨by rfl, by intro w hSw; clear hSw; go_simp; first | done | with_reducible rfl⟩) hHeld ?_
        change RestIn _ _ _ _ _ _ _ 0 #[true, true, true, true, true, true, true, true, true, true, true] _ _
        try simp only [Act.put, List.setIfInBounds_toArray, List.set_cons_zero, List.set_cons_succ, List.getElem_toArray, List.getElem_cons_zero, List.getElem_cons_succ]
        refine rest_done (by kernel_rfl) ?_
        go_wp2_with fail
        go_meet
        first | exact ⟨_, rfl, rfl, (kG.set_ 0 (.int .i64 lo)).set_ 1 (.int .i64 hi), hNow⟩ | exact ⟨_, rfl, rfl, Blk.new _ _ _, hNow⟩
      exact AllRest.nil
    refine AllRest.cons rfl (fun K hK => ?_) ?_
    · have kGg := (hHeld.2.2).size
      have kG := blk_new_of (hHeld.2.2) 35 #[.int .i64 0, .int .i64 0]
      have hOld := (hHeld.2.2)
      go_simp
      refine hK.out _ _ ?_ (fun hHeld' => ?_)
      · exact (fun (hbel : Below W0.heap.size W0 _) => ⟨kY.below hbel kY.lt, kN.below hbel kN.lt, hbel⟩) ((hHeld.2.2).alloc (hHeld.2.2).size _)
      clear hK K
      change RestIn _ _ _ _ _ _ _ 8 #[true, false, true, false, false, false, false, false, true, false, false] _ _
      try simp only [Act.put, List.setIfInBounds_toArray, List.set_cons_zero, List.set_cons_succ, List.getElem_toArray, List.getElem_cons_zero, List.getElem_cons_succ]
      clear hHeld
      have hHeld := hHeld'
      clear hHeld'
      have hNow := (hHeld.2.2)
      try simp at kGg
      refine rest_ready (rs := [1]) (by kernel_rfl) (by simp) ?_
      refine AllRest.cons rfl (fun K hK => ?_) AllRest.nil
      have hNow := (hHeld.2.2)
      clear hLast
      have hLast := hNow
      go_simp
      gi_wp2_with ((refine ⟨trivial, ?_⟩; gi_at_call 17; (with_reducible refine (callsIn_wide.2 (lawFlyer_any _ _)).mono ?_); rintro e wn ⟨rfl, hb⟩))
      refine hK.out _ _ ?_ (fun hHeld' => ?_)
      · exact ⟨hHeld.1.below hb hHeld.1.lt, hHeld.2.1.below hb hHeld.2.1.lt, (hHeld.2.2).trans (hb.mono (hHeld.2.2).size)⟩
      clear hK K
      change RestIn _ _ _ _ _ _ _ 7 #[true, true, true, false, false, false, false, false, true, false, false] _ _
      try simp only [Act.put, List.setIfInBounds_toArray, List.set_cons_zero, List.set_cons_succ, List.getElem_toArray, List.getElem_cons_zero, List.getElem_cons_succ]
      clear hHeld
      have hHeld := hHeld'
      clear hHeld'
      have hNow := (hHeld.2.2)
      try have kG := kG.below hb kG.lt
      refine rest_ready (rs := [3]) (by kernel_rfl) (by simp) ?_
      refine AllRest.cons rfl (fun K hK => ?_) AllRest.nil
      have hNow := (hHeld.2.2)
      clear hLast
      have hLast := hNow
      go_simp
      gi_wp2_with ((refine ⟨trivial, ?_⟩; gi_at_call 28; (with_reducible refine (callsIn_wide.2 (lawNet_any _ _)).mono ?_); rintro e wn ⟨rfl, hb⟩))
      refine hK.out _ _ ?_ (fun hHeld' => ?_)
      · exact ⟨hHeld.1.below hb hHeld.1.lt, hHeld.2.1.below hb hHeld.2.1.lt, (hHeld.2.2).trans (hb.mono (hHeld.2.2).size)⟩
      clear hK K
      change RestIn _ _ _ _ _ _ _ 6 #[true, true, true, true, false, false, false, false, true, false, false] _ _
      try simp only [Act.put, List.setIfInBounds_toArray, List.set_cons_zero, List.set_cons_succ, List.getElem_toArray, List.getElem_cons_zero, List.getElem_cons_succ]
      clear hHeld
      have hHeld := hHeld'
      clear hHeld'
      have hNow := (hHeld.2.2)
      try have kG := kG.below hb kG.lt
      refine rest_ready (rs := [4]) (by kernel_rfl) (by simp) ?_
      refine AllRest.cons rfl (fun K hK => ?_) AllRest.nil
      have hNow := (hHeld.2.2)
      clear hLast
      have hLast := hNow
      go_simp
      gi_wp2_with ((refine ⟨trivial, ?_⟩; gi_at_call 27; (with_reducible refine (callsIn_wide.2 (HL.out _)).mono ?_); rintro e wn ⟨rfl, hb⟩))
      refine hK.out _ _ ?_ (fun hHeld' => ?_)
      · exact ⟨hHeld.1.below hb hHeld.1.lt, hHeld.2.1.below hb hHeld.2.1.lt, (hHeld.2.2).trans (hb.mono (hHeld.2.2).size)⟩
      clear hK K
      change RestIn _ _ _ _ _ _ _ 5 #[true, true, true, true, true, false, false, false, true, false, false] _ _
      try simp only [Act.put, List.setIfInBounds_toArray, List.set_cons_zero, List.set_cons_succ, List.getElem_toArray, List.getElem_cons_zero, List.getElem_cons_succ]
      clear hHeld
      have hHeld := hHeld'
      clear hHeld'
      have hNow := (hHeld.2.2)
      try have kG := kG.below hb kG.lt
      refine rest_take (i := 5) (v := _) all_wide (noDefers_of (by kernel_rfl)) rfl (by kernel_rfl) (by kernel_rfl) (by kernel_rfl) (fun _ _ _ h => h) (Or.inl ⟨by rfl, by intro w hSw; clear hSw; go_simp; first | done | with_reducible rfl⟩) hHeld ?_
      change RestIn _ _ _ _ _ _ _ 4 #[true, true, true, true, true, true, false, false, true, false, false] _ _
      try simp only [Act.put, List.setIfInBounds_toArray, List.set_cons_zero, List.set_cons_succ, List.getElem_toArray, List.getElem_cons_zero, List.getElem_cons_succ]
      refine rest_take (i := 6) (v := _) all_wide (noDefers_of (by kernel_rfl)) rfl (by kernel_rfl) (by kernel_rfl) (by kernel_rfl) (fun _ _ _ h => h) (Or.inl ⟨by rfl, by intro w hSw; clear hSw; go_simp; first | done | with_reducible rfl⟩) hHeld ?_
      change RestIn _ _ _ _ _ _ _ 3 #[true, true, true, true, true, true, true, false, true, false, false] _ _
      try simp only [Act.put, List.setIfInBounds_toArray, List.set_cons_zero, List.set_cons_succ, List.getElem_toArray, List.getElem_cons_zero, List.getElem_cons_succ]
      refine rest_take (i := 7) (v := _) all_wide (noDefers_of (by kernel_rfl)) rfl (by kernel_rfl) (by kernel_rfl) (by kernel_rfl) (fun _ _ _ h => h) (Or.inl ⟨by rfl, by intro w hSw; clear hSw; go_simp; first | done | with_reducible rfl⟩) hHeld ?_
      change RestIn _ _ _ _ _ _ _ 2 #[true, true, true, true, true, true, true, true, true, false, false] _ _
      try simp only [Act.put, List.setIfInBounds_toArray, List.set_cons_zero, List.set_cons_succ, List.getElem_toArray, List.getElem_cons_zero, List.getElem_cons_succ]
      refine rest_ready (rs := [9]) (by kernel_rfl) (by simp) ?_
      refine AllRest.cons rfl (fun K hK => ?_) AllRest.nil
      have kGc0 := kG.cell 0
      have kGc1 := kG.cell 1
      have kGf0 := kG.frozen 0
      have kGf1 := kG.frozen 1
      have kGl := kG.lt
      try simp at kGc0
      try simp at kGc1
      try simp at kGf0
      try simp at kGf1
      try simp at kGl
      have hNow := (hHeld.2.2)
      go_simp
      refine hK.out _ _ ?_ (fun hHeld' => ?_)
      · (refine (fun (hbel : Below W0.heap.size W0 _) => ⟨kY.below hbel kY.lt, kN.below hbel kN.lt, hbel⟩) ?_; repeat' (first | with_reducible exact hNow | with_reducible exact hOld | with_reducible refine Below.setCell ?_ (by (try simp) <;> omega) _ | with_reducible refine Below.alloc ?_ (by (try simp) <;> omega) _))
      clear hK K
      change RestIn _ _ _ _ _ _ _ 1 #[true, true, true, true, true, true, true, true, true, true, false] _ _
      try simp only [Act.put, List.setIfInBounds_toArray, List.set_cons_zero, List.set_cons_succ, List.getElem_toArray, List.getElem_cons_zero, List.getElem_cons_succ]
      clear hHeld
      have hHeld := hHeld'
      clear hHeld'
      have hNow := (hHeld.2.2)
      refine rest_take (i := 10) (v := _) all_wide (noDefers_of (by kernel_rfl)) rfl (by kernel_rfl) (by kernel_rfl) (by kernel_rfl) (fun _ _ _ h => h) (Or.inl ⟨by rfl, by intro w hSw; clear hSw; go_simp; first | done | with_reducible rfl⟩) hHeld ?_
      change RestIn _ _ _ _ _ _ _ 0 #[true, true, true, true, true, true, true, true, true, true, true] _ _
      try simp only [Act.put, List.setIfInBounds_toArray, List.set_cons_zero, List.set_cons_succ, List.getElem_toArray, List.getElem_cons_zero, List.getElem_cons_succ]
      refine rest_done (by kernel_rfl) ?_
      go_wp2_with fail
      go_meet
      first | exact ⟨_, rfl, rfl, (kG.set_ 0 (.int .i64 lo)).set_ 1 (.int .i64 hi), hNow⟩ | exact ⟨_, rfl, rfl, Blk.new _ _ _, hNow⟩
    exact AllRest.nil
  case rest =>
    obtain ⟨g, rfl, rfl, kR, hX⟩ := hcut
    have kY1 := kY.below hX kY.lt
    have kN1 := kN.below hX kN.lt
    have kD1 := kD.below hX kD.lt
    have HB1 := Lib.hid (HB0.out.trans (hX.mono HB0.out.size))
    clear kY kN kD HB0
    go_wp2_with (go_at_call 15; refine (wakes_any _).mono ?_; rintro e wk ⟨rfl, hbk⟩)
    go_ret
    exact ⟨rfl, HB1.out.trans (hbk.mono HB1.out.size)⟩
set_option linter.unusedSimpArgs false in
set_option maxRecDepth 100000 in
set_option maxHeartbeats 16000000 in
theorem netted_4 (f : Fly) (n : Net) (a0 a1 a2 a3 : Int) (w : World) (hfy : f.ok = true) (hnk : n.ok = true) (hc : comesB f n = true) (ht : takesB f n = true) (h0 : 0 ≤ a0 ∧ a0 ≤ 65535) (h1 : 0 ≤ a1 ∧ a1 ≤ 65535) (h2 : 0 ≤ a2 ∧ a2 ≤ 65535) (h3 : 0 ≤ a3 ∧ a3 ≤ 65535) :
    Calls Try.prog 5 #[.agg #[.int .i64 f.pos.x.lo, .int .i64 f.pos.x.hi, .int .i64 f.pos.z.lo, .int .i64 f.pos.z.hi, .int .i64 f.speed.x.lo, .int .i64 f.speed.x.hi, .int .i64 f.speed.z.lo, .int .i64 f.speed.z.hi, .int .i64 f.mass], .agg #[.int .i64 n.x.lo, .int .i64 n.x.hi, .int .i64 n.height], .agg #[.int .u16 a0, .int .u16 a1, .int .u16 a2, .int .u16 a3]] w fun e w' => e = .returned (.bool true) ∧ Below w.heap.size w w' := by
  have hB0 := (((Below.refl w.heap.size w).alloc (Nat.le_refl _) (.cells #[.int .i64 f.pos.x.lo, .int .i64 f.pos.x.hi, .int .i64 f.pos.z.lo, .int .i64 f.pos.z.hi, .int .i64 f.speed.x.lo, .int .i64 f.speed.x.hi, .int .i64 f.speed.z.lo, .int .i64 f.speed.z.hi, .int .i64 f.mass] 27)).alloc (by simp) (.cells #[.int .i64 n.x.lo, .int .i64 n.x.hi, .int .i64 n.height] 60)).alloc (by simp <;> omega) (.cells #[.int .u16 a0, .int .u16 a1, .int .u16 a2, .int .u16 a3] 74)
  have kY0 := ((Blk.new w 27 #[.int .i64 f.pos.x.lo, .int .i64 f.pos.x.hi, .int .i64 f.pos.z.lo, .int .i64 f.pos.z.hi, .int .i64 f.speed.x.lo, .int .i64 f.speed.x.hi, .int .i64 f.speed.z.lo, .int .i64 f.speed.z.hi, .int .i64 f.mass]).alloc (.cells #[.int .i64 n.x.lo, .int .i64 n.x.hi, .int .i64 n.height] 60)).alloc (.cells #[.int .u16 a0, .int .u16 a1, .int .u16 a2, .int .u16 a3] 74)
  have kN0 := (Blk.new (w.alloc (.cells #[.int .i64 f.pos.x.lo, .int .i64 f.pos.x.hi, .int .i64 f.pos.z.lo, .int .i64 f.pos.z.hi, .int .i64 f.speed.x.lo, .int .i64 f.speed.x.hi, .int .i64 f.speed.z.lo, .int .i64 f.speed.z.hi, .int .i64 f.mass] 27)) 60 #[.int .i64 n.x.lo, .int .i64 n.x.hi, .int .i64 n.height]).alloc (.cells #[.int .u16 a0, .int .u16 a1, .int .u16 a2, .int .u16 a3] 74)
  have kD0 := Blk.new ((w.alloc (.cells #[.int .i64 f.pos.x.lo, .int .i64 f.pos.x.hi, .int .i64 f.pos.z.lo, .int .i64 f.pos.z.hi, .int .i64 f.speed.x.lo, .int .i64 f.speed.x.hi, .int .i64 f.speed.z.lo, .int .i64 f.speed.z.hi, .int .i64 f.mass] 27)).alloc (.cells #[.int .i64 n.x.lo, .int .i64 n.x.hi, .int .i64 n.height] 60)) 74 #[.int .u16 a0, .int .u16 a1, .int .u16 a2, .int .u16 a3]
  simp only [World.size_alloc] at kN0 kD0
  have HRY : Hid (∀ W : World, Calls Try.prog 21 #[.agg #[.int .i64 f.pos.x.lo, .int .i64 f.pos.x.hi, .int .i64 f.pos.z.lo, .int .i64 f.pos.z.hi, .int .i64 f.speed.x.lo, .int .i64 f.speed.x.hi, .int .i64 f.speed.z.lo, .int .i64 f.speed.z.hi, .int .i64 f.mass]] W fun e w' => e = .returned (.bool true) ∧ Below W.heap.size W w') := fun W => by rw [← hfy]; exact rightFlyer_any f W
  have HRN : Hid (∀ W : World, Calls Try.prog 30 #[.agg #[.int .i64 n.x.lo, .int .i64 n.x.hi, .int .i64 n.height]] W fun e w' => e = .returned (.bool true) ∧ Below W.heap.size W w') := fun W => by rw [← hnk]; exact rightNet_any n W
  have HT : Hid (∀ W : World, Calls Try.prog 29 #[.agg #[.int .i64 f.pos.x.lo, .int .i64 f.pos.x.hi, .int .i64 f.pos.z.lo, .int .i64 f.pos.z.hi, .int .i64 f.speed.x.lo, .int .i64 f.speed.x.hi, .int .i64 f.speed.z.lo, .int .i64 f.speed.z.hi, .int .i64 f.mass], .agg #[.int .i64 n.x.lo, .int .i64 n.x.hi, .int .i64 n.height]] W fun e w' => e = .returned (.tuple #[.bool true, .int .i64 0]) ∧ Below W.heap.size W w') := fun W => by rw [← ht]; exact Takes_ok f n W hfy hnk
  obtain ⟨hpo, hsp, _⟩ := Fly.ok_iff.1 hfy
  obtain ⟨⟨p1, p2, p3⟩, p4, p5, p6⟩ := Bx.inside_iff.1 hpo
  obtain ⟨⟨s1, s2, s3⟩, s4, s5, s6⟩ := Bx.inside_iff.1 hsp
  have HPx : Hid (∀ W : World, Calls Try.prog 34 #[.agg #[.int .i64 f.pos.x.lo, .int .i64 f.pos.x.hi], .int .u16 a0] W fun e w' => e = .returned (.int .i64 (pickI f.pos.x a0)) ∧ Below W.heap.size W w') := fun W => pick_any f.pos.x a0 W (by omega) (by omega) (by omega) (by omega)
  obtain ⟨xi1, xi2⟩ := pickI_in (w := a0) (show f.pos.x.lo ≤ f.pos.x.hi by omega)
  obtain ⟨x, hx⟩ : ∃ y, pickI f.pos.x a0 = y := ⟨_, rfl⟩
  rw [hx] at HPx xi1 xi2
  clear hx
  have HPz : Hid (∀ W : World, Calls Try.prog 34 #[.agg #[.int .i64 f.pos.z.lo, .int .i64 f.pos.z.hi], .int .u16 a1] W fun e w' => e = .returned (.int .i64 (pickI f.pos.z a1)) ∧ Below W.heap.size W w') := fun W => pick_any f.pos.z a1 W (by omega) (by omega) (by omega) (by omega)
  obtain ⟨zi1, zi2⟩ := pickI_in (w := a1) (show f.pos.z.lo ≤ f.pos.z.hi by omega)
  obtain ⟨z, hz⟩ : ∃ y, pickI f.pos.z a1 = y := ⟨_, rfl⟩
  rw [hz] at HPz zi1 zi2
  clear hz
  have HPu : Hid (∀ W : World, Calls Try.prog 34 #[.agg #[.int .i64 f.speed.x.lo, .int .i64 f.speed.x.hi], .int .u16 a2] W fun e w' => e = .returned (.int .i64 (pickI f.speed.x a2)) ∧ Below W.heap.size W w') := fun W => pick_any f.speed.x a2 W (by omega) (by omega) (by omega) (by omega)
  obtain ⟨ui1, ui2⟩ := pickI_in (w := a2) (show f.speed.x.lo ≤ f.speed.x.hi by omega)
  obtain ⟨u, hu⟩ : ∃ y, pickI f.speed.x a2 = y := ⟨_, rfl⟩
  rw [hu] at HPu ui1 ui2
  clear hu
  have HPv : Hid (∀ W : World, Calls Try.prog 34 #[.agg #[.int .i64 f.speed.z.lo, .int .i64 f.speed.z.hi], .int .u16 a3] W fun e w' => e = .returned (.int .i64 (pickI f.speed.z a3)) ∧ Below W.heap.size W w') := fun W => pick_any f.speed.z a3 W (by omega) (by omega) (by omega) (by omega)
  obtain ⟨vi1, vi2⟩ := pickI_in (w := a3) (show f.speed.z.lo ≤ f.speed.z.hi by omega)
  obtain ⟨v, hv⟩ : ∃ y, pickI f.speed.z a3 = y := ⟨_, rfl⟩
  rw [hv] at HPv vi1 vi2
  clear hv
  have HNET : Hid (∀ k : Nat, k ≤ 300 → (∀ t : Nat, t < k → n.height < z + t * v - 49 * t * t) → z + k * v - 49 * k * k ≤ n.height → (landR f n).lo ≤ k ∧ (k : Int) ≤ (landR f n).hi ∧ n.x.lo ≤ x + k * u ∧ x + k * u ≤ n.x.hi) := fun k hk hno hyes => netted hfy ht ⟨xi1, xi2⟩ ⟨zi1, zi2⟩ ⟨ui1, ui2⟩ ⟨vi1, vi2⟩ hk (fun t h => Int.not_le.2 (hno t h)) hyes
  have HEND : Hid (¬ ∀ t : Nat, t < 301 → n.height < z + t * v - 49 * t * t) := fun hno => netted_ends ht ⟨zi1, zi2⟩ ⟨vi1, vi2⟩ (fun t h => Int.not_le.2 (hno t h))
  obtain ⟨lo, hlo⟩ : ∃ lo, (landR f n).lo = lo := ⟨_, rfl⟩
  obtain ⟨hi, hhi⟩ : ∃ hi, (landR f n).hi = hi := ⟨_, rfl⟩
  have HL : Hid (∀ W : World, Calls Try.prog 27 #[.agg #[.int .i64 f.pos.x.lo, .int .i64 f.pos.x.hi, .int .i64 f.pos.z.lo, .int .i64 f.pos.z.hi, .int .i64 f.speed.x.lo, .int .i64 f.speed.x.hi, .int .i64 f.speed.z.lo, .int .i64 f.speed.z.hi, .int .i64 f.mass], .agg #[.int .i64 n.x.lo, .int .i64 n.x.hi, .int .i64 n.height]] W fun e w' => e = .returned (.tuple #[.agg #[.int .i64 lo, .int .i64 hi], .int .i64 0]) ∧ Below W.heap.size W w') := fun W => by
    have := Landing_ok f n W hfy hnk
    rw [hc, hlo, hhi] at this
    exact this
  rw [hlo, hhi] at HNET
  clear hlo hhi
  clear hfy hnk hc ht hpo hsp
  have bx : -10000000 ≤ x ∧ x ≤ 10000000 := by omega
  have bz : -10000000 ≤ z ∧ z ≤ 10000000 := by omega
  have bu : -10000 ≤ u ∧ u ≤ 10000 := by omega
  have bv : -10000 ≤ v ∧ v ≤ 10000 := by omega
  clear p1 p2 p3 p4 p5 p6 s1 s2 s3 s4 s5 s6 xi1 xi2 zi1 zi2 ui1 ui2 vi1 vi2 h0 h1 h2 h3
  have hmx : Try.prog.follows .mixedOrders = true := by kernel_rfl
  go_enter Try.func5, Try.ntmps5
  go_upto_region 1 with fail
  refine name_world (motive := fun W => Code.wp _ _ _ _ W) _ ?_
  intro W0 hW
  have hWc := hW.cell
  have hWz := hW.size
  have hWb := hW.below (hB0)
  have kY := hW.blk kY0
  have kN := hW.blk kN0
  have kD := hW.blk kD0
  have HB0 := Lib.hid hWb
  clear hB0 kY0 kN0 kD0 hW hWc hWz hWb
  have y0 := kY.cell 0; have y1 := kY.cell 1; have y2 := kY.cell 2; have y3 := kY.cell 3; have y4 := kY.cell 4; have y5 := kY.cell 5; have y6 := kY.cell 6; have y7 := kY.cell 7; have y8 := kY.cell 8; simp at y0 y1 y2 y3 y4 y5 y6 y7 y8
  go_upto_region 3 with (first | (go_at_call 21; (with_reducible refine (HRY.out _).mono ?_); rintro e w1 ⟨rfl, hb1⟩; have kY2 := kY.below hb1 kY.lt; have kN2 := kN.below hb1 kN.lt; have kD2 := kD.below hb1 kD.lt; have hX2 := hb1; have n0 := kN2.cell 0; have n1 := kN2.cell 1; have n2 := kN2.cell 2; simp at n0 n1 n2) | (go_at_call 30; (with_reducible refine (HRN.out _).mono ?_); rintro e w2 ⟨rfl, hb2⟩; have kY3 := kY2.below hb2 kY2.lt; have kN3 := kN2.below hb2 kN2.lt; have kD3 := kD2.below hb2 kD2.lt; have hX3 := sh_next hX2 hb2))
  clear kY kN kD
  refine name_world (motive := fun W => Code.wp _ _ _ _ W) _ ?_
  intro W0 hW
  have hWc := hW.cell
  have hWz := hW.size
  have hWb := hW.below (hX3)
  have kY := hW.blk kY3
  have kN := hW.blk kN3
  have kD := hW.blk kD3
  have HB1 := Lib.hid (HB0.out.trans (hWb.mono HB0.out.size))
  clear HB0 hW hWc hWz hWb hX3 hX2 kY2 kN2 kD2 kY3 kN3 kD3 hb1 hb2 y0 y1 y2 y3 y4 y5 y6 y7 y8 n0 n1 n2
  refine (wpIn_wide (n := 9)).1 ?_
  have hLast := trivial
  refine region_rest (S := (fun w' => Blk w' (w.heap.size) 27 #[.int .i64 f.pos.x.lo, .int .i64 f.pos.x.hi, .int .i64 f.pos.z.lo, .int .i64 f.pos.z.hi, .int .i64 f.speed.x.lo, .int .i64 f.speed.x.hi, .int .i64 f.speed.z.lo, .int .i64 f.speed.z.hi, .int .i64 f.mass] ∧ Blk w' (w.heap.size + 1) 60 #[.int .i64 n.x.lo, .int .i64 n.x.hi, .int .i64 n.height] ∧ Blk w' (w.heap.size + 1 + 1) 74 #[.int .u16 a0, .int .u16 a1, .int .u16 a2, .int .u16 a3] ∧ Below W0.heap.size W0 w')) hmx ?_ (fun hHeld => ?_)
  · exact ⟨kY.drew, kN.drew, kD.drew, (Below.refl W0.heap.size W0).drew⟩
  change RestIn _ _ _ _ _ _ _ 10 #[false, false, false, false, false, false, false, false, false, false] _ (World.drew _)
  refine rest_take (i := 0) (v := _) all_wide (noDefers_of (by kernel_rfl)) rfl (by kernel_rfl) (by kernel_rfl) (by kernel_rfl) (fun _ _ _ h => h) (Or.inl ⟨by rfl, by intro w hSw; (obtain ⟨q0, q1, q2, _⟩ := hSw; have q0x0 := q0.cell 0; have q0x1 := q0.cell 1; have q0x2 := q0.cell 2; have q0x3 := q0.cell 3; have q0x4 := q0.cell 4; have q0x5 := q0.cell 5; have q0x6 := q0.cell 6; have q0x7 := q0.cell 7; have q0x8 := q0.cell 8; have q1x0 := q1.cell 0; have q1x1 := q1.cell 1; have q1x2 := q1.cell 2; have q2x0 := q2.cell 0; have q2x1 := q2.cell 1; have q2x2 := q2.cell 2; have q2x3 := q2.cell 3; simp at q0x0 q0x1 q0x2 q0x3 q0x4 q0x5 q0x6 q0x7 q0x8 q1x0 q1x1 q1x2 q2x0 q2x1 q2x2 q2x3); go_simp; first | done | with_reducible rfl⟩) hHeld ?_
  change RestIn _ _ _ _ _ _ _ 9 #[true, false, false, false, false, false, false, false, false, false] _ _
  try simp only [Act.put, List.setIfInBounds_toArray, List.set_cons_zero, List.set_cons_succ, List.getElem_toArray, List.getElem_cons_zero, List.getElem_cons_succ]
  refine rest_take (i := 2) (v := _) all_wide (noDefers_of (by kernel_rfl)) rfl (by kernel_rfl) (by kernel_rfl) (by kernel_rfl) (fun _ _ _ h => h) (Or.inl ⟨by rfl, by intro w hSw; (obtain ⟨q0, q1, q2, _⟩ := hSw; have q0x0 := q0.cell 0; have q0x1 := q0.cell 1; have q0x2 := q0.cell 2; have q0x3 := q0.cell 3; have q0x4 := q0.cell 4; have q0x5 := q0.cell 5; have q0x6 := q0.cell 6; have q0x7 := q0.cell 7; have q0x8 := q0.cell 8; have q1x0 := q1.cell 0; have q1x1 := q1.cell 1; have q1x2 := q1.cell 2; have q2x0 := q2.cell 0; have q2x1 := q2.cell 1; have q2x2 := q2.cell 2; have q2x3 := q2.cell 3; simp at q0x0 q0x1 q0x2 q0x3 q0x4 q0x5 q0x6 q0x7 q0x8 q1x0 q1x1 q1x2 q2x0 q2x1 q2x2 q2x3); go_simp; first | done | with_reducible rfl⟩) hHeld ?_
  change RestIn _ _ _ _ _ _ _ 8 #[true, false, true, false, false, false, false, false, false, false] _ _
  try simp only [Act.put, List.setIfInBounds_toArray, List.set_cons_zero, List.set_cons_succ, List.getElem_toArray, List.getElem_cons_zero, List.getElem_cons_succ]
  refine rest_ready (rs := [1]) (by kernel_rfl) (by simp) ?_
  refine AllRest.cons rfl (fun K hK => ?_) AllRest.nil
  have hNow := (hHeld.2.2.2)
  clear hLast
  have hLast := hNow
  go_simp
  gi_wp2_with ((refine ⟨trivial, ?_⟩; gi_at_call 17; (with_reducible refine (callsIn_wide.2 (lawFlyer_any _ _)).mono ?_); rintro e wn ⟨rfl, hb⟩))
  refine hK.out _ _ ?_ (fun hHeld' => ?_)
  · exact ⟨hHeld.1.below hb hHeld.1.lt, hHeld.2.1.below hb hHeld.2.1.lt, hHeld.2.2.1.below hb hHeld.2.2.1.lt, (hHeld.2.2.2).trans (hb.mono (hHeld.2.2.2).size)⟩
  clear hK K
  change RestIn _ _ _ _ _ _ _ 7 #[true, true, true, false, false, false, false, false, false, false] _ _
  try simp only [Act.put, List.setIfInBounds_toArray, List.set_cons_zero, List.set_cons_succ, List.getElem_toArray, List.getElem_cons_zero, List.getElem_cons_succ]
  clear hHeld
  have hHeld := hHeld'
  clear hHeld'
  have hNow := (hHeld.2.2.2)
  refine rest_ready (rs := [3]) (by kernel_rfl) (by simp) ?_
  refine AllRest.cons rfl (fun K hK => ?_) AllRest.nil
  have hNow := (hHeld.2.2.2)
  clear hLast
  have hLast := hNow
  go_simp
  gi_wp2_with ((refine ⟨trivial, ?_⟩; gi_at_call 28; (with_reducible refine (callsIn_wide.2 (lawNet_any _ _)).mono ?_); rintro e wn ⟨rfl, hb⟩))
  refine hK.out _ _ ?_ (fun hHeld' => ?_)
  · exact ⟨hHeld.1.below hb hHeld.1.lt, hHeld.2.1.below hb hHeld.2.1.lt, hHeld.2.2.1.below hb hHeld.2.2.1.lt, (hHeld.2.2.2).trans (hb.mono (hHeld.2.2.2).size)⟩
  clear hK K
  change RestIn _ _ _ _ _ _ _ 6 #[true, true, true, true, false, false, false, false, false, false] _ _
  try simp only [Act.put, List.setIfInBounds_toArray, List.set_cons_zero, List.set_cons_succ, List.getElem_toArray, List.getElem_cons_zero, List.getElem_cons_succ]
  clear hHeld
  have hHeld := hHeld'
  clear hHeld'
  have hNow := (hHeld.2.2.2)
  refine rest_ready (rs := [4]) (by kernel_rfl) (by simp) ?_
  refine AllRest.cons rfl (fun K hK => ?_) AllRest.nil
  have hNow := (hHeld.2.2.2)
  clear hLast
  have hLast := hNow
  go_simp
  gi_wp2_with ((refine ⟨trivial, ?_⟩; gi_at_call 29; (with_reducible refine (callsIn_wide.2 (HT.out _)).mono ?_); rintro e wn ⟨rfl, hb⟩))
  refine hK.out _ _ ?_ (fun hHeld' => ?_)
  · exact ⟨hHeld.1.below hb hHeld.1.lt, hHeld.2.1.below hb hHeld.2.1.lt, hHeld.2.2.1.below hb hHeld.2.2.1.lt, (hHeld.2.2.2).trans (hb.mono (hHeld.2.2.2).size)⟩
  clear hK K
  change RestIn _ _ _ _ _ _ _ 5 #[true, true, true, true, true, false, false, false, false, false] _ _
  try simp only [Act.put, List.setIfInBounds_toArray, List.set_cons_zero, List.set_cons_succ, List.getElem_toArray, List.getElem_cons_zero, List.getElem_cons_succ]
  clear hHeld
  have hHeld := hHeld'
  clear hHeld'
  have hNow := (hHeld.2.2.2)
  refine rest_take (i := 5) (v := _) all_wide (noDefers_of (by kernel_rfl)) rfl (by kernel_rfl) (by kernel_rfl) (by kernel_rfl) (fun _ _ _ h => h) (Or.inl ⟨by rfl, by intro w hSw; clear hSw; go_simp; first | done | with_reducible rfl⟩) hHeld ?_
  change RestIn _ _ _ _ _ _ _ 4 #[true, true, true, true, true, true, false, false, false, false] _ _
  try simp only [Act.put, List.setIfInBounds_toArray, List.set_cons_zero, List.set_cons_succ, List.getElem_toArray, List.getElem_cons_zero, List.getElem_cons_succ]
  refine rest_take (i := 6) (v := _) all_wide (noDefers_of (by kernel_rfl)) rfl (by kernel_rfl) (by kernel_rfl) (by kernel_rfl) (fun _ _ _ h => h) (Or.inl ⟨by rfl, by intro w hSw; clear hSw; go_simp; first | done | with_reducible rfl⟩) hHeld ?_
  change RestIn _ _ _ _ _ _ _ 3 #[true, true, true, true, true, true, true, false, false, false] _ _
  try simp only [Act.put, List.setIfInBounds_toArray, List.set_cons_zero, List.set_cons_succ, List.getElem_toArray, List.getElem_cons_zero, List.getElem_cons_succ]
  refine rest_take (i := 7) (v := _) all_wide (noDefers_of (by kernel_rfl)) rfl (by kernel_rfl) (by kernel_rfl) (by kernel_rfl) (fun _ _ _ h => h) (Or.inl ⟨by rfl, by intro w hSw; clear hSw; go_simp; first | done | with_reducible rfl⟩) hHeld ?_
  change RestIn _ _ _ _ _ _ _ 2 #[true, true, true, true, true, true, true, true, false, false] _ _
  try simp only [Act.put, List.setIfInBounds_toArray, List.set_cons_zero, List.set_cons_succ, List.getElem_toArray, List.getElem_cons_zero, List.getElem_cons_succ]
  refine rest_take (i := 8) (v := _) all_wide (noDefers_of (by kernel_rfl)) rfl (by kernel_rfl) (by kernel_rfl) (by kernel_rfl) (fun _ _ _ h => h) (Or.inl ⟨by rfl, by intro w hSw; clear hSw; go_simp; first | done | with_reducible rfl⟩) hHeld ?_
  change RestIn _ _ _ _ _ _ _ 1 #[true, true, true, true, true, true, true, true, true, false] _ _
  try simp only [Act.put, List.setIfInBounds_toArray, List.set_cons_zero, List.set_cons_succ, List.getElem_toArray, List.getElem_cons_zero, List.getElem_cons_succ]
  refine rest_take (i := 9) (v := _) all_wide (noDefers_of (by kernel_rfl)) rfl (by kernel_rfl) (by kernel_rfl) (by kernel_rfl) (fun _ _ _ h => h) (Or.inl ⟨by rfl, by intro w hSw; clear hSw; go_simp; first | done | with_reducible rfl⟩) hHeld ?_
  change RestIn _ _ _ _ _ _ _ 0 #[true, true, true, true, true, true, true, true, true, true] _ _
  try simp only [Act.put, List.setIfInBounds_toArray, List.set_cons_zero, List.set_cons_succ, List.getElem_toArray, List.getElem_cons_zero, List.getElem_cons_succ]
  refine rest_done (by kernel_rfl) ?_
  clear hLast
  obtain ⟨kY1, kN1, kD1, hX⟩ := hHeld
  clear hNow kY kN kD
  go_upto_region 4 with fail
  refine name_world (motive := fun W => Code.wp _ _ _ _ W) _ ?_
  intro W0 hW
  have hWc := hW.cell
  have hWz := hW.size
  have hWb := hW.below (hX)
  have kY := hW.blk kY1
  have kN := hW.blk kN1
  have kD := hW.blk kD1
  have HB0 := Lib.hid (HB1.out.trans (hWb.mono HB1.out.size))
  clear HB1 hW hWc hWz hWb hX kY1 kN1 kD1
  go_cut [9, 10] (fun s9 s10 wx => ∃ g : Nat, s9 = .pointer (some ⟨g, 0, none⟩) ∧ s10 = .int .i64 0 ∧ Blk wx g 35 #[.int .i64 lo, .int .i64 hi] ∧ Below W0.heap.size W0 wx)
  case first =>
    refine (wpIn_wide (n := 9)).1 ?_
    have hLast := trivial
    refine region_rest (S := (fun w' => Blk w' (w.heap.size) 27 #[.int .i64 f.pos.x.lo, .int .i64 f.pos.x.hi, .int .i64 f.pos.z.lo, .int .i64 f.pos.z.hi, .int .i64 f.speed.x.lo, .int .i64 f.speed.x.hi, .int .i64 f.speed.z.lo, .int .i64 f.speed.z.hi, .int .i64 f.mass] ∧ Blk w' (w.heap.size + 1) 60 #[.int .i64 n.x.lo, .int .i64 n.x.hi, .int .i64 n.height] ∧ Below W0.heap.size W0 w')) hmx ?_ (fun hHeld => ?_)
    · exact ⟨kY.drew, kN.drew, (Below.refl W0.heap.size W0).drew⟩
    change RestIn _ _ _ _ _ _ _ 11 #[false, false, false, false, false, false, false, false, false, false, false] _ (World.drew _)
    refine rest_take (i := 0) (v := _) all_wide (noDefers_of (by kernel_rfl)) rfl (by kernel_rfl) (by kernel_rfl) (by kernel_rfl) (fun _ _ _ h => h) (Or.inl ⟨by rfl, by intro w hSw; (obtain ⟨q0, q1, _⟩ := hSw; have q0x0 := q0.cell 0; have q0x1 := q0.cell 1; have q0x2 := q0.cell 2; have q0x3 := q0.cell 3; have q0x4 := q0.cell 4; have q0x5 := q0.cell 5; have q0x6 := q0.cell 6; have q0x7 := q0.cell 7; have q0x8 := q0.cell 8; have q1x0 := q1.cell 0; have q1x1 := q1.cell 1; have q1x2 := q1.cell 2; simp at q0x0 q0x1 q0x2 q0x3 q0x4 q0x5 q0x6 q0x7 q0x8 q1x0 q1x1 q1x2); go_simp; first | done | with_reducible rfl⟩) hHeld ?_
    change RestIn _ _ _ _ _ _ _ 10 #[true, false, false, false, false, false, false, false, false, false, false] _ _
    try simp only [Act.put, List.setIfInBounds_toArray, List.set_cons_zero, List.set_cons_succ, List.getElem_toArray, List.getElem_cons_zero, List.getElem_cons_succ]
    refine rest_take (i := 2) (v := _) all_wide (noDefers_of (by kernel_rfl)) rfl (by kernel_rfl) (by kernel_rfl) (by kernel_rfl) (fun _ _ _ h => h) (Or.inl ⟨by rfl, by intro w hSw; (obtain ⟨q0, q1, _⟩ := hSw; have q0x0 := q0.cell 0; have q0x1 := q0.cell 1; have q0x2 := q0.cell 2; have q0x3 := q0.cell 3; have q0x4 := q0.cell 4; have q0x5 := q0.cell 5; have q0x6 := q0.cell 6; have q0x7 := q0.cell 7; have q0x8 := q0.cell 8; have q1x0 := q1.cell 0; have q1x1 := q1.cell 1; have q1x2 := q1.cell 2; simp at q0x0 q0x1 q0x2 q0x3 q0x4 q0x5 q0x6 q0x7 q0x8 q1x0 q1x1 q1x2); go_simp; first | done | with_reducible rfl⟩) hHeld ?_
    change RestIn _ _ _ _ _ _ _ 9 #[true, false, true, false, false, false, false, false, false, false, false] _ _
    try simp only [Act.put, List.setIfInBounds_toArray, List.set_cons_zero, List.set_cons_succ, List.getElem_toArray, List.getElem_cons_zero, List.getElem_cons_succ]
    refine rest_ready (rs := [1, 8]) (by kernel_rfl) (by simp) ?_
    refine AllRest.cons rfl (fun K hK => ?_) ?_
    · have hNow := (hHeld.2.2)
      clear hLast
      have hLast := hNow
      go_simp
      gi_wp2_with ((refine ⟨trivial, ?_⟩; gi_at_call 17; (with_reducible refine (callsIn_wide.2 (lawFlyer_any _ _)).mono ?_); rintro e wn ⟨rfl, hb⟩))
      refine hK.out _ _ ?_ (fun hHeld' => ?_)
      · exact ⟨hHeld.1.below hb hHeld.1.lt, hHeld.2.1.below hb hHeld.2.1.lt, (hHeld.2.2).trans (hb.mono (hHeld.2.2).size)⟩
      clear hK K
      change RestIn _ _ _ _ _ _ _ 8 #[true, true, true, false, false, false, false, false, false, false, false] _ _
      try simp only [Act.put, List.setIfInBounds_toArray, List.set_cons_zero, List.set_cons_succ, List.getElem_toArray, List.getElem_cons_zero, List.getElem_cons_succ]
      clear hHeld
      have hHeld := hHeld'
      clear hHeld'
      have hNow := (hHeld.2.2)
      try have kG := kG.below hb kG.lt
      refine rest_ready (rs := [3, 8]) (by kernel_rfl) (by simp) ?_
      refine AllRest.cons rfl (fun K hK => ?_) ?_
      · have hNow := (hHeld.2.2)
        clear hLast
        have hLast := hNow
        go_simp
        gi_wp2_with ((refine ⟨trivial, ?_⟩; gi_at_call 28; (with_reducible refine (callsIn_wide.2 (lawNet_any _ _)).mono ?_); rintro e wn ⟨rfl, hb⟩))
        refine hK.out _ _ ?_ (fun hHeld' => ?_)
        · exact ⟨hHeld.1.below hb hHeld.1.lt, hHeld.2.1.below hb hHeld.2.1.lt, (hHeld.2.2).trans (hb.mono (hHeld.2.2).size)⟩
        clear hK K
        change RestIn _ _ _ _ _ _ _ 7 #[true, true, true, true, false, false, false, false, false, false, false] _ _
        try simp only [Act.put, List.setIfInBounds_toArray, List.set_cons_zero, List.set_cons_succ, List.getElem_toArray, List.getElem_cons_zero, List.getElem_cons_succ]
        clear hHeld
        have hHeld := hHeld'
        clear hHeld'
        have hNow := (hHeld.2.2)
        try have kG := kG.below hb kG.lt
        refine rest_ready (rs := [4, 8]) (by kernel_rfl) (by simp) ?_
        refine AllRest.cons rfl (fun K hK => ?_) ?_
        · have hNow := (hHeld.2.2)
          clear hLast
          have hLast := hNow
          go_simp
          gi_wp2_with ((refine ⟨trivial, ?_⟩; gi_at_call 27; (with_reducible refine (callsIn_wide.2 (HL.out _)).mono ?_); rintro e wn ⟨rfl, hb⟩))
          refine hK.out _ _ ?_ (fun hHeld' => ?_)
          · exact ⟨hHeld.1.below hb hHeld.1.lt, hHeld.2.1.below hb hHeld.2.1.lt, (hHeld.2.2).trans (hb.mono (hHeld.2.2).size)⟩
          clear hK K
          change RestIn _ _ _ _ _ _ _ 6 #[true, true, true, true, true, false, false, false, false, false, false] _ _
          try simp only [Act.put, List.setIfInBounds_toArray, List.set_cons_zero, List.set_cons_succ, List.getElem_toArray, List.getElem_cons_zero, List.getElem_cons_succ]
          clear hHeld
          have hHeld := hHeld'
          clear hHeld'
          have hNow := (hHeld.2.2)
          try have kG := kG.below hb kG.lt
          refine rest_take (i := 5) (v := _) all_wide (noDefers_of (by kernel_rfl)) rfl (by kernel_rfl) (by kernel_rfl) (by kernel_rfl) (fun _ _ _ h => h) (Or.inl ⟨by rfl, by intro w hSw; clear hSw; go_simp; first | done | with_reducible rfl⟩) hHeld ?_
          change RestIn _ _ _ _ _ _ _ 5 #[true, true, true, true, true, true, false, false, false, false, false] _ _
          try simp only [Act.put, List.setIfInBounds_toArray, List.set_cons_zero, List.set_cons_succ, List.getElem_toArray, List.getElem_cons_zero, List.getElem_cons_succ]
          refine rest_take (i := 6) (v := _) all_wide (noDefers_of (by kernel_rfl)) rfl (by kernel_rfl) (by kernel_rfl) (by kernel_rfl) (fun _ _ _ h => h) (Or.inl ⟨by rfl, by intro w hSw; clear hSw; go_simp; first | done | with_reducible rfl⟩) hHeld ?_
          change RestIn _ _ _ _ _ _ _ 4 #[true, true, true, true, true, true, true, false, false, false, false] _ _
          try simp only [Act.put, List.setIfInBounds_toArray, List.set_cons_zero, List.set_cons_succ, List.getElem_toArray, List.getElem_cons_zero, List.getElem_cons_succ]
          refine rest_take (i := 7) (v := _) all_wide (noDefers_of (by kernel_rfl)) rfl (by kernel_rfl) (by kernel_rfl) (by kernel_rfl) (fun _ _ _ h => h) (Or.inl ⟨by rfl, by intro w hSw; clear hSw; go_simp; first | done | with_reducible rfl⟩) hHeld ?_
          change RestIn _ _ _ _ _ _ _ 3 #[true, true, true, true, true, true, true, true, false, false, false] _ _
          try simp only [Act.put, List.setIfInBounds_toArray, List.set_cons_zero, List.set_cons_succ, List.getElem_toArray, List.getElem_cons_zero, List.getElem_cons_succ]
          refine rest_ready (rs := [8]) (by kernel_rfl) (by simp) ?_
          refine AllRest.cons rfl (fun K hK => ?_) AllRest.nil
          have kGg := (hHeld.2.2).size
          have kG := blk_new_of (hHeld.2.2) 35 #[.int .i64 0, .int .i64 0]
          have hOld := (hHeld.2.2)
          go_simp
          refine hK.out _ _ ?_ (fun hHeld' => ?_)
          · exact (fun (hbel : Below W0.heap.size W0 _) => ⟨kY.below hbel kY.lt, kN.below hbel kN.lt, hbel⟩) ((hHeld.2.2).alloc (hHeld.2.2).size _)
          clear hK K
          change RestIn _ _ _ _ _ _ _ 2 #[true, true, true, true, true, true, true, true, true, false, false] _ _
          try simp only [Act.put, List.setIfInBounds_toArray, List.set_cons_zero, List.set_cons_succ, List.getElem_toArray, List.getElem_cons_zero, List.getElem_cons_succ]
          clear hHeld
          have hHeld := hHeld'
          clear hHeld'
          have hNow := (hHeld.2.2)
          try simp at kGg
          refine rest_ready (rs := [9]) (by kernel_rfl) (by simp) ?_
          refine AllRest.cons rfl (fun K hK => ?_) AllRest.nil
          have kGc0 := kG.cell 0
          have kGc1 := kG.cell 1
          have kGf0 := kG.frozen 0
          have kGf1 := kG.frozen 1
          have kGl := kG.lt
          try simp at kGc0
          try simp at kGc1
          try simp at kGf0
          try simp at kGf1
          try simp at kGl
          have hNow := (hHeld.2.2)
          go_simp
          refine hK.out _ _ ?_ (fun hHeld' => ?_)
          · (refine (fun (hbel : Below W0.heap.size W0 _) => ⟨kY.below hbel kY.lt, kN.below hbel kN.lt, hbel⟩) ?_; repeat' (first | with_reducible exact hNow | with_reducible exact hOld | with_reducible refine Below.setCell ?_ (by (try simp) <;> omega) _ | with_reducible refine Below.alloc ?_ (by (try simp) <;> omega) _))
          clear hK K
          change RestIn _ _ _ _ _ _ _ 1 #[true, true, true, true, true, true, true, true, true, true, false] _ _
          try simp only [Act.put, List.setIfInBounds_toArray, List.set_cons_zero, List.set_cons_succ, List.getElem_toArray, List.getElem_cons_zero, List.getElem_cons_succ]
          clear hHeld
          have hHeld := hHeld'
          clear hHeld'
          have hNow := (hHeld.2.2)
          refine rest_take (i := 10) (v := _) all_wide (noDefers_of (by kernel_rfl)) rfl (by kernel_rfl) (by kernel_rfl) (by kernel_rfl) (fun _ _ _ h => h) (Or.inl ⟨by rfl, by intro w hSw; clear hSw; go_simp; first | done | with_reducible rfl⟩) hHeld ?_
          change RestIn _ _ _ _ _ _ _ 0 #[true, true, true, true, true, true, true, true, true, true, true] _ _
          try simp only [Act.put, List.setIfInBounds_toArray, List.set_cons_zero, List.set_cons_succ, List.getElem_toArray, List.getElem_cons_zero, List.getElem_cons_succ]
          refine rest_done (by kernel_rfl) ?_
          go_wp2_with fail
          go_meet
          first | exact ⟨_, rfl, rfl, (kG.set_ 0 (.int .i64 lo)).set_ 1 (.int .i64 hi), hNow⟩ | exact ⟨_, rfl, rfl, Blk.new _ _ _, hNow⟩
        refine AllRest.cons rfl (fun K hK => ?_) ?_
        · have kGg := (hHeld.2.2).size
          have kG := blk_new_of (hHeld.2.2) 35 #[.int .i64 0, .int .i64 0]
          have hOld := (hHeld.2.2)
          go_simp
          refine hK.out _ _ ?_ (fun hHeld' => ?_)
          · exact (fun (hbel : Below W0.heap.size W0 _) => ⟨kY.below hbel kY.lt, kN.below hbel kN.lt, hbel⟩) ((hHeld.2.2).alloc (hHeld.2.2).size _)
          clear hK K
          change RestIn _ _ _ _ _ _ _ 6 #[true, true, true, true, false, false, false, false, true, false, false] _ _
          try simp only [Act.put, List.setIfInBounds_toArray, List.set_cons_zero, List.set_cons_succ, List.getElem_toArray, List.getElem_cons_zero, List.getElem_cons_succ]
          clear hHeld
          have hHeld := hHeld'
          clear hHeld'
          have hNow := (hHeld.2.2)
          try simp at kGg
          refine rest_ready (rs := [4]) (by kernel_rfl) (by simp) ?_
          refine AllRest.cons rfl (fun K hK => ?_) AllRest.nil
          have hNow := (hHeld.2.2)
          clear hLast
          have hLast := hNow
          go_simp
          gi_wp2_with ((refine ⟨trivial, ?_⟩; gi_at_call 27; (with_reducible refine (callsIn_wide.2 (HL.out _)).mono ?_); rintro e wn ⟨rfl, hb⟩))
          refine hK.out _ _ ?_ (fun hHeld' => ?_)
          · exact ⟨hHeld.1.below hb hHeld.1.lt, hHeld.2.1.below hb hHeld.2.1.lt, (hHeld.2.2).trans (hb.mono (hHeld.2.2).size)⟩
          clear hK K
          change RestIn _ _ _ _ _ _ _ 5 #[true, true, true, true, true, false, false, false, true, false, false] _ _
          try simp only [Act.put, List.setIfInBounds_toArray, List.set_cons_zero, List.set_cons_succ, List.getElem_toArray, List.getElem_cons_zero, List.getElem_cons_succ]
          clear hHeld
          have hHeld := hHeld'
          clear hHeld'
          have hNow := (hHeld.2.2)
          try have kG := kG.below hb kG.lt
          refine rest_take (i := 5) (v := _) all_wide (noDefers_of (by kernel_rfl)) rfl (by kernel_rfl) (by kernel_rfl) (by kernel_rfl) (fun _ _ _ h => h) (Or.inl ⟨by rfl, by intro w hSw; clear hSw; go_simp; first | done | with_reducible rfl⟩) hHeld ?_
          change RestIn _ _ _ _ _ _ _ 4 #[true, true, true, true, true, true, false, false, true, false, false] _ _
          try simp only [Act.put, List.setIfInBounds_toArray, List.set_cons_zero, List.set_cons_succ, List.getElem_toArray, List.getElem_cons_zero, List.getElem_cons_succ]
          refine rest_take (i := 6) (v := _) all_wide (noDefers_of (by kernel_rfl)) rfl (by kernel_rfl) (by kernel_rfl) (by kernel_rfl) (fun _ _ _ h => h) (Or.inl ⟨by rfl, by intro w hSw; clear hSw; go_simp; first | done | with_reducible rfl⟩) hHeld ?_
          change RestIn _ _ _ _ _ _ _ 3 #[true, true, true, true, true, true, true, false, true, false, false] _ _
          try simp only [Act.put, List.setIfInBounds_toArray, List.set_cons_zero, List.set_cons_succ, List.getElem_toArray, List.getElem_cons_zero, List.getElem_cons_succ]
          refine rest_take (i := 7) (v := _) all_wide (noDefers_of (by kernel_rfl)) rfl (by kernel_rfl) (by kernel_rfl) (by kernel_rfl) (fun _ _ _ h => h) (Or.inl ⟨by rfl, by intro w hSw; clear hSw; go_simp; first | done | with_reducible rfl⟩) hHeld ?_
          change RestIn _ _ _ _ _ _ _ 2 #[true, true, true, true, true, true, true, true, true, false, false] _ _
          try simp only [Act.put, List.setIfInBounds_toArray, List.set_cons_zero, List.set_cons_succ, List.getElem_toArray, List.getElem_cons_zero, List.getElem_cons_succ]
          refine rest_ready (rs := [9]) (by kernel_rfl) (by simp) ?_
          refine AllRest.cons rfl (fun K hK => ?_) AllRest.nil
          have kGc0 := kG.cell 0
          have kGc1 := kG.cell 1
          have kGf0 := kG.frozen 0
          have kGf1 := kG.frozen 1
          have kGl := kG.lt
          try simp at kGc0
          try simp at kGc1
          try simp at kGf0
          try simp at kGf1
          try simp at kGl
          have hNow := (hHeld.2.2)
          go_simp
          refine hK.out _ _ ?_ (fun hHeld' => ?_)
          · (refine (fun (hbel : Below W0.heap.size W0 _) => ⟨kY.below hbel kY.lt, kN.below hbel kN.lt, hbel⟩) ?_; repeat' (first | with_reducible exact hNow | with_reducible exact hOld | with_reducible refine Below.setCell ?_ (by (try simp) <;> omega) _ | with_reducible refine Below.alloc ?_ (by (try simp) <;> omega) _))
          clear hK K
          change RestIn _ _ _ _ _ _ _ 1 #[true, true, true, true, true, true, true, true, true, true, false] _ _
          try simp only [Act.put, List.setIfInBounds_toArray, List.set_cons_zero, List.set_cons_succ, List.getElem_toArray, List.getElem_cons_zero, List.getElem_cons_succ]
          clear hHeld
          have hHeld := hHeld'
          clear hHeld'
          have hNow := (hHeld.2.2)
          refine rest_take (i := 10) (v := _) all_wide (noDefers_of (by kernel_rfl)) rfl (by kernel_rfl) (by kernel_rfl) (by kernel_rfl) (fun _ _ _ h => h) (Or.inl ⟨by rfl, by intro w hSw; clear hSw; go_simp; first | done | with_reducible rfl⟩) hHeld ?_
          change RestIn _ _ _ _ _ _ _ 0 #[true, true, true, true, true, true, true, true, true, true, true] _ _
          try simp only [Act.put, List.setIfInBounds_toArray, List.set_cons_zero, List.set_cons_succ, List.getElem_toArray, List.getElem_cons_zero, List.getElem_cons_succ]
          refine rest_done (by kernel_rfl) ?_
          go_wp2_with fail
          go_meet
          first | exact ⟨_, rfl, rfl, (kG.set_ 0 (.int .i64 lo)).set_ 1 (.int .i64 hi), hNow⟩ | exact ⟨_, rfl, rfl, Blk.new _ _ _, hNow⟩
        exact AllRest.nil
      refine AllRest.cons rfl (fun K hK => ?_) ?_
      · have kGg := (hHeld.2.2).size
        have kG := blk_new_of (hHeld.2.2) 35 #[.int .i64 0, .int .i64 0]
        have hOld := (hHeld.2.2)
        go_simp
        refine hK.out _ _ ?_ (fun hHeld' => ?_)
        · exact (fun (hbel : Below W0.heap.size W0 _) => ⟨kY.below hbel kY.lt, kN.below hbel kN.lt, hbel⟩) ((hHeld.2.2).alloc (hHeld.2.2).size _)
        clear hK K
        change RestIn _ _ _ _ _ _ _ 7 #[true, true, true, false, false, false, false, false, true, false, false] _ _
        try simp only [Act.put, List.setIfInBounds_toArray, List.set_cons_zero, List.set_cons_succ, List.getElem_toArray, List.getElem_cons_zero, List.getElem_cons_succ]
        clear hHeld
        have hHeld := hHeld'
        clear hHeld'
        have hNow := (hHeld.2.2)
        try simp at kGg
        refine rest_ready (rs := [3]) (by kernel_rfl) (by simp) ?_
        refine AllRest.cons rfl (fun K hK => ?_) AllRest.nil
        have hNow := (hHeld.2.2)
        clear hLast
        have hLast := hNow
        go_simp
        gi_wp2_with ((refine ⟨trivial, ?_⟩; gi_at_call 28; (with_reducible refine (callsIn_wide.2 (lawNet_any _ _)).mono ?_); rintro e wn ⟨rfl, hb⟩))
        refine hK.out _ _ ?_ (fun hHeld' => ?_)
        · exact ⟨hHeld.1.below hb hHeld.1.lt, hHeld.2.1.below hb hHeld.2.1.lt, (hHeld.2.2).trans (hb.mono (hHeld.2.2).size)⟩
        clear hK K
        change RestIn _ _ _ _ _ _ _ 6 #[true, true, true, true, false, false, false, false, true, false, false] _ _
        try simp only [Act.put, List.setIfInBounds_toArray, List.set_cons_zero, List.set_cons_succ, List.getElem_toArray, List.getElem_cons_zero, List.getElem_cons_succ]
        clear hHeld
        have hHeld := hHeld'
        clear hHeld'
        have hNow := (hHeld.2.2)
        try have kG := kG.below hb kG.lt
        refine rest_ready (rs := [4]) (by kernel_rfl) (by simp) ?_
        refine AllRest.cons rfl (fun K hK => ?_) AllRest.nil
        have hNow := (hHeld.2.2)
        clear hLast
        have hLast := hNow
        go_simp
        gi_wp2_with ((refine ⟨trivial, ?_⟩; gi_at_call 27; (with_reducible refine (callsIn_wide.2 (HL.out _)).mono ?_); rintro e wn ⟨rfl, hb⟩))
        refine hK.out _ _ ?_ (fun hHeld' => ?_)
        · exact ⟨hHeld.1.below hb hHeld.1.lt, hHeld.2.1.below hb hHeld.2.1.lt, (hHeld.2.2).trans (hb.mono (hHeld.2.2).size)⟩
        clear hK K
        change RestIn _ _ _ _ _ _ _ 5 #[true, true, true, true, true, false, false, false, true, false, false] _ _
        try simp only [Act.put, List.setIfInBounds_toArray, List.set_cons_zero, List.set_cons_succ, List.getElem_toArray, List.getElem_cons_zero, List.getElem_cons_succ]
        clear hHeld
        have hHeld := hHeld'
        clear hHeld'
        have hNow := (hHeld.2.2)
        try have kG := kG.below hb kG.lt
        refine rest_take (i := 5) (v := _) all_wide (noDefers_of (by kernel_rfl)) rfl (by kernel_rfl) (by kernel_rfl) (by kernel_rfl) (fun _ _ _ h => h) (Or.inl ⟨by rfl, by intro w hSw; clear hSw; go_simp; first | done | with_reducible rfl⟩) hHeld ?_
        change RestIn _ _ _ _ _ _ _ 4 #[true, true, true, true, true, true, false, false, true, false, false] _ _
        try simp only [Act.put, List.setIfInBounds_toArray, List.set_cons_zero, List.set_cons_succ, List.getElem_toArray, List.getElem_cons_zero, List.getElem_cons_succ]
        refine rest_take (i := 6) (v := _) all_wide (noDefers_of (by kernel_rfl)) rfl (by kernel_rfl) (by kernel_rfl) (by kernel_rfl) (fun _ _ _ h => h) (Or.inl ⟨by rfl, by intro w hSw; clear hSw; go_simp; first | done | with_reducible rfl⟩) hHeld ?_
        change RestIn _ _ _ _ _ _ _ 3 #[true, true, true, true, true, true, true, false, true, false, false] _ _
        try simp only [Act.put, List.setIfInBounds_toArray, List.set_cons_zero, List.set_cons_succ, List.getElem_toArray, List.getElem_cons_zero, List.getElem_cons_succ]
        refine rest_take (i := 7) (v := _) all_wide (noDefers_of (by kernel_rfl)) rfl (by kernel_rfl) (by kernel_rfl) (by kernel_rfl) (fun _ _ _ h => h) (Or.inl ⟨by rfl, by intro w hSw; clear hSw; go_simp; first | done | with_reducible rfl⟩) hHeld ?_
        change RestIn _ _ _ _ _ _ _ 2 #[true, true, true, true, true, true, true, true, true, false, false] _ _
        try simp only [Act.put, List.setIfInBounds_toArray, List.set_cons_zero, List.set_cons_succ, List.getElem_toArray, List.getElem_cons_zero, List.getElem_cons_succ]
        refine rest_ready (rs := [9]) (by kernel_rfl) (by simp) ?_
        refine AllRest.cons rfl (fun K hK => ?_) AllRest.nil
        have kGc0 := kG.cell 0
        have kGc1 := kG.cell 1
        have kGf0 := kG.frozen 0
        have kGf1 := kG.frozen 1
        have kGl := kG.lt
        try simp at kGc0
        try simp at kGc1
        try simp at kGf0
        try simp at kGf1
        try simp at kGl
        have hNow := (hHeld.2.2)
        go_simp
        refine hK.out _ _ ?_ (fun hHeld' => ?_)
        · (refine (fun (hbel : Below W0.heap.size W0 _) => ⟨kY.below hbel kY.lt, kN.below hbel kN.lt, hbel⟩) ?_; repeat' (first | with_reducible exact hNow | with_reducible exact hOld | with_reducible refine Below.setCell ?_ (by (try simp) <;> omega) _ | with_reducible refine Below.alloc ?_ (by (try simp) <;> omega) _))
        clear hK K
        change RestIn _ _ _ _ _ _ _ 1 #[true, true, true, true, true, true, true, true, true, true, false] _ _
        try simp only [Act.put, List.setIfInBounds_toArray, List.set_cons_zero, List.set_cons_succ, List.getElem_toArray, List.getElem_cons_zero, List.getElem_cons_succ]
        clear hHeld
        have hHeld := hHeld'
        clear hHeld'
        have hNow := (hHeld.2.2)
        refine rest_take (i := 10) (v := _) all_wide (noDefers_of (by kernel_rfl)) rfl (by kernel_rfl) (by kernel_rfl) (by kernel_rfl) (fun _ _ _ h => h) (Or.inl ⟨by rfl, by intro w hSw; clear hSw; go_simp; first | done | with_reducible rfl⟩) hHeld ?_
        change RestIn _ _ _ _ _ _ _ 0 #[true, true, true, true, true, true, true, true, true, true, true] _ _
        try simp only [Act.put, List.setIfInBounds_toArray, List.set_cons_zero, List.set_cons_succ, List.getElem_toArray, List.getElem_cons_zero, List.getElem_cons_succ]
        refine rest_done (by kernel_rfl) ?_
        go_wp2_with fail
        go_meet
        first | exact ⟨_, rfl, rfl, (kG.set_ 0 (.int .i64 lo)).set_ 1 (.int .i64 hi), hNow⟩ | exact ⟨_, rfl, rfl, Blk.new _ _ _, hNow⟩
      exact AllRest.nil
    refine AllRest.cons rfl (fun K hK => ?_) ?_
    · have kGg := (hHeld.2.2).size
      have kG := blk_new_of (hHeld.2.2) 35 #[.int .i64 0, .int .i64 0]
      have hOld := (hHeld.2.2)
      go_simp
      refine hK.out _ _ ?_ (fun hHeld' => ?_)
      · exact (fun (hbel : Below W0.heap.size W0 _) => ⟨kY.below hbel kY.lt, kN.below hbel kN.lt, hbel⟩) ((hHeld.2.2).alloc (hHeld.2.2).size _)
      clear hK K
      change RestIn _ _ _ _ _ _ _ 8 #[true, false, true, false, false, false, false, false, true, false, false] _ _
      try simp only [Act.put, List.setIfInBounds_toArray, List.set_cons_zero, List.set_cons_succ, List.getElem_toArray, List.getElem_cons_zero, List.getElem_cons_succ]
      clear hHeld
      have hHeld := hHeld'
      clear hHeld'
      have hNow := (hHeld.2.2)
      try simp at kGg
      refine rest_ready (rs := [1]) (by kernel_rfl) (by simp) ?_
      refine AllRest.cons rfl (fun K hK => ?_) AllRest.nil
      have hNow := (hHeld.2.2)
      clear hLast
      have hLast := hNow
      go_simp
      gi_wp2_with ((refine ⟨trivial, ?_⟩; gi_at_call 17; (with_reducible refine (callsIn_wide.2 (lawFlyer_any _ _)).mono ?_); rintro e wn ⟨rfl, hb⟩))
      refine hK.out _ _ ?_ (fun hHeld' => ?_)
      · exact ⟨hHeld.1.below hb hHeld.1.lt, hHeld.2.1.below hb hHeld.2.1.lt, (hHeld.2.2).trans (hb.mono (hHeld.2.2).size)⟩
      clear hK K
      change RestIn _ _ _ _ _ _ _ 7 #[true, true, true, false, false, false, false, false, true, false, false] _ _
      try simp only [Act.put, List.setIfInBounds_toArray, List.set_cons_zero, List.set_cons_succ, List.getElem_toArray, List.getElem_cons_zero, List.getElem_cons_succ]
      clear hHeld
      have hHeld := hHeld'
      clear hHeld'
      have hNow := (hHeld.2.2)
      try have kG := kG.below hb kG.lt
      refine rest_ready (rs := [3]) (by kernel_rfl) (by simp) ?_
      refine AllRest.cons rfl (fun K hK => ?_) AllRest.nil
      have hNow := (hHeld.2.2)
      clear hLast
      have hLast := hNow
      go_simp
      gi_wp2_with ((refine ⟨trivial, ?_⟩; gi_at_call 28; (with_reducible refine (callsIn_wide.2 (lawNet_any _ _)).mono ?_); rintro e wn ⟨rfl, hb⟩))
      refine hK.out _ _ ?_ (fun hHeld' => ?_)
      · exact ⟨hHeld.1.below hb hHeld.1.lt, hHeld.2.1.below hb hHeld.2.1.lt, (hHeld.2.2).trans (hb.mono (hHeld.2.2).size)⟩
      clear hK K
      change RestIn _ _ _ _ _ _ _ 6 #[true, true, true, true, false, false, false, false, true, false, false] _ _
      try simp only [Act.put, List.setIfInBounds_toArray, List.set_cons_zero, List.set_cons_succ, List.getElem_toArray, List.getElem_cons_zero, List.getElem_cons_succ]
      clear hHeld
      have hHeld := hHeld'
      clear hHeld'
      have hNow := (hHeld.2.2)
      try have kG := kG.below hb kG.lt
      refine rest_ready (rs := [4]) (by kernel_rfl) (by simp) ?_
      refine AllRest.cons rfl (fun K hK => ?_) AllRest.nil
      have hNow := (hHeld.2.2)
      clear hLast
      have hLast := hNow
      go_simp
      gi_wp2_with ((refine ⟨trivial, ?_⟩; gi_at_call 27; (with_reducible refine (callsIn_wide.2 (HL.out _)).mono ?_); rintro e wn ⟨rfl, hb⟩))
      refine hK.out _ _ ?_ (fun hHeld' => ?_)
      · exact ⟨hHeld.1.below hb hHeld.1.lt, hHeld.2.1.below hb hHeld.2.1.lt, (hHeld.2.2).trans (hb.mono (hHeld.2.2).size)⟩
      clear hK K
      change RestIn _ _ _ _ _ _ _ 5 #[true, true, true, true, true, false, false, false, true, false, false] _ _
      try simp only [Act.put, List.setIfInBounds_toArray, List.set_cons_zero, List.set_cons_succ, List.getElem_toArray, List.getElem_cons_zero, List.getElem_cons_succ]
      clear hHeld
      have hHeld := hHeld'
      clear hHeld'
      have hNow := (hHeld.2.2)
      try have kG := kG.below hb kG.lt
      refine rest_take (i := 5) (v := _) all_wide (noDefers_of (by kernel_rfl)) rfl (by kernel_rfl) (by kernel_rfl) (by kernel_rfl) (fun _ _ _ h => h) (Or.inl ⟨by rfl, by intro w hSw; clear hSw; go_simp; first | done | with_reducible rfl⟩) hHeld ?_
      change RestIn _ _ _ _ _ _ _ 4 #[true, true, true, true, true, true, false, false, true, false, false] _ _
      try simp only [Act.put, List.setIfInBounds_toArray, List.set_cons_zero, List.set_cons_succ, List.getElem_toArray, List.getElem_cons_zero, List.getElem_cons_succ]
      refine rest_take (i := 6) (v := _) all_wide (noDefers_of (by kernel_rfl)) rfl (by kernel_rfl) (by kernel_rfl) (by kernel_rfl) (fun _ _ _ h => h) (Or.inl ⟨by rfl, by intro w hSw; clear hSw; go_simp; first | done | with_reducible rfl⟩) hHeld ?_
      change RestIn _ _ _ _ _ _ _ 3 #[true, true, true, true, true, true, true, false, true, false, false] _ _
      try simp only [Act.put, List.setIfInBounds_toArray, List.set_cons_zero, List.set_cons_succ, List.getElem_toArray, List.getElem_cons_zero, List.getElem_cons_succ]
      refine rest_take (i := 7) (v := _) all_wide (noDefers_of (by kernel_rfl)) rfl (by kernel_rfl) (by kernel_rfl) (by kernel_rfl) (fun _ _ _ h => h) (Or.inl ⟨by rfl, by intro w hSw; clear hSw; go_simp; first | done | with_reducible rfl⟩) hHeld ?_
      change RestIn _ _ _ _ _ _ _ 2 #[true, true, true, true, true, true, true, true, true, false, false] _ _
      try simp only [Act.put, List.setIfInBounds_toArray, List.set_cons_zero, List.set_cons_succ, List.getElem_toArray, List.getElem_cons_zero, List.getElem_cons_succ]
      refine rest_ready (rs := [9]) (by kernel_rfl) (by simp) ?_
      refine AllRest.cons rfl (fun K hK => ?_) AllRest.nil
      have kGc0 := kG.cell 0
      have kGc1 := kG.cell 1
      have kGf0 := kG.frozen 0
      have kGf1 := kG.frozen 1
      have kGl := kG.lt
      try simp at kGc0
      try simp at kGc1
      try simp at kGf0
      try simp at kGf1
      try simp at kGl
      have hNow := (hHeld.2.2)
      go_simp
      refine hK.out _ _ ?_ (fun hHeld' => ?_)
      · (refine (fun (hbel : Below W0.heap.size W0 _) => ⟨kY.below hbel kY.lt, kN.below hbel kN.lt, hbel⟩) ?_; repeat' (first | with_reducible exact hNow | with_reducible exact hOld | with_reducible refine Below.setCell ?_ (by (try simp) <;> omega) _ | with_reducible refine Below.alloc ?_ (by (try simp) <;> omega) _))
      clear hK K
      change RestIn _ _ _ _ _ _ _ 1 #[true, true, true, true, true, true, true, true, true, true, false] _ _
      try simp only [Act.put, List.setIfInBounds_toArray, List.set_cons_zero, List.set_cons_succ, List.getElem_toArray, List.getElem_cons_zero, List.getElem_cons_succ]
      clear hHeld
      have hHeld := hHeld'
      clear hHeld'
      have hNow := (hHeld.2.2)
      refine rest_take (i := 10) (v := _) all_wide (noDefers_of (by kernel_rfl)) rfl (by kernel_rfl) (by kernel_rfl) (by kernel_rfl) (fun _ _ _ h => h) (Or.inl ⟨by rfl, by intro w hSw; clear hSw; go_simp; first | done | with_reducible rfl⟩) hHeld ?_
      change RestIn _ _ _ _ _ _ _ 0 #[true, true, true, true, true, true, true, true, true, true, true] _ _
      try simp only [Act.put, List.setIfInBounds_toArray, List.set_cons_zero, List.set_cons_succ, List.getElem_toArray, List.getElem_cons_zero, List.getElem_cons_succ]
      refine rest_done (by kernel_rfl) ?_
      go_wp2_with fail
      go_meet
      first | exact ⟨_, rfl, rfl, (kG.set_ 0 (.int .i64 lo)).set_ 1 (.int .i64 hi), hNow⟩ | exact ⟨_, rfl, rfl, Blk.new _ _ _, hNow⟩
    exact AllRest.nil
  case rest =>
    obtain ⟨g, rfl, rfl, kR, hX⟩ := hcut
    have kY1 := kY.below hX kY.lt
    have kN1 := kN.below hX kN.lt
    have kD1 := kD.below hX kD.lt
    have HB1 := Lib.hid (HB0.out.trans (hX.mono HB0.out.size))
    clear kY kN kD HB0
    go_upto_region 9 with fail
    refine name_world (motive := fun W => Code.wp _ _ _ _ W) _ ?_
    intro W0 hW
    have hWc := hW.cell
    have hWz := hW.size
    have hWb := hW.below (hX)
    have kY := hW.blk kY1
    have kN := hW.blk kN1
    have kD := hW.blk kD1
    have kG := hW.blk kR
    have HB0 := Lib.hid (HB1.out.trans ((hW.below (Below.refl _ _)).mono HB1.out.size))
    clear HB1 hW hWc hWz hWb hX kY1 kN1 kD1 kR
    refine (wpIn_wide (n := 9)).1 ?_
    have hLast := trivial
    refine region_rest (S := (fun w' => Blk w' (w.heap.size) 27 #[.int .i64 f.pos.x.lo, .int .i64 f.pos.x.hi, .int .i64 f.pos.z.lo, .int .i64 f.pos.z.hi, .int .i64 f.speed.x.lo, .int .i64 f.speed.x.hi, .int .i64 f.speed.z.lo, .int .i64 f.speed.z.hi, .int .i64 f.mass] ∧ Blk w' (w.heap.size + 1) 60 #[.int .i64 n.x.lo, .int .i64 n.x.hi, .int .i64 n.height] ∧ Blk w' (w.heap.size + 1 + 1) 74 #[.int .u16 a0, .int .u16 a1, .int .u16 a2, .int .u16 a3] ∧ Blk w' (g) 35 #[.int .i64 lo, .int .i64 hi] ∧ Below W0.heap.size W0 w')) hmx ?_ (fun hHeld => ?_)
    · exact ⟨kY.drew, kN.drew, kD.drew, kG.drew, (Below.refl W0.heap.size W0).drew⟩
    change RestIn _ _ _ _ _ _ _ 14 #[false, false, false, false, false, false, false, false, false, false, false, false, false, false] _ (World.drew _)
    refine rest_take (i := 0) (v := _) all_wide (noDefers_of (by kernel_rfl)) rfl (by kernel_rfl) (by kernel_rfl) (by kernel_rfl) (fun _ _ _ h => h) (Or.inl ⟨by rfl, by intro w hSw; clear hSw; go_simp; first | done | with_reducible rfl⟩) hHeld ?_
    change RestIn _ _ _ _ _ _ _ 13 #[true, false, false, false, false, false, false, false, false, false, false, false, false, false] _ _
    try simp only [Act.put, List.setIfInBounds_toArray, List.set_cons_zero, List.set_cons_succ, List.getElem_toArray, List.getElem_cons_zero, List.getElem_cons_succ]
    refine rest_take (i := 1) (v := _) all_wide (noDefers_of (by kernel_rfl)) rfl (by kernel_rfl) (by kernel_rfl) (by kernel_rfl) (fun _ _ _ h => h) (Or.inl ⟨by rfl, by intro w hSw; clear hSw; go_simp; first | done | with_reducible rfl⟩) hHeld ?_
    change RestIn _ _ _ _ _ _ _ 12 #[true, true, false, false, false, false, false, false, false, false, false, false, false, false] _ _
    try simp only [Act.put, List.setIfInBounds_toArray, List.set_cons_zero, List.set_cons_succ, List.getElem_toArray, List.getElem_cons_zero, List.getElem_cons_succ]
    refine rest_take (i := 2) (v := _) all_wide (noDefers_of (by kernel_rfl)) rfl (by kernel_rfl) (by kernel_rfl) (by kernel_rfl) (fun _ _ _ h => h) (Or.inl ⟨by rfl, by intro w hSw; (obtain ⟨q0, q1, q2, q3, _⟩ := hSw; have q0x0 := q0.cell 0; have q0x1 := q0.cell 1; have q0x2 := q0.cell 2; have q0x3 := q0.cell 3; have q0x4 := q0.cell 4; have q0x5 := q0.cell 5; have q0x6 := q0.cell 6; have q0x7 := q0.cell 7; have q0x8 := q0.cell 8; have q1x0 := q1.cell 0; have q1x1 := q1.cell 1; have q1x2 := q1.cell 2; have q2x0 := q2.cell 0; have q2x1 := q2.cell 1; have q2x2 := q2.cell 2; have q2x3 := q2.cell 3; have q3x0 := q3.cell 0; have q3x1 := q3.cell 1; simp at q0x0 q0x1 q0x2 q0x3 q0x4 q0x5 q0x6 q0x7 q0x8 q1x0 q1x1 q1x2 q2x0 q2x1 q2x2 q2x3 q3x0 q3x1); go_simp; first | done | with_reducible rfl⟩) hHeld ?_
    change RestIn _ _ _ _ _ _ _ 11 #[true, true, true, false, false, false, false, false, false, false, false, false, false, false] _ _
    try simp only [Act.put, List.setIfInBounds_toArray, List.set_cons_zero, List.set_cons_succ, List.getElem_toArray, List.getElem_cons_zero, List.getElem_cons_succ]
    refine rest_take (i := 3) (v := _) all_wide (noDefers_of (by kernel_rfl)) rfl (by kernel_rfl) (by kernel_rfl) (by kernel_rfl) (fun _ _ _ h => h) (Or.inl ⟨by rfl, by intro w hSw; clear hSw; go_simp; first | done | with_reducible rfl⟩) hHeld ?_
    change RestIn _ _ _ _ _ _ _ 10 #[true, true, true, true, false, false, false, false, false, false, false, false, false, false] _ _
    try simp only [Act.put, List.setIfInBounds_toArray, List.set_cons_zero, List.set_cons_succ, List.getElem_toArray, List.getElem_cons_zero, List.getElem_cons_succ]
    refine rest_take (i := 4) (v := _) all_wide (noDefers_of (by kernel_rfl)) rfl (by kernel_rfl) (by kernel_rfl) (by kernel_rfl) (fun _ _ _ h => h) (Or.inl ⟨by rfl, by intro w hSw; (obtain ⟨q0, q1, q2, q3, _⟩ := hSw; have q0x0 := q0.cell 0; have q0x1 := q0.cell 1; have q0x2 := q0.cell 2; have q0x3 := q0.cell 3; have q0x4 := q0.cell 4; have q0x5 := q0.cell 5; have q0x6 := q0.cell 6; have q0x7 := q0.cell 7; have q0x8 := q0.cell 8; have q1x0 := q1.cell 0; have q1x1 := q1.cell 1; have q1x2 := q1.cell 2; have q2x0 := q2.cell 0; have q2x1 := q2.cell 1; have q2x2 := q2.cell 2; have q2x3 := q2.cell 3; have q3x0 := q3.cell 0; have q3x1 := q3.cell 1; simp at q0x0 q0x1 q0x2 q0x3 q0x4 q0x5 q0x6 q0x7 q0x8 q1x0 q1x1 q1x2 q2x0 q2x1 q2x2 q2x3 q3x0 q3x1); go_simp; first | done | with_reducible rfl⟩) hHeld ?_
    change RestIn _ _ _ _ _ _ _ 9 #[true, true, true, true, true, false, false, false, false, false, false, false, false, false] _ _
    try simp only [Act.put, List.setIfInBounds_toArray, List.set_cons_zero, List.set_cons_succ, List.getElem_toArray, List.getElem_cons_zero, List.getElem_cons_succ]
    refine rest_take (i := 6) (v := _) all_wide (noDefers_of (by kernel_rfl)) rfl (by kernel_rfl) (by kernel_rfl) (by kernel_rfl) (fun _ _ _ h => h) (Or.inl ⟨by rfl, by intro w hSw; clear hSw; go_simp; first | done | with_reducible rfl⟩) hHeld ?_
    change RestIn _ _ _ _ _ _ _ 8 #[true, true, true, true, true, false, true, false, false, false, false, false, false, false] _ _
    try simp only [Act.put, List.setIfInBounds_toArray, List.set_cons_zero, List.set_cons_succ, List.getElem_toArray, List.getElem_cons_zero, List.getElem_cons_succ]
    refine rest_take (i := 7) (v := _) all_wide (noDefers_of (by kernel_rfl)) rfl (by kernel_rfl) (by kernel_rfl) (by kernel_rfl) (fun _ _ _ h => h) (Or.inl ⟨by rfl, by intro w hSw; clear hSw; go_simp; first | done | with_reducible rfl⟩) hHeld ?_
    change RestIn _ _ _ _ _ _ _ 7 #[true, true, true, true, true, false, true, true, false, false, false, false, false, false] _ _
    try simp only [Act.put, List.setIfInBounds_toArray, List.set_cons_zero, List.set_cons_succ, List.getElem_toArray, List.getElem_cons_zero, List.getElem_cons_succ]
    refine rest_take (i := 8) (v := _) all_wide (noDefers_of (by kernel_rfl)) rfl (by kernel_rfl) (by kernel_rfl) (by kernel_rfl) (fun _ _ _ h => h) (Or.inl ⟨by rfl, by intro w hSw; (obtain ⟨q0, q1, q2, q3, _⟩ := hSw; have q0x0 := q0.cell 0; have q0x1 := q0.cell 1; have q0x2 := q0.cell 2; have q0x3 := q0.cell 3; have q0x4 := q0.cell 4; have q0x5 := q0.cell 5; have q0x6 := q0.cell 6; have q0x7 := q0.cell 7; have q0x8 := q0.cell 8; have q1x0 := q1.cell 0; have q1x1 := q1.cell 1; have q1x2 := q1.cell 2; have q2x0 := q2.cell 0; have q2x1 := q2.cell 1; have q2x2 := q2.cell 2; have q2x3 := q2.cell 3; have q3x0 := q3.cell 0; have q3x1 := q3.cell 1; simp at q0x0 q0x1 q0x2 q0x3 q0x4 q0x5 q0x6 q0x7 q0x8 q1x0 q1x1 q1x2 q2x0 q2x1 q2x2 q2x3 q3x0 q3x1); go_simp; first | done | with_reducible rfl⟩) hHeld ?_
    change RestIn _ _ _ _ _ _ _ 6 #[true, true, true, true, true, false, true, true, true, false, false, false, false, false] _ _
    try simp only [Act.put, List.setIfInBounds_toArray, List.set_cons_zero, List.set_cons_succ, List.getElem_toArray, List.getElem_cons_zero, List.getElem_cons_succ]
    refine rest_take (i := 9) (v := _) all_wide (noDefers_of (by kernel_rfl)) rfl (by kernel_rfl) (by kernel_rfl) (by kernel_rfl) (fun _ _ _ h => h) (Or.inl ⟨by rfl, by intro w hSw; clear hSw; go_simp; first | done | with_reducible rfl⟩) hHeld ?_
    change RestIn _ _ _ _ _ _ _ 5 #[true, true, true, true, true, false, true, true, true, true, false, false, false, false] _ _
    try simp only [Act.put, List.setIfInBounds_toArray, List.set_cons_zero, List.set_cons_succ, List.getElem_toArray, List.getElem_cons_zero, List.getElem_cons_succ]
    refine rest_take (i := 10) (v := _) all_wide (noDefers_of (by kernel_rfl)) rfl (by kernel_rfl) (by kernel_rfl) (by kernel_rfl) (fun _ _ _ h => h) (Or.inl ⟨by rfl, by intro w hSw; (obtain ⟨q0, q1, q2, q3, _⟩ := hSw; have q0x0 := q0.cell 0; have q0x1 := q0.cell 1; have q0x2 := q0.cell 2; have q0x3 := q0.cell 3; have q0x4 := q0.cell 4; have q0x5 := q0.cell 5; have q0x6 := q0.cell 6; have q0x7 := q0.cell 7; have q0x8 := q0.cell 8; have q1x0 := q1.cell 0; have q1x1 := q1.cell 1; have q1x2 := q1.cell 2; have q2x0 := q2.cell 0; have q2x1 := q2.cell 1; have q2x2 := q2.cell 2; have q2x3 := q2.cell 3; have q3x0 := q3.cell 0; have q3x1 := q3.cell 1; simp at q0x0 q0x1 q0x2 q0x3 q0x4 q0x5 q0x6 q0x7 q0x8 q1x0 q1x1 q1x2 q2x0 q2x1 q2x2 q2x3 q3x0 q3x1); go_simp; first | done | with_reducible rfl⟩) hHeld ?_
    change RestIn _ _ _ _ _ _ _ 4 #[true, true, true, true, true, false, true, true, true, true, true, false, false, false] _ _
    try simp only [Act.put, List.setIfInBounds_toArray, List.set_cons_zero, List.set_cons_succ, List.getElem_toArray, List.getElem_cons_zero, List.getElem_cons_succ]
    refine rest_ready (rs := [5]) (by kernel_rfl) (by simp) ?_
    refine AllRest.cons rfl (fun K hK => ?_) AllRest.nil
    have hNow := (hHeld.2.2.2.2)
    clear hLast
    have hLast := hNow
    go_simp
    gi_wp2_with ((refine ⟨trivial, ?_⟩; gi_at_call 34; (with_reducible refine (callsIn_wide.2 (HPx.out _)).mono ?_); rintro e wn ⟨rfl, hb⟩))
    refine hK.out _ _ ?_ (fun hHeld' => ?_)
    · exact ⟨hHeld.1.below hb hHeld.1.lt, hHeld.2.1.below hb hHeld.2.1.lt, hHeld.2.2.1.below hb hHeld.2.2.1.lt, hHeld.2.2.2.1.below hb hHeld.2.2.2.1.lt, (hHeld.2.2.2.2).trans (hb.mono (hHeld.2.2.2.2).size)⟩
    clear hK K
    change RestIn _ _ _ _ _ _ _ 3 #[true, true, true, true, true, true, true, true, true, true, true, false, false, false] _ _
    try simp only [Act.put, List.setIfInBounds_toArray, List.set_cons_zero, List.set_cons_succ, List.getElem_toArray, List.getElem_cons_zero, List.getElem_cons_succ]
    clear hHeld
    have hHeld := hHeld'
    clear hHeld'
    have hNow := (hHeld.2.2.2.2)
    refine rest_ready (rs := [11]) (by kernel_rfl) (by simp) ?_
    refine AllRest.cons rfl (fun K hK => ?_) AllRest.nil
    have hNow := (hHeld.2.2.2.2)
    clear hLast
    have hLast := hNow
    go_simp
    gi_wp2_with ((refine ⟨trivial, ?_⟩; gi_at_call 34; (with_reducible refine (callsIn_wide.2 (HPz.out _)).mono ?_); rintro e wn ⟨rfl, hb⟩))
    refine hK.out _ _ ?_ (fun hHeld' => ?_)
    · exact ⟨hHeld.1.below hb hHeld.1.lt, hHeld.2.1.below hb hHeld.2.1.lt, hHeld.2.2.1.below hb hHeld.2.2.1.lt, hHeld.2.2.2.1.below hb hHeld.2.2.2.1.lt, (hHeld.2.2.2.2).trans (hb.mono (hHeld.2.2.2.2).size)⟩
    clear hK K
    change RestIn _ _ _ _ _ _ _ 2 #[true, true, true, true, true, true, true, true, true, true, true, true, false, false] _ _
    try simp only [Act.put, List.setIfInBounds_toArray, List.set_cons_zero, List.set_cons_succ, List.getElem_toArray, List.getElem_cons_zero, List.getElem_cons_succ]
    clear hHeld
    have hHeld := hHeld'
    clear hHeld'
    have hNow := (hHeld.2.2.2.2)
    refine rest_take (i := 12) (v := _) all_wide (noDefers_of (by kernel_rfl)) rfl (by kernel_rfl) (by kernel_rfl) (by kernel_rfl) (fun _ _ _ h => h) (Or.inl ⟨by rfl, by intro w hSw; clear hSw; go_simp; first | done | with_reducible rfl⟩) hHeld ?_
    change RestIn _ _ _ _ _ _ _ 1 #[true, true, true, true, true, true, true, true, true, true, true, true, true, false] _ _
    try simp only [Act.put, List.setIfInBounds_toArray, List.set_cons_zero, List.set_cons_succ, List.getElem_toArray, List.getElem_cons_zero, List.getElem_cons_succ]
    refine rest_take (i := 13) (v := _) all_wide (noDefers_of (by kernel_rfl)) rfl (by kernel_rfl) (by kernel_rfl) (by kernel_rfl) (fun _ _ _ h => h) (Or.inl ⟨by rfl, by intro w hSw; clear hSw; go_simp; first | done | with_reducible rfl⟩) hHeld ?_
    change RestIn _ _ _ _ _ _ _ 0 #[true, true, true, true, true, true, true, true, true, true, true, true, true, true] _ _
    try simp only [Act.put, List.setIfInBounds_toArray, List.set_cons_zero, List.set_cons_succ, List.getElem_toArray, List.getElem_cons_zero, List.getElem_cons_succ]
    refine rest_done (by kernel_rfl) ?_
    clear hLast
    obtain ⟨kY1, kN1, kD1, kG1, hX⟩ := hHeld
    clear hNow kY kN kD kG
    go_upto_region 10 with fail
    refine name_world (motive := fun W => Code.wp _ _ _ _ W) _ ?_
    intro W0 hW
    have hWc := hW.cell
    have hWz := hW.size
    have hWb := hW.below (hX)
    have kY := hW.blk kY1
    have kN := hW.blk kN1
    have kD := hW.blk kD1
    have kG := hW.blk kG1
    have HB1 := Lib.hid (HB0.out.trans (hWb.mono HB0.out.size))
    clear HB0 hW hWc hWz hWb hX kY1 kN1 kD1 kG1
    refine (wpIn_wide (n := 9)).1 ?_
    have hLast := trivial
    refine region_rest (S := (fun w' => Blk w' (w.heap.size) 27 #[.int .i64 f.pos.x.lo, .int .i64 f.pos.x.hi, .int .i64 f.pos.z.lo, .int .i64 f.pos.z.hi, .int .i64 f.speed.x.lo, .int .i64 f.speed.x.hi, .int .i64 f.speed.z.lo, .int .i64 f.speed.z.hi, .int .i64 f.mass] ∧ Blk w' (w.heap.size + 1) 60 #[.int .i64 n.x.lo, .int .i64 n.x.hi, .int .i64 n.height] ∧ Blk w' (w.heap.size + 1 + 1) 74 #[.int .u16 a0, .int .u16 a1, .int .u16 a2, .int .u16 a3] ∧ Blk w' (g) 35 #[.int .i64 lo, .int .i64 hi] ∧ Below W0.heap.size W0 w')) hmx ?_ (fun hHeld => ?_)
    · exact ⟨kY.drew, kN.drew, kD.drew, kG.drew, (Below.refl W0.heap.size W0).drew⟩
    change RestIn _ _ _ _ _ _ _ 14 #[false, false, false, false, false, false, false, false, false, false, false, false, false, false] _ (World.drew _)
    refine rest_take (i := 0) (v := _) all_wide (noDefers_of (by kernel_rfl)) rfl (by kernel_rfl) (by kernel_rfl) (by kernel_rfl) (fun _ _ _ h => h) (Or.inl ⟨by rfl, by intro w hSw; clear hSw; go_simp; first | done | with_reducible rfl⟩) hHeld ?_
    change RestIn _ _ _ _ _ _ _ 13 #[true, false, false, false, false, false, false, false, false, false, false, false, false, false] _ _
    try simp only [Act.put, List.setIfInBounds_toArray, List.set_cons_zero, List.set_cons_succ, List.getElem_toArray, List.getElem_cons_zero, List.getElem_cons_succ]
    refine rest_take (i := 1) (v := _) all_wide (noDefers_of (by kernel_rfl)) rfl (by kernel_rfl) (by kernel_rfl) (by kernel_rfl) (fun _ _ _ h => h) (Or.inl ⟨by rfl, by intro w hSw; clear hSw; go_simp; first | done | with_reducible rfl⟩) hHeld ?_
    change RestIn _ _ _ _ _ _ _ 12 #[true, true, false, false, false, false, false, false, false, false, false, false, false, false] _ _
    try simp only [Act.put, List.setIfInBounds_toArray, List.set_cons_zero, List.set_cons_succ, List.getElem_toArray, List.getElem_cons_zero, List.getElem_cons_succ]
    refine rest_take (i := 2) (v := _) all_wide (noDefers_of (by kernel_rfl)) rfl (by kernel_rfl) (by kernel_rfl) (by kernel_rfl) (fun _ _ _ h => h) (Or.inl ⟨by rfl, by intro w hSw; (obtain ⟨q0, q1, q2, q3, _⟩ := hSw; have q0x0 := q0.cell 0; have q0x1 := q0.cell 1; have q0x2 := q0.cell 2; have q0x3 := q0.cell 3; have q0x4 := q0.cell 4; have q0x5 := q0.cell 5; have q0x6 := q0.cell 6; have q0x7 := q0.cell 7; have q0x8 := q0.cell 8; have q1x0 := q1.cell 0; have q1x1 := q1.cell 1; have q1x2 := q1.cell 2; have q2x0 := q2.cell 0; have q2x1 := q2.cell 1; have q2x2 := q2.cell 2; have q2x3 := q2.cell 3; have q3x0 := q3.cell 0; have q3x1 := q3.cell 1; simp at q0x0 q0x1 q0x2 q0x3 q0x4 q0x5 q0x6 q0x7 q0x8 q1x0 q1x1 q1x2 q2x0 q2x1 q2x2 q2x3 q3x0 q3x1); go_simp; first | done | with_reducible rfl⟩) hHeld ?_
    change RestIn _ _ _ _ _ _ _ 11 #[true, true, true, false, false, false, false, false, false, false, false, false, false, false] _ _
    try simp only [Act.put, List.setIfInBounds_toArray, List.set_cons_zero, List.set_cons_succ, List.getElem_toArray, List.getElem_cons_zero, List.getElem_cons_succ]
    refine rest_take (i := 3) (v := _) all_wide (noDefers_of (by kernel_rfl)) rfl (by kernel_rfl) (by kernel_rfl) (by kernel_rfl) (fun _ _ _ h => h) (Or.inl ⟨by rfl, by intro w hSw; clear hSw; go_simp; first | done | with_reducible rfl⟩) hHeld ?_
    change RestIn _ _ _ _ _ _ _ 10 #[true, true, true, true, false, false, false, false, false, false, false, false, false, false] _ _
    try simp only [Act.put, List.setIfInBounds_toArray, List.set_cons_zero, List.set_cons_succ, List.getElem_toArray, List.getElem_cons_zero, List.getElem_cons_succ]
    refine rest_take (i := 4) (v := _) all_wide (noDefers_of (by kernel_rfl)) rfl (by kernel_rfl) (by kernel_rfl) (by kernel_rfl) (fun _ _ _ h => h) (Or.inl ⟨by rfl, by intro w hSw; (obtain ⟨q0, q1, q2, q3, _⟩ := hSw; have q0x0 := q0.cell 0; have q0x1 := q0.cell 1; have q0x2 := q0.cell 2; have q0x3 := q0.cell 3; have q0x4 := q0.cell 4; have q0x5 := q0.cell 5; have q0x6 := q0.cell 6; have q0x7 := q0.cell 7; have q0x8 := q0.cell 8; have q1x0 := q1.cell 0; have q1x1 := q1.cell 1; have q1x2 := q1.cell 2; have q2x0 := q2.cell 0; have q2x1 := q2.cell 1; have q2x2 := q2.cell 2; have q2x3 := q2.cell 3; have q3x0 := q3.cell 0; have q3x1 := q3.cell 1; simp at q0x0 q0x1 q0x2 q0x3 q0x4 q0x5 q0x6 q0x7 q0x8 q1x0 q1x1 q1x2 q2x0 q2x1 q2x2 q2x3 q3x0 q3x1); go_simp; first | done | with_reducible rfl⟩) hHeld ?_
    change RestIn _ _ _ _ _ _ _ 9 #[true, true, true, true, true, false, false, false, false, false, false, false, false, false] _ _
    try simp only [Act.put, List.setIfInBounds_toArray, List.set_cons_zero, List.set_cons_succ, List.getElem_toArray, List.getElem_cons_zero, List.getElem_cons_succ]
    refine rest_take (i := 6) (v := _) all_wide (noDefers_of (by kernel_rfl)) rfl (by kernel_rfl) (by kernel_rfl) (by kernel_rfl) (fun _ _ _ h => h) (Or.inl ⟨by rfl, by intro w hSw; clear hSw; go_simp; first | done | with_reducible rfl⟩) hHeld ?_
    change RestIn _ _ _ _ _ _ _ 8 #[true, true, true, true, true, false, true, false, false, false, false, false, false, false] _ _
    try simp only [Act.put, List.setIfInBounds_toArray, List.set_cons_zero, List.set_cons_succ, List.getElem_toArray, List.getElem_cons_zero, List.getElem_cons_succ]
    refine rest_take (i := 7) (v := _) all_wide (noDefers_of (by kernel_rfl)) rfl (by kernel_rfl) (by kernel_rfl) (by kernel_rfl) (fun _ _ _ h => h) (Or.inl ⟨by rfl, by intro w hSw; clear hSw; go_simp; first | done | with_reducible rfl⟩) hHeld ?_
    change RestIn _ _ _ _ _ _ _ 7 #[true, true, true, true, true, false, true, true, false, false, false, false, false, false] _ _
    try simp only [Act.put, List.setIfInBounds_toArray, List.set_cons_zero, List.set_cons_succ, List.getElem_toArray, List.getElem_cons_zero, List.getElem_cons_succ]
    refine rest_take (i := 8) (v := _) all_wide (noDefers_of (by kernel_rfl)) rfl (by kernel_rfl) (by kernel_rfl) (by kernel_rfl) (fun _ _ _ h => h) (Or.inl ⟨by rfl, by intro w hSw; (obtain ⟨q0, q1, q2, q3, _⟩ := hSw; have q0x0 := q0.cell 0; have q0x1 := q0.cell 1; have q0x2 := q0.cell 2; have q0x3 := q0.cell 3; have q0x4 := q0.cell 4; have q0x5 := q0.cell 5; have q0x6 := q0.cell 6; have q0x7 := q0.cell 7; have q0x8 := q0.cell 8; have q1x0 := q1.cell 0; have q1x1 := q1.cell 1; have q1x2 := q1.cell 2; have q2x0 := q2.cell 0; have q2x1 := q2.cell 1; have q2x2 := q2.cell 2; have q2x3 := q2.cell 3; have q3x0 := q3.cell 0; have q3x1 := q3.cell 1; simp at q0x0 q0x1 q0x2 q0x3 q0x4 q0x5 q0x6 q0x7 q0x8 q1x0 q1x1 q1x2 q2x0 q2x1 q2x2 q2x3 q3x0 q3x1); go_simp; first | done | with_reducible rfl⟩) hHeld ?_
    change RestIn _ _ _ _ _ _ _ 6 #[true, true, true, true, true, false, true, true, true, false, false, false, false, false] _ _
    try simp only [Act.put, List.setIfInBounds_toArray, List.set_cons_zero, List.set_cons_succ, List.getElem_toArray, List.getElem_cons_zero, List.getElem_cons_succ]
    refine rest_take (i := 9) (v := _) all_wide (noDefers_of (by kernel_rfl)) rfl (by kernel_rfl) (by kernel_rfl) (by kernel_rfl) (fun _ _ _ h => h) (Or.inl ⟨by rfl, by intro w hSw; clear hSw; go_simp; first | done | with_reducible rfl⟩) hHeld ?_
    change RestIn _ _ _ _ _ _ _ 5 #[true, true, true, true, true, false, true, true, true, true, false, false, false, false] _ _
    try simp only [Act.put, List.setIfInBounds_toArray, List.set_cons_zero, List.set_cons_succ, List.getElem_toArray, List.getElem_cons_zero, List.getElem_cons_succ]
    refine rest_take (i := 10) (v := _) all_wide (noDefers_of (by kernel_rfl)) rfl (by kernel_rfl) (by kernel_rfl) (by kernel_rfl) (fun _ _ _ h => h) (Or.inl ⟨by rfl, by intro w hSw; (obtain ⟨q0, q1, q2, q3, _⟩ := hSw; have q0x0 := q0.cell 0; have q0x1 := q0.cell 1; have q0x2 := q0.cell 2; have q0x3 := q0.cell 3; have q0x4 := q0.cell 4; have q0x5 := q0.cell 5; have q0x6 := q0.cell 6; have q0x7 := q0.cell 7; have q0x8 := q0.cell 8; have q1x0 := q1.cell 0; have q1x1 := q1.cell 1; have q1x2 := q1.cell 2; have q2x0 := q2.cell 0; have q2x1 := q2.cell 1; have q2x2 := q2.cell 2; have q2x3 := q2.cell 3; have q3x0 := q3.cell 0; have q3x1 := q3.cell 1; simp at q0x0 q0x1 q0x2 q0x3 q0x4 q0x5 q0x6 q0x7 q0x8 q1x0 q1x1 q1x2 q2x0 q2x1 q2x2 q2x3 q3x0 q3x1); go_simp; first | done | with_reducible rfl⟩) hHeld ?_
    change RestIn _ _ _ _ _ _ _ 4 #[true, true, true, true, true, false, true, true, true, true, true, false, false, false] _ _
    try simp only [Act.put, List.setIfInBounds_toArray, List.set_cons_zero, List.set_cons_succ, List.getElem_toArray, List.getElem_cons_zero, List.getElem_cons_succ]
    refine rest_ready (rs := [5]) (by kernel_rfl) (by simp) ?_
    refine AllRest.cons rfl (fun K hK => ?_) AllRest.nil
    have hNow := (hHeld.2.2.2.2)
    clear hLast
    have hLast := hNow
    go_simp
    gi_wp2_with ((refine ⟨trivial, ?_⟩; gi_at_call 34; (with_reducible refine (callsIn_wide.2 (HPu.out _)).mono ?_); rintro e wn ⟨rfl, hb⟩))
    refine hK.out _ _ ?_ (fun hHeld' => ?_)
    · exact ⟨hHeld.1.below hb hHeld.1.lt, hHeld.2.1.below hb hHeld.2.1.lt, hHeld.2.2.1.below hb hHeld.2.2.1.lt, hHeld.2.2.2.1.below hb hHeld.2.2.2.1.lt, (hHeld.2.2.2.2).trans (hb.mono (hHeld.2.2.2.2).size)⟩
    clear hK K
    change RestIn _ _ _ _ _ _ _ 3 #[true, true, true, true, true, true, true, true, true, true, true, false, false, false] _ _
    try simp only [Act.put, List.setIfInBounds_toArray, List.set_cons_zero, List.set_cons_succ, List.getElem_toArray, List.getElem_cons_zero, List.getElem_cons_succ]
    clear hHeld
    have hHeld := hHeld'
    clear hHeld'
    have hNow := (hHeld.2.2.2.2)
    refine rest_ready (rs := [11]) (by kernel_rfl) (by simp) ?_
    refine AllRest.cons rfl (fun K hK => ?_) AllRest.nil
    have hNow := (hHeld.2.2.2.2)
    clear hLast
    have hLast := hNow
    go_simp
    gi_wp2_with ((refine ⟨trivial, ?_⟩; gi_at_call 34; (with_reducible refine (callsIn_wide.2 (HPv.out _)).mono ?_); rintro e wn ⟨rfl, hb⟩))
    refine hK.out _ _ ?_ (fun hHeld' => ?_)
    · exact ⟨hHeld.1.below hb hHeld.1.lt, hHeld.2.1.below hb hHeld.2.1.lt, hHeld.2.2.1.below hb hHeld.2.2.1.lt, hHeld.2.2.2.1.below hb hHeld.2.2.2.1.lt, (hHeld.2.2.2.2).trans (hb.mono (hHeld.2.2.2.2).size)⟩
    clear hK K
    change RestIn _ _ _ _ _ _ _ 2 #[true, true, true, true, true, true, true, true, true, true, true, true, false, false] _ _
    try simp only [Act.put, List.setIfInBounds_toArray, List.set_cons_zero, List.set_cons_succ, List.getElem_toArray, List.getElem_cons_zero, List.getElem_cons_succ]
    clear hHeld
    have hHeld := hHeld'
    clear hHeld'
    have hNow := (hHeld.2.2.2.2)
    refine rest_take (i := 12) (v := _) all_wide (noDefers_of (by kernel_rfl)) rfl (by kernel_rfl) (by kernel_rfl) (by kernel_rfl) (fun _ _ _ h => h) (Or.inl ⟨by rfl, by intro w hSw; clear hSw; go_simp; first | done | with_reducible rfl⟩) hHeld ?_
    change RestIn _ _ _ _ _ _ _ 1 #[true, true, true, true, true, true, true, true, true, true, true, true, true, false] _ _
    try simp only [Act.put, List.setIfInBounds_toArray, List.set_cons_zero, List.set_cons_succ, List.getElem_toArray, List.getElem_cons_zero, List.getElem_cons_succ]
    refine rest_take (i := 13) (v := _) all_wide (noDefers_of (by kernel_rfl)) rfl (by kernel_rfl) (by kernel_rfl) (by kernel_rfl) (fun _ _ _ h => h) (Or.inl ⟨by rfl, by intro w hSw; clear hSw; go_simp; first | done | with_reducible rfl⟩) hHeld ?_
    change RestIn _ _ _ _ _ _ _ 0 #[true, true, true, true, true, true, true, true, true, true, true, true, true, true] _ _
    try simp only [Act.put, List.setIfInBounds_toArray, List.set_cons_zero, List.set_cons_succ, List.getElem_toArray, List.getElem_cons_zero, List.getElem_cons_succ]
    refine rest_done (by kernel_rfl) ?_
    clear hLast
    obtain ⟨kY1, kN1, kD1, kG1, hX⟩ := hHeld
    clear hNow kY kN kD kG
    go_upto_region 11 with fail
    refine name_world (motive := fun W => Code.wp _ _ _ _ W) _ ?_
    intro W0 hW
    have hWc := hW.cell
    have hWz := hW.size
    have hWb := hW.below (hX)
    have kN := hW.blk kN1
    have kG := hW.blk kG1
    have HB0 := Lib.hid (HB1.out.trans (hWb.mono HB1.out.size))
    clear HB1 hW hWc hWz hWb hX kY1 kN1 kD1 kG1
    go_wp2
    go_loopw [15] (fun i wr => ∃ k : Nat, k ≤ 301 ∧ i = .int .i64 k ∧ (∀ t : Nat, t < k → n.height < z + t * v - 49 * t * t) ∧ Below W0.heap.size W0 wr) (fun i _ => 301 - (intOf i).toNat)
    case atStart => exact ⟨0, by omega, rfl, (fun t h => absurd h (by omega)), Below.refl _ _⟩
    case round =>
      obtain ⟨k, hk, rfl, hno, hB⟩ := hrel
      have HNO := Lib.hid hno
      clear hno
      by_cases hlt : k ≤ 300
      · obtain ⟨t1, t2⟩ := tickb (t := (k : Int)) ⟨by omega, by omega⟩ bu
        obtain ⟨t3, t4⟩ := tickb (t := (k : Int)) ⟨by omega, by omega⟩ bv
        obtain ⟨g1, g2⟩ := sqb (t := (k : Int)) ⟨by omega, by omega⟩
        have kN1 := kN.below hB kN.lt
        have kG1 := kG.below hB kG.lt
        have n0 := kN1.cell 0; have n1 := kN1.cell 1; have n2 := kN1.cell 2; simp at n0 n1 n2
        have r0 := kG1.cell 0; have r1 := kG1.cell 1; simp at r0 r1
        by_cases hy : z + k * v - 49 * k * k ≤ n.height
        · obtain ⟨j1, j2, j3, j4⟩ := HNET.out k hlt HNO.out hy
          go_wp2_with (go_at_call 15; refine (wakes_any _).mono ?_; rintro e wk ⟨rfl, hbk⟩)
          go_ret
          exact ⟨rfl, HB0.out.trans ((sh_next hB hbk).mono HB0.out.size)⟩
        · have HNO2 : Hid (∀ t : Nat, t < k + 1 → n.height < z + t * v - 49 * t * t) := fun t ht => by
            by_cases he : t = k
            · rw [he]; omega
            · exact HNO.out t (by omega)
          go_wp2
          go_roundw
          case rel => exact ⟨k + 1, by omega, by go_num, HNO2.out, hB⟩
          case measure => simp [intOf]; omega
      · obtain rfl : k = 301 := by omega
        exact absurd HNO.out HEND.out
theorem netted_any (f : Fly) (n : Net) (a0 a1 a2 a3 : Int) (w : World) (h0 : 0 ≤ a0 ∧ a0 ≤ 65535) (h1 : 0 ≤ a1 ∧ a1 ≤ 65535) (h2 : 0 ≤ a2 ∧ a2 ≤ 65535) (h3 : 0 ≤ a3 ∧ a3 ≤ 65535) :
    Calls Try.prog 5 #[.agg #[.int .i64 f.pos.x.lo, .int .i64 f.pos.x.hi, .int .i64 f.pos.z.lo, .int .i64 f.pos.z.hi, .int .i64 f.speed.x.lo, .int .i64 f.speed.x.hi, .int .i64 f.speed.z.lo, .int .i64 f.speed.z.hi, .int .i64 f.mass], .agg #[.int .i64 n.x.lo, .int .i64 n.x.hi, .int .i64 n.height], .agg #[.int .u16 a0, .int .u16 a1, .int .u16 a2, .int .u16 a3]] w fun e w' => e = .returned (.bool true) ∧ Below w.heap.size w w' := by
  cases hfy : f.ok
  · exact netted_0 f n a0 a1 a2 a3 w hfy
  · cases hnk : n.ok
    · exact netted_1 f n a0 a1 a2 a3 w hfy hnk
    · cases hc : comesB f n
      · exact netted_2 f n a0 a1 a2 a3 w hfy hnk hc
      · cases ht : takesB f n
        · exact netted_3 f n a0 a1 a2 a3 w hfy hnk hc ht
        · exact netted_4 f n a0 a1 a2 a3 w hfy hnk hc ht h0 h1 h2 h3
end Go.Proofs.Ytmhnbchfmddhcaa
