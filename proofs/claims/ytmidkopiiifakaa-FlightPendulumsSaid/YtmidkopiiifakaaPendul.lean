import Derived.Test.YtmidkopiiifakaaWakes

/- The law of pendulums. -/
namespace Go.Proofs.Ytmidkopiiifakaa
open Go.RowKit Go.Shelf
theorem sw_bounds {l : Int} (h1 : 1 ≤ l) (h2 : l ≤ 20000) : 0 ≤ swLo l ∧ swHi l ≤ 1000 := ⟨(swLo_spec h1 h2).2.2.1, (swHi_spec h1 h2).2.2.2⟩
theorem wide_le {l wd : Int} (h1 : 1 ≤ l) (h2 : l ≤ 20000) (hw : 0 ≤ wd) : swHi l ≤ (swing l wd).hi := cdiv_wide (swHi_spec h1 h2).2.2.1 hw
set_option maxRecDepth 100000 in
set_option maxHeartbeats 4000000 in
theorem pendulums_any (ln more wdt : Int) (w : World) (hl : 0 ≤ ln ∧ ln ≤ 65535) (hm : 0 ≤ more ∧ more ≤ 65535) (hw : 0 ≤ wdt ∧ wdt ≤ 255) :
    Calls Try.prog 3 #[.int .u16 ln, .int .u16 more, .int .u8 wdt] w fun e w' => e = .returned (.bool true) ∧ Below w.heap.size w w' := by
  obtain ⟨x, hx⟩ : ∃ x, ln.tmod 20000 = x := ⟨_, rfl⟩
  have hx1 : 0 ≤ x ∧ x < 20000 := by rw [← hx, Int.tmod_eq_emod_of_nonneg hl.1]; omega
  obtain ⟨y, hy⟩ : ∃ y, more.tmod (20001 - (1 + x)) = y := ⟨_, rfl⟩
  have hy1 : 0 ≤ y ∧ y < 20001 - (1 + x) := by
    rw [← hy, Int.tmod_eq_emod_of_nonneg hm.1]
    exact ⟨Int.emod_nonneg _ (by omega), Int.emod_lt_of_pos _ (by omega)⟩
  obtain ⟨z, hz⟩ : ∃ z, wdt.tmod 101 = z := ⟨_, rfl⟩
  have hz1 : 0 ≤ z ∧ z ≤ 100 := by rw [← hz, Int.tmod_eq_emod_of_nonneg hw.1]; omega
  have S1 : Hid (∀ W : World, Calls Try.prog 15 #[.int .i64 (1 + x), .int .i64 0] W fun e w' => e = .returned (.tuple #[.agg #[.int .i64 (swLo (1 + x)), .int .i64 (swHi (1 + x))], .int .i64 0]) ∧ Below W.heap.size W w') := fun W => by
    have := Swing_ok (1 + x) 0 W (by omega) (by omega)
    rw [swing_flat] at this
    exact this
  have S2 : Hid (∀ W : World, Calls Try.prog 15 #[.int .i64 (1 + x + y), .int .i64 0] W fun e w' => e = .returned (.tuple #[.agg #[.int .i64 (swLo (1 + x + y)), .int .i64 (swHi (1 + x + y))], .int .i64 0]) ∧ Below W.heap.size W w') := fun W => by
    have := Swing_ok (1 + x + y) 0 W (by omega) (by omega)
    rw [swing_flat] at this
    exact this
  have S3 : Hid (∀ W : World, Calls Try.prog 15 #[.int .i64 (1 + x), .int .i64 z] W fun e w' => e = .returned (.tuple #[.agg #[.int .i64 (swLo (1 + x)), .int .i64 (swing (1 + x) z).hi], .int .i64 0]) ∧ Below W.heap.size W w') := fun W => by
    have := Swing_ok (1 + x) z W (by omega) (by omega)
    exact this
  have k1 := swLo_mono (a := 1 + x) (b := 1 + x + y) (by omega) (by omega) (by omega)
  have k2 := swHi_mono (a := 1 + x) (b := 1 + x + y) (by omega) (by omega) (by omega)
  obtain ⟨k3, k4⟩ := sw_le (l := 1 + x) (by omega) (by omega)
  have k5 := wide_le (l := 1 + x) (wd := z) (by omega) (by omega) (by omega)
  obtain ⟨k6, k7⟩ := sw_bounds (l := 1 + x) (by omega) (by omega)
  obtain ⟨rl, hrl⟩ : ∃ a, swLo (1 + x) = a := ⟨_, rfl⟩
  obtain ⟨rh, hrh⟩ : ∃ a, swHi (1 + x) = a := ⟨_, rfl⟩
  obtain ⟨sl, hsl⟩ : ∃ a, swLo (1 + x + y) = a := ⟨_, rfl⟩
  obtain ⟨sh, hsh⟩ : ∃ a, swHi (1 + x + y) = a := ⟨_, rfl⟩
  obtain ⟨th, hth⟩ : ∃ a, (swing (1 + x) z).hi = a := ⟨_, rfl⟩
  rw [hrl, hrh] at S1
  rw [hsl, hsh] at S2
  rw [hrl, hth] at S3
  rw [hrl, hsl] at k1
  rw [hrh, hsh] at k2
  rw [hrl, hrh] at k3 k4
  rw [hrh, hth] at k5
  rw [hrl] at k6
  rw [hrh] at k7
  clear hrl hrh hsl hsh hth
  have z1 : ¬ (20001 - (1 + x)) = 0 := by omega
  have z2 : ((20001 - (1 + x)) == 0) = false := by simp; omega
  go_enter Try.func3, Try.ntmps3
  go_upto_region 4 with ((go_at_call 15; refine (S1.out _).mono ?_; rintro e w1 ⟨rfl, hb1⟩))
  refine name_world (motive := fun W => Code.wp _ _ _ _ W) _ ?_
  intro W1 hW1
  have hX1 := hW1.below (hb1.alloc hb1.size (.cells #[.int .i64 rl, .int .i64 rh] 24))
  have kR := hW1.blk (Blk.new w1 24 #[.int .i64 rl, .int .i64 rh])
  clear hW1 hb1
  go_upto_region 5 with ((go_at_call 15; refine (S2.out _).mono ?_; rintro e w2 ⟨rfl, hb2⟩))
  have kR2 := (kR.below hb2 kR.lt).alloc (.cells #[.int .i64 sl, .int .i64 sh] 24)
  have kS2 := Blk.new w2 24 #[.int .i64 sl, .int .i64 sh]
  have hX2 := hX1.trans (hb2.mono hX1.size)
  have hX3 := hX2.alloc hX2.size (.cells #[.int .i64 sl, .int .i64 sh] 24)
  clear hX1 hX2 kR hb2
  refine name_world (motive := fun W => Code.wp _ _ _ _ W) _ ?_
  intro W2 hW2
  have hX := hW2.below hX3
  have kR := hW2.blk kR2
  have kS := hW2.blk kS2
  clear hW2 hX3 kR2 kS2
  go_upto_region 6 with ((go_at_call 15; refine (S3.out _).mono ?_; rintro e w3 ⟨rfl, hb3⟩))
  have kR3 := (kR.below hb3 kR.lt).alloc (.cells #[.int .i64 rl, .int .i64 th] 24)
  have kS3 := (kS.below hb3 kS.lt).alloc (.cells #[.int .i64 rl, .int .i64 th] 24)
  have kT3 := Blk.new w3 24 #[.int .i64 rl, .int .i64 th]
  have hX4 := hX.trans (hb3.mono hX.size)
  have hX5 := hX4.alloc hX4.size (.cells #[.int .i64 rl, .int .i64 th] 24)
  clear hX hX4 kR kS hb3
  refine name_world (motive := fun W => Code.wp _ _ _ _ W) _ ?_
  intro W3 hW3
  have hX := hW3.below hX5
  have kR := hW3.blk kR3
  have kS := hW3.blk kS3
  have kT := hW3.blk kT3
  clear hW3 hX5 kR3 kS3 kT3
  have r0 := kR.cell 0
  have r1 := kR.cell 1
  have s0 := kS.cell 0
  have s1 := kS.cell 1
  have t0 := kT.cell 0
  have t1 := kT.cell 1
  have hz1 := kR.lt
  have hz2 := kS.lt
  have hz3 := kT.lt
  simp at r0 r1 s0 s1 t0 t1
  go_wp2_with ((go_at_call 16; refine (wakes_any _).mono ?_; rintro e w4 ⟨rfl, hb4⟩))
  go_ret
  exact ⟨rfl, hX.trans (hb4.mono hX.size)⟩
end Go.Proofs.Ytmidkopiiifakaa
