import Derived.Test.YtbagfapalkmikaaFlC

/- The load of a flight. -/
namespace Go.Proofs.Ytbagfapalkmikaa
open Go.RowKit
theorem idx4 (a b c d p q r s : Int) (W : World) :
    (Instr.index 144 (.agg #[.int .i64 a, .int .i64 b, .int .i64 c, .int .i64 d, .int .i64 p, .int .i64 q, .int .i64 r, .int .i64 s]) (.int .i64 0)).run Try.prog W = .ok (.agg #[.int .i64 a, .int .i64 b]) W ∧
    (Instr.index 144 (.agg #[.int .i64 a, .int .i64 b, .int .i64 c, .int .i64 d, .int .i64 p, .int .i64 q, .int .i64 r, .int .i64 s]) (.int .i64 1)).run Try.prog W = .ok (.agg #[.int .i64 c, .int .i64 d]) W ∧
    (Instr.index 144 (.agg #[.int .i64 a, .int .i64 b, .int .i64 c, .int .i64 d, .int .i64 p, .int .i64 q, .int .i64 r, .int .i64 s]) (.int .i64 2)).run Try.prog W = .ok (.agg #[.int .i64 p, .int .i64 q]) W ∧
    (Instr.index 144 (.agg #[.int .i64 a, .int .i64 b, .int .i64 c, .int .i64 d, .int .i64 p, .int .i64 q, .int .i64 r, .int .i64 s]) (.int .i64 3)).run Try.prog W = .ok (.agg #[.int .i64 r, .int .i64 s]) W := by
  refine ⟨?_, ?_, ?_, ?_⟩ <;> simp [Instr.index, run_underlying Try.underlying144, asIntOf, go_sem]
theorem two_allocs {B : Nat} {w W : World} (h : Below B w W) (hB : B ≤ W.heap.size) (o o' : Obj) : Below B w ((W.alloc o).alloc o') := (h.alloc hB o).alloc (by simp; omega) o'
theorem top3s (a b c : Int) (h : 0 ≤ a) : topM [a, b, c] = max a (max (sizeI b) (sizeI c)) := by
  rw [top3]; unfold sizeI; omega
set_option maxRecDepth 100000 in
set_option maxHeartbeats 8000000 in
theorem load_any (f : Flt) (A : Option Addr) (c : Nat) (t : Int) (w : World) (hf : f.fly.ok = true) (hs : 1 ≤ f.soft ∧ f.soft ≤ 100) (ht : 0 ≤ t ∧ t ≤ 300) :
    Calls Try.prog 57 #[.agg #[.int .i64 f.fly.pos.x.lo, .int .i64 f.fly.pos.x.hi, .int .i64 f.fly.pos.z.lo, .int .i64 f.fly.pos.z.hi, .int .i64 f.fly.speed.x.lo, .int .i64 f.fly.speed.x.hi, .int .i64 f.fly.speed.z.lo, .int .i64 f.fly.speed.z.hi, .int .i64 f.fly.mass, .slice A f.cycle.length c, .int .i64 f.reach, .int .i64 f.soft, .int .i64 f.bears, .int .i64 f.least, .int .i64 f.most], .int .i64 t] w fun e w' => e = .returned (.int .i64 (f.load t)) ∧ Below w.heap.size w w' := by
  obtain ⟨hp, hsp, ma1, ma2⟩ := Fly.ok_iff.1 hf
  obtain ⟨⟨s1, s2, s3⟩, s4, s5, s6⟩ := Bx.inside_iff.1 hsp
  obtain ⟨t1, t2⟩ := ht
  obtain ⟨so1, so2⟩ := hs
  have hfb := fast_bounds hsp ⟨t1, t2⟩
  obtain ⟨f1, f2⟩ := hfb
  obtain ⟨xl, hxl⟩ : ∃ x, (f.fly.speedAt t).x.lo = x := ⟨_, rfl⟩
  obtain ⟨xh, hxh⟩ : ∃ x, (f.fly.speedAt t).x.hi = x := ⟨_, rfl⟩
  obtain ⟨zl, hzl⟩ : ∃ x, (f.fly.speedAt t).z.lo = x := ⟨_, rfl⟩
  obtain ⟨zh, hzh⟩ : ∃ x, (f.fly.speedAt t).z.hi = x := ⟨_, rfl⟩
  have e1 : f.fly.speed.x.lo = xl := hxl
  have e2 : f.fly.speed.x.hi = xh := hxh
  have e3 : f.fly.speed.z.lo - 98 * t = zl := hzl
  have e4 : f.fly.speed.z.hi - 98 * t = zh := hzh
  have X1 : Sml xl := by unfold Sml; omega
  have X2 : Sml xh := by unfold Sml; omega
  have X3 : Sml zl := by unfold Sml; omega
  have X4 : Sml zh := by unfold Sml; omega
  have S0 : Sml 0 := by unfold Sml; omega
  have HFa : f.fly.fast t = max (max (sizeI xl) (sizeI xh)) (max (sizeI zl) (sizeI zh)) := by
    unfold Fly.fast; rw [e1, e2, e3, e4]
  obtain ⟨T1, hT1⟩ : ∃ T, topM [0, xl, zl] = T := ⟨_, rfl⟩
  obtain ⟨T2, hT2⟩ : ∃ T, topM [T1, xl, zh] = T := ⟨_, rfl⟩
  obtain ⟨T3, hT3⟩ : ∃ T, topM [T2, xh, zl] = T := ⟨_, rfl⟩
  obtain ⟨T4, hT4⟩ : ∃ T, topM [T3, xh, zh] = T := ⟨_, rfl⟩
  obtain ⟨a1, ha1⟩ : ∃ x, sizeI xl = x := ⟨_, rfl⟩
  obtain ⟨a2, ha2⟩ : ∃ x, sizeI xh = x := ⟨_, rfl⟩
  obtain ⟨a3, ha3⟩ : ∃ x, sizeI zl = x := ⟨_, rfl⟩
  obtain ⟨a4, ha4⟩ : ∃ x, sizeI zh = x := ⟨_, rfl⟩
  have z1 : 0 ≤ a1 ∧ a1 ≤ 1000000000 := by unfold sizeI at ha1; unfold Sml at X1; omega
  have z2 : 0 ≤ a2 ∧ a2 ≤ 1000000000 := by unfold sizeI at ha2; unfold Sml at X2; omega
  have z3 : 0 ≤ a3 ∧ a3 ≤ 1000000000 := by unfold sizeI at ha3; unfold Sml at X3; omega
  have z4 : 0 ≤ a4 ∧ a4 ≤ 1000000000 := by unfold sizeI at ha4; unfold Sml at X4; omega
  have r1 : T1 = max a1 a3 := by rw [← hT1, top3s _ _ _ (by omega), ha1, ha3]; omega
  have r2 : T2 = max (max a1 a3) a4 := by rw [← hT2, top3s _ _ _ (by omega), ha1, ha4, r1]; omega
  have r3 : T3 = max T2 a2 := by
    have : a3 ≤ T2 := by omega
    rw [← hT3, top3s _ _ _ (by omega), ha2, ha3]; clear r1 r2 hT1 hT2 hT3 hT4 HFa; omega
  have r4 : T4 = T3 := by
    have q1 : a2 ≤ T3 := by clear r1 r2 hT1 hT2 hT3 hT4 HFa; omega
    have q2 : a4 ≤ T3 := by clear r1 hT1 hT2 hT3 hT4 HFa; omega
    rw [← hT4, top3s _ _ _ (by omega), ha2, ha4]; clear r1 r2 r3 hT1 hT2 hT3 hT4 HFa; omega
  have hT : T4 = f.fly.fast t := by
    rw [HFa, r4, r3, r2, ha1, ha2, ha3, ha4]
    clear r1 r2 r3 r4 hT1 hT2 hT3 hT4 HFa
    omega
  have Y1 : Sml T1 := by unfold Sml; omega
  have Y2 : Sml T2 := by unfold Sml; omega
  have Y3 : Sml T3 := by unfold Sml; omega
  have G1 : Hid (∀ (W : World) (o : Obj), Calls Try.prog 90 #[.slice (some ⟨W.heap.size + 1, 0, none⟩) 3 3] ((W.alloc o).alloc (.cells #[.int .i64 0, .int .i64 xl, .int .i64 zl] 3)) fun e w' => e = .returned (.int .i64 T1) ∧ ((W.alloc o).alloc (.cells #[.int .i64 0, .int .i64 xl, .int .i64 zl] 3)) = w') := fun W o => greatest3 W o _ _ _ _ hT1 S0 X1 X3
  have G2 : Hid (∀ (W : World) (o : Obj), Calls Try.prog 90 #[.slice (some ⟨W.heap.size + 1, 0, none⟩) 3 3] ((W.alloc o).alloc (.cells #[.int .i64 T1, .int .i64 xl, .int .i64 zh] 3)) fun e w' => e = .returned (.int .i64 T2) ∧ ((W.alloc o).alloc (.cells #[.int .i64 T1, .int .i64 xl, .int .i64 zh] 3)) = w') := fun W o => greatest3 W o _ _ _ _ hT2 Y1 X1 X4
  have G3 : Hid (∀ (W : World) (o : Obj), Calls Try.prog 90 #[.slice (some ⟨W.heap.size + 1, 0, none⟩) 3 3] ((W.alloc o).alloc (.cells #[.int .i64 T2, .int .i64 xh, .int .i64 zl] 3)) fun e w' => e = .returned (.int .i64 T3) ∧ ((W.alloc o).alloc (.cells #[.int .i64 T2, .int .i64 xh, .int .i64 zl] 3)) = w') := fun W o => greatest3 W o _ _ _ _ hT3 Y2 X2 X3
  have G4 : Hid (∀ (W : World) (o : Obj), Calls Try.prog 90 #[.slice (some ⟨W.heap.size + 1, 0, none⟩) 3 3] ((W.alloc o).alloc (.cells #[.int .i64 T3, .int .i64 xh, .int .i64 zh] 3)) fun e w' => e = .returned (.int .i64 T4) ∧ ((W.alloc o).alloc (.cells #[.int .i64 T3, .int .i64 xh, .int .i64 zh] 3)) = w') := fun W o => greatest3 W o _ _ _ _ hT4 Y3 X2 X4
  have HC : Hid (∀ W : World, Calls Try.prog 88 #[.agg #[.int .i64 f.fly.pos.x.lo, .int .i64 f.fly.pos.x.hi, .int .i64 f.fly.pos.z.lo, .int .i64 f.fly.pos.z.hi, .int .i64 f.fly.speed.x.lo, .int .i64 f.fly.speed.x.hi, .int .i64 f.fly.speed.z.lo, .int .i64 f.fly.speed.z.hi, .int .i64 f.fly.mass], .int .i64 t] W fun e w' => e = .returned (.agg #[.int .i64 xl, .int .i64 xh, .int .i64 zl, .int .i64 zh]) ∧ Below W.heap.size W w') := by
    intro W
    rw [← hxl, ← hxh, ← hzl, ← hzh]
    exact speedAfter_any f.fly t W hf ⟨t1, t2⟩
  have HD : Hid (∀ W : World, Calls Try.prog 89 #[.agg #[.int .i64 xl, .int .i64 xh, .int .i64 zl, .int .i64 zh]] W fun e w' => e = .returned (.agg #[.int .i64 xl, .int .i64 zl, .int .i64 xl, .int .i64 zh, .int .i64 xh, .int .i64 zl, .int .i64 xh, .int .i64 zh]) ∧ Below W.heap.size W w') := fun W => corners_any ⟨⟨xl, xh⟩, ⟨zl, zh⟩⟩ W
  have q0 : 0 ≤ cdiv T4 f.soft := by rw [hT]; exact Int.ediv_nonneg (by omega) (by omega)
  have q1 : cdiv T4 f.soft ≤ 39500 := by
    have := Int.ediv_le_self (a := f.fly.fast t + f.soft - 1) f.soft (by omega)
    rw [hT]; unfold cdiv; omega
  have p0 : 0 ≤ f.fly.mass * (98 + cdiv T4 f.soft) := Int.mul_nonneg (by omega) (by omega)
  have p1 : f.fly.mass * (98 + cdiv T4 f.soft) ≤ 200 * 39598 := Int.mul_le_mul ma2 (by omega) (by omega) (by omega)
  have v1 : IntKind.i64.wrap (98 + cdiv T4 f.soft) = 98 + cdiv T4 f.soft := IntWalk.i64_in _ (by omega)
  have v2 : IntKind.i64.wrap (f.fly.mass * (98 + cdiv T4 f.soft)) = f.fly.mass * (98 + cdiv T4 f.soft) := IntWalk.i64_in _ (by omega)
  have u0 : 0 ≤ T4 := by omega
  have u1 : T4 ≤ 39400 := by omega
  have HL : Hid (f.load t = f.fly.mass * (98 + cdiv T4 f.soft)) := by show _ = _; rw [hT]; rfl
  have HT := Lib.hid hT
  have WV1 := Lib.hid v1
  have WV2 := Lib.hid v2
  clear r1 r2 r3 r4 z1 z2 z3 z4 ha1 ha2 ha3 ha4 hf hp hsp hxl hxh hzl hzh e1 e2 e3 e4 HFa hT1 hT2 hT3 hT4 hT v1 v2 X1 X2 X3 X4 S0 Y1 Y2 Y3
  have i0 := fun W => (idx4 xl zl xl zh xh zl xh zh W).1
  have i1 := fun W => (idx4 xl zl xl zh xh zl xh zh W).2.1
  have i2 := fun W => (idx4 xl zl xl zh xh zl xh zh W).2.2.1
  have i3 := fun W => (idx4 xl zl xl zh xh zl xh zh W).2.2.2
  go_enter Try.func57, Try.ntmps57
  go_wp2_with (first | (go_at_call 88; (with_reducible refine (HC.out _).mono ?_); rintro e w1 ⟨rfl, hb1⟩) | (go_at_call 89; (with_reducible refine (HD.out _).mono ?_); rintro e w2 ⟨rfl, hb2⟩))
  have hB2 := ((Below.refl w.heap.size w).alloc (Nat.le_refl _) (.cells #[.int .i64 f.fly.pos.x.lo, .int .i64 f.fly.pos.x.hi, .int .i64 f.fly.pos.z.lo, .int .i64 f.fly.pos.z.hi, .int .i64 f.fly.speed.x.lo, .int .i64 f.fly.speed.x.hi, .int .i64 f.fly.speed.z.lo, .int .i64 f.fly.speed.z.hi, .int .i64 f.fly.mass, .slice A f.cycle.length c, .int .i64 f.reach, .int .i64 f.soft, .int .i64 f.bears, .int .i64 f.least, .int .i64 f.most] 50)).trans ((sh_next hb1 hb2).mono (by simp))
  have kF := (Blk.new w 50 #[.int .i64 f.fly.pos.x.lo, .int .i64 f.fly.pos.x.hi, .int .i64 f.fly.pos.z.lo, .int .i64 f.fly.pos.z.hi, .int .i64 f.fly.speed.x.lo, .int .i64 f.fly.speed.x.hi, .int .i64 f.fly.speed.z.lo, .int .i64 f.fly.speed.z.hi, .int .i64 f.fly.mass, .slice A f.cycle.length c, .int .i64 f.reach, .int .i64 f.soft, .int .i64 f.bears, .int .i64 f.least, .int .i64 f.most]).below (sh_next hb1 hb2) (by simp)
  clear hb1 hb2
  have hle2 := hB2.size
  refine wp_loop_rounds 5 ?_
  rw [rounds_succ]
  go_wp2_with (go_at_call 90; (with_reducible refine (G1.out _ _).mono ?_); rintro e w' ⟨rfl, rfl⟩)
  refine name_world (motive := fun W => Code.rounds _ _ _ _ _ W) _ ?_
  intro V1 hV1
  have hBV1 := hV1.below (two_allocs hB2 hle2 (.cells #[.int .i64 xl, .int .i64 zl] 143) (.cells #[.int .i64 0, .int .i64 xl, .int .i64 zl] 3))
  have kV1 := hV1.blk ((kF.alloc (.cells #[.int .i64 xl, .int .i64 zl] 143)).alloc (.cells #[.int .i64 0, .int .i64 xl, .int .i64 zl] 3))
  have hle3 := hBV1.size
  clear hV1 hB2 kF
  rw [rounds_succ]
  go_wp2_with (go_at_call 90; (with_reducible refine (G2.out _ _).mono ?_); rintro e w' ⟨rfl, rfl⟩)
  refine name_world (motive := fun W => Code.rounds _ _ _ _ _ W) _ ?_
  intro V2 hV2
  have hBV2 := hV2.below (two_allocs hBV1 hle3 (.cells #[.int .i64 xl, .int .i64 zh] 143) (.cells #[.int .i64 T1, .int .i64 xl, .int .i64 zh] 3))
  have kV2 := hV2.blk ((kV1.alloc (.cells #[.int .i64 xl, .int .i64 zh] 143)).alloc (.cells #[.int .i64 T1, .int .i64 xl, .int .i64 zh] 3))
  have hle4 := hBV2.size
  clear hV2 hBV1 kV1
  rw [rounds_succ]
  go_wp2_with (go_at_call 90; (with_reducible refine (G3.out _ _).mono ?_); rintro e w' ⟨rfl, rfl⟩)
  refine name_world (motive := fun W => Code.rounds _ _ _ _ _ W) _ ?_
  intro V3 hV3
  have hBV3 := hV3.below (two_allocs hBV2 hle4 (.cells #[.int .i64 xh, .int .i64 zl] 143) (.cells #[.int .i64 T2, .int .i64 xh, .int .i64 zl] 3))
  have kV3 := hV3.blk ((kV2.alloc (.cells #[.int .i64 xh, .int .i64 zl] 143)).alloc (.cells #[.int .i64 T2, .int .i64 xh, .int .i64 zl] 3))
  have hle5 := hBV3.size
  clear hV3 hBV2 kV2
  rw [rounds_succ]
  go_wp2_with (go_at_call 90; (with_reducible refine (G4.out _ _).mono ?_); rintro e w' ⟨rfl, rfl⟩)
  refine name_world (motive := fun W => Code.rounds _ _ _ _ _ W) _ ?_
  intro V4 hV4
  have hBV4 := hV4.below (two_allocs hBV3 hle5 (.cells #[.int .i64 xh, .int .i64 zh] 143) (.cells #[.int .i64 T3, .int .i64 xh, .int .i64 zh] 3))
  have kV4 := hV4.blk ((kV3.alloc (.cells #[.int .i64 xh, .int .i64 zh] 143)).alloc (.cells #[.int .i64 T3, .int .i64 xh, .int .i64 zh] 3))
  have hle6 := hBV4.size
  clear hV4 hBV3 kV3
  rw [rounds_succ]
  have c0 := kV4.cell 8
  have c1 := kV4.cell 11
  simp at c0 c1
  have lz := kV4.lt
  go_wp2
  have v1 := WV1.out
  have v2 := WV2.out
  go_quiet ((go_at_call 91; exact Calls.quiet_of_same ((upwards_any _ _ _ ⟨by omega, by omega⟩ ⟨by omega, by omega⟩).mono fun _ _ h => ⟨h.1, h.2.symm⟩)))
  go_wp2
  go_ret
  exact ⟨ret_int HL.out.symm, below_drewN hBV4 _⟩
end Go.Proofs.Ytbagfapalkmikaa
