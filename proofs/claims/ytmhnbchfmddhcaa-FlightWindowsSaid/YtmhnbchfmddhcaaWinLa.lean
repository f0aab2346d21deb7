import Derived.Test.YtmhnbchfmddhcaaWinLh

/- The windows of any ticks, and the widest one: an error. -/
namespace Go.Proofs.Ytmhnbchfmddhcaa
open Go.RowKit Go.Shelf
set_option linter.unusedSimpArgs false in
set_option maxRecDepth 100000 in
set_option maxHeartbeats 32000000 in
theorem winLaw_bad (f : Flt) (A : Option Addr) (c : Nat) (a b : Int) (w : World) (hr : RS encB 4 w w.heap.size A f.cycle) (hfew : f.cycle.length ≤ 700) (hbig : (inB a 0 6000 && inB b (a + 300) 6000) = false) (hE : winE f.ok a b ≠ 0) :
    Calls Try.prog 9 #[.agg #[.int .i64 f.fly.pos.x.lo, .int .i64 f.fly.pos.x.hi, .int .i64 f.fly.pos.z.lo, .int .i64 f.fly.pos.z.hi, .int .i64 f.fly.speed.x.lo, .int .i64 f.fly.speed.x.hi, .int .i64 f.fly.speed.z.lo, .int .i64 f.fly.speed.z.hi, .int .i64 f.fly.mass, .slice A f.cycle.length c, .int .i64 f.reach, .int .i64 f.soft, .int .i64 f.bears, .int .i64 f.least, .int .i64 f.most], .int .i64 a, .int .i64 b] w fun e w' => e = .returned (.bool true) ∧ Below w.heap.size w w' := by
  have hB0 := (Below.refl w.heap.size w).alloc (Nat.le_refl _) (.cells #[.int .i64 f.fly.pos.x.lo, .int .i64 f.fly.pos.x.hi, .int .i64 f.fly.pos.z.lo, .int .i64 f.fly.pos.z.hi, .int .i64 f.fly.speed.x.lo, .int .i64 f.fly.speed.x.hi, .int .i64 f.fly.speed.z.lo, .int .i64 f.fly.speed.z.hi, .int .i64 f.fly.mass, .slice A f.cycle.length c, .int .i64 f.reach, .int .i64 f.soft, .int .i64 f.bears, .int .i64 f.least, .int .i64 f.most] 32)
  have kF0 := Blk.new w 32 #[.int .i64 f.fly.pos.x.lo, .int .i64 f.fly.pos.x.hi, .int .i64 f.fly.pos.z.lo, .int .i64 f.fly.pos.z.hi, .int .i64 f.fly.speed.x.lo, .int .i64 f.fly.speed.x.hi, .int .i64 f.fly.speed.z.lo, .int .i64 f.fly.speed.z.hi, .int .i64 f.fly.mass, .slice A f.cycle.length c, .int .i64 f.reach, .int .i64 f.soft, .int .i64 f.bears, .int .i64 f.least, .int .i64 f.most]
  have hR00 := hr.to hB0
  have HFEW : Hid (∀ W : World, Calls Try.prog 14 #[.agg #[.int .i64 f.fly.pos.x.lo, .int .i64 f.fly.pos.x.hi, .int .i64 f.fly.pos.z.lo, .int .i64 f.fly.pos.z.hi, .int .i64 f.fly.speed.x.lo, .int .i64 f.fly.speed.x.hi, .int .i64 f.fly.speed.z.lo, .int .i64 f.fly.speed.z.hi, .int .i64 f.fly.mass, .slice A f.cycle.length c, .int .i64 f.reach, .int .i64 f.soft, .int .i64 f.bears, .int .i64 f.least, .int .i64 f.most]] W fun e w' => e = .returned (.bool true) ∧ Below W.heap.size W w') := fun W => by have := few_any f A c W; rw [decide_eq_true hfew] at this; exact this
  have HFL : Hid (∀ W : World, RS encB 4 W W.heap.size A f.cycle → Calls Try.prog 19 #[.agg #[.int .i64 f.fly.pos.x.lo, .int .i64 f.fly.pos.x.hi, .int .i64 f.fly.pos.z.lo, .int .i64 f.fly.pos.z.hi, .int .i64 f.fly.speed.x.lo, .int .i64 f.fly.speed.x.hi, .int .i64 f.fly.speed.z.lo, .int .i64 f.fly.speed.z.hi, .int .i64 f.fly.mass, .slice A f.cycle.length c, .int .i64 f.reach, .int .i64 f.soft, .int .i64 f.bears, .int .i64 f.least, .int .i64 f.most]] W fun e w' => ∃ (A : Option Addr) (c : Nat), e = .returned (.agg #[.int .i64 f.fly.pos.x.lo, .int .i64 f.fly.pos.x.hi, .int .i64 f.fly.pos.z.lo, .int .i64 f.fly.pos.z.hi, .int .i64 f.fly.speed.x.lo, .int .i64 f.fly.speed.x.hi, .int .i64 f.fly.speed.z.lo, .int .i64 f.fly.speed.z.hi, .int .i64 f.fly.mass, .slice A f.cycle.length c, .int .i64 f.reach, .int .i64 f.soft, .int .i64 f.bears, .int .i64 f.least, .int .i64 f.most]) ∧ RS encB 4 w' w'.heap.size A f.cycle ∧ Below W.heap.size W w') := fun W h => lawFlight_any f A c W h hfew
  have hfl7 : f.cycle.length ≤ maxLen := by have : (700 : Nat) ≤ maxLen := (by unfold maxLen; omega); omega
  have HWS : Hid (∀ (W : World) (A : Option Addr) (c : Nat), RS encB 4 W W.heap.size A f.cycle → Calls Try.prog 42 #[.agg #[.int .i64 f.fly.pos.x.lo, .int .i64 f.fly.pos.x.hi, .int .i64 f.fly.pos.z.lo, .int .i64 f.fly.pos.z.hi, .int .i64 f.fly.speed.x.lo, .int .i64 f.fly.speed.x.hi, .int .i64 f.fly.speed.z.lo, .int .i64 f.fly.speed.z.hi, .int .i64 f.fly.mass, .slice A f.cycle.length c, .int .i64 f.reach, .int .i64 f.soft, .int .i64 f.bears, .int .i64 f.least, .int .i64 f.most], .int .i64 a, .int .i64 b] W fun e w' => e = .returned (.tuple #[.slice none 0 0, .int .i64 (winE f.ok a b)]) ∧ Below W.heap.size W w') := fun W A c h => Windows_bad f A c a b W hfl7 h hE
  have HWT : Hid (∀ (W : World) (A : Option Addr) (c : Nat), RS encB 4 W W.heap.size A f.cycle → Calls Try.prog 43 #[.agg #[.int .i64 f.fly.pos.x.lo, .int .i64 f.fly.pos.x.hi, .int .i64 f.fly.pos.z.lo, .int .i64 f.fly.pos.z.hi, .int .i64 f.fly.speed.x.lo, .int .i64 f.fly.speed.x.hi, .int .i64 f.fly.speed.z.lo, .int .i64 f.fly.speed.z.hi, .int .i64 f.fly.mass, .slice A f.cycle.length c, .int .i64 f.reach, .int .i64 f.soft, .int .i64 f.bears, .int .i64 f.least, .int .i64 f.most], .int .i64 a, .int .i64 b] W fun e w' => e = .returned (.tuple #[.agg #[.int .i64 0, .int .i64 0], .int .i64 (winE f.ok a b)]) ∧ Below W.heap.size W w') := fun W A c h => Widest_bad f A c a b W hfl7 h hE
  have HR : Hid (∀ W : World, RS encB 4 W W.heap.size A f.cycle → Calls Try.prog 22 #[.agg #[.int .i64 f.fly.pos.x.lo, .int .i64 f.fly.pos.x.hi, .int .i64 f.fly.pos.z.lo, .int .i64 f.fly.pos.z.hi, .int .i64 f.fly.speed.x.lo, .int .i64 f.fly.speed.x.hi, .int .i64 f.fly.speed.z.lo, .int .i64 f.fly.speed.z.hi, .int .i64 f.fly.mass, .slice A f.cycle.length c, .int .i64 f.reach, .int .i64 f.soft, .int .i64 f.bears, .int .i64 f.least, .int .i64 f.most]] W fun e w' => e = .returned (.bool f.ok) ∧ Below W.heap.size W w') := fun W h => right_any f A c W h hfew
  have hEq : ∀ W : World, (binOp .eql 92 (.agg #[.int .i64 0, .int .i64 0]) (.agg #[.int .i64 0, .int .i64 0])).run Try.prog W = .ok (.bool true) W := fun W => by rw [eqW]; simp
  have HWB : Hid (winB a b = (inB a 0 6000 && inB b a 6000)) := winB_in
  have hor : (inB a 0 6000 = false ∧ (f.ok = false ∨ f.ok = true)) ∨ (inB a 0 6000 = true ∧ inB b (a + 300) 6000 = false ∧ (f.ok = false ∨ (f.ok = true ∧ inB b a 6000 = false))) := by
    cases h1 : inB a 0 6000
    · left; cases f.ok <;> simp
    · right
      rw [h1, Bool.true_and] at hbig
      refine ⟨rfl, hbig, ?_⟩
      cases hf : f.ok
      · exact .inl rfl
      · right
        refine ⟨rfl, ?_⟩
        cases h2 : inB b a 6000
        · rfl
        · exfalso; apply hE; unfold winE; rw [hf, winB_in, h1, h2]; rfl
  clear hr hfew hE hbig hfl7
  rcases hor with ⟨h1, hf | hf⟩ | ⟨h1, h3, hf | ⟨hf, h2⟩⟩
  all_goals
    have HE : Hid (winE f.ok a b = (if f.ok then 2 else 1)) := by
      show _ = _
      unfold winE
      rw [HWB.out, h1, hf]
      first | rw [h2] | skip
      rfl
    rw [HE.out, hf] at HWS HWT
    rw [hf] at HR
    try obtain ⟨ba1, ba2⟩ := inB_true.1 h1
    have H1 := Lib.hid h1
    try have H2 := Lib.hid h2
    try have H3 := Lib.hid h3
    clear h1 hf HE
    try clear h2
    try clear h3
    as_aux_lemma =>
      have hmx : Try.prog.follows .mixedOrders = true := by kernel_rfl
      go_enter Try.func9, Try.ntmps9
      go_upto_region 1 with fail
      refine name_world (motive := fun W => Code.wp _ _ _ _ W) _ ?_
      intro W0 hW
      have hWc := hW.cell
      have hWz := hW.size
      have hWb := hW.below (hB0)
      have kF := hW.blk kF0
      have hR0 := hR00.to (hW.below (Below.refl _ _))
      have HB0 := Lib.hid hWb
      clear hB0 kF0 hR00 hW hWc hWz hWb
      have hX := Below.refl W0.heap.size W0
      have kX := kF
      have x0 := kX.cell 0; have x1 := kX.cell 1; have x2 := kX.cell 2; have x3 := kX.cell 3; have x4 := kX.cell 4; have x5 := kX.cell 5; have x6 := kX.cell 6; have x7 := kX.cell 7; have x8 := kX.cell 8; have x9 := kX.cell 9; have x10 := kX.cell 10; have x11 := kX.cell 11; have x12 := kX.cell 12; have x13 := kX.cell 13; have x14 := kX.cell 14; simp at x0 x1 x2 x3 x4 x5 x6 x7 x8 x9 x10 x11 x12 x13 x14
      go_upto_region 4 with (first | (go_at_call 14; (with_reducible refine (HFEW.out _).mono ?_); rintro e wn ⟨rfl, hb⟩; have hX := sh_next hX hb; clear kX x0 x1 x2 x3 x4 x5 x6 x7 x8 x9 x10 x11 x12 x13 x14; have kX := kF.below hX kF.lt; have x0 := kX.cell 0; have x1 := kX.cell 1; have x2 := kX.cell 2; have x3 := kX.cell 3; have x4 := kX.cell 4; have x5 := kX.cell 5; have x6 := kX.cell 6; have x7 := kX.cell 7; have x8 := kX.cell 8; have x9 := kX.cell 9; have x10 := kX.cell 10; have x11 := kX.cell 11; have x12 := kX.cell 12; have x13 := kX.cell 13; have x14 := kX.cell 14; simp at x0 x1 x2 x3 x4 x5 x6 x7 x8 x9 x10 x11 x12 x13 x14) | (go_at_call 20; (with_reducible refine (in_val H1.out _).mono ?_); rintro e wq ⟨rfl, rfl⟩) | (go_at_call 20; (with_reducible refine (in_val H3.out _).mono ?_); rintro e wq ⟨rfl, rfl⟩) | (go_at_call 19; (with_reducible refine (HFL.out _ (hR0.to hX)).mono ?_); rintro e wn ⟨A2, c2, rfl, hs2, hb⟩; have hX := sh_next hX hb; clear kX x0 x1 x2 x3 x4 x5 x6 x7 x8 x9 x10 x11 x12 x13 x14; have kX := kF.below hX kF.lt; have x0 := kX.cell 0; have x1 := kX.cell 1; have x2 := kX.cell 2; have x3 := kX.cell 3; have x4 := kX.cell 4; have x5 := kX.cell 5; have x6 := kX.cell 6; have x7 := kX.cell 7; have x8 := kX.cell 8; have x9 := kX.cell 9; have x10 := kX.cell 10; have x11 := kX.cell 11; have x12 := kX.cell 12; have x13 := kX.cell 13; have x14 := kX.cell 14; simp at x0 x1 x2 x3 x4 x5 x6 x7 x8 x9 x10 x11 x12 x13 x14) | (go_at_call 42; (with_reducible refine (HWS.out _ _ _ hs2).mono ?_); rintro e wn ⟨rfl, hb⟩; have hX := sh_next hX hb; clear kX x0 x1 x2 x3 x4 x5 x6 x7 x8 x9 x10 x11 x12 x13 x14; have kX := kF.below hX kF.lt; have x0 := kX.cell 0; have x1 := kX.cell 1; have x2 := kX.cell 2; have x3 := kX.cell 3; have x4 := kX.cell 4; have x5 := kX.cell 5; have x6 := kX.cell 6; have x7 := kX.cell 7; have x8 := kX.cell 8; have x9 := kX.cell 9; have x10 := kX.cell 10; have x11 := kX.cell 11; have x12 := kX.cell 12; have x13 := kX.cell 13; have x14 := kX.cell 14; simp at x0 x1 x2 x3 x4 x5 x6 x7 x8 x9 x10 x11 x12 x13 x14))
      clear x0 x1 x2 x3 x4 x5 x6 x7 x8 x9 x10 x11 x12 x13 x14
      have x0 := kX.cell 0; have x1 := kX.cell 1; have x2 := kX.cell 2; have x3 := kX.cell 3; have x4 := kX.cell 4; have x5 := kX.cell 5; have x6 := kX.cell 6; have x7 := kX.cell 7; have x8 := kX.cell 8; have x9 := kX.cell 9; have x10 := kX.cell 10; have x11 := kX.cell 11; have x12 := kX.cell 12; have x13 := kX.cell 13; have x14 := kX.cell 14; simp at x0 x1 x2 x3 x4 x5 x6 x7 x8 x9 x10 x11 x12 x13 x14
      go_upto_region 5 with (first | (go_at_call 19; (with_reducible refine (HFL.out _ (hR0.to hX)).mono ?_); rintro e wn ⟨A2, c2, rfl, hs2, hb⟩; have hX := sh_next hX hb; clear kX x0 x1 x2 x3 x4 x5 x6 x7 x8 x9 x10 x11 x12 x13 x14; have kX := kF.below hX kF.lt; have x0 := kX.cell 0; have x1 := kX.cell 1; have x2 := kX.cell 2; have x3 := kX.cell 3; have x4 := kX.cell 4; have x5 := kX.cell 5; have x6 := kX.cell 6; have x7 := kX.cell 7; have x8 := kX.cell 8; have x9 := kX.cell 9; have x10 := kX.cell 10; have x11 := kX.cell 11; have x12 := kX.cell 12; have x13 := kX.cell 13; have x14 := kX.cell 14; simp at x0 x1 x2 x3 x4 x5 x6 x7 x8 x9 x10 x11 x12 x13 x14) | (go_at_call 43; (with_reducible refine (HWT.out _ _ _ hs2).mono ?_); rintro e wn ⟨rfl, hb⟩; have hX := sh_next hX hb; clear kX x0 x1 x2 x3 x4 x5 x6 x7 x8 x9 x10 x11 x12 x13 x14; have kX := kF.below hX kF.lt; have x0 := kX.cell 0; have x1 := kX.cell 1; have x2 := kX.cell 2; have x3 := kX.cell 3; have x4 := kX.cell 4; have x5 := kX.cell 5; have x6 := kX.cell 6; have x7 := kX.cell 7; have x8 := kX.cell 8; have x9 := kX.cell 9; have x10 := kX.cell 10; have x11 := kX.cell 11; have x12 := kX.cell 12; have x13 := kX.cell 13; have x14 := kX.cell 14; simp at x0 x1 x2 x3 x4 x5 x6 x7 x8 x9 x10 x11 x12 x13 x14))
      clear x0 x1 x2 x3 x4 x5 x6 x7 x8 x9 x10 x11 x12 x13 x14
      obtain ⟨gV, hgV⟩ : ∃ g, wn.heap.size = g := ⟨_, rfl⟩
      have kV0 := Blk.new wn 92 #[.int .i64 0, .int .i64 0]
      rw [hgV] at kV0
      have kF1 := kX.alloc (.cells #[.int .i64 0, .int .i64 0] 92)
      have hX1 := hX.alloc hX.size (.cells #[.int .i64 0, .int .i64 0] 92)
      have hR1 := hR0.to hX1
      have HB1 := Lib.hid (HB0.out.trans (hX1.mono HB0.out.size))
      simp only [hgV]
      clear kF kX hR0 HB0
      refine name_world (motive := fun W => Code.wp _ _ _ _ W) _ ?_
      intro W0 hW
      have hWc := hW.cell
      have hWz := hW.size
      have hWb := hW.below (hX1)
      have kF := hW.blk kF1
      have kV := hW.blk kV0
      have hR0 := hR1.to (hW.below (Below.refl _ _))
      have HB0 := Lib.hid (HB1.out.trans ((hW.below (Below.refl _ _)).mono HB1.out.size))
      clear kF1 kV0 hR1 HB1 hW hWc hWz hWb hX1 hX hgV
      as_aux_lemma =>
        have hX := Below.refl W0.heap.size W0
        have kX := kF
        have x0 := kX.cell 0; have x1 := kX.cell 1; have x2 := kX.cell 2; have x3 := kX.cell 3; have x4 := kX.cell 4; have x5 := kX.cell 5; have x6 := kX.cell 6; have x7 := kX.cell 7; have x8 := kX.cell 8; have x9 := kX.cell 9; have x10 := kX.cell 10; have x11 := kX.cell 11; have x12 := kX.cell 12; have x13 := kX.cell 13; have x14 := kX.cell 14; simp at x0 x1 x2 x3 x4 x5 x6 x7 x8 x9 x10 x11 x12 x13 x14
        have kVx := kV
        have v0 := kVx.cell 0; have v1 := kVx.cell 1; simp at v0 v1
        go_wp2_with (first | (go_at_call 22; (with_reducible refine (HR.out _ hR0).mono ?_); rintro e w1 ⟨rfl, hb1⟩; have kV1 := kV.below hb1 kV.lt; have u0 := kV1.cell 0; have u1 := kV1.cell 1; simp at u0 u1) | (go_at_call 20; (with_reducible refine (in_val H1.out _).mono ?_); rintro e wq ⟨rfl, rfl⟩) | (go_at_call 20; (with_reducible refine (in_val H2.out _).mono ?_); rintro e wq ⟨rfl, rfl⟩) | (go_at_call 15; refine (wakes_any _).mono ?_; rintro e wk ⟨rfl, hbk⟩))
        go_ret
        exact ⟨rfl, HB0.out.trans ((sh_next hb1 hbk).mono HB0.out.size)⟩
end Go.Proofs.Ytmhnbchfmddhcaa
