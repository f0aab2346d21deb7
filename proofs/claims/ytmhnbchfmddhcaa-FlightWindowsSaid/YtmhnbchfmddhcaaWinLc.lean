import Derived.Test.YtmhnbchfmddhcaaWinLh

/- The windows of any ticks, and the widest one: there are some. -/
namespace Go.Proofs.Ytmhnbchfmddhcaa
open Go.RowKit Go.Shelf
set_option linter.unusedSimpArgs false in
set_option maxRecDepth 100000 in
set_option maxHeartbeats 32000000 in
theorem winLaw_some (f : Flt) (A : Option Addr) (c : Nat) (a b : Nat) (x : Int × Int) (l : List (Int × Int)) (w : World) (hr : RS encB 4 w w.heap.size A f.cycle) (hfew : f.cycle.length ≤ 700) (hok : f.ok = true) (hab : a ≤ b) (hb6 : b ≤ 6000) (hbig : (inB (a : Int) 0 6000 && inB (b : Int) ((a : Int) + 300) 6000) = false) (hws : winsTo f a (b + 1) = x :: l) :
    Calls Try.prog 9 #[.agg #[.int .i64 f.fly.pos.x.lo, .int .i64 f.fly.pos.x.hi, .int .i64 f.fly.pos.z.lo, .int .i64 f.fly.pos.z.hi, .int .i64 f.fly.speed.x.lo, .int .i64 f.fly.speed.x.hi, .int .i64 f.fly.speed.z.lo, .int .i64 f.fly.speed.z.hi, .int .i64 f.fly.mass, .slice A f.cycle.length c, .int .i64 f.reach, .int .i64 f.soft, .int .i64 f.bears, .int .i64 f.least, .int .i64 f.most], .int .i64 a, .int .i64 b] w fun e w' => e = .returned (.bool true) ∧ Below w.heap.size w w' := by
  have hB0 := (Below.refl w.heap.size w).alloc (Nat.le_refl _) (.cells #[.int .i64 f.fly.pos.x.lo, .int .i64 f.fly.pos.x.hi, .int .i64 f.fly.pos.z.lo, .int .i64 f.fly.pos.z.hi, .int .i64 f.fly.speed.x.lo, .int .i64 f.fly.speed.x.hi, .int .i64 f.fly.speed.z.lo, .int .i64 f.fly.speed.z.hi, .int .i64 f.fly.mass, .slice A f.cycle.length c, .int .i64 f.reach, .int .i64 f.soft, .int .i64 f.bears, .int .i64 f.least, .int .i64 f.most] 32)
  have kF0 := Blk.new w 32 #[.int .i64 f.fly.pos.x.lo, .int .i64 f.fly.pos.x.hi, .int .i64 f.fly.pos.z.lo, .int .i64 f.fly.pos.z.hi, .int .i64 f.fly.speed.x.lo, .int .i64 f.fly.speed.x.hi, .int .i64 f.fly.speed.z.lo, .int .i64 f.fly.speed.z.hi, .int .i64 f.fly.mass, .slice A f.cycle.length c, .int .i64 f.reach, .int .i64 f.soft, .int .i64 f.bears, .int .i64 f.least, .int .i64 f.most]
  have hR00 := hr.to hB0
  have HFEW : Hid (∀ W : World, Calls Try.prog 14 #[.agg #[.int .i64 f.fly.pos.x.lo, .int .i64 f.fly.pos.x.hi, .int .i64 f.fly.pos.z.lo, .int .i64 f.fly.pos.z.hi, .int .i64 f.fly.speed.x.lo, .int .i64 f.fly.speed.x.hi, .int .i64 f.fly.speed.z.lo, .int .i64 f.fly.speed.z.hi, .int .i64 f.fly.mass, .slice A f.cycle.length c, .int .i64 f.reach, .int .i64 f.soft, .int .i64 f.bears, .int .i64 f.least, .int .i64 f.most]] W fun e w' => e = .returned (.bool true) ∧ Below W.heap.size W w') := fun W => by have := few_any f A c W; rw [decide_eq_true hfew] at this; exact this
  have HFL : Hid (∀ W : World, RS encB 4 W W.heap.size A f.cycle → Calls Try.prog 19 #[.agg #[.int .i64 f.fly.pos.x.lo, .int .i64 f.fly.pos.x.hi, .int .i64 f.fly.pos.z.lo, .int .i64 f.fly.pos.z.hi, .int .i64 f.fly.speed.x.lo, .int .i64 f.fly.speed.x.hi, .int .i64 f.fly.speed.z.lo, .int .i64 f.fly.speed.z.hi, .int .i64 f.fly.mass, .slice A f.cycle.length c, .int .i64 f.reach, .int .i64 f.soft, .int .i64 f.bears, .int .i64 f.least, .int .i64 f.most]] W fun e w' => ∃ (A : Option Addr) (c : Nat), e = .returned (.agg #[.int .i64 f.fly.pos.x.lo, .int .i64 f.fly.pos.x.hi, .int .i64 f.fly.pos.z.lo, .int .i64 f.fly.pos.z.hi, .int .i64 f.fly.speed.x.lo, .int .i64 f.fly.speed.x.hi, .int .i64 f.fly.speed.z.lo, .int .i64 f.fly.speed.z.hi, .int .i64 f.fly.mass, .slice A f.cycle.length c, .int .i64 f.reach, .int .i64 f.soft, .int .i64 f.bears, .int .i64 f.least, .int .i64 f.most]) ∧ RS encB 4 w' w'.heap.size A f.cycle ∧ Below W.heap.size W w') := fun W h => lawFlight_any f A c W h hfew
  have hfl7 : f.cycle.length ≤ maxLen := by have : (700 : Nat) ≤ maxLen := (by unfold maxLen; omega); omega
  have HWS : Hid (∀ (W : World) (A : Option Addr) (c : Nat), RS encB 4 W W.heap.size A f.cycle → Calls Try.prog 42 #[.agg #[.int .i64 f.fly.pos.x.lo, .int .i64 f.fly.pos.x.hi, .int .i64 f.fly.pos.z.lo, .int .i64 f.fly.pos.z.hi, .int .i64 f.fly.speed.x.lo, .int .i64 f.fly.speed.x.hi, .int .i64 f.fly.speed.z.lo, .int .i64 f.fly.speed.z.hi, .int .i64 f.fly.mass, .slice A f.cycle.length c, .int .i64 f.reach, .int .i64 f.soft, .int .i64 f.bears, .int .i64 f.least, .int .i64 f.most], .int .i64 (a : Int), .int .i64 (b : Int)] W fun e w' => ∃ A' c', e = .returned (.tuple #[.slice A' (winsTo f a (b + 1)).length c', .int .i64 0]) ∧ RS encW 2 w' w'.heap.size A' (winsTo f a (b + 1)) ∧ Below W.heap.size W w') := fun W A c h => Windows_ok f A c a b W hok h hab hb6
  have HWT : Hid (∀ (W : World) (A : Option Addr) (c : Nat), RS encB 4 W W.heap.size A f.cycle → Calls Try.prog 43 #[.agg #[.int .i64 f.fly.pos.x.lo, .int .i64 f.fly.pos.x.hi, .int .i64 f.fly.pos.z.lo, .int .i64 f.fly.pos.z.hi, .int .i64 f.fly.speed.x.lo, .int .i64 f.fly.speed.x.hi, .int .i64 f.fly.speed.z.lo, .int .i64 f.fly.speed.z.hi, .int .i64 f.fly.mass, .slice A f.cycle.length c, .int .i64 f.reach, .int .i64 f.soft, .int .i64 f.bears, .int .i64 f.least, .int .i64 f.most], .int .i64 (a : Int), .int .i64 (b : Int)] W fun e w' => e = .returned (.tuple #[.agg #[.int .i64 (widest (x :: l)).1, .int .i64 (widest (x :: l)).2], .int .i64 0]) ∧ Below W.heap.size W w') := fun W A c h => Widest_ok f A c a b x l W hok h hab hb6 hws
  have HBD : Hid (∀ p ∈ x :: l, (0 : Int) ≤ p.1 ∧ p.1 ≤ p.2 ∧ p.2 ≤ 6000) := fun p hp => by
    have := winsTo_in (f := f) (a := a) (n := b + 1) (by omega) p (by rw [hws]; exact hp)
    omega
  obtain ⟨m, hm⟩ : ∃ m, widest (x :: l) = m := ⟨_, rfl⟩
  rw [hm] at HWT
  have HRW : Hid (∀ W : World, RS encB 4 W W.heap.size A f.cycle → Calls Try.prog 44 #[.agg #[.int .i64 f.fly.pos.x.lo, .int .i64 f.fly.pos.x.hi, .int .i64 f.fly.pos.z.lo, .int .i64 f.fly.pos.z.hi, .int .i64 f.fly.speed.x.lo, .int .i64 f.fly.speed.x.hi, .int .i64 f.fly.speed.z.lo, .int .i64 f.fly.speed.z.hi, .int .i64 f.fly.mass, .slice A f.cycle.length c, .int .i64 f.reach, .int .i64 f.soft, .int .i64 f.bears, .int .i64 f.least, .int .i64 f.most], .int .i64 (a : Int), .int .i64 (b : Int)] W fun e w' => ∃ A' c', e = .returned (.slice A' (winsTo f a (b + 1)).length c') ∧ RS encW 2 w' w'.heap.size A' (winsTo f a (b + 1)) ∧ Below W.heap.size W w') := fun W h => refWindows_any f A c a b W hok hab hb6 h
  have hwl := winsTo_len (f := f) (a := a) (n := b + 1) (by omega)
  have HR : Hid (∀ W : World, RS encB 4 W W.heap.size A f.cycle → Calls Try.prog 22 #[.agg #[.int .i64 f.fly.pos.x.lo, .int .i64 f.fly.pos.x.hi, .int .i64 f.fly.pos.z.lo, .int .i64 f.fly.pos.z.hi, .int .i64 f.fly.speed.x.lo, .int .i64 f.fly.speed.x.hi, .int .i64 f.fly.speed.z.lo, .int .i64 f.fly.speed.z.hi, .int .i64 f.fly.mass, .slice A f.cycle.length c, .int .i64 f.reach, .int .i64 f.soft, .int .i64 f.bears, .int .i64 f.least, .int .i64 f.most]] W fun e w' => e = .returned (.bool true) ∧ Below W.heap.size W w') := fun W h => by rw [← hok]; exact right_any f A c W h hfew
  obtain ⟨ws, hw⟩ : ∃ ws, winsTo f a (b + 1) = ws := ⟨_, rfl⟩
  rw [hw] at HWS HRW hwl hws
  have HLW : Hid (∀ (W : World) (A1 A2 : Option Addr) (c1 c2 : Nat), RS encW 2 W W.heap.size A1 ws → RS encW 2 W W.heap.size A2 ws → Calls Try.prog 45 #[.slice A1 ws.length c1, .slice A2 ws.length c2] W fun e w' => e = .returned (.bool true) ∧ Below W.heap.size W w') := fun W A1 A2 c1 c2 h1 h2 => lawWindows_any A1 A2 c1 c2 ws W h1 h2 (by omega)
  have H1 : Hid (inB (a : Int) 0 6000 = true) := inB_true.2 (by omega)
  have H2 : Hid (inB (b : Int) (a : Int) 6000 = true) := inB_true.2 (by omega)
  have H3 : Hid (inB (b : Int) ((a : Int) + 300) 6000 = false) := by have h := H1.out; rw [h, Bool.true_and] at hbig; exact hbig
  obtain ⟨nw, hnw⟩ : ∃ nw, ws.length = nw := ⟨_, rfl⟩
  have hnz : ¬ (nw : Int) = 0 := by rw [← hnw, hws]; simp; omega
  have hn1 : nw = l.length + 1 := by rw [← hnw, hws]; rfl
  rw [hnw] at HWS HRW HLW hwl
  have ha6 : a ≤ 6000 := by omega
  have HWSE := Lib.hid hws
  have HN1 := Lib.hid hn1
  clear hn1
  clear hr hfew hok hfl7 hbig hw hnw hws hab
  have HM := Lib.hid hm
  clear hm
  have hmx : Try.prog.follows .mixedOrders = true := by kernel_rfl
  go_enter Try.func9, Try.ntmps9
  go_upto_region 1 with fail
  refine name_world (motive := fun W => Code.wp _ _ _ _ W) _ ?_
  intro W0 hW
  have hWc := hW.cell
  have hWz := hW.size
  have hWb := hW.below (hB0)
  have kF := hW.blk kF0
  have hR0 := hR00.to (hW.below (Below.refl _ _))
  have HB0 := Lib.hid hWb
  clear hB0 kF0 hR00 hW hWc hWz hWb
  have hX := Below.refl W0.heap.size W0
  have kX := kF
  have x0 := kX.cell 0; have x1 := kX.cell 1; have x2 := kX.cell 2; have x3 := kX.cell 3; have x4 := kX.cell 4; have x5 := kX.cell 5; have x6 := kX.cell 6; have x7 := kX.cell 7; have x8 := kX.cell 8; have x9 := kX.cell 9; have x10 := kX.cell 10; have x11 := kX.cell 11; have x12 := kX.cell 12; have x13 := kX.cell 13; have x14 := kX.cell 14; simp at x0 x1 x2 x3 x4 x5 x6 x7 x8 x9 x10 x11 x12 x13 x14
  go_upto_region 4 with (first | (go_at_call 14; (with_reducible refine (HFEW.out _).mono ?_); rintro e wn ⟨rfl, hb⟩; have hX := sh_next hX hb; clear kX x0 x1 x2 x3 x4 x5 x6 x7 x8 x9 x10 x11 x12 x13 x14; have kX := kF.below hX kF.lt; have x0 := kX.cell 0; have x1 := kX.cell 1; have x2 := kX.cell 2; have x3 := kX.cell 3; have x4 := kX.cell 4; have x5 := kX.cell 5; have x6 := kX.cell 6; have x7 := kX.cell 7; have x8 := kX.cell 8; have x9 := kX.cell 9; have x10 := kX.cell 10; have x11 := kX.cell 11; have x12 := kX.cell 12; have x13 := kX.cell 13; have x14 := kX.cell 14; simp at x0 x1 x2 x3 x4 x5 x6 x7 x8 x9 x10 x11 x12 x13 x14) | (go_at_call 20; (with_reducible refine (in_val H1.out _).mono ?_); rintro e wq ⟨rfl, rfl⟩) | (go_at_call 20; (with_reducible refine (in_val H3.out _).mono ?_); rintro e wq ⟨rfl, rfl⟩) | (go_at_call 19; (with_reducible refine (HFL.out _ (hR0.to hX)).mono ?_); rintro e wn ⟨A2, c2, rfl, hs2, hb⟩; have hX := sh_next hX hb; clear kX x0 x1 x2 x3 x4 x5 x6 x7 x8 x9 x10 x11 x12 x13 x14; have kX := kF.below hX kF.lt; have x0 := kX.cell 0; have x1 := kX.cell 1; have x2 := kX.cell 2; have x3 := kX.cell 3; have x4 := kX.cell 4; have x5 := kX.cell 5; have x6 := kX.cell 6; have x7 := kX.cell 7; have x8 := kX.cell 8; have x9 := kX.cell 9; have x10 := kX.cell 10; have x11 := kX.cell 11; have x12 := kX.cell 12; have x13 := kX.cell 13; have x14 := kX.cell 14; simp at x0 x1 x2 x3 x4 x5 x6 x7 x8 x9 x10 x11 x12 x13 x14) | (go_at_call 42; (with_reducible refine (HWS.out _ _ _ hs2).mono ?_); rintro e wn ⟨Al, cl, rfl, hsl, hb⟩; have hX := sh_next hX hb; clear kX x0 x1 x2 x3 x4 x5 x6 x7 x8 x9 x10 x11 x12 x13 x14; have kX := kF.below hX kF.lt; have x0 := kX.cell 0; have x1 := kX.cell 1; have x2 := kX.cell 2; have x3 := kX.cell 3; have x4 := kX.cell 4; have x5 := kX.cell 5; have x6 := kX.cell 6; have x7 := kX.cell 7; have x8 := kX.cell 8; have x9 := kX.cell 9; have x10 := kX.cell 10; have x11 := kX.cell 11; have x12 := kX.cell 12; have x13 := kX.cell 13; have x14 := kX.cell 14; simp at x0 x1 x2 x3 x4 x5 x6 x7 x8 x9 x10 x11 x12 x13 x14))
  clear x0 x1 x2 x3 x4 x5 x6 x7 x8 x9 x10 x11 x12 x13 x14
  have x0 := kX.cell 0; have x1 := kX.cell 1; have x2 := kX.cell 2; have x3 := kX.cell 3; have x4 := kX.cell 4; have x5 := kX.cell 5; have x6 := kX.cell 6; have x7 := kX.cell 7; have x8 := kX.cell 8; have x9 := kX.cell 9; have x10 := kX.cell 10; have x11 := kX.cell 11; have x12 := kX.cell 12; have x13 := kX.cell 13; have x14 := kX.cell 14; simp at x0 x1 x2 x3 x4 x5 x6 x7 x8 x9 x10 x11 x12 x13 x14
  go_upto_region 5 with (first | (go_at_call 19; (with_reducible refine (HFL.out _ (hR0.to hX)).mono ?_); rintro e wn ⟨A2, c2, rfl, hs2, hb⟩; have hX := sh_next hX hb; clear kX x0 x1 x2 x3 x4 x5 x6 x7 x8 x9 x10 x11 x12 x13 x14; have kX := kF.below hX kF.lt; have x0 := kX.cell 0; have x1 := kX.cell 1; have x2 := kX.cell 2; have x3 := kX.cell 3; have x4 := kX.cell 4; have x5 := kX.cell 5; have x6 := kX.cell 6; have x7 := kX.cell 7; have x8 := kX.cell 8; have x9 := kX.cell 9; have x10 := kX.cell 10; have x11 := kX.cell 11; have x12 := kX.cell 12; have x13 := kX.cell 13; have x14 := kX.cell 14; simp at x0 x1 x2 x3 x4 x5 x6 x7 x8 x9 x10 x11 x12 x13 x14; have hsl := hsl.to hb) | (go_at_call 43; (with_reducible refine (HWT.out _ _ _ hs2).mono ?_); rintro e wn ⟨rfl, hb⟩; have hX := sh_next hX hb; clear kX x0 x1 x2 x3 x4 x5 x6 x7 x8 x9 x10 x11 x12 x13 x14; have kX := kF.below hX kF.lt; have x0 := kX.cell 0; have x1 := kX.cell 1; have x2 := kX.cell 2; have x3 := kX.cell 3; have x4 := kX.cell 4; have x5 := kX.cell 5; have x6 := kX.cell 6; have x7 := kX.cell 7; have x8 := kX.cell 8; have x9 := kX.cell 9; have x10 := kX.cell 10; have x11 := kX.cell 11; have x12 := kX.cell 12; have x13 := kX.cell 13; have x14 := kX.cell 14; simp at x0 x1 x2 x3 x4 x5 x6 x7 x8 x9 x10 x11 x12 x13 x14; have hsl := hsl.to hb))
  clear x0 x1 x2 x3 x4 x5 x6 x7 x8 x9 x10 x11 x12 x13 x14
  have hsl := hsl
  obtain ⟨gV, hgV⟩ : ∃ g, wn.heap.size = g := ⟨_, rfl⟩
  have kV0 := Blk.new wn 92 #[.int .i64 m.1, .int .i64 m.2]
  rw [hgV] at kV0
  have kF1 := kX.alloc (.cells #[.int .i64 m.1, .int .i64 m.2] 92)
  have hX1 := hX.alloc hX.size (.cells #[.int .i64 m.1, .int .i64 m.2] 92)
  have hR1 := hR0.to hX1
  have hsl1 := hsl.to ((Below.refl _ _).alloc (Nat.le_refl _) (.cells #[.int .i64 m.1, .int .i64 m.2] 92))
  have HB1 := Lib.hid (HB0.out.trans (hX1.mono HB0.out.size))
  simp only [hgV]
  clear kF kX hR0 HB0
  refine name_world (motive := fun W => Code.wp _ _ _ _ W) _ ?_
  intro W0 hW
  have hWc := hW.cell
  have hWz := hW.size
  have hWb := hW.below (hX1)
  have kF := hW.blk kF1
  have kV := hW.blk kV0
  have hR0 := hR1.to (hW.below (Below.refl _ _))
  have hS0 := hsl1.to (hW.below (Below.refl _ _))
  have HB0 := Lib.hid (HB1.out.trans ((hW.below (Below.refl _ _)).mono HB1.out.size))
  clear kF1 kV0 hR1 HB1 hW hWc hWz hWb hX1 hX hgV hsl1 hsl
  as_aux_lemma =>
    have hX := Below.refl W0.heap.size W0
    have kX := kF
    have x0 := kX.cell 0; have x1 := kX.cell 1; have x2 := kX.cell 2; have x3 := kX.cell 3; have x4 := kX.cell 4; have x5 := kX.cell 5; have x6 := kX.cell 6; have x7 := kX.cell 7; have x8 := kX.cell 8; have x9 := kX.cell 9; have x10 := kX.cell 10; have x11 := kX.cell 11; have x12 := kX.cell 12; have x13 := kX.cell 13; have x14 := kX.cell 14; simp at x0 x1 x2 x3 x4 x5 x6 x7 x8 x9 x10 x11 x12 x13 x14
    go_upto_region 15 with (first | (go_at_call 22; (with_reducible refine (HR.out _ (hR0.to hX)).mono ?_); rintro e wn ⟨rfl, hb⟩; have hX := sh_next hX hb; clear kX x0 x1 x2 x3 x4 x5 x6 x7 x8 x9 x10 x11 x12 x13 x14; have kX := kF.below hX kF.lt; have x0 := kX.cell 0; have x1 := kX.cell 1; have x2 := kX.cell 2; have x3 := kX.cell 3; have x4 := kX.cell 4; have x5 := kX.cell 5; have x6 := kX.cell 6; have x7 := kX.cell 7; have x8 := kX.cell 8; have x9 := kX.cell 9; have x10 := kX.cell 10; have x11 := kX.cell 11; have x12 := kX.cell 12; have x13 := kX.cell 13; have x14 := kX.cell 14; simp at x0 x1 x2 x3 x4 x5 x6 x7 x8 x9 x10 x11 x12 x13 x14; have hS0 := hS0.to hb) | (go_at_call 20; (with_reducible refine (in_val H1.out _).mono ?_); rintro e wq ⟨rfl, rfl⟩) | (go_at_call 20; (with_reducible refine (in_val H2.out _).mono ?_); rintro e wq ⟨rfl, rfl⟩) | (go_at_call 44; (with_reducible refine (HRW.out _ (hR0.to hX)).mono ?_); rintro e wn ⟨A5, c5, rfl, hs5, hb⟩; have hX := sh_next hX hb; clear kX x0 x1 x2 x3 x4 x5 x6 x7 x8 x9 x10 x11 x12 x13 x14; have kX := kF.below hX kF.lt; have x0 := kX.cell 0; have x1 := kX.cell 1; have x2 := kX.cell 2; have x3 := kX.cell 3; have x4 := kX.cell 4; have x5 := kX.cell 5; have x6 := kX.cell 6; have x7 := kX.cell 7; have x8 := kX.cell 8; have x9 := kX.cell 9; have x10 := kX.cell 10; have x11 := kX.cell 11; have x12 := kX.cell 12; have x13 := kX.cell 13; have x14 := kX.cell 14; simp at x0 x1 x2 x3 x4 x5 x6 x7 x8 x9 x10 x11 x12 x13 x14; have hS0 := hS0.to hb) | (go_at_call 45; (with_reducible refine (HLW.out _ _ _ _ _ hS0 hs5).mono ?_); rintro e wn ⟨rfl, hb⟩; have hX := sh_next hX hb; clear kX x0 x1 x2 x3 x4 x5 x6 x7 x8 x9 x10 x11 x12 x13 x14; have kX := kF.below hX kF.lt; have x0 := kX.cell 0; have x1 := kX.cell 1; have x2 := kX.cell 2; have x3 := kX.cell 3; have x4 := kX.cell 4; have x5 := kX.cell 5; have x6 := kX.cell 6; have x7 := kX.cell 7; have x8 := kX.cell 8; have x9 := kX.cell 9; have x10 := kX.cell 10; have x11 := kX.cell 11; have x12 := kX.cell 12; have x13 := kX.cell 13; have x14 := kX.cell 14; simp at x0 x1 x2 x3 x4 x5 x6 x7 x8 x9 x10 x11 x12 x13 x14; have hs5 := hs5.to hb))
    clear x0 x1 x2 x3 x4 x5 x6 x7 x8 x9 x10 x11 x12 x13 x14
    have kV1 := kV.below hX kV.lt
    have HB1 := Lib.hid (HB0.out.trans (hX.mono HB0.out.size))
    clear kF kX hR0 HB0 kV
    refine name_world (motive := fun W => Code.wp _ _ _ _ W) _ ?_
    intro W0 hW
    have hWc := hW.cell
    have hWz := hW.size
    have hWb := hW.below (hX)
    have kV := hW.blk kV1
    have hS5 := hs5.to (hW.below (Below.refl _ _))
    have HB0 := Lib.hid (HB1.out.trans ((hW.below (Below.refl _ _)).mono HB1.out.size))
    clear kV1 hs5 hS0 HB1 hW hWc hWz hWb hX
    have v0 := kV.cell 0; have v1 := kV.cell 1; simp at v0 v1
    have hws := HWSE.out
    subst hws
    obtain ⟨qb, off, rfl, hqb, hc0⟩ := hS5.at_ (k := 0) (x := x) rfl
    have z0 := hc0 0 _ rfl
    have z1 := hc0 1 _ rfl
    simp only [Nat.zero_mul, Nat.add_zero] at z0 z1
    have hI0 : (0 : Int) < (nw : Int) := by have := HN1.out; omega
    clear hc0
    go_upto_region 18 with fail
    have hX1 := (Below.refl W0.heap.size W0).alloc (Nat.le_refl _) (.cells #[.int .i64 x.1, .int .i64 x.2] 88)
    have kM0 := Blk.new W0 88 #[.int .i64 x.1, .int .i64 x.2]
    have kV1 := kV.alloc (.cells #[.int .i64 x.1, .int .i64 x.2] 88)
    have hS6 := Lib.hid hS5
    obtain ⟨Wo, hWo⟩ : ∃ y, y = W0 := ⟨_, rfl⟩
    subst hWo
    have gvl := kV.lt
    clear v0 v1 z0 z1 hS5
    go_wp2
    go_loopw [14] (fun i wr => ∃ k : Nat, k ≤ nw ∧ i = .int .i64 k ∧ Below Wo.heap.size Wo wr ∧ Blk wr gV 92 #[.int .i64 m.1, .int .i64 m.2] ∧ Blk wr Wo.heap.size 88 #[.int .i64 (((x :: l).take k).foldl stepW x).1, .int .i64 (((x :: l).take k).foldl stepW x).2] ∧ (0 : Int) ≤ (((x :: l).take k).foldl stepW x).1 ∧ (((x :: l).take k).foldl stepW x).1 ≤ (((x :: l).take k).foldl stepW x).2 ∧ (((x :: l).take k).foldl stepW x).2 ≤ 6000) (fun i _ => nw - (intOf i).toNat)
    case atStart => exact ⟨0, Nat.zero_le _, rfl, hX1, kV1, kM0, HBD.out x (by simp)⟩
    case round =>
      obtain ⟨k, hk, rfl, hB, kVr, kMr, hbd⟩ := hrel
      clear hX1 kV1 kM0
      by_cases hlt : k < nw
      case neg =>
        obtain rfl : k = nw := by omega
        have hfin : ((x :: l).take k).foldl stepW x = m := by rw [List.take_of_length_le (by have := HN1.out; rw [List.length_cons]; omega), widest_take]; exact HM.out
        rw [hfin] at kMr
        clear hfin hbd
        have v0 := kVr.cell 0; have v1 := kVr.cell 1; simp at v0 v1
        have u0 := kMr.cell 0; have u1 := kMr.cell 1; simp at u0 u1
        have b1 : (m.1 == m.1) = true := by simp
        have b2 : (m.2 == m.2) = true := by simp
        go_wp2_with (go_at_call 15; refine (wakes_any _).mono ?_; rintro e wk ⟨rfl, hbk⟩)
        go_ret
        exact ⟨rfl, HB0.out.trans ((sh_next hB hbk).mono HB0.out.size)⟩
      case pos =>
        have hkI : (k : Int) < (nw : Int) := by omega
        obtain ⟨p, hp⟩ : ∃ p, (x :: l)[k]? = some p := getElem?_lt (by have := HN1.out; rw [List.length_cons]; omega)
        obtain ⟨p1, p2, p3⟩ := HBD.out p (List.mem_of_getElem? hp)
        have HT : Hid (((x :: l).take (k + 1)).foldl stepW x = stepW (((x :: l).take k).foldl stepW x) p) := by
          show _ = _
          rw [take_snoc' hp, List.foldl_append]; rfl
        obtain ⟨s, hs⟩ : ∃ s, ((x :: l).take k).foldl stepW x = s := ⟨_, rfl⟩
        rw [hs] at HT kMr hbd
        obtain ⟨s1, s2, s3⟩ := hbd
        obtain ⟨q2, o2, hA2, hq2, hc2⟩ := (hS6.out.to hB).at_ hp
        cases hA2
        have e0 := hc2 0 _ rfl
        have e1 := hc2 1 _ rfl
        simp only [Nat.add_zero] at e0
        have w1 : IntKind.i64.wrap (p.2 - p.1) = p.2 - p.1 := IntWalk.i64_in _ (by omega)
        have w2 : IntKind.i64.wrap (s.2 - s.1) = s.2 - s.1 := IntWalk.i64_in _ (by omega)
        clear hp hc2 hs
        go_upto_region 21 with fail
        refine name_world (motive := fun W => Code.wp _ _ _ _ W) _ ?_
        intro W0 hW
        have hWc := hW.cell
        have hWz := hW.size
        have hWb := hW.below (hB)
        have kV2 := hW.blk kVr
        have kM2 := hW.blk kMr
        have f0 := cell_after (hW.below (Below.refl _ _)) e0
        have f1 := cell_after (hW.below (Below.refl _ _)) e1
        clear hW hWc hWz kVr kMr e0 e1
        refine (wpIn_wide (n := 9)).1 ?_
        have hLast := trivial
        refine region_rest (S := (fun w' => Blk w' (gV) 92 #[.int .i64 m.1, .int .i64 m.2] ∧ Blk w' (Wo.heap.size) 88 #[.int .i64 s.1, .int .i64 s.2] ∧ w'.cell? ⟨qb, off + k * 2, none⟩ = some (.int .i64 p.1) ∧ w'.cell? ⟨qb, off + k * 2 + 1, none⟩ = some (.int .i64 p.2) ∧ Below W0.heap.size W0 w')) hmx ?_ (fun hHeld => ?_)
        · exact ⟨kV2.drew, kM2.drew, f0, f1, (Below.refl W0.heap.size W0).drew⟩
        change RestIn _ _ _ _ _ _ _ 17 #[false, false, false, false, false, false, false, false, false, false, false, false, false, false, false, false, false] _ (World.drew _)
        refine rest_take (i := 0) (v := _) all_wide (noDefers_of (by kernel_rfl)) rfl (by kernel_rfl) (by kernel_rfl) (by kernel_rfl) (fun _ _ _ h => h) (Or.inl ⟨by rfl, by intro w hSw; clear hSw; go_simp; first | done | with_reducible rfl⟩) hHeld ?_
        change RestIn _ _ _ _ _ _ _ 16 #[true, false, false, false, false, false, false, false, false, false, false, false, false, false, false, false, false] _ _
        try simp only [Act.put, List.setIfInBounds_toArray, List.set_cons_zero, List.set_cons_succ, List.getElem_toArray, List.getElem_cons_zero, List.getElem_cons_succ]
        refine rest_take (i := 1) (v := _) all_wide (noDefers_of (by kernel_rfl)) rfl (by kernel_rfl) (by kernel_rfl) (by kernel_rfl) (fun _ _ _ h => h) (Or.inl ⟨by rfl, by intro w hSw; clear hSw; go_simp; first | done | with_reducible rfl⟩) hHeld ?_
        change RestIn _ _ _ _ _ _ _ 15 #[true, true, false, false, false, false, false, false, false, false, false, false, false, false, false, false, false] _ _
        try simp only [Act.put, List.setIfInBounds_toArray, List.set_cons_zero, List.set_cons_succ, List.getElem_toArray, List.getElem_cons_zero, List.getElem_cons_succ]
        refine rest_take (i := 2) (v := _) all_wide (noDefers_of (by kernel_rfl)) rfl (by kernel_rfl) (by kernel_rfl) (by kernel_rfl) (fun _ _ _ h => h) (Or.inl ⟨by rfl, by intro w hSw; clear hSw; go_simp; first | done | with_reducible rfl⟩) hHeld ?_
        change RestIn _ _ _ _ _ _ _ 14 #[true, true, true, false, false, false, false, false, false, false, false, false, false, false, false, false, false] _ _
        try simp only [Act.put, List.setIfInBounds_toArray, List.set_cons_zero, List.set_cons_succ, List.getElem_toArray, List.getElem_cons_zero, List.getElem_cons_succ]
        refine rest_take (i := 3) (v := _) all_wide (noDefers_of (by kernel_rfl)) rfl (by kernel_rfl) (by kernel_rfl) (by kernel_rfl) (fun _ _ _ h => h) (Or.inl ⟨by rfl, by intro w hSw; clear hSw; go_simp; first | done | with_reducible rfl⟩) hHeld ?_
        change RestIn _ _ _ _ _ _ _ 13 #[true, true, true, true, false, false, false, false, false, false, false, false, false, false, false, false, false] _ _
        try simp only [Act.put, List.setIfInBounds_toArray, List.set_cons_zero, List.set_cons_succ, List.getElem_toArray, List.getElem_cons_zero, List.getElem_cons_succ]
        refine rest_take (i := 4) (v := _) all_wide (noDefers_of (by kernel_rfl)) rfl (by kernel_rfl) (by kernel_rfl) (by kernel_rfl) (fun _ _ _ h => h) (Or.inl ⟨by rfl, by intro w hSw; (obtain ⟨q0, q1, q2, q3, _⟩ := hSw; have q0x0 := q0.cell 0; have q0x1 := q0.cell 1; have q1x0 := q1.cell 0; have q1x1 := q1.cell 1; simp at q0x0 q0x1 q1x0 q1x1); go_simp; first | done | with_reducible rfl⟩) hHeld ?_
        change RestIn _ _ _ _ _ _ _ 12 #[true, true, true, true, true, false, false, false, false, false, false, false, false, false, false, false, false] _ _
        try simp only [Act.put, List.setIfInBounds_toArray, List.set_cons_zero, List.set_cons_succ, List.getElem_toArray, List.getElem_cons_zero, List.getElem_cons_succ]
        refine rest_take (i := 5) (v := _) all_wide (noDefers_of (by kernel_rfl)) rfl (by kernel_rfl) (by kernel_rfl) (by kernel_rfl) (fun _ _ _ h => h) (Or.inl ⟨by rfl, by intro w hSw; clear hSw; go_simp; first | done | with_reducible rfl⟩) hHeld ?_
        change RestIn _ _ _ _ _ _ _ 11 #[true, true, true, true, true, true, false, false, false, false, false, false, false, false, false, false, false] _ _
        try simp only [Act.put, List.setIfInBounds_toArray, List.set_cons_zero, List.set_cons_succ, List.getElem_toArray, List.getElem_cons_zero, List.getElem_cons_succ]
        refine rest_take (i := 6) (v := _) all_wide (noDefers_of (by kernel_rfl)) rfl (by kernel_rfl) (by kernel_rfl) (by kernel_rfl) (fun _ _ _ h => h) (Or.inl ⟨by rfl, by intro w hSw; clear hSw; go_simp; first | done | with_reducible rfl⟩) hHeld ?_
        change RestIn _ _ _ _ _ _ _ 10 #[true, true, true, true, true, true, true, false, false, false, false, false, false, false, false, false, false] _ _
        try simp only [Act.put, List.setIfInBounds_toArray, List.set_cons_zero, List.set_cons_succ, List.getElem_toArray, List.getElem_cons_zero, List.getElem_cons_succ]
        refine rest_take (i := 7) (v := _) all_wide (noDefers_of (by kernel_rfl)) rfl (by kernel_rfl) (by kernel_rfl) (by kernel_rfl) (fun _ _ _ h => h) (Or.inl ⟨by rfl, by intro w hSw; clear hSw; go_simp; first | done | with_reducible rfl⟩) hHeld ?_
        change RestIn _ _ _ _ _ _ _ 9 #[true, true, true, true, true, true, true, true, false, false, false, false, false, false, false, false, false] _ _
        try simp only [Act.put, List.setIfInBounds_toArray, List.set_cons_zero, List.set_cons_succ, List.getElem_toArray, List.getElem_cons_zero, List.getElem_cons_succ]
        refine rest_take (i := 8) (v := _) all_wide (noDefers_of (by kernel_rfl)) rfl (by kernel_rfl) (by kernel_rfl) (by kernel_rfl) (fun _ _ _ h => h) (Or.inl ⟨by rfl, by intro w hSw; clear hSw; go_simp; first | done | with_reducible rfl⟩) hHeld ?_
        change RestIn _ _ _ _ _ _ _ 8 #[true, true, true, true, true, true, true, true, true, false, false, false, false, false, false, false, false] _ _
        try simp only [Act.put, List.setIfInBounds_toArray, List.set_cons_zero, List.set_cons_succ, List.getElem_toArray, List.getElem_cons_zero, List.getElem_cons_succ]
        refine rest_take (i := 9) (v := _) all_wide (noDefers_of (by kernel_rfl)) rfl (by kernel_rfl) (by kernel_rfl) (by kernel_rfl) (fun _ _ _ h => h) (Or.inl ⟨by rfl, by intro w hSw; (obtain ⟨q0, q1, q2, q3, _⟩ := hSw; have q0x0 := q0.cell 0; have q0x1 := q0.cell 1; have q1x0 := q1.cell 0; have q1x1 := q1.cell 1; simp at q0x0 q0x1 q1x0 q1x1); go_simp; first | done | with_reducible rfl⟩) hHeld ?_
        change RestIn _ _ _ _ _ _ _ 7 #[true, true, true, true, true, true, true, true, true, true, false, false, false, false, false, false, false] _ _
        try simp only [Act.put, List.setIfInBounds_toArray, List.set_cons_zero, List.set_cons_succ, List.getElem_toArray, List.getElem_cons_zero, List.getElem_cons_succ]
        refine rest_take (i := 10) (v := _) all_wide (noDefers_of (by kernel_rfl)) rfl (by kernel_rfl) (by kernel_rfl) (by kernel_rfl) (fun _ _ _ h => h) (Or.inl ⟨by rfl, by intro w hSw; clear hSw; go_simp; first | done | with_reducible rfl⟩) hHeld ?_
        change RestIn _ _ _ _ _ _ _ 6 #[true, true, true, true, true, true, true, true, true, true, true, false, false, false, false, false, false] _ _
        try simp only [Act.put, List.setIfInBounds_toArray, List.set_cons_zero, List.set_cons_succ, List.getElem_toArray, List.getElem_cons_zero, List.getElem_cons_succ]
        refine rest_take (i := 11) (v := _) all_wide (noDefers_of (by kernel_rfl)) rfl (by kernel_rfl) (by kernel_rfl) (by kernel_rfl) (fun _ _ _ h => h) (Or.inl ⟨by rfl, by intro w hSw; clear hSw; go_simp; first | done | with_reducible rfl⟩) hHeld ?_
        change RestIn _ _ _ _ _ _ _ 5 #[true, true, true, true, true, true, true, true, true, true, true, true, false, false, false, false, false] _ _
        try simp only [Act.put, List.setIfInBounds_toArray, List.set_cons_zero, List.set_cons_succ, List.getElem_toArray, List.getElem_cons_zero, List.getElem_cons_succ]
        refine rest_take (i := 12) (v := _) all_wide (noDefers_of (by kernel_rfl)) rfl (by kernel_rfl) (by kernel_rfl) (by kernel_rfl) (fun _ _ _ h => h) (Or.inl ⟨by rfl, by intro w hSw; (obtain ⟨q0, q1, q2, q3, _⟩ := hSw; have q0x0 := q0.cell 0; have q0x1 := q0.cell 1; have q1x0 := q1.cell 0; have q1x1 := q1.cell 1; simp at q0x0 q0x1 q1x0 q1x1); go_simp; first | done | with_reducible rfl⟩) hHeld ?_
        change RestIn _ _ _ _ _ _ _ 4 #[true, true, true, true, true, true, true, true, true, true, true, true, true, false, false, false, false] _ _
        try simp only [Act.put, List.setIfInBounds_toArray, List.set_cons_zero, List.set_cons_succ, List.getElem_toArray, List.getElem_cons_zero, List.getElem_cons_succ]
        refine rest_take (i := 13) (v := _) all_wide (noDefers_of (by kernel_rfl)) rfl (by kernel_rfl) (by kernel_rfl) (by kernel_rfl) (fun _ _ _ h => h) (Or.inl ⟨by rfl, by intro w hSw; clear hSw; go_simp; first | done | with_reducible rfl⟩) hHeld ?_
        change RestIn _ _ _ _ _ _ _ 3 #[true, true, true, true, true, true, true, true, true, true, true, true, true, true, false, false, false] _ _
        try simp only [Act.put, List.setIfInBounds_toArray, List.set_cons_zero, List.set_cons_succ, List.getElem_toArray, List.getElem_cons_zero, List.getElem_cons_succ]
        refine rest_take (i := 14) (v := _) all_wide (noDefers_of (by kernel_rfl)) rfl (by kernel_rfl) (by kernel_rfl) (by kernel_rfl) (fun _ _ _ h => h) (Or.inl ⟨by rfl, by intro w hSw; (obtain ⟨q0, q1, q2, q3, _⟩ := hSw; have q0x0 := q0.cell 0; have q0x1 := q0.cell 1; have q1x0 := q1.cell 0; have q1x1 := q1.cell 1; simp at q0x0 q0x1 q1x0 q1x1); go_simp; first | done | with_reducible rfl⟩) hHeld ?_
        change RestIn _ _ _ _ _ _ _ 2 #[true, true, true, true, true, true, true, true, true, true, true, true, true, true, true, false, false] _ _
        try simp only [Act.put, List.setIfInBounds_toArray, List.set_cons_zero, List.set_cons_succ, List.getElem_toArray, List.getElem_cons_zero, List.getElem_cons_succ]
        refine rest_take (i := 15) (v := _) all_wide (noDefers_of (by kernel_rfl)) rfl (by kernel_rfl) (by kernel_rfl) (by kernel_rfl) (fun _ _ _ h => h) (Or.inl ⟨by rfl, by intro w hSw; clear hSw; go_simp; first | done | with_reducible rfl⟩) hHeld ?_
        change RestIn _ _ _ _ _ _ _ 1 #[true, true, true, true, true, true, true, true, true, true, true, true, true, true, true, true, false] _ _
        try simp only [Act.put, List.setIfInBounds_toArray, List.set_cons_zero, List.set_cons_succ, List.getElem_toArray, List.getElem_cons_zero, List.getElem_cons_succ]
        refine rest_take (i := 16) (v := _) all_wide (noDefers_of (by kernel_rfl)) rfl (by kernel_rfl) (by kernel_rfl) (by kernel_rfl) (fun _ _ _ h => h) (Or.inl ⟨by rfl, by intro w hSw; clear hSw; go_simp; first | done | with_reducible rfl⟩) hHeld ?_
        change RestIn _ _ _ _ _ _ _ 0 #[true, true, true, true, true, true, true, true, true, true, true, true, true, true, true, true, true] _ _
        try simp only [Act.put, List.setIfInBounds_toArray, List.set_cons_zero, List.set_cons_succ, List.getElem_toArray, List.getElem_cons_zero, List.getElem_cons_succ]
        refine rest_done (by kernel_rfl) ?_
        obtain ⟨kV3, kM3, g0, g1, hNow2⟩ := hHeld
        have hB3 := hWb.trans (hNow2.mono hWb.size)
        go_upto_if 130 with fail
        refine name_world (motive := fun W => Code.wp _ _ _ _ W) _ ?_
        intro W0 hW
        have hWc := hW.cell
        have hWz := hW.size
        have hWb := hW.below (hB3)
        have kV4 := hW.blk kV3
        have kM4 := hW.blk kM3
        have i0 := cell_after (hW.below (Below.refl _ _)) g0
        have i1 := cell_after (hW.below (Below.refl _ _)) g1
        have hB4 := hWb
        clear hW hWc hWz hWb hB3 kV3 kM3 g0 g1 f0 f1 kV2 kM2 hNow2
        have m0 := kM4.cell 0; have mf0 := kM4.frozen 0; have m1 := kM4.cell 1; have mf1 := kM4.frozen 1; have ml := kM4.lt; simp at m0 m1
        by_cases hgt : s.2 - s.1 < p.2 - p.1
        · have hst : stepW s p = p := if_pos hgt
          have hd : decide (s.2 - s.1 < p.2 - p.1) = true := decide_eq_true hgt
          have HS := Lib.hid hst
          clear hst
          go_wp2
          go_roundw
          case rel =>
            refine ⟨k + 1, by omega, by go_num, (hB4.setCell (p := ⟨Wo.heap.size, 0, none⟩) (Nat.le_refl _) _).setCell (p := ⟨Wo.heap.size, 1, none⟩) (Nat.le_refl _) _, (kV4.far (p := ⟨Wo.heap.size, 0, none⟩) (by simp; omega) _).far (p := ⟨Wo.heap.size, 1, none⟩) (by simp; omega) _, ?_, ?_⟩
            · rw [HT.out, HS.out]; exact (kM4.set_ 0 (.int .i64 p.1)).set_ 1 (.int .i64 p.2)
            · rw [HT.out, HS.out]; exact ⟨p1, p2, p3⟩
          case measure => simp [intOf]; omega
        · have hst : stepW s p = s := if_neg hgt
          have hd : decide (s.2 - s.1 < p.2 - p.1) = false := decide_eq_false hgt
          have HS := Lib.hid hst
          clear hst
          go_wp2
          go_roundw
          case rel => exact ⟨k + 1, by omega, by go_num, hB4, kV4, by rw [HT.out, HS.out]; exact kM4, by rw [HT.out, HS.out]; exact ⟨s1, s2, s3⟩⟩
          case measure => simp [intOf]; omega
end Go.Proofs.Ytmhnbchfmddhcaa
