import Derived.Test.YtbagfapalkmikaaHoldsP
import Derived.Test.YtbagfapalkmikaaConvF

/- The windows hold just the good releases, and the first catches prove them: at a right flight. -/
namespace Go.Proofs.Ytbagfapalkmikaa
open Go.RowKit Go.Shelf
set_option linter.unusedSimpArgs false in
set_option maxRecDepth 100000 in
set_option maxHeartbeats 32000000 in
theorem holds_ok (f : Flt) (A Ac : Option Addr) (c cc : Nat) (rel tk p q : Int) (cs : List Int) (w : World) (hr : RS encB 4 w w.heap.size A f.cycle) (hfew : f.cycle.length ≤ 700) (hok : f.ok = true) (hcs : RS encI 1 w w.heap.size Ac cs) (hcl : cs.length ≤ 400) (hrel : 0 ≤ rel ∧ rel ≤ 65535) (htk : 0 ≤ tk ∧ tk ≤ 255) :
    Calls Try.prog 10 #[.agg #[.int .i64 f.fly.pos.x.lo, .int .i64 f.fly.pos.x.hi, .int .i64 f.fly.pos.z.lo, .int .i64 f.fly.pos.z.hi, .int .i64 f.fly.speed.x.lo, .int .i64 f.fly.speed.x.hi, .int .i64 f.fly.speed.z.lo, .int .i64 f.fly.speed.z.hi, .int .i64 f.fly.mass, .slice A f.cycle.length c, .int .i64 f.reach, .int .i64 f.soft, .int .i64 f.bears, .int .i64 f.least, .int .i64 f.most], .int .u16 rel, .int .u8 tk, .agg #[.int .i64 p, .int .i64 q], .slice Ac cs.length cc] w fun e w' => e = .returned (.bool true) ∧ Below w.heap.size w w' := by
  obtain ⟨i0, hi0, hz0, hz1, hz2⟩ := info_parts infoI
  have hB0 := ((Below.refl w.heap.size w).alloc (Nat.le_refl _) (.cells #[.int .i64 f.fly.pos.x.lo, .int .i64 f.fly.pos.x.hi, .int .i64 f.fly.pos.z.lo, .int .i64 f.fly.pos.z.hi, .int .i64 f.fly.speed.x.lo, .int .i64 f.fly.speed.x.hi, .int .i64 f.fly.speed.z.lo, .int .i64 f.fly.speed.z.hi, .int .i64 f.fly.mass, .slice A f.cycle.length c, .int .i64 f.reach, .int .i64 f.soft, .int .i64 f.bears, .int .i64 f.least, .int .i64 f.most] 32)).alloc (by simp) (.cells #[.int .i64 p, .int .i64 q] 88)
  have kF0 := (Blk.new w 32 #[.int .i64 f.fly.pos.x.lo, .int .i64 f.fly.pos.x.hi, .int .i64 f.fly.pos.z.lo, .int .i64 f.fly.pos.z.hi, .int .i64 f.fly.speed.x.lo, .int .i64 f.fly.speed.x.hi, .int .i64 f.fly.speed.z.lo, .int .i64 f.fly.speed.z.hi, .int .i64 f.fly.mass, .slice A f.cycle.length c, .int .i64 f.reach, .int .i64 f.soft, .int .i64 f.bears, .int .i64 f.least, .int .i64 f.most]).alloc (.cells #[.int .i64 p, .int .i64 q] 88)
  have kW0 := Blk.new (w.alloc (.cells #[.int .i64 f.fly.pos.x.lo, .int .i64 f.fly.pos.x.hi, .int .i64 f.fly.pos.z.lo, .int .i64 f.fly.pos.z.hi, .int .i64 f.fly.speed.x.lo, .int .i64 f.fly.speed.x.hi, .int .i64 f.fly.speed.z.lo, .int .i64 f.fly.speed.z.hi, .int .i64 f.fly.mass, .slice A f.cycle.length c, .int .i64 f.reach, .int .i64 f.soft, .int .i64 f.bears, .int .i64 f.least, .int .i64 f.most] 32)) 88 #[.int .i64 p, .int .i64 q]
  simp only [World.size_alloc] at kW0
  have hR00 := hr.to hB0
  have hL00 := hcs.to hB0
  have hfl7 : f.cycle.length ≤ maxLen := by have : (700 : Nat) ≤ maxLen := (by unfold maxLen; omega); omega
  have HFEW : Hid (∀ W : World, Calls Try.prog 14 #[.agg #[.int .i64 f.fly.pos.x.lo, .int .i64 f.fly.pos.x.hi, .int .i64 f.fly.pos.z.lo, .int .i64 f.fly.pos.z.hi, .int .i64 f.fly.speed.x.lo, .int .i64 f.fly.speed.x.hi, .int .i64 f.fly.speed.z.lo, .int .i64 f.fly.speed.z.hi, .int .i64 f.fly.mass, .slice A f.cycle.length c, .int .i64 f.reach, .int .i64 f.soft, .int .i64 f.bears, .int .i64 f.least, .int .i64 f.most]] W fun e w' => e = .returned (.bool true) ∧ Below W.heap.size W w') := fun W => by have := few_any f A c W; rw [decide_eq_true hfew] at this; exact this
  have HR : Hid (∀ W : World, RS encB 4 W W.heap.size A f.cycle → Calls Try.prog 22 #[.agg #[.int .i64 f.fly.pos.x.lo, .int .i64 f.fly.pos.x.hi, .int .i64 f.fly.pos.z.lo, .int .i64 f.fly.pos.z.hi, .int .i64 f.fly.speed.x.lo, .int .i64 f.fly.speed.x.hi, .int .i64 f.fly.speed.z.lo, .int .i64 f.fly.speed.z.hi, .int .i64 f.fly.mass, .slice A f.cycle.length c, .int .i64 f.reach, .int .i64 f.soft, .int .i64 f.bears, .int .i64 f.least, .int .i64 f.most]] W fun e w' => e = .returned (.bool true) ∧ Below W.heap.size W w') := fun W h => by rw [← hok]; exact right_any f A c W h hfew
  have HFL : Hid (∀ W : World, RS encB 4 W W.heap.size A f.cycle → Calls Try.prog 19 #[.agg #[.int .i64 f.fly.pos.x.lo, .int .i64 f.fly.pos.x.hi, .int .i64 f.fly.pos.z.lo, .int .i64 f.fly.pos.z.hi, .int .i64 f.fly.speed.x.lo, .int .i64 f.fly.speed.x.hi, .int .i64 f.fly.speed.z.lo, .int .i64 f.fly.speed.z.hi, .int .i64 f.fly.mass, .slice A f.cycle.length c, .int .i64 f.reach, .int .i64 f.soft, .int .i64 f.bears, .int .i64 f.least, .int .i64 f.most]] W fun e w' => ∃ (A : Option Addr) (c : Nat), e = .returned (.agg #[.int .i64 f.fly.pos.x.lo, .int .i64 f.fly.pos.x.hi, .int .i64 f.fly.pos.z.lo, .int .i64 f.fly.pos.z.hi, .int .i64 f.fly.speed.x.lo, .int .i64 f.fly.speed.x.hi, .int .i64 f.fly.speed.z.lo, .int .i64 f.fly.speed.z.hi, .int .i64 f.fly.mass, .slice A f.cycle.length c, .int .i64 f.reach, .int .i64 f.soft, .int .i64 f.bears, .int .i64 f.least, .int .i64 f.most]) ∧ RS encB 4 w' w'.heap.size A f.cycle ∧ Below W.heap.size W w') := fun W h => lawFlight_any f A c W h hfew
  obtain ⟨a, ha⟩ : ∃ a : Nat, rel.tmod 5800 = a := ⟨(rel.tmod 5800).toNat, by rw [Int.tmod_eq_emod_of_nonneg hrel.1]; omega⟩
  have ha6 : a < 5800 := by rw [Int.tmod_eq_emod_of_nonneg hrel.1] at ha; omega
  obtain ⟨d, hd⟩ : ∃ d : Nat, tk.tmod 150 = d := ⟨(tk.tmod 150).toNat, by rw [Int.tmod_eq_emod_of_nonneg htk.1]; omega⟩
  have hd1 : d < 150 := by rw [Int.tmod_eq_emod_of_nonneg htk.1] at hd; omega
  obtain ⟨b, hb⟩ : ∃ b : Nat, a + d = b := ⟨_, rfl⟩
  have hbI : (a : Int) + (d : Int) = (b : Int) := by omega
  have hab : a ≤ b := by omega
  have hb6 : b ≤ 6000 := by omega
  have HWS : Hid (∀ (W : World) (A : Option Addr) (c : Nat), RS encB 4 W W.heap.size A f.cycle → Calls Try.prog 42 #[.agg #[.int .i64 f.fly.pos.x.lo, .int .i64 f.fly.pos.x.hi, .int .i64 f.fly.pos.z.lo, .int .i64 f.fly.pos.z.hi, .int .i64 f.fly.speed.x.lo, .int .i64 f.fly.speed.x.hi, .int .i64 f.fly.speed.z.lo, .int .i64 f.fly.speed.z.hi, .int .i64 f.fly.mass, .slice A f.cycle.length c, .int .i64 f.reach, .int .i64 f.soft, .int .i64 f.bears, .int .i64 f.least, .int .i64 f.most], .int .i64 (a : Int), .int .i64 (b : Int)] W fun e w' => ∃ A' c', e = .returned (.tuple #[.slice A' (winsTo f a (b + 1)).length c', .int .i64 0]) ∧ RS encW 2 w' w'.heap.size A' (winsTo f a (b + 1)) ∧ Below W.heap.size W w') := fun W A c h => Windows_ok f A c a b W hok h hab hb6
  have HC1 : Hid (∀ (r : Nat) (W : World) (A : Option Addr) (c : Nat), r ≤ 6000 → RS encB 4 W W.heap.size A f.cycle → Calls Try.prog 35 #[.agg #[.int .i64 f.fly.pos.x.lo, .int .i64 f.fly.pos.x.hi, .int .i64 f.fly.pos.z.lo, .int .i64 f.fly.pos.z.hi, .int .i64 f.fly.speed.x.lo, .int .i64 f.fly.speed.x.hi, .int .i64 f.fly.speed.z.lo, .int .i64 f.fly.speed.z.hi, .int .i64 f.fly.mass, .slice A f.cycle.length c, .int .i64 f.reach, .int .i64 f.soft, .int .i64 f.bears, .int .i64 f.least, .int .i64 f.most], .int .i64 (r : Int)] W fun e w' => ∃ A' c', e = .returned (.tuple #[.slice A' (sureL f r).length c', .int .i64 0]) ∧ RS encI 1 w' w'.heap.size A' (ints (sureL f r)) ∧ Below W.heap.size W w') := fun r W A c hr h => Catches_ok f A c r W hok h (inB_true.2 (by omega))
  have HPW : Hid (∀ (A Al : Option Addr) (c cl : Nat) (s t : Int) (l : List Int) (W : World), RS encB 4 W W.heap.size A f.cycle → RS encI 1 W W.heap.size Al l → Calls Try.prog 41 #[.agg #[.int .i64 f.fly.pos.x.lo, .int .i64 f.fly.pos.x.hi, .int .i64 f.fly.pos.z.lo, .int .i64 f.fly.pos.z.hi, .int .i64 f.fly.speed.x.lo, .int .i64 f.fly.speed.x.hi, .int .i64 f.fly.speed.z.lo, .int .i64 f.fly.speed.z.hi, .int .i64 f.fly.mass, .slice A f.cycle.length c, .int .i64 f.reach, .int .i64 f.soft, .int .i64 f.bears, .int .i64 f.least, .int .i64 f.most], .agg #[.int .i64 s, .int .i64 t], .slice Al l.length cl] W fun e w' => e = .returned (.bool (pwB f s t l)) ∧ Below W.heap.size W w') := fun A Al c cl s t l W h1 h2 => ProveWindow_any f A Al c cl s t l W hfl7 h1 h2
  have hwl := winsTo_len (f := f) (a := a) (n := b + 1) (by omega)
  have HAT : Hid (∀ n k : Nat, ∀ first : List Int, n ≤ b → goodB f n = true → AtTick f a b n k first → ∃ s t : Nat, (winsTo f a (b + 1))[k]? = some ((s : Int), (t : Int)) ∧ s ≤ n ∧ n ≤ t ∧ t ≤ b ∧
      (n = t → pwB f s t (first ++ [firstC f n]) = true ∧ AtTick f a b (n + 1) (k + 1) []) ∧ (n < t → AtTick f a b (n + 1) k (first ++ [firstC f n]))) := fun n k first hn hg h => atTick_good hok hb6 hn hg h
  have HBD : Hid (∀ n k : Nat, ∀ first : List Int, n ≤ b → goodB f n = false → AtTick f a b n k first → first = [] ∧ (∀ p, (winsTo f a (b + 1))[k]? = some p → (n : Int) < p.1) ∧ AtTick f a b (n + 1) k []) := fun n k first hn hg h => atTick_bad hn hg h
  have HEN : Hid (∀ k : Nat, ∀ first : List Int, AtTick f a b (b + 1) k first → k = (winsTo f a (b + 1)).length) := fun k first h => atTick_end h
  have HST : Hid (AtTick f a b a 0 []) := atTick_start (by omega)
  obtain ⟨ws, hw⟩ : ∃ ws, winsTo f a (b + 1) = ws := ⟨_, rfl⟩
  rw [hw] at HWS hwl HAT HBD HEN
  have hcI : ¬ (400 : Int) < (cs.length : Int) := by omega
  have hcI2 : (cs.length : Int) ≤ 400 := by omega
  clear hr hcs hfew hok hfl7 hw hb
  have hmx : Try.prog.follows .mixedOrders = true := by kernel_rfl
  go_enter Try.func10, Try.ntmps10
  go_upto_region 1 with fail
  refine name_world (motive := fun W => Code.wp _ _ _ _ W) _ ?_
  intro W0 hW
  have hWc := hW.cell
  have hWz := hW.size
  have hWb := hW.below (hB0)
  have kF := hW.blk kF0
  have kW := hW.blk kW0
  have hR0 := hR00.to (hW.below (Below.refl _ _))
  have hL0 := hL00.to (hW.below (Below.refl _ _))
  have HB0 := Lib.hid hWb
  clear hB0 kF0 kW0 hR00 hL00 hW hWc hWz hWb
  have hX := Below.refl W0.heap.size W0
  have kX := kF
  have x0 := kX.cell 0; have x1 := kX.cell 1; have x2 := kX.cell 2; have x3 := kX.cell 3; have x4 := kX.cell 4; have x5 := kX.cell 5; have x6 := kX.cell 6; have x7 := kX.cell 7; have x8 := kX.cell 8; have x9 := kX.cell 9; have x10 := kX.cell 10; have x11 := kX.cell 11; have x12 := kX.cell 12; have x13 := kX.cell 13; have x14 := kX.cell 14; simp at x0 x1 x2 x3 x4 x5 x6 x7 x8 x9 x10 x11 x12 x13 x14
  go_upto_region 4 with (first | (go_at_call 14; (with_reducible refine (HFEW.out _).mono ?_); rintro e wn ⟨rfl, hb⟩; have hX := sh_next hX hb; clear kX x0 x1 x2 x3 x4 x5 x6 x7 x8 x9 x10 x11 x12 x13 x14; have kX := kF.below hX kF.lt; have x0 := kX.cell 0; have x1 := kX.cell 1; have x2 := kX.cell 2; have x3 := kX.cell 3; have x4 := kX.cell 4; have x5 := kX.cell 5; have x6 := kX.cell 6; have x7 := kX.cell 7; have x8 := kX.cell 8; have x9 := kX.cell 9; have x10 := kX.cell 10; have x11 := kX.cell 11; have x12 := kX.cell 12; have x13 := kX.cell 13; have x14 := kX.cell 14; simp at x0 x1 x2 x3 x4 x5 x6 x7 x8 x9 x10 x11 x12 x13 x14) | (go_at_call 22; (with_reducible refine (HR.out _ (hR0.to hX)).mono ?_); rintro e wn ⟨rfl, hb⟩; have hX := sh_next hX hb; clear kX x0 x1 x2 x3 x4 x5 x6 x7 x8 x9 x10 x11 x12 x13 x14; have kX := kF.below hX kF.lt; have x0 := kX.cell 0; have x1 := kX.cell 1; have x2 := kX.cell 2; have x3 := kX.cell 3; have x4 := kX.cell 4; have x5 := kX.cell 5; have x6 := kX.cell 6; have x7 := kX.cell 7; have x8 := kX.cell 8; have x9 := kX.cell 9; have x10 := kX.cell 10; have x11 := kX.cell 11; have x12 := kX.cell 12; have x13 := kX.cell 13; have x14 := kX.cell 14; simp at x0 x1 x2 x3 x4 x5 x6 x7 x8 x9 x10 x11 x12 x13 x14) | (go_at_call 19; (with_reducible refine (HFL.out _ (hR0.to hX)).mono ?_); rintro e wn ⟨A2, c2, rfl, hs2, hb⟩; have hX := sh_next hX hb; clear kX x0 x1 x2 x3 x4 x5 x6 x7 x8 x9 x10 x11 x12 x13 x14; have kX := kF.below hX kF.lt; have x0 := kX.cell 0; have x1 := kX.cell 1; have x2 := kX.cell 2; have x3 := kX.cell 3; have x4 := kX.cell 4; have x5 := kX.cell 5; have x6 := kX.cell 6; have x7 := kX.cell 7; have x8 := kX.cell 8; have x9 := kX.cell 9; have x10 := kX.cell 10; have x11 := kX.cell 11; have x12 := kX.cell 12; have x13 := kX.cell 13; have x14 := kX.cell 14; simp at x0 x1 x2 x3 x4 x5 x6 x7 x8 x9 x10 x11 x12 x13 x14))
  clear x0 x1 x2 x3 x4 x5 x6 x7 x8 x9 x10 x11 x12 x13 x14
  obtain ⟨gV, hgV⟩ : ∃ g, wn.heap.size = g := ⟨_, rfl⟩
  have kV0 := Blk.new wn 50 #[.int .i64 f.fly.pos.x.lo, .int .i64 f.fly.pos.x.hi, .int .i64 f.fly.pos.z.lo, .int .i64 f.fly.pos.z.hi, .int .i64 f.fly.speed.x.lo, .int .i64 f.fly.speed.x.hi, .int .i64 f.fly.speed.z.lo, .int .i64 f.fly.speed.z.hi, .int .i64 f.fly.mass, .slice A2 f.cycle.length c2, .int .i64 f.reach, .int .i64 f.soft, .int .i64 f.bears, .int .i64 f.least, .int .i64 f.most]
  rw [hgV] at kV0
  have hX1 := hX.alloc hX.size (.cells #[.int .i64 f.fly.pos.x.lo, .int .i64 f.fly.pos.x.hi, .int .i64 f.fly.pos.z.lo, .int .i64 f.fly.pos.z.hi, .int .i64 f.fly.speed.x.lo, .int .i64 f.fly.speed.x.hi, .int .i64 f.fly.speed.z.lo, .int .i64 f.fly.speed.z.hi, .int .i64 f.fly.mass, .slice A2 f.cycle.length c2, .int .i64 f.reach, .int .i64 f.soft, .int .i64 f.bears, .int .i64 f.least, .int .i64 f.most] 50)
  have hs3 := hs2.to ((Below.refl _ _).alloc (Nat.le_refl _) (.cells #[.int .i64 f.fly.pos.x.lo, .int .i64 f.fly.pos.x.hi, .int .i64 f.fly.pos.z.lo, .int .i64 f.fly.pos.z.hi, .int .i64 f.fly.speed.x.lo, .int .i64 f.fly.speed.x.hi, .int .i64 f.fly.speed.z.lo, .int .i64 f.fly.speed.z.hi, .int .i64 f.fly.mass, .slice A2 f.cycle.length c2, .int .i64 f.reach, .int .i64 f.soft, .int .i64 f.bears, .int .i64 f.least, .int .i64 f.most] 50))
  have hL1 := hL0.to hX1
  have kW1 := (kW.below hX kW.lt).alloc (.cells #[.int .i64 f.fly.pos.x.lo, .int .i64 f.fly.pos.x.hi, .int .i64 f.fly.pos.z.lo, .int .i64 f.fly.pos.z.hi, .int .i64 f.fly.speed.x.lo, .int .i64 f.fly.speed.x.hi, .int .i64 f.fly.speed.z.lo, .int .i64 f.fly.speed.z.hi, .int .i64 f.fly.mass, .slice A2 f.cycle.length c2, .int .i64 f.reach, .int .i64 f.soft, .int .i64 f.bears, .int .i64 f.least, .int .i64 f.most] 50)
  have HB1 := Lib.hid (HB0.out.trans (hX1.mono HB0.out.size))
  simp only [hgV]
  clear kF kX kW hR0 hL0 HB0
  refine name_world (motive := fun W => Code.wp _ _ _ _ W) _ ?_
  intro W0 hW
  have hWc := hW.cell
  have hWz := hW.size
  have hWb := hW.below (hX1)
  have kV := hW.blk kV0
  have kW := hW.blk kW1
  have hS0 := hs3.to (hW.below (Below.refl _ _))
  have hL0 := hL1.to (hW.below (Below.refl _ _))
  have HB0 := Lib.hid (HB1.out.trans ((hW.below (Below.refl _ _)).mono HB1.out.size))
  clear kV0 kW1 hs3 hs2 hL1 HB1 hW hWc hWz hWb hX1 hX hgV
  have x0 := kV.cell 0; have x1 := kV.cell 1; have x2 := kV.cell 2; have x3 := kV.cell 3; have x4 := kV.cell 4; have x5 := kV.cell 5; have x6 := kV.cell 6; have x7 := kV.cell 7; have x8 := kV.cell 8; have x9 := kV.cell 9; have x10 := kV.cell 10; have x11 := kV.cell 11; have x12 := kV.cell 12; have x13 := kV.cell 13; have x14 := kV.cell 14; simp at x0 x1 x2 x3 x4 x5 x6 x7 x8 x9 x10 x11 x12 x13 x14
  have vl := kV.lt
  go_upto_region 7 with (first | (go_at_call 42; (with_reducible refine (HWS.out _ _ _ hS0).mono ?_); rintro e w1 ⟨Al, cl, rfl, hsl, hb1⟩))
  clear x0 x1 x2 x3 x4 x5 x6 x7 x8 x9 x10 x11 x12 x13 x14
  have kV1 := kV.below hb1 kV.lt
  have kW1 := kW.below hb1 kW.lt
  have hS1 := hS0.to hb1
  have hL1 := hL0.to hb1
  have HB1 := Lib.hid (HB0.out.trans (hb1.mono HB0.out.size))
  clear kV kW hS0 hL0 HB0 vl
  as_aux_lemma =>
    go_wp2
    go_loopw [16, 17, 18] (fun kk v i wr => ∃ (n k : Nat) (first : List Int), a ≤ n ∧ n ≤ b + 1 ∧ kk = .int .i64 k ∧ i = .int .i64 n ∧ AtTick f a b n k first ∧ first.length ≤ n - a ∧ k ≤ n - a ∧ wr.ownsRow w1.heap.size 3 1 v first.length (first.flatMap encI) ∧ Below w1.heap.size w1 wr) (fun _ _ i _ => b + 1 - (intOf i).toNat)
    case atStart => exact ⟨a, 0, [], Nat.le_refl _, by omega, rfl, rfl, HST.out, Nat.zero_le _, Nat.zero_le _, World.ownsRow_nil _ _ _ _, Below.refl _ _⟩
    case round =>
      obtain ⟨n, k, first, hn1, hn2, rfl, rfl, hAt, hfl, hkl, hown, hB⟩ := hrel
      have kVr := kV1.below hB kV1.lt
      have vl := kVr.lt
      have x0 := kVr.cell 0; have x1 := kVr.cell 1; have x2 := kVr.cell 2; have x3 := kVr.cell 3; have x4 := kVr.cell 4; have x5 := kVr.cell 5; have x6 := kVr.cell 6; have x7 := kVr.cell 7; have x8 := kVr.cell 8; have x9 := kVr.cell 9; have x10 := kVr.cell 10; have x11 := kVr.cell 11; have x12 := kVr.cell 12; have x13 := kVr.cell 13; have x14 := kVr.cell 14; simp at x0 x1 x2 x3 x4 x5 x6 x7 x8 x9 x10 x11 x12 x13 x14
      have hSr := hS1.to hB
      by_cases hlt : n ≤ b
      case neg =>
        as_aux_lemma =>
          obtain rfl : n = b + 1 := by omega
          have hk := HEN.out k first hAt
          subst hk
          clear hAt HST HAT HBD HEN hfl hkl hown hlt hn1 hn2
          clear x0 x1 x2 x3 x4 x5 x6 x7 x8 x9 x10 x11 x12 x13 x14
          have kWr := kW1.below hB kW1.lt
          have hLr := hL1.to hB
          have hPG : Hid (pwB f p q cs = true → (0 ≤ p ∧ p ≤ q ∧ q ≤ 6000) ∧ ∀ r : Nat, p ≤ r → r ≤ q → goodB f r = true) := pw_good
          have HPW2 := Lib.hid (fun (Al : Option Addr) (cl : Nat) (W : World) (h1 : RS encB 4 W W.heap.size A2 f.cycle) (h2 : RS encI 1 W W.heap.size Al cs) => HPW.out A2 Al c2 cl p q cs W h1 h2)
          obtain ⟨z, hz⟩ : ∃ z, pwB f p q cs = z := ⟨_, rfl⟩
          rw [hz] at HPW2 hPG
          clear HPW hz
          go_upto_region 29 with fail
          refine name_world (motive := fun W => Code.wp _ _ _ _ W) _ ?_
          intro W0 hW
          have hWc := hW.cell
          have hWz := hW.size
          have hWb := hW.below (hB)
          have kV2 := hW.blk kVr
          have kW2 := hW.blk kWr
          have hS2 := hSr.to (hW.below (Below.refl _ _))
          have hL2 := hLr.to (hW.below (Below.refl _ _))
          clear kVr kWr hSr hLr hW hWc hWz kV1 kW1 hS1 hL1
          refine (wpIn_wide (n := 9)).1 ?_
          have hLast := trivial
          refine region_rest (S := (fun w' => Blk w' (gV) 50 #[.int .i64 f.fly.pos.x.lo, .int .i64 f.fly.pos.x.hi, .int .i64 f.fly.pos.z.lo, .int .i64 f.fly.pos.z.hi, .int .i64 f.fly.speed.x.lo, .int .i64 f.fly.speed.x.hi, .int .i64 f.fly.speed.z.lo, .int .i64 f.fly.speed.z.hi, .int .i64 f.fly.mass, .slice A2 f.cycle.length c2, .int .i64 f.reach, .int .i64 f.soft, .int .i64 f.bears, .int .i64 f.least, .int .i64 f.most] ∧ Blk w' (w.heap.size + 1) 88 #[.int .i64 p, .int .i64 q] ∧ Below W0.heap.size W0 w')) hmx ?_ (fun hHeld => ?_)
          · exact ⟨kV2.drew, kW2.drew, (Below.refl W0.heap.size W0).drew⟩
          change RestIn _ _ _ _ _ _ _ 11 #[false, false, false, false, false, false, false, false, false, false, false] _ (World.drew _)
          refine rest_take (i := 0) (v := _) all_wide (noDefers_of (by kernel_rfl)) rfl (by kernel_rfl) (by kernel_rfl) (by kernel_rfl) (fun _ _ _ h => h) (Or.inl ⟨by rfl, by intro w hSw; (obtain ⟨q0, q1, _⟩ := hSw; have q0x0 := q0.cell 0; have q0x1 := q0.cell 1; have q0x2 := q0.cell 2; have q0x3 := q0.cell 3; have q0x4 := q0.cell 4; have q0x5 := q0.cell 5; have q0x6 := q0.cell 6; have q0x7 := q0.cell 7; have q0x8 := q0.cell 8; have q0x9 := q0.cell 9; have q0x10 := q0.cell 10; have q0x11 := q0.cell 11; have q0x12 := q0.cell 12; have q0x13 := q0.cell 13; have q0x14 := q0.cell 14; have q1x0 := q1.cell 0; have q1x1 := q1.cell 1; simp at q0x0 q0x1 q0x2 q0x3 q0x4 q0x5 q0x6 q0x7 q0x8 q0x9 q0x10 q0x11 q0x12 q0x13 q0x14 q1x0 q1x1); go_simp; first | done | with_reducible rfl⟩) hHeld ?_
          change RestIn _ _ _ _ _ _ _ 10 #[true, false, false, false, false, false, false, false, false, false, false] _ _
          try simp only [Act.put, List.setIfInBounds_toArray, List.set_cons_zero, List.set_cons_succ, List.getElem_toArray, List.getElem_cons_zero, List.getElem_cons_succ]
          refine rest_take (i := 1) (v := _) all_wide (noDefers_of (by kernel_rfl)) rfl (by kernel_rfl) (by kernel_rfl) (by kernel_rfl) (fun _ _ _ h => h) (Or.inl ⟨by rfl, by intro w hSw; clear hSw; go_simp; first | done | with_reducible rfl⟩) hHeld ?_
          change RestIn _ _ _ _ _ _ _ 9 #[true, true, false, false, false, false, false, false, false, false, false] _ _
          try simp only [Act.put, List.setIfInBounds_toArray, List.set_cons_zero, List.set_cons_succ, List.getElem_toArray, List.getElem_cons_zero, List.getElem_cons_succ]
          refine rest_take (i := 2) (v := _) all_wide (noDefers_of (by kernel_rfl)) rfl (by kernel_rfl) (by kernel_rfl) (by kernel_rfl) (fun _ _ _ h => h) (Or.inl ⟨by rfl, by intro w hSw; (obtain ⟨q0, q1, _⟩ := hSw; have q0x0 := q0.cell 0; have q0x1 := q0.cell 1; have q0x2 := q0.cell 2; have q0x3 := q0.cell 3; have q0x4 := q0.cell 4; have q0x5 := q0.cell 5; have q0x6 := q0.cell 6; have q0x7 := q0.cell 7; have q0x8 := q0.cell 8; have q0x9 := q0.cell 9; have q0x10 := q0.cell 10; have q0x11 := q0.cell 11; have q0x12 := q0.cell 12; have q0x13 := q0.cell 13; have q0x14 := q0.cell 14; have q1x0 := q1.cell 0; have q1x1 := q1.cell 1; simp at q0x0 q0x1 q0x2 q0x3 q0x4 q0x5 q0x6 q0x7 q0x8 q0x9 q0x10 q0x11 q0x12 q0x13 q0x14 q1x0 q1x1); go_simp; first | done | with_reducible rfl⟩) hHeld ?_
          change RestIn _ _ _ _ _ _ _ 8 #[true, true, true, false, false, false, false, false, false, false, false] _ _
          try simp only [Act.put, List.setIfInBounds_toArray, List.set_cons_zero, List.set_cons_succ, List.getElem_toArray, List.getElem_cons_zero, List.getElem_cons_succ]
          refine rest_take (i := 3) (v := _) all_wide (noDefers_of (by kernel_rfl)) rfl (by kernel_rfl) (by kernel_rfl) (by kernel_rfl) (fun _ _ _ h => h) (Or.inl ⟨by rfl, by intro w hSw; clear hSw; go_simp; first | done | with_reducible rfl⟩) hHeld ?_
          change RestIn _ _ _ _ _ _ _ 7 #[true, true, true, true, false, false, false, false, false, false, false] _ _
          try simp only [Act.put, List.setIfInBounds_toArray, List.set_cons_zero, List.set_cons_succ, List.getElem_toArray, List.getElem_cons_zero, List.getElem_cons_succ]
          refine rest_take (i := 4) (v := _) all_wide (noDefers_of (by kernel_rfl)) rfl (by kernel_rfl) (by kernel_rfl) (by kernel_rfl) (fun _ _ _ h => h) (Or.inl ⟨by rfl, by intro w hSw; (obtain ⟨q0, q1, _⟩ := hSw; have q0x0 := q0.cell 0; have q0x1 := q0.cell 1; have q0x2 := q0.cell 2; have q0x3 := q0.cell 3; have q0x4 := q0.cell 4; have q0x5 := q0.cell 5; have q0x6 := q0.cell 6; have q0x7 := q0.cell 7; have q0x8 := q0.cell 8; have q0x9 := q0.cell 9; have q0x10 := q0.cell 10; have q0x11 := q0.cell 11; have q0x12 := q0.cell 12; have q0x13 := q0.cell 13; have q0x14 := q0.cell 14; have q1x0 := q1.cell 0; have q1x1 := q1.cell 1; simp at q0x0 q0x1 q0x2 q0x3 q0x4 q0x5 q0x6 q0x7 q0x8 q0x9 q0x10 q0x11 q0x12 q0x13 q0x14 q1x0 q1x1); go_simp; first | done | with_reducible rfl⟩) hHeld ?_
          change RestIn _ _ _ _ _ _ _ 6 #[true, true, true, true, true, false, false, false, false, false, false] _ _
          try simp only [Act.put, List.setIfInBounds_toArray, List.set_cons_zero, List.set_cons_succ, List.getElem_toArray, List.getElem_cons_zero, List.getElem_cons_succ]
          refine rest_take (i := 5) (v := _) all_wide (noDefers_of (by kernel_rfl)) rfl (by kernel_rfl) (by kernel_rfl) (by kernel_rfl) (fun _ _ _ h => h) (Or.inl ⟨by rfl, by intro w hSw; clear hSw; go_simp; first | done | with_reducible rfl⟩) hHeld ?_
          change RestIn _ _ _ _ _ _ _ 5 #[true, true, true, true, true, true, false, false, false, false, false] _ _
          try simp only [Act.put, List.setIfInBounds_toArray, List.set_cons_zero, List.set_cons_succ, List.getElem_toArray, List.getElem_cons_zero, List.getElem_cons_succ]
          refine rest_take (i := 7) (v := _) all_wide (noDefers_of (by kernel_rfl)) rfl (by kernel_rfl) (by kernel_rfl) (by kernel_rfl) (fun _ _ _ h => h) (Or.inl ⟨by rfl, by intro w hSw; clear hSw; go_simp; first | done | with_reducible rfl⟩) hHeld ?_
          change RestIn _ _ _ _ _ _ _ 4 #[true, true, true, true, true, true, false, true, false, false, false] _ _
          try simp only [Act.put, List.setIfInBounds_toArray, List.set_cons_zero, List.set_cons_succ, List.getElem_toArray, List.getElem_cons_zero, List.getElem_cons_succ]
          refine rest_ready (rs := [6]) (by kernel_rfl) (by simp) ?_
          refine AllRest.cons rfl (fun K hK => ?_) AllRest.nil
          have kEg := (hHeld.2.2).size
          have kE := blk_new_of (hHeld.2.2) 3 #[]
          have hOld := (hHeld.2.2)
          go_simp
          refine hK.out _ _ ?_ (fun hHeld' => ?_)
          · exact (fun (hbel : Below W0.heap.size W0 _) => ⟨kV2.below hbel kV2.lt, kW2.below hbel kW2.lt, hbel⟩) ((hHeld.2.2).alloc (hHeld.2.2).size _)
          clear hK K
          change RestIn _ _ _ _ _ _ _ 3 #[true, true, true, true, true, true, true, true, false, false, false] _ _
          try simp only [Act.put, List.setIfInBounds_toArray, List.set_cons_zero, List.set_cons_succ, List.getElem_toArray, List.getElem_cons_zero, List.getElem_cons_succ]
          clear hHeld
          have hHeld := hHeld'
          clear hHeld'
          have hNow := (hHeld.2.2)
          try simp at kEg
          have hE := own_new_of hOld 3 1
          refine rest_ready (rs := [8]) (by kernel_rfl) (by simp) ?_
          refine AllRest.cons rfl (fun K hK => ?_) AllRest.nil
          have hNow := hHeld.2.2
          refine append_step_any all_wide _ _ 78 rfl _ 3 i0 _ 1 8 Try.underlying78 hi0 hz0 hz1 hz2 rfl (by decide) _ 0 [] rfl hE Ac cs.length cc (cs.flatMap encI) rfl (intsI_len cs) (RS.fresh (sz := 1) (fun _ => rfl) (hL2.to hNow)).1 (RS.fresh (sz := 1) (fun _ => rfl) (hL2.to hNow)).2 (intsI_one cs) (by unfold maxLen; omega) (by omega) (Nat.le_of_lt kE.lt) ?_
          intro v4 w4 hown6 hgrow6
          refine hK.out _ _ ?_ (fun hHeld' => ?_)
          · exact (fun (hbel : Below W0.heap.size W0 _) => ⟨kV2.below hbel kV2.lt, kW2.below hbel kW2.lt, hbel⟩) (app_belowF hNow hOld.size hNow.size hE hgrow6)
          clear hK K
          change RestIn _ _ _ _ _ _ _ 2 #[true, true, true, true, true, true, true, true, true, false, false] _ _
          try simp only [Act.put, List.setIfInBounds_toArray, List.set_cons_zero, List.set_cons_succ, List.getElem_toArray, List.getElem_cons_zero, List.getElem_cons_succ]
          clear hHeld
          have hHeld := hHeld'
          clear hHeld'
          have hNow := (hHeld.2.2)
          try rw [Nat.zero_add, List.nil_append] at hown6
          obtain ⟨A6, c6, rfl, _⟩ := own_slice hown6
          have hS6 := RS.of_own (enc := encI) (sz := 1) (fun _ => rfl) hown6 rfl
          refine rest_ready (rs := [9]) (by kernel_rfl) (by simp) ?_
          refine AllRest.cons rfl (fun K hK => ?_) AllRest.nil
          have hNow := (hHeld.2.2)
          clear hLast
          have hLast := hNow
          go_simp
          gi_wp2_with ((refine ⟨trivial, ?_⟩; gi_at_call 41; (with_reducible refine (callsIn_wide.2 (HPW2.out A6 c6 _ (hS2.to hNow) hS6)).mono ?_); rintro e wn ⟨rfl, hb⟩))
          refine hK.out _ _ ?_ (fun hHeld' => ?_)
          · exact ⟨hHeld.1.below hb hHeld.1.lt, hHeld.2.1.below hb hHeld.2.1.lt, (hHeld.2.2).trans (hb.mono (hHeld.2.2).size)⟩
          clear hK K
          change RestIn _ _ _ _ _ _ _ 1 #[true, true, true, true, true, true, true, true, true, true, false] _ _
          try simp only [Act.put, List.setIfInBounds_toArray, List.set_cons_zero, List.set_cons_succ, List.getElem_toArray, List.getElem_cons_zero, List.getElem_cons_succ]
          clear hHeld
          have hHeld := hHeld'
          clear hHeld'
          have hNow := (hHeld.2.2)
          try have kE := kE.below hb kE.lt
          refine rest_take (i := 10) (v := _) all_wide (noDefers_of (by kernel_rfl)) rfl (by kernel_rfl) (by kernel_rfl) (by kernel_rfl) (fun _ _ _ h => h) (Or.inl ⟨by rfl, by intro w hSw; clear hSw; go_simp; first | done | with_reducible rfl⟩) hHeld ?_
          change RestIn _ _ _ _ _ _ _ 0 #[true, true, true, true, true, true, true, true, true, true, true] _ _
          try simp only [Act.put, List.setIfInBounds_toArray, List.set_cons_zero, List.set_cons_succ, List.getElem_toArray, List.getElem_cons_zero, List.getElem_cons_succ]
          refine rest_done (by kernel_rfl) ?_
          have kV3 := hHeld.1
          have kW3 := hHeld.2.1
          have hS3 := hS2.to hNow
          have HBX := Lib.hid (HB1.out.trans ((hWb.trans (hNow.mono hWb.size)).mono HB1.out.size))
          clear hHeld kV2 kW2 hS2 hL2 hWb
          cases z
          case false =>
            go_wp2_with (go_at_call 15; refine (wakes_any _).mono ?_; rintro e wk ⟨rfl, hbk⟩)
            go_ret
            exact ⟨rfl, HBX.out.trans (hbk.mono HBX.out.size)⟩
          case true =>
            obtain ⟨⟨p1, p2, p3⟩, hall⟩ := hPG.out rfl
            obtain ⟨p0, rfl⟩ : ∃ p0 : Nat, p = p0 := ⟨p.toNat, by omega⟩
            obtain ⟨q0, rfl⟩ : ∃ q0 : Nat, q = q0 := ⟨q.toNat, by omega⟩
            have HALL := Lib.hid hall
            clear hall hPG
            as_aux_lemma =>
              go_upto_region 31 with fail
              refine name_world (motive := fun W => Code.wp _ _ _ _ W) _ ?_
              intro W0 hW
              have hWc := hW.cell
              have hWz := hW.size
              have hWb := hW.below (hNow)
              have kV := hW.blk kV3
              have kW := hW.blk kW3
              have hS0 := hS3.to (hW.below (Below.refl _ _))
              have HBY := Lib.hid (HBX.out.trans ((hW.below (Below.refl _ _)).mono HBX.out.size))
              clear kV3 kW3 hS3 HBX hW hWc hWz hWb
              obtain ⟨Wp, hWp⟩ : ∃ x, x = W0 := ⟨_, rfl⟩
              subst hWp
              have y0 := kW.cell 0
              have y1 := kW.cell 1
              simp at y0 y1
              have wl := kW.lt
              go_wp2
              simp only [Bool.not_true]
              go_loopw [22] (fun i wr => ∃ n : Nat, p0 ≤ n ∧ n ≤ q0 + 1 ∧ i = .int .i64 n ∧ Below Wp.heap.size Wp wr) (fun i _ => q0 + 1 - (intOf i).toNat)
              case atStart => exact ⟨p0, Nat.le_refl _, by omega, rfl, Below.refl _ _⟩
              case round =>
                obtain ⟨n, hn1, hn2, rfl, hB5⟩ := hrel
                have kVr := kV.below hB5 kV.lt
                have kWr := kW.below hB5 kW.lt
                clear y0 y1 wl
                have y0 := kWr.cell 0
                have y1 := kWr.cell 1
                simp at y0 y1
                have wl := kWr.lt
                have vl := kVr.lt
      
                have x0 := kVr.cell 0; have x1 := kVr.cell 1; have x2 := kVr.cell 2; have x3 := kVr.cell 3; have x4 := kVr.cell 4; have x5 := kVr.cell 5; have x6 := kVr.cell 6; have x7 := kVr.cell 7; have x8 := kVr.cell 8; have x9 := kVr.cell 9; have x10 := kVr.cell 10; have x11 := kVr.cell 11; have x12 := kVr.cell 12; have x13 := kVr.cell 13; have x14 := kVr.cell 14; simp at x0 x1 x2 x3 x4 x5 x6 x7 x8 x9 x10 x11 x12 x13 x14
                have hSr := hS0.to hB5
                by_cases hlt : n ≤ q0
                case neg =>
                  have hltI : ¬ (n : Int) ≤ (q0 : Int) := by omega
                  go_wp2_with (go_at_call 15; refine (wakes_any _).mono ?_; rintro e wk ⟨rfl, hbk⟩)
                  go_ret
                  exact ⟨rfl, HBY.out.trans ((sh_next hB5 hbk).mono HBY.out.size)⟩
                case pos =>
                  have hltI : (n : Int) ≤ (q0 : Int) := by omega
                  have hg := HALL.out n (by omega) (by omega)
                  obtain ⟨m, hm⟩ : ∃ m, (sureL f n).length = m := ⟨_, rfl⟩
                  have hm1 : 0 < m := by unfold goodB at hg; rw [hm] at hg; simpa using hg
                  have hm2 : ¬ (m : Int) = 0 := by omega
                  have hm3 : ¬ m = 0 := by omega
                  have hC := HC1.out n wr A2 c2 (by omega) hSr
                  rw [hm] at hC
                  clear hg hm
                  clear hm1 hm2
                  go_upto_region 35 with (go_at_call 35; (with_reducible refine hC.mono ?_); rintro e w2 ⟨A3, c3, rfl, hs1, hb2⟩)
                  clear hs1 x0 x1 x2 x3 x4 x5 x6 x7 x8 x9 x10 x11 x12 x13 x14 y0 y1 wl vl kVr kWr hSr hC
                  go_wp2
                  go_roundw
                  case rel => exact ⟨n + 1, by omega, by omega, by go_num, sh_next hB5 hb2⟩
                  case measure => simp [intOf]; omega
      case pos =>
        have hltI : (n : Int) ≤ (b : Int) := by omega
        have hC := HC1.out n wr A2 c2 (by omega) hSr
        cases hg : goodB f n
        case false =>
          obtain ⟨hfe, hnext, hAt'⟩ := HBD.out n k first hlt hg hAt
          have hz : (sureL f n).length = 0 := by unfold goodB at hg; simpa using hg
          rw [hz] at hC
          subst hfe
          have HAT' := Lib.hid hAt'
          clear hAt' hAt HST HAT HBD HEN
          by_cases hk : k < ws.length
          case pos =>
            obtain ⟨⟨s, t⟩, hst⟩ := getElem?_lt hk
            have hno : ¬ s ≤ (n : Int) := by have := hnext _ hst; simp at this; omega
            have hkI : (k : Int) < (ws.length : Int) := by omega
            obtain ⟨q1, o1, rfl, hq1, hc1⟩ := hsl.at_ hst
            have e0 := cell_after hB (hc1 0 _ rfl)
            have e1 := cell_after hB (hc1 1 _ rfl)
            simp only [Nat.add_zero] at e0
            clear hc1 hst hk hnext hz
            go_wp2_with (go_at_call 35; (with_reducible refine hC.mono ?_); rintro e w2 ⟨A3, c3, rfl, hs1, hb2⟩; have e0 := cell_after hb2 e0; have e1 := cell_after hb2 e1)
            go_roundw
            case rel => exact ⟨n + 1, k, [], by omega, by omega, rfl, by go_num, HAT'.out, by simp, by omega, own_below hown hb2, sh_next hB hb2⟩
            case measure => simp [intOf]; omega
          case neg =>
            have hkI : ¬ (k : Int) < (ws.length : Int) := by omega
            clear hk hnext hz
            go_wp2_with (go_at_call 35; (with_reducible refine hC.mono ?_); rintro e w2 ⟨A3, c3, rfl, hs1, hb2⟩)
            go_roundw
            case rel => exact ⟨n + 1, k, [], by omega, by omega, rfl, by go_num, HAT'.out, by simp, by omega, own_below hown hb2, sh_next hB hb2⟩
            case measure => simp [intOf]; omega
        case true =>
          as_aux_lemma =>
            obtain ⟨s, t, hst, hsn, hnt, htb, hlast, hgo⟩ := HAT.out n k first hlt hg hAt
            have hkI : (k : Int) < (ws.length : Int) := by have := lt_of_getElem? hst; omega
            have hsnI : (s : Int) ≤ (n : Int) := by omega
            have hntI : (n : Int) ≤ (t : Int) := by omega
            obtain ⟨q1, o1, rfl, hq1, hc1⟩ := hsl.at_ hst
            have b0 := hc1 0 _ rfl
            have b1 := hc1 1 _ rfl
            have e0 := cell_after hB b0
            have e1 := cell_after hB b1
            simp only [Nat.add_zero] at e0 b0
            have hx0 := goodB_first hg
            obtain ⟨m, hm⟩ : ∃ m, (sureL f n).length = m := ⟨_, rfl⟩
            have hm1 : 0 < m := by unfold goodB at hg; rw [hm] at hg; simpa using hg
            have hm0 : (0 : Int) < (m : Int) := by omega
            have hm2 : decide (0 < m) = true := decide_eq_true hm1
            rw [hm] at hC
            obtain ⟨x, hxx⟩ : ∃ x, firstC f n = x := ⟨_, rfl⟩
            rw [hxx] at hx0 hlast hgo
            have HL1 := Lib.hid hlast
            have HG1 := Lib.hid hgo
            have HX0 := Lib.hid hx0
            clear hc1 hst hg hm hxx hlast hgo hx0 hAt HST HAT HBD HEN
            go_wp2_with (first | (go_at_call 35; (with_reducible refine hC.mono ?_); rintro e w2 ⟨A3, c3, rfl, hs1, hb2⟩; obtain ⟨q2, o2, rfl, hq2, hc2⟩ := hs1.at_ HX0.out; have f0 := hc2 0 _ rfl; simp only [Nat.add_zero, Nat.zero_mul] at f0; have e0 := cell_after hb2 e0; have e1 := cell_after hb2 e1; have hown1 := own_below hown hb2; have hB1 := sh_next hB hb2; have hz9 := hB1.size; clear hc2) | (at_builtin; refine wpList_append_own _ rfl _ _ 78 rfl w1.heap.size 3 i0 (.int .i64 0) 1 8 Try.underlying78 hi0 hz0 hz1 hz2 rfl (by decide) _ _ _ rfl (hown1.alloc _) ⟨w2.heap.size, 0, none⟩ 1 1 [.int .i64 x] rfl rfl ?c1 ?c2 ?c3 ?c4 ?c5 ?_))
            case c1 => exact cell_one_new _ _ _
            case c2 => simp [Value.oneCell']
            case c3 => unfold maxLen; omega
            case c4 => omega
            case c5 => simp; omega
            intro v3 w3 hown3 hgrow3 _
            have hB3 := app_below (hB1.alloc hB1.size (.cells #[.int .i64 x] 3)) (by simp; omega) (hown1.alloc _) hgrow3
            have e0 := cell_after hB3 b0
            have e1 := cell_after hB3 b1
            have hf3 : (first ++ [x]).length = first.length + 1 := by simp
            have hown4 : w3.ownsRow w1.heap.size 3 1 v3 (first ++ [x]).length ((first ++ [x]).flatMap encI) := by rw [List.length_append, List.flatMap_append]; exact hown3
            clear hown hown1 hown3 hgrow3 hB1 hB hb2 hs1 f0 hC hSr kVr
            clear x0 x1 x2 x3 x4 x5 x6 x7 x8 x9 x10 x11 x12 x13 x14
            by_cases hlastB : n = t
            case neg =>
              have hne : ¬ (n : Int) = (t : Int) := by omega
              have hAt' := HG1.out (by omega)
              have HAT' := Lib.hid hAt'
              clear hAt'
              go_wp2
              go_roundw
              case rel => exact ⟨n + 1, k, first ++ [x], by omega, by omega, rfl, by go_num, HAT'.out, by omega, by omega, hown4, hB3⟩
              case measure => simp [intOf]; omega
            case pos =>
              as_aux_lemma =>
                subst hlastB
                obtain ⟨hpw, hAt'⟩ := HL1.out rfl
                have HAT' := Lib.hid hAt'
                have HPWs := Lib.hid hpw
                clear hAt' hpw HL1 HG1
                obtain ⟨fx, hfx⟩ : ∃ fx, first ++ [x] = fx := ⟨_, rfl⟩
                rw [hfx] at hown4 HPWs hf3
                have hx4 : fx.length ≤ 400 := by omega
                clear hf3 hfx
                obtain ⟨A5, c5, rfl, _⟩ := own_slice hown4
                have kVb := kV1.below hB3 kV1.lt
                have hSb := hS1.to hB3
                have HPW2 := Lib.hid (fun (Al : Option Addr) (cl : Nat) (W : World) (h1 : RS encB 4 W W.heap.size A2 f.cycle) (h2 : RS encI 1 W W.heap.size Al fx) => HPW.out A2 Al c2 cl (s : Int) (n : Int) fx W h1 h2)
                rw [HPWs.out] at HPW2
                clear HPWs HPW
                go_upto_region 23 with fail
                refine name_world (motive := fun W => Code.wp _ _ _ _ W) _ ?_
                intro W0 hW
                have hWc := hW.cell
                have hWz := hW.size
                have hWb := hW.below (hB3)
                have kV2 := hW.blk kVb
                have hS2 := hSb.to (hW.below (Below.refl _ _))
                have hown5 := own_below hown4 (hW.below (Below.refl _ _))
                have hS5 := RS.of_own (enc := encI) (sz := 1) (fun _ => rfl) hown5 rfl
                have e2 := cell_after (hW.below (Below.refl _ _)) e0
                have e3 := cell_after (hW.below (Below.refl _ _)) e1
                clear e0 e1 kVb hSb hown4 hown5 hW hWc hWz
                refine (wpIn_wide (n := 9)).1 ?_
                have hLast := trivial
                refine region_rest (S := (fun w' => Blk w' (gV) 50 #[.int .i64 f.fly.pos.x.lo, .int .i64 f.fly.pos.x.hi, .int .i64 f.fly.pos.z.lo, .int .i64 f.fly.pos.z.hi, .int .i64 f.fly.speed.x.lo, .int .i64 f.fly.speed.x.hi, .int .i64 f.fly.speed.z.lo, .int .i64 f.fly.speed.z.hi, .int .i64 f.fly.mass, .slice A2 f.cycle.length c2, .int .i64 f.reach, .int .i64 f.soft, .int .i64 f.bears, .int .i64 f.least, .int .i64 f.most] ∧ w'.cell? ⟨q1, o1 + k * 2, none⟩ = some (.int .i64 (s : Int)) ∧ w'.cell? ⟨q1, o1 + k * 2 + 1, none⟩ = some (.int .i64 (n : Int)) ∧ Below W0.heap.size W0 w')) hmx ?_ (fun hHeld => ?_)
                · exact ⟨kV2.drew, e2, e3, (Below.refl W0.heap.size W0).drew⟩
                change RestIn _ _ _ _ _ _ _ 10 #[false, false, false, false, false, false, false, false, false, false] _ (World.drew _)
                refine rest_take (i := 0) (v := _) all_wide (noDefers_of (by kernel_rfl)) rfl (by kernel_rfl) (by kernel_rfl) (by kernel_rfl) (fun _ _ _ h => h) (Or.inl ⟨by rfl, by intro w hSw; (obtain ⟨q0, q1, q2, _⟩ := hSw; have q0x0 := q0.cell 0; have q0x1 := q0.cell 1; have q0x2 := q0.cell 2; have q0x3 := q0.cell 3; have q0x4 := q0.cell 4; have q0x5 := q0.cell 5; have q0x6 := q0.cell 6; have q0x7 := q0.cell 7; have q0x8 := q0.cell 8; have q0x9 := q0.cell 9; have q0x10 := q0.cell 10; have q0x11 := q0.cell 11; have q0x12 := q0.cell 12; have q0x13 := q0.cell 13; have q0x14 := q0.cell 14; simp at q0x0 q0x1 q0x2 q0x3 q0x4 q0x5 q0x6 q0x7 q0x8 q0x9 q0x10 q0x11 q0x12 q0x13 q0x14); go_simp; first | done | with_reducible rfl⟩) hHeld ?_
                change RestIn _ _ _ _ _ _ _ 9 #[true, false, false, false, false, false, false, false, false, false] _ _
                try simp only [Act.put, List.setIfInBounds_toArray, List.set_cons_zero, List.set_cons_succ, List.getElem_toArray, List.getElem_cons_zero, List.getElem_cons_succ]
                refine rest_take (i := 1) (v := _) all_wide (noDefers_of (by kernel_rfl)) rfl (by kernel_rfl) (by kernel_rfl) (by kernel_rfl) (fun _ _ _ h => h) (Or.inl ⟨by rfl, by intro w hSw; clear hSw; go_simp; first | done | with_reducible rfl⟩) hHeld ?_
                change RestIn _ _ _ _ _ _ _ 8 #[true, true, false, false, false, false, false, false, false, false] _ _
                try simp only [Act.put, List.setIfInBounds_toArray, List.set_cons_zero, List.set_cons_succ, List.getElem_toArray, List.getElem_cons_zero, List.getElem_cons_succ]
                refine rest_take (i := 2) (v := _) all_wide (noDefers_of (by kernel_rfl)) rfl (by kernel_rfl) (by kernel_rfl) (by kernel_rfl) (fun _ _ _ h => h) (Or.inl ⟨by rfl, by intro w hSw; clear hSw; go_simp; first | done | with_reducible rfl⟩) hHeld ?_
                change RestIn _ _ _ _ _ _ _ 7 #[true, true, true, false, false, false, false, false, false, false] _ _
                try simp only [Act.put, List.setIfInBounds_toArray, List.set_cons_zero, List.set_cons_succ, List.getElem_toArray, List.getElem_cons_zero, List.getElem_cons_succ]
                refine rest_take (i := 3) (v := _) all_wide (noDefers_of (by kernel_rfl)) rfl (by kernel_rfl) (by kernel_rfl) (by kernel_rfl) (fun _ _ _ h => h) (Or.inl ⟨by rfl, by intro w hSw; clear hSw; go_simp; first | done | with_reducible rfl⟩) hHeld ?_
                change RestIn _ _ _ _ _ _ _ 6 #[true, true, true, true, false, false, false, false, false, false] _ _
                try simp only [Act.put, List.setIfInBounds_toArray, List.set_cons_zero, List.set_cons_succ, List.getElem_toArray, List.getElem_cons_zero, List.getElem_cons_succ]
                refine rest_take (i := 4) (v := _) all_wide (noDefers_of (by kernel_rfl)) rfl (by kernel_rfl) (by kernel_rfl) (by kernel_rfl) (fun _ _ _ h => h) (Or.inl ⟨by rfl, by intro w hSw; (obtain ⟨q0, q1, q2, _⟩ := hSw; have q0x0 := q0.cell 0; have q0x1 := q0.cell 1; have q0x2 := q0.cell 2; have q0x3 := q0.cell 3; have q0x4 := q0.cell 4; have q0x5 := q0.cell 5; have q0x6 := q0.cell 6; have q0x7 := q0.cell 7; have q0x8 := q0.cell 8; have q0x9 := q0.cell 9; have q0x10 := q0.cell 10; have q0x11 := q0.cell 11; have q0x12 := q0.cell 12; have q0x13 := q0.cell 13; have q0x14 := q0.cell 14; simp at q0x0 q0x1 q0x2 q0x3 q0x4 q0x5 q0x6 q0x7 q0x8 q0x9 q0x10 q0x11 q0x12 q0x13 q0x14); go_simp; first | done | with_reducible rfl⟩) hHeld ?_
                change RestIn _ _ _ _ _ _ _ 5 #[true, true, true, true, true, false, false, false, false, false] _ _
                try simp only [Act.put, List.setIfInBounds_toArray, List.set_cons_zero, List.set_cons_succ, List.getElem_toArray, List.getElem_cons_zero, List.getElem_cons_succ]
                refine rest_take (i := 6) (v := _) all_wide (noDefers_of (by kernel_rfl)) rfl (by kernel_rfl) (by kernel_rfl) (by kernel_rfl) (fun _ _ _ h => h) (Or.inl ⟨by rfl, by intro w hSw; clear hSw; go_simp; first | done | with_reducible rfl⟩) hHeld ?_
                change RestIn _ _ _ _ _ _ _ 4 #[true, true, true, true, true, false, true, false, false, false] _ _
                try simp only [Act.put, List.setIfInBounds_toArray, List.set_cons_zero, List.set_cons_succ, List.getElem_toArray, List.getElem_cons_zero, List.getElem_cons_succ]
                refine rest_ready (rs := [5]) (by kernel_rfl) (by simp) ?_
                refine AllRest.cons rfl (fun K hK => ?_) AllRest.nil
                have kEg := (hHeld.2.2.2).size
                have kE := blk_new_of (hHeld.2.2.2) 3 #[]
                have hOld := (hHeld.2.2.2)
                go_simp
                refine hK.out _ _ ?_ (fun hHeld' => ?_)
                · exact (fun (hbel : Below W0.heap.size W0 _) => ⟨kV2.below hbel kV2.lt, cell_after hbel e2, cell_after hbel e3, hbel⟩) ((hHeld.2.2.2).alloc (hHeld.2.2.2).size _)
                clear hK K
                change RestIn _ _ _ _ _ _ _ 3 #[true, true, true, true, true, true, true, false, false, false] _ _
                try simp only [Act.put, List.setIfInBounds_toArray, List.set_cons_zero, List.set_cons_succ, List.getElem_toArray, List.getElem_cons_zero, List.getElem_cons_succ]
                clear hHeld
                have hHeld := hHeld'
                clear hHeld'
                have hNow := (hHeld.2.2.2)
                try simp at kEg
                have hE := own_new_of hOld 3 1
                refine rest_ready (rs := [7]) (by kernel_rfl) (by simp) ?_
                refine AllRest.cons rfl (fun K hK => ?_) AllRest.nil
                have hNow := hHeld.2.2.2
                refine append_step_any all_wide _ _ 78 rfl _ 3 i0 _ 1 8 Try.underlying78 hi0 hz0 hz1 hz2 rfl (by decide) _ 0 [] rfl hE A5 fx.length c5 (fx.flatMap encI) rfl (intsI_len fx) (RS.fresh (sz := 1) (fun _ => rfl) (hS5.to hNow)).1 (RS.fresh (sz := 1) (fun _ => rfl) (hS5.to hNow)).2 (intsI_one fx) (by unfold maxLen; omega) (by omega) (Nat.le_of_lt kE.lt) ?_
                intro v4 w4 hown6 hgrow6
                refine hK.out _ _ ?_ (fun hHeld' => ?_)
                · exact (fun (hbel : Below W0.heap.size W0 _) => ⟨kV2.below hbel kV2.lt, cell_after hbel e2, cell_after hbel e3, hbel⟩) (app_belowF hNow hOld.size hNow.size hE hgrow6)
                clear hK K
                change RestIn _ _ _ _ _ _ _ 2 #[true, true, true, true, true, true, true, true, false, false] _ _
                try simp only [Act.put, List.setIfInBounds_toArray, List.set_cons_zero, List.set_cons_succ, List.getElem_toArray, List.getElem_cons_zero, List.getElem_cons_succ]
                clear hHeld
                have hHeld := hHeld'
                clear hHeld'
                have hNow := (hHeld.2.2.2)
                try rw [Nat.zero_add, List.nil_append] at hown6
                obtain ⟨A6, c6, rfl, _⟩ := own_slice hown6
                have hS6 := RS.of_own (enc := encI) (sz := 1) (fun _ => rfl) hown6 rfl
                refine rest_ready (rs := [8]) (by kernel_rfl) (by simp) ?_
                refine AllRest.cons rfl (fun K hK => ?_) AllRest.nil
                have hNow := (hHeld.2.2.2)
                clear hLast
                have hLast := hNow
                go_simp
                gi_wp2_with ((refine ⟨trivial, ?_⟩; gi_at_call 41; (with_reducible refine (callsIn_wide.2 (HPW2.out A6 c6 _ (hS2.to hNow) hS6)).mono ?_); rintro e wn ⟨rfl, hb⟩))
                refine hK.out _ _ ?_ (fun hHeld' => ?_)
                · exact ⟨hHeld.1.below hb hHeld.1.lt, cell_after hb hHeld.2.1, cell_after hb hHeld.2.2.1, (hHeld.2.2.2).trans (hb.mono (hHeld.2.2.2).size)⟩
                clear hK K
                change RestIn _ _ _ _ _ _ _ 1 #[true, true, true, true, true, true, true, true, true, false] _ _
                try simp only [Act.put, List.setIfInBounds_toArray, List.set_cons_zero, List.set_cons_succ, List.getElem_toArray, List.getElem_cons_zero, List.getElem_cons_succ]
                clear hHeld
                have hHeld := hHeld'
                clear hHeld'
                have hNow := (hHeld.2.2.2)
                try have kE := kE.below hb kE.lt
                refine rest_take (i := 9) (v := _) all_wide (noDefers_of (by kernel_rfl)) rfl (by kernel_rfl) (by kernel_rfl) (by kernel_rfl) (fun _ _ _ h => h) (Or.inl ⟨by rfl, by intro w hSw; clear hSw; go_simp; first | done | with_reducible rfl⟩) hHeld ?_
                change RestIn _ _ _ _ _ _ _ 0 #[true, true, true, true, true, true, true, true, true, true] _ _
                try simp only [Act.put, List.setIfInBounds_toArray, List.set_cons_zero, List.set_cons_succ, List.getElem_toArray, List.getElem_cons_zero, List.getElem_cons_succ]
                refine rest_done (by kernel_rfl) ?_
                go_wp2
                go_roundw
                all_goals first | exact ⟨n + 1, k + 1, [], by omega, by omega, by go_num, by go_num, HAT'.out, by simp, by omega, World.ownsRow_nil _ _ _ _, hWb.trans (hNow.mono hWb.size)⟩ | (simp [intOf]; omega)
end Go.Proofs.Ytbagfapalkmikaa
