import Derived.Test.YtmhnbchfmddhcaaRefE
import Derived.Test.YtmhnbchfmddhcaaConvF
import Derived.Test.YtmhnbchfmddhcaaPick
import Derived.Test.YtmhnbchfmddhcaaWords

/- A sure catch is one, with any choice. -/
namespace Go.Proofs.Ytmhnbchfmddhcaa
open Go.RowKit Go.Shelf
theorem lawSizeB_any (n : Int) (w : World) (hn : -1000000000000 ≤ n ∧ n ≤ 1000000000000) : Calls Try.prog 36 #[.int .i64 n] w fun e w' => e = .returned (.int .i64 (sizeI n)) ∧ Below w.heap.size w w' :=
  (lawSize_any n w hn).mono fun _ _ ⟨h, hw⟩ => ⟨h, hw ▸ Below.refl _ _⟩
theorem mulB {a b A B : Int} (ha : 0 ≤ a ∧ a ≤ A) (hb : 0 ≤ b ∧ b ≤ B) : 0 ≤ a * b ∧ a * b ≤ A * B := ⟨Int.mul_nonneg ha.1 hb.1, Int.mul_le_mul ha.2 hb.2 hb.1 (by omega)⟩

set_option linter.unusedSimpArgs false in
set_option maxRecDepth 100000 in
set_option maxHeartbeats 32000000 in
theorem sureLaw_ok (f : Flt) (A : Option Addr) (c : Nat) (rel a0 a1 a2 a3 a4 a5 : Int) (w : World) (hr : RS encB 4 w w.heap.size A f.cycle) (hfew : f.cycle.length ≤ 700) (hok : f.ok = true) (hrel : 0 ≤ rel ∧ rel ≤ 65535)
    (b0 : 0 ≤ a0 ∧ a0 ≤ 65535) (b1 : 0 ≤ a1 ∧ a1 ≤ 65535) (b2 : 0 ≤ a2 ∧ a2 ≤ 65535) (b3 : 0 ≤ a3 ∧ a3 ≤ 65535) (b4 : 0 ≤ a4 ∧ a4 ≤ 65535) (b5 : 0 ≤ a5 ∧ a5 ≤ 65535) :
    Calls Try.prog 6 #[.agg #[.int .i64 f.fly.pos.x.lo, .int .i64 f.fly.pos.x.hi, .int .i64 f.fly.pos.z.lo, .int .i64 f.fly.pos.z.hi, .int .i64 f.fly.speed.x.lo, .int .i64 f.fly.speed.x.hi, .int .i64 f.fly.speed.z.lo, .int .i64 f.fly.speed.z.hi, .int .i64 f.fly.mass, .slice A f.cycle.length c, .int .i64 f.reach, .int .i64 f.soft, .int .i64 f.bears, .int .i64 f.least, .int .i64 f.most], .int .u16 rel, .agg #[.int .u16 a0, .int .u16 a1, .int .u16 a2, .int .u16 a3, .int .u16 a4, .int .u16 a5]] w fun e w' => e = .returned (.bool true) ∧ Below w.heap.size w w' := by
  have hB0 := ((Below.refl w.heap.size w).alloc (Nat.le_refl _) (.cells #[.int .i64 f.fly.pos.x.lo, .int .i64 f.fly.pos.x.hi, .int .i64 f.fly.pos.z.lo, .int .i64 f.fly.pos.z.hi, .int .i64 f.fly.speed.x.lo, .int .i64 f.fly.speed.x.hi, .int .i64 f.fly.speed.z.lo, .int .i64 f.fly.speed.z.hi, .int .i64 f.fly.mass, .slice A f.cycle.length c, .int .i64 f.reach, .int .i64 f.soft, .int .i64 f.bears, .int .i64 f.least, .int .i64 f.most] 32)).alloc (by simp) (.cells #[.int .u16 a0, .int .u16 a1, .int .u16 a2, .int .u16 a3, .int .u16 a4, .int .u16 a5] 77)
  have kF0 := (Blk.new w 32 #[.int .i64 f.fly.pos.x.lo, .int .i64 f.fly.pos.x.hi, .int .i64 f.fly.pos.z.lo, .int .i64 f.fly.pos.z.hi, .int .i64 f.fly.speed.x.lo, .int .i64 f.fly.speed.x.hi, .int .i64 f.fly.speed.z.lo, .int .i64 f.fly.speed.z.hi, .int .i64 f.fly.mass, .slice A f.cycle.length c, .int .i64 f.reach, .int .i64 f.soft, .int .i64 f.bears, .int .i64 f.least, .int .i64 f.most]).alloc (.cells #[.int .u16 a0, .int .u16 a1, .int .u16 a2, .int .u16 a3, .int .u16 a4, .int .u16 a5] 77)
  have kD0 := Blk.new (w.alloc (.cells #[.int .i64 f.fly.pos.x.lo, .int .i64 f.fly.pos.x.hi, .int .i64 f.fly.pos.z.lo, .int .i64 f.fly.pos.z.hi, .int .i64 f.fly.speed.x.lo, .int .i64 f.fly.speed.x.hi, .int .i64 f.fly.speed.z.lo, .int .i64 f.fly.speed.z.hi, .int .i64 f.fly.mass, .slice A f.cycle.length c, .int .i64 f.reach, .int .i64 f.soft, .int .i64 f.bears, .int .i64 f.least, .int .i64 f.most] 32)) 77 #[.int .u16 a0, .int .u16 a1, .int .u16 a2, .int .u16 a3, .int .u16 a4, .int .u16 a5]
  simp only [World.size_alloc] at kD0
  have hR00 := hr.to hB0
  have HFEW : Hid (∀ W : World, Calls Try.prog 14 #[.agg #[.int .i64 f.fly.pos.x.lo, .int .i64 f.fly.pos.x.hi, .int .i64 f.fly.pos.z.lo, .int .i64 f.fly.pos.z.hi, .int .i64 f.fly.speed.x.lo, .int .i64 f.fly.speed.x.hi, .int .i64 f.fly.speed.z.lo, .int .i64 f.fly.speed.z.hi, .int .i64 f.fly.mass, .slice A f.cycle.length c, .int .i64 f.reach, .int .i64 f.soft, .int .i64 f.bears, .int .i64 f.least, .int .i64 f.most]] W fun e w' => e = .returned (.bool true) ∧ Below W.heap.size W w') := fun W => by have := few_any f A c W; rw [decide_eq_true hfew] at this; exact this
  have HR : Hid (∀ W : World, RS encB 4 W W.heap.size A f.cycle → Calls Try.prog 22 #[.agg #[.int .i64 f.fly.pos.x.lo, .int .i64 f.fly.pos.x.hi, .int .i64 f.fly.pos.z.lo, .int .i64 f.fly.pos.z.hi, .int .i64 f.fly.speed.x.lo, .int .i64 f.fly.speed.x.hi, .int .i64 f.fly.speed.z.lo, .int .i64 f.fly.speed.z.hi, .int .i64 f.fly.mass, .slice A f.cycle.length c, .int .i64 f.reach, .int .i64 f.soft, .int .i64 f.bears, .int .i64 f.least, .int .i64 f.most]] W fun e w' => e = .returned (.bool true) ∧ Below W.heap.size W w') := fun W h => by rw [← hok]; exact right_any f A c W h hfew
  have HFL : Hid (∀ W : World, RS encB 4 W W.heap.size A f.cycle → Calls Try.prog 19 #[.agg #[.int .i64 f.fly.pos.x.lo, .int .i64 f.fly.pos.x.hi, .int .i64 f.fly.pos.z.lo, .int .i64 f.fly.pos.z.hi, .int .i64 f.fly.speed.x.lo, .int .i64 f.fly.speed.x.hi, .int .i64 f.fly.speed.z.lo, .int .i64 f.fly.speed.z.hi, .int .i64 f.fly.mass, .slice A f.cycle.length c, .int .i64 f.reach, .int .i64 f.soft, .int .i64 f.bears, .int .i64 f.least, .int .i64 f.most]] W fun e w' => ∃ (A : Option Addr) (c : Nat), e = .returned (.agg #[.int .i64 f.fly.pos.x.lo, .int .i64 f.fly.pos.x.hi, .int .i64 f.fly.pos.z.lo, .int .i64 f.fly.pos.z.hi, .int .i64 f.fly.speed.x.lo, .int .i64 f.fly.speed.x.hi, .int .i64 f.fly.speed.z.lo, .int .i64 f.fly.speed.z.hi, .int .i64 f.fly.mass, .slice A f.cycle.length c, .int .i64 f.reach, .int .i64 f.soft, .int .i64 f.bears, .int .i64 f.least, .int .i64 f.most]) ∧ RS encB 4 w' w'.heap.size A f.cycle ∧ Below W.heap.size W w') := fun W h => lawFlight_any f A c W h hfew
  obtain ⟨hfl, ⟨hc1, hc2⟩, hcb, ⟨re1, re2⟩, ⟨so1, so2⟩, ⟨be1, be2⟩, ⟨le1, le2⟩, ⟨mo1, mo2⟩, hlm⟩ := Flt.ok_iff.1 hok
  obtain ⟨rn, hrn⟩ : ∃ rn : Nat, rel.tmod 6001 = rn := ⟨(rel.tmod 6001).toNat, by rw [Int.tmod_eq_emod_of_nonneg hrel.1]; omega⟩
  have hrb : rn ≤ 6000 := by rw [Int.tmod_eq_emod_of_nonneg hrel.1] at hrn; omega
  have HC1 : Hid (∀ (W : World) (A : Option Addr) (c : Nat), RS encB 4 W W.heap.size A f.cycle → Calls Try.prog 35 #[.agg #[.int .i64 f.fly.pos.x.lo, .int .i64 f.fly.pos.x.hi, .int .i64 f.fly.pos.z.lo, .int .i64 f.fly.pos.z.hi, .int .i64 f.fly.speed.x.lo, .int .i64 f.fly.speed.x.hi, .int .i64 f.fly.speed.z.lo, .int .i64 f.fly.speed.z.hi, .int .i64 f.fly.mass, .slice A f.cycle.length c, .int .i64 f.reach, .int .i64 f.soft, .int .i64 f.bears, .int .i64 f.least, .int .i64 f.most], .int .i64 (rn : Int)] W fun e w' => ∃ A' c', e = .returned (.tuple #[.slice A' (sureL f rn).length c', .int .i64 0]) ∧ RS encI 1 w' w'.heap.size A' (ints (sureL f rn)) ∧ Below W.heap.size W w') := fun W A c h => Catches_ok f A c rn W hok h (inB_true.2 (by omega))
  have hll := sureL_len (f := f) (r := rn) mo2
  have hmem : Hid (∀ x ∈ sureL f rn, ∃ t : Nat, x = rn + t ∧ f.least ≤ t ∧ (t : Int) ≤ f.most ∧ f.hitB rn t = true ∧ f.load t ≤ f.bears) := fun x hx => (mem_sure mo2 mo1 le1).1 hx
  obtain ⟨la, hla⟩ : ∃ la, sureL f rn = la := ⟨_, rfl⟩
  rw [hla] at HC1 hll hmem
  obtain ⟨hpo, hsp, ma1, ma2⟩ := Fly.ok_iff.1 hfl
  obtain ⟨⟨p1, p2, p3⟩, p4, p5, p6⟩ := Bx.inside_iff.1 hpo
  obtain ⟨⟨s1, s2, s3⟩, s4, s5, s6⟩ := Bx.inside_iff.1 hsp
  have HPx : Hid (∀ W : World, Calls Try.prog 34 #[.agg #[.int .i64 f.fly.pos.x.lo, .int .i64 f.fly.pos.x.hi], .int .u16 a0] W fun e w' => e = .returned (.int .i64 (pickI f.fly.pos.x a0)) ∧ Below W.heap.size W w') := fun W => pick_any f.fly.pos.x a0 W (by omega) (by omega) (by omega) (by omega)
  obtain ⟨xi1, xi2⟩ := pickI_in (w := a0) (show f.fly.pos.x.lo ≤ f.fly.pos.x.hi by omega)
  obtain ⟨x, hx⟩ : ∃ y, pickI f.fly.pos.x a0 = y := ⟨_, rfl⟩
  rw [hx] at HPx xi1 xi2
  clear hx
  have HPz : Hid (∀ W : World, Calls Try.prog 34 #[.agg #[.int .i64 f.fly.pos.z.lo, .int .i64 f.fly.pos.z.hi], .int .u16 a1] W fun e w' => e = .returned (.int .i64 (pickI f.fly.pos.z a1)) ∧ Below W.heap.size W w') := fun W => pick_any f.fly.pos.z a1 W (by omega) (by omega) (by omega) (by omega)
  obtain ⟨zi1, zi2⟩ := pickI_in (w := a1) (show f.fly.pos.z.lo ≤ f.fly.pos.z.hi by omega)
  obtain ⟨z, hz⟩ : ∃ y, pickI f.fly.pos.z a1 = y := ⟨_, rfl⟩
  rw [hz] at HPz zi1 zi2
  clear hz
  have HPu : Hid (∀ W : World, Calls Try.prog 34 #[.agg #[.int .i64 f.fly.speed.x.lo, .int .i64 f.fly.speed.x.hi], .int .u16 a2] W fun e w' => e = .returned (.int .i64 (pickI f.fly.speed.x a2)) ∧ Below W.heap.size W w') := fun W => pick_any f.fly.speed.x a2 W (by omega) (by omega) (by omega) (by omega)
  obtain ⟨ui1, ui2⟩ := pickI_in (w := a2) (show f.fly.speed.x.lo ≤ f.fly.speed.x.hi by omega)
  obtain ⟨u, hu⟩ : ∃ y, pickI f.fly.speed.x a2 = y := ⟨_, rfl⟩
  rw [hu] at HPu ui1 ui2
  clear hu
  have HPv : Hid (∀ W : World, Calls Try.prog 34 #[.agg #[.int .i64 f.fly.speed.z.lo, .int .i64 f.fly.speed.z.hi], .int .u16 a3] W fun e w' => e = .returned (.int .i64 (pickI f.fly.speed.z a3)) ∧ Below W.heap.size W w') := fun W => pick_any f.fly.speed.z a3 W (by omega) (by omega) (by omega) (by omega)
  obtain ⟨vi1, vi2⟩ := pickI_in (w := a3) (show f.fly.speed.z.lo ≤ f.fly.speed.z.hi by omega)
  obtain ⟨v, hv⟩ : ∃ y, pickI f.fly.speed.z a3 = y := ⟨_, rfl⟩
  rw [hv] at HPv vi1 vi2
  clear hv
  have bx : -10000000 ≤ x ∧ x ≤ 10000000 := by omega
  have bz : -10000000 ≤ z ∧ z ≤ 10000000 := by omega
  have bu : -10000 ≤ u ∧ u ≤ 10000 := by omega
  have bv : -10000 ≤ v ∧ v ≤ 10000 := by omega
  have HEL : Hid (∀ t : Nat, t ≤ 300 → f.hitB rn t = true → f.load t ≤ f.bears → (∀ y : Int, (f.hands (rn + t)).x.lo ≤ y → y ≤ (f.hands (rn + t)).x.hi → sizeI (x + t * u - y) ≤ f.reach) ∧ (∀ y : Int, (f.hands (rn + t)).z.lo ≤ y → y ≤ (f.hands (rn + t)).z.hi → sizeI (z + t * v - 49 * t * t - y) ≤ f.reach) ∧ f.fly.mass * 98 * f.soft + f.fly.mass * max (sizeI u) (sizeI (v - 98 * t)) ≤ f.bears * f.soft) := fun t ht hh hl =>
    ⟨fun y h1 h2 => sure_air_x ht hh ⟨xi1, xi2⟩ ⟨ui1, ui2⟩ ⟨h1, h2⟩, fun y h1 h2 => sure_air_z ht hh ⟨zi1, zi2⟩ ⟨vi1, vi2⟩ ⟨h1, h2⟩, sure_load hok hl ⟨ui1, ui2⟩ ⟨vi1, vi2⟩⟩
  have HHI : Hid (∀ k : Nat, (f.hands k).inside 10000000 = true) := fun k => hands_in hok k
  have HHD : Hid (∀ k : Nat, f.cycle[k % f.cycle.length]? = some (f.hands k)) := fun k => by
    obtain ⟨b, hb⟩ : ∃ b, f.cycle[k % f.cycle.length]? = some b := getElem?_lt (Nat.mod_lt _ (by omega))
    unfold Flt.hands; rw [hb]; rfl
  have m1 : 0 ≤ f.fly.mass * 98 ∧ f.fly.mass * 98 ≤ 19600 := by omega
  have m2 := mulB (a := f.fly.mass * 98) (b := f.soft) (A := 19600) (B := 100) m1 ⟨by omega, by omega⟩
  have m3 := mulB (a := f.bears) (b := f.soft) (A := 100000000) (B := 100) ⟨be1, be2⟩ ⟨by omega, by omega⟩
  have hma : 0 ≤ f.fly.mass ∧ f.fly.mass ≤ 200 := by omega
  have hlen1 : 1 ≤ f.cycle.length := hc1
  have hlen2 : f.cycle.length ≤ 600 := hc2
  have HOK := Lib.hid hok
  clear hok hfl hcb hpo hsp hr hfew hla p1 p2 p3 p4 p5 p6 s1 s2 s3 s4 s5 s6 xi1 xi2 zi1 zi2 ui1 ui2 vi1 vi2 ma1 ma2 b0 b1 b2 b3 hlm le1 mo1 hc1 hc2
  have hmx : Try.prog.follows .mixedOrders = true := by kernel_rfl
  go_enter Try.func6, Try.ntmps6
  go_upto_region 1 with fail
  refine name_world (motive := fun W => Code.wp _ _ _ _ W) _ ?_
  intro W0 hW
  have hWc := hW.cell
  have hWz := hW.size
  have hWb := hW.below (hB0)
  have kF := hW.blk kF0
  have kD := hW.blk kD0
  have hR0 := hR00.to (hW.below (Below.refl _ _))
  have HB0 := Lib.hid hWb
  clear hB0 kF0 kD0 hR00 hW hWc hWz hWb
  have hX := Below.refl W0.heap.size W0
  have kX := kF
  have x0 := kX.cell 0; have x1 := kX.cell 1; have x2 := kX.cell 2; have x3 := kX.cell 3; have x4 := kX.cell 4; have x5 := kX.cell 5; have x6 := kX.cell 6; have x7 := kX.cell 7; have x8 := kX.cell 8; have x9 := kX.cell 9; have x10 := kX.cell 10; have x11 := kX.cell 11; have x12 := kX.cell 12; have x13 := kX.cell 13; have x14 := kX.cell 14; simp at x0 x1 x2 x3 x4 x5 x6 x7 x8 x9 x10 x11 x12 x13 x14
  go_upto_region 7 with (first | (go_at_call 14; (with_reducible refine (HFEW.out _).mono ?_); rintro e wn ⟨rfl, hb⟩; have hX := sh_next hX hb; clear kX x0 x1 x2 x3 x4 x5 x6 x7 x8 x9 x10 x11 x12 x13 x14; have kX := kF.below hX kF.lt; have x0 := kX.cell 0; have x1 := kX.cell 1; have x2 := kX.cell 2; have x3 := kX.cell 3; have x4 := kX.cell 4; have x5 := kX.cell 5; have x6 := kX.cell 6; have x7 := kX.cell 7; have x8 := kX.cell 8; have x9 := kX.cell 9; have x10 := kX.cell 10; have x11 := kX.cell 11; have x12 := kX.cell 12; have x13 := kX.cell 13; have x14 := kX.cell 14; simp at x0 x1 x2 x3 x4 x5 x6 x7 x8 x9 x10 x11 x12 x13 x14) | (go_at_call 22; (with_reducible refine (HR.out _ (hR0.to hX)).mono ?_); rintro e wn ⟨rfl, hb⟩; have hX := sh_next hX hb; clear kX x0 x1 x2 x3 x4 x5 x6 x7 x8 x9 x10 x11 x12 x13 x14; have kX := kF.below hX kF.lt; have x0 := kX.cell 0; have x1 := kX.cell 1; have x2 := kX.cell 2; have x3 := kX.cell 3; have x4 := kX.cell 4; have x5 := kX.cell 5; have x6 := kX.cell 6; have x7 := kX.cell 7; have x8 := kX.cell 8; have x9 := kX.cell 9; have x10 := kX.cell 10; have x11 := kX.cell 11; have x12 := kX.cell 12; have x13 := kX.cell 13; have x14 := kX.cell 14; simp at x0 x1 x2 x3 x4 x5 x6 x7 x8 x9 x10 x11 x12 x13 x14) | (go_at_call 19; (with_reducible refine (HFL.out _ (hR0.to hX)).mono ?_); rintro e wn ⟨A2, c2, rfl, hs2, hb⟩; have hX := sh_next hX hb; clear kX x0 x1 x2 x3 x4 x5 x6 x7 x8 x9 x10 x11 x12 x13 x14; have kX := kF.below hX kF.lt; have x0 := kX.cell 0; have x1 := kX.cell 1; have x2 := kX.cell 2; have x3 := kX.cell 3; have x4 := kX.cell 4; have x5 := kX.cell 5; have x6 := kX.cell 6; have x7 := kX.cell 7; have x8 := kX.cell 8; have x9 := kX.cell 9; have x10 := kX.cell 10; have x11 := kX.cell 11; have x12 := kX.cell 12; have x13 := kX.cell 13; have x14 := kX.cell 14; simp at x0 x1 x2 x3 x4 x5 x6 x7 x8 x9 x10 x11 x12 x13 x14) | (go_at_call 35; (with_reducible refine (HC1.out _ _ _ hs2).mono ?_); rintro e wn ⟨Al, cl, rfl, hsl, hb⟩; have hX := sh_next hX hb; clear kX x0 x1 x2 x3 x4 x5 x6 x7 x8 x9 x10 x11 x12 x13 x14; have kX := kF.below hX kF.lt; have x0 := kX.cell 0; have x1 := kX.cell 1; have x2 := kX.cell 2; have x3 := kX.cell 3; have x4 := kX.cell 4; have x5 := kX.cell 5; have x6 := kX.cell 6; have x7 := kX.cell 7; have x8 := kX.cell 8; have x9 := kX.cell 9; have x10 := kX.cell 10; have x11 := kX.cell 11; have x12 := kX.cell 12; have x13 := kX.cell 13; have x14 := kX.cell 14; simp at x0 x1 x2 x3 x4 x5 x6 x7 x8 x9 x10 x11 x12 x13 x14))
  clear x0 x1 x2 x3 x4 x5 x6 x7 x8 x9 x10 x11 x12 x13 x14
  have kX1 := kX
  have kD1 := kD.below hX kD.lt
  have hR1 := hR0.to hX
  have HB1 := Lib.hid (HB0.out.trans (hX.mono HB0.out.size))
  clear kF kD kX hR0 HB0
  refine name_world (motive := fun W => Code.wp _ _ _ _ W) _ ?_
  intro W0 hW
  have hWc := hW.cell
  have hWz := hW.size
  have hWb := hW.below (hX)
  have kF := hW.blk kX1
  have kD := hW.blk kD1
  have hR0 := hR1.to (hW.below (Below.refl _ _))
  have hS0 := hsl.to (hW.below (Below.refl _ _))
  have HB0 := Lib.hid (HB1.out.trans ((hW.below (Below.refl _ _)).mono HB1.out.size))
  clear kX1 kD1 hR1 hsl HB1 hW hWc hWz hWb hX hs2
  refine (wpIn_wide (n := 9)).1 ?_
  have hLast := trivial
  refine region_rest (S := (fun w' => Blk w' (w.heap.size) 32 #[.int .i64 f.fly.pos.x.lo, .int .i64 f.fly.pos.x.hi, .int .i64 f.fly.pos.z.lo, .int .i64 f.fly.pos.z.hi, .int .i64 f.fly.speed.x.lo, .int .i64 f.fly.speed.x.hi, .int .i64 f.fly.speed.z.lo, .int .i64 f.fly.speed.z.hi, .int .i64 f.fly.mass, .slice A f.cycle.length c, .int .i64 f.reach, .int .i64 f.soft, .int .i64 f.bears, .int .i64 f.least, .int .i64 f.most] ∧ Blk w' (w.heap.size + 1) 77 #[.int .u16 a0, .int .u16 a1, .int .u16 a2, .int .u16 a3, .int .u16 a4, .int .u16 a5] ∧ Below W0.heap.size W0 w')) hmx ?_ (fun hHeld => ?_)
  · exact ⟨kF.drew, kD.drew, (Below.refl W0.heap.size W0).drew⟩
  change RestIn _ _ _ _ _ _ _ 16 #[false, false, false, false, false, false, false, false, false, false, false, false, false, false, false, false] _ (World.drew _)
  refine rest_take (i := 0) (v := _) all_wide (noDefers_of (by kernel_rfl)) rfl (by kernel_rfl) (by kernel_rfl) (by kernel_rfl) (fun _ _ _ h => h) (Or.inl ⟨by rfl, by intro w hSw; clear hSw; go_simp; first | done | with_reducible rfl⟩) hHeld ?_
  change RestIn _ _ _ _ _ _ _ 15 #[true, false, false, false, false, false, false, false, false, false, false, false, false, false, false, false] _ _
  try simp only [Act.put, List.setIfInBounds_toArray, List.set_cons_zero, List.set_cons_succ, List.getElem_toArray, List.getElem_cons_zero, List.getElem_cons_succ]
  refine rest_take (i := 1) (v := _) all_wide (noDefers_of (by kernel_rfl)) rfl (by kernel_rfl) (by kernel_rfl) (by kernel_rfl) (fun _ _ _ h => h) (Or.inl ⟨by rfl, by intro w hSw; clear hSw; go_simp; first | done | with_reducible rfl⟩) hHeld ?_
  change RestIn _ _ _ _ _ _ _ 14 #[true, true, false, false, false, false, false, false, false, false, false, false, false, false, false, false] _ _
  try simp only [Act.put, List.setIfInBounds_toArray, List.set_cons_zero, List.set_cons_succ, List.getElem_toArray, List.getElem_cons_zero, List.getElem_cons_succ]
  refine rest_take (i := 2) (v := _) all_wide (noDefers_of (by kernel_rfl)) rfl (by kernel_rfl) (by kernel_rfl) (by kernel_rfl) (fun _ _ _ h => h) (Or.inl ⟨by rfl, by intro w hSw; clear hSw; go_simp; first | done | with_reducible rfl⟩) hHeld ?_
  change RestIn _ _ _ _ _ _ _ 13 #[true, true, true, false, false, false, false, false, false, false, false, false, false, false, false, false] _ _
  try simp only [Act.put, List.setIfInBounds_toArray, List.set_cons_zero, List.set_cons_succ, List.getElem_toArray, List.getElem_cons_zero, List.getElem_cons_succ]
  refine rest_take (i := 3) (v := _) all_wide (noDefers_of (by kernel_rfl)) rfl (by kernel_rfl) (by kernel_rfl) (by kernel_rfl) (fun _ _ _ h => h) (Or.inl ⟨by rfl, by intro w hSw; (obtain ⟨q0, q1, _⟩ := hSw; have q0x0 := q0.cell 0; have q0x1 := q0.cell 1; have q0x2 := q0.cell 2; have q0x3 := q0.cell 3; have q0x4 := q0.cell 4; have q0x5 := q0.cell 5; have q0x6 := q0.cell 6; have q0x7 := q0.cell 7; have q0x8 := q0.cell 8; have q0x9 := q0.cell 9; have q0x10 := q0.cell 10; have q0x11 := q0.cell 11; have q0x12 := q0.cell 12; have q0x13 := q0.cell 13; have q0x14 := q0.cell 14; have q1x0 := q1.cell 0; have q1x1 := q1.cell 1; have q1x2 := q1.cell 2; have q1x3 := q1.cell 3; have q1x4 := q1.cell 4; have q1x5 := q1.cell 5; simp at q0x0 q0x1 q0x2 q0x3 q0x4 q0x5 q0x6 q0x7 q0x8 q0x9 q0x10 q0x11 q0x12 q0x13 q0x14 q1x0 q1x1 q1x2 q1x3 q1x4 q1x5); go_simp; first | done | with_reducible rfl⟩) hHeld ?_
  change RestIn _ _ _ _ _ _ _ 12 #[true, true, true, true, false, false, false, false, false, false, false, false, false, false, false, false] _ _
  try simp only [Act.put, List.setIfInBounds_toArray, List.set_cons_zero, List.set_cons_succ, List.getElem_toArray, List.getElem_cons_zero, List.getElem_cons_succ]
  refine rest_take (i := 4) (v := _) all_wide (noDefers_of (by kernel_rfl)) rfl (by kernel_rfl) (by kernel_rfl) (by kernel_rfl) (fun _ _ _ h => h) (Or.inl ⟨by rfl, by intro w hSw; clear hSw; go_simp; first | done | with_reducible rfl⟩) hHeld ?_
  change RestIn _ _ _ _ _ _ _ 11 #[true, true, true, true, true, false, false, false, false, false, false, false, false, false, false, false] _ _
  try simp only [Act.put, List.setIfInBounds_toArray, List.set_cons_zero, List.set_cons_succ, List.getElem_toArray, List.getElem_cons_zero, List.getElem_cons_succ]
  refine rest_take (i := 5) (v := _) all_wide (noDefers_of (by kernel_rfl)) rfl (by kernel_rfl) (by kernel_rfl) (by kernel_rfl) (fun _ _ _ h => h) (Or.inl ⟨by rfl, by intro w hSw; (obtain ⟨q0, q1, _⟩ := hSw; have q0x0 := q0.cell 0; have q0x1 := q0.cell 1; have q0x2 := q0.cell 2; have q0x3 := q0.cell 3; have q0x4 := q0.cell 4; have q0x5 := q0.cell 5; have q0x6 := q0.cell 6; have q0x7 := q0.cell 7; have q0x8 := q0.cell 8; have q0x9 := q0.cell 9; have q0x10 := q0.cell 10; have q0x11 := q0.cell 11; have q0x12 := q0.cell 12; have q0x13 := q0.cell 13; have q0x14 := q0.cell 14; have q1x0 := q1.cell 0; have q1x1 := q1.cell 1; have q1x2 := q1.cell 2; have q1x3 := q1.cell 3; have q1x4 := q1.cell 4; have q1x5 := q1.cell 5; simp at q0x0 q0x1 q0x2 q0x3 q0x4 q0x5 q0x6 q0x7 q0x8 q0x9 q0x10 q0x11 q0x12 q0x13 q0x14 q1x0 q1x1 q1x2 q1x3 q1x4 q1x5); go_simp; first | done | with_reducible rfl⟩) hHeld ?_
  change RestIn _ _ _ _ _ _ _ 10 #[true, true, true, true, true, true, false, false, false, false, false, false, false, false, false, false] _ _
  try simp only [Act.put, List.setIfInBounds_toArray, List.set_cons_zero, List.set_cons_succ, List.getElem_toArray, List.getElem_cons_zero, List.getElem_cons_succ]
  refine rest_take (i := 7) (v := _) all_wide (noDefers_of (by kernel_rfl)) rfl (by kernel_rfl) (by kernel_rfl) (by kernel_rfl) (fun _ _ _ h => h) (Or.inl ⟨by rfl, by intro w hSw; clear hSw; go_simp; first | done | with_reducible rfl⟩) hHeld ?_
  change RestIn _ _ _ _ _ _ _ 9 #[true, true, true, true, true, true, false, true, false, false, false, false, false, false, false, false] _ _
  try simp only [Act.put, List.setIfInBounds_toArray, List.set_cons_zero, List.set_cons_succ, List.getElem_toArray, List.getElem_cons_zero, List.getElem_cons_succ]
  refine rest_take (i := 8) (v := _) all_wide (noDefers_of (by kernel_rfl)) rfl (by kernel_rfl) (by kernel_rfl) (by kernel_rfl) (fun _ _ _ h => h) (Or.inl ⟨by rfl, by intro w hSw; clear hSw; go_simp; first | done | with_reducible rfl⟩) hHeld ?_
  change RestIn _ _ _ _ _ _ _ 8 #[true, true, true, true, true, true, false, true, true, false, false, false, false, false, false, false] _ _
  try simp only [Act.put, List.setIfInBounds_toArray, List.set_cons_zero, List.set_cons_succ, List.getElem_toArray, List.getElem_cons_zero, List.getElem_cons_succ]
  refine rest_take (i := 9) (v := _) all_wide (noDefers_of (by kernel_rfl)) rfl (by kernel_rfl) (by kernel_rfl) (by kernel_rfl) (fun _ _ _ h => h) (Or.inl ⟨by rfl, by intro w hSw; clear hSw; go_simp; first | done | with_reducible rfl⟩) hHeld ?_
  change RestIn _ _ _ _ _ _ _ 7 #[true, true, true, true, true, true, false, true, true, true, false, false, false, false, false, false] _ _
  try simp only [Act.put, List.setIfInBounds_toArray, List.set_cons_zero, List.set_cons_succ, List.getElem_toArray, List.getElem_cons_zero, List.getElem_cons_succ]
  refine rest_take (i := 10) (v := _) all_wide (noDefers_of (by kernel_rfl)) rfl (by kernel_rfl) (by kernel_rfl) (by kernel_rfl) (fun _ _ _ h => h) (Or.inl ⟨by rfl, by intro w hSw; (obtain ⟨q0, q1, _⟩ := hSw; have q0x0 := q0.cell 0; have q0x1 := q0.cell 1; have q0x2 := q0.cell 2; have q0x3 := q0.cell 3; have q0x4 := q0.cell 4; have q0x5 := q0.cell 5; have q0x6 := q0.cell 6; have q0x7 := q0.cell 7; have q0x8 := q0.cell 8; have q0x9 := q0.cell 9; have q0x10 := q0.cell 10; have q0x11 := q0.cell 11; have q0x12 := q0.cell 12; have q0x13 := q0.cell 13; have q0x14 := q0.cell 14; have q1x0 := q1.cell 0; have q1x1 := q1.cell 1; have q1x2 := q1.cell 2; have q1x3 := q1.cell 3; have q1x4 := q1.cell 4; have q1x5 := q1.cell 5; simp at q0x0 q0x1 q0x2 q0x3 q0x4 q0x5 q0x6 q0x7 q0x8 q0x9 q0x10 q0x11 q0x12 q0x13 q0x14 q1x0 q1x1 q1x2 q1x3 q1x4 q1x5); go_simp; first | done | with_reducible rfl⟩) hHeld ?_
  change RestIn _ _ _ _ _ _ _ 6 #[true, true, true, true, true, true, false, true, true, true, true, false, false, false, false, false] _ _
  try simp only [Act.put, List.setIfInBounds_toArray, List.set_cons_zero, List.set_cons_succ, List.getElem_toArray, List.getElem_cons_zero, List.getElem_cons_succ]
  refine rest_take (i := 11) (v := _) all_wide (noDefers_of (by kernel_rfl)) rfl (by kernel_rfl) (by kernel_rfl) (by kernel_rfl) (fun _ _ _ h => h) (Or.inl ⟨by rfl, by intro w hSw; clear hSw; go_simp; first | done | with_reducible rfl⟩) hHeld ?_
  change RestIn _ _ _ _ _ _ _ 5 #[true, true, true, true, true, true, false, true, true, true, true, true, false, false, false, false] _ _
  try simp only [Act.put, List.setIfInBounds_toArray, List.set_cons_zero, List.set_cons_succ, List.getElem_toArray, List.getElem_cons_zero, List.getElem_cons_succ]
  refine rest_take (i := 12) (v := _) all_wide (noDefers_of (by kernel_rfl)) rfl (by kernel_rfl) (by kernel_rfl) (by kernel_rfl) (fun _ _ _ h => h) (Or.inl ⟨by rfl, by intro w hSw; (obtain ⟨q0, q1, _⟩ := hSw; have q0x0 := q0.cell 0; have q0x1 := q0.cell 1; have q0x2 := q0.cell 2; have q0x3 := q0.cell 3; have q0x4 := q0.cell 4; have q0x5 := q0.cell 5; have q0x6 := q0.cell 6; have q0x7 := q0.cell 7; have q0x8 := q0.cell 8; have q0x9 := q0.cell 9; have q0x10 := q0.cell 10; have q0x11 := q0.cell 11; have q0x12 := q0.cell 12; have q0x13 := q0.cell 13; have q0x14 := q0.cell 14; have q1x0 := q1.cell 0; have q1x1 := q1.cell 1; have q1x2 := q1.cell 2; have q1x3 := q1.cell 3; have q1x4 := q1.cell 4; have q1x5 := q1.cell 5; simp at q0x0 q0x1 q0x2 q0x3 q0x4 q0x5 q0x6 q0x7 q0x8 q0x9 q0x10 q0x11 q0x12 q0x13 q0x14 q1x0 q1x1 q1x2 q1x3 q1x4 q1x5); go_simp; first | done | with_reducible rfl⟩) hHeld ?_
  change RestIn _ _ _ _ _ _ _ 4 #[true, true, true, true, true, true, false, true, true, true, true, true, true, false, false, false] _ _
  try simp only [Act.put, List.setIfInBounds_toArray, List.set_cons_zero, List.set_cons_succ, List.getElem_toArray, List.getElem_cons_zero, List.getElem_cons_succ]
  refine rest_ready (rs := [6]) (by kernel_rfl) (by simp) ?_
  refine AllRest.cons rfl (fun K hK => ?_) AllRest.nil
  have hNow := (hHeld.2.2)
  clear hLast
  have hLast := hNow
  go_simp
  gi_wp2_with ((refine ⟨trivial, ?_⟩; gi_at_call 34; (with_reducible refine (callsIn_wide.2 (HPx.out _)).mono ?_); rintro e wn ⟨rfl, hb⟩))
  refine hK.out _ _ ?_ (fun hHeld' => ?_)
  · exact ⟨hHeld.1.below hb hHeld.1.lt, hHeld.2.1.below hb hHeld.2.1.lt, (hHeld.2.2).trans (hb.mono (hHeld.2.2).size)⟩
  clear hK K
  change RestIn _ _ _ _ _ _ _ 3 #[true, true, true, true, true, true, true, true, true, true, true, true, true, false, false, false] _ _
  try simp only [Act.put, List.setIfInBounds_toArray, List.set_cons_zero, List.set_cons_succ, List.getElem_toArray, List.getElem_cons_zero, List.getElem_cons_succ]
  clear hHeld
  have hHeld := hHeld'
  clear hHeld'
  have hNow := (hHeld.2.2)
  refine rest_ready (rs := [13]) (by kernel_rfl) (by simp) ?_
  refine AllRest.cons rfl (fun K hK => ?_) AllRest.nil
  have hNow := (hHeld.2.2)
  clear hLast
  have hLast := hNow
  go_simp
  gi_wp2_with ((refine ⟨trivial, ?_⟩; gi_at_call 34; (with_reducible refine (callsIn_wide.2 (HPz.out _)).mono ?_); rintro e wn ⟨rfl, hb⟩))
  refine hK.out _ _ ?_ (fun hHeld' => ?_)
  · exact ⟨hHeld.1.below hb hHeld.1.lt, hHeld.2.1.below hb hHeld.2.1.lt, (hHeld.2.2).trans (hb.mono (hHeld.2.2).size)⟩
  clear hK K
  change RestIn _ _ _ _ _ _ _ 2 #[true, true, true, true, true, true, true, true, true, true, true, true, true, true, false, false] _ _
  try simp only [Act.put, List.setIfInBounds_toArray, List.set_cons_zero, List.set_cons_succ, List.getElem_toArray, List.getElem_cons_zero, List.getElem_cons_succ]
  clear hHeld
  have hHeld := hHeld'
  clear hHeld'
  have hNow := (hHeld.2.2)
  refine rest_take (i := 14) (v := _) all_wide (noDefers_of (by kernel_rfl)) rfl (by kernel_rfl) (by kernel_rfl) (by kernel_rfl) (fun _ _ _ h => h) (Or.inl ⟨by rfl, by intro w hSw; clear hSw; go_simp; first | done | with_reducible rfl⟩) hHeld ?_
  change RestIn _ _ _ _ _ _ _ 1 #[true, true, true, true, true, true, true, true, true, true, true, true, true, true, true, false] _ _
  try simp only [Act.put, List.setIfInBounds_toArray, List.set_cons_zero, List.set_cons_succ, List.getElem_toArray, List.getElem_cons_zero, List.getElem_cons_succ]
  refine rest_take (i := 15) (v := _) all_wide (noDefers_of (by kernel_rfl)) rfl (by kernel_rfl) (by kernel_rfl) (by kernel_rfl) (fun _ _ _ h => h) (Or.inl ⟨by rfl, by intro w hSw; clear hSw; go_simp; first | done | with_reducible rfl⟩) hHeld ?_
  change RestIn _ _ _ _ _ _ _ 0 #[true, true, true, true, true, true, true, true, true, true, true, true, true, true, true, true] _ _
  try simp only [Act.put, List.setIfInBounds_toArray, List.set_cons_zero, List.set_cons_succ, List.getElem_toArray, List.getElem_cons_zero, List.getElem_cons_succ]
  refine rest_done (by kernel_rfl) ?_
  clear hLast
  have kF1 := hHeld.1
  have kD1 := hHeld.2.1
  have hR1 := hR0.to hNow
  have hS1 := hS0.to hNow
  have HB1 := Lib.hid (HB0.out.trans (hNow.mono HB0.out.size))
  clear hHeld kF kD hR0 hS0 HB0
  go_upto_region 8 with fail
  refine name_world (motive := fun W => Code.wp _ _ _ _ W) _ ?_
  intro W0 hW
  have hWc := hW.cell
  have hWz := hW.size
  have hWb := hW.below (hNow)
  have kF := hW.blk kF1
  have kD := hW.blk kD1
  have hR0 := hR1.to (hW.below (Below.refl _ _))
  have hS0 := hS1.to (hW.below (Below.refl _ _))
  have HB0 := Lib.hid (HB1.out.trans ((hW.below (Below.refl _ _)).mono HB1.out.size))
  clear kF1 kD1 hR1 hS1 HB1 hW hWc hWz hWb hNow
  refine (wpIn_wide (n := 9)).1 ?_
  have hLast := trivial
  refine region_rest (S := (fun w' => Blk w' (w.heap.size) 32 #[.int .i64 f.fly.pos.x.lo, .int .i64 f.fly.pos.x.hi, .int .i64 f.fly.pos.z.lo, .int .i64 f.fly.pos.z.hi, .int .i64 f.fly.speed.x.lo, .int .i64 f.fly.speed.x.hi, .int .i64 f.fly.speed.z.lo, .int .i64 f.fly.speed.z.hi, .int .i64 f.fly.mass, .slice A f.cycle.length c, .int .i64 f.reach, .int .i64 f.soft, .int .i64 f.bears, .int .i64 f.least, .int .i64 f.most] ∧ Blk w' (w.heap.size + 1) 77 #[.int .u16 a0, .int .u16 a1, .int .u16 a2, .int .u16 a3, .int .u16 a4, .int .u16 a5] ∧ Below W0.heap.size W0 w')) hmx ?_ (fun hHeld => ?_)
  · exact ⟨kF.drew, kD.drew, (Below.refl W0.heap.size W0).drew⟩
  change RestIn _ _ _ _ _ _ _ 16 #[false, false, false, false, false, false, false, false, false, false, false, false, false, false, false, false] _ (World.drew _)
  refine rest_take (i := 0) (v := _) all_wide (noDefers_of (by kernel_rfl)) rfl (by kernel_rfl) (by kernel_rfl) (by kernel_rfl) (fun _ _ _ h => h) (Or.inl ⟨by rfl, by intro w hSw; clear hSw; go_simp; first | done | with_reducible rfl⟩) hHeld ?_
  change RestIn _ _ _ _ _ _ _ 15 #[true, false, false, false, false, false, false, false, false, false, false, false, false, false, false, false] _ _
  try simp only [Act.put, List.setIfInBounds_toArray, List.set_cons_zero, List.set_cons_succ, List.getElem_toArray, List.getElem_cons_zero, List.getElem_cons_succ]
  refine rest_take (i := 1) (v := _) all_wide (noDefers_of (by kernel_rfl)) rfl (by kernel_rfl) (by kernel_rfl) (by kernel_rfl) (fun _ _ _ h => h) (Or.inl ⟨by rfl, by intro w hSw; clear hSw; go_simp; first | done | with_reducible rfl⟩) hHeld ?_
  change RestIn _ _ _ _ _ _ _ 14 #[true, true, false, false, false, false, false, false, false, false, false, false, false, false, false, false] _ _
  try simp only [Act.put, List.setIfInBounds_toArray, List.set_cons_zero, List.set_cons_succ, List.getElem_toArray, List.getElem_cons_zero, List.getElem_cons_succ]
  refine rest_take (i := 2) (v := _) all_wide (noDefers_of (by kernel_rfl)) rfl (by kernel_rfl) (by kernel_rfl) (by kernel_rfl) (fun _ _ _ h => h) (Or.inl ⟨by rfl, by intro w hSw; clear hSw; go_simp; first | done | with_reducible rfl⟩) hHeld ?_
  change RestIn _ _ _ _ _ _ _ 13 #[true, true, true, false, false, false, false, false, false, false, false, false, false, false, false, false] _ _
  try simp only [Act.put, List.setIfInBounds_toArray, List.set_cons_zero, List.set_cons_succ, List.getElem_toArray, List.getElem_cons_zero, List.getElem_cons_succ]
  refine rest_take (i := 3) (v := _) all_wide (noDefers_of (by kernel_rfl)) rfl (by kernel_rfl) (by kernel_rfl) (by kernel_rfl) (fun _ _ _ h => h) (Or.inl ⟨by rfl, by intro w hSw; (obtain ⟨q0, q1, _⟩ := hSw; have q0x0 := q0.cell 0; have q0x1 := q0.cell 1; have q0x2 := q0.cell 2; have q0x3 := q0.cell 3; have q0x4 := q0.cell 4; have q0x5 := q0.cell 5; have q0x6 := q0.cell 6; have q0x7 := q0.cell 7; have q0x8 := q0.cell 8; have q0x9 := q0.cell 9; have q0x10 := q0.cell 10; have q0x11 := q0.cell 11; have q0x12 := q0.cell 12; have q0x13 := q0.cell 13; have q0x14 := q0.cell 14; have q1x0 := q1.cell 0; have q1x1 := q1.cell 1; have q1x2 := q1.cell 2; have q1x3 := q1.cell 3; have q1x4 := q1.cell 4; have q1x5 := q1.cell 5; simp at q0x0 q0x1 q0x2 q0x3 q0x4 q0x5 q0x6 q0x7 q0x8 q0x9 q0x10 q0x11 q0x12 q0x13 q0x14 q1x0 q1x1 q1x2 q1x3 q1x4 q1x5); go_simp; first | done | with_reducible rfl⟩) hHeld ?_
  change RestIn _ _ _ _ _ _ _ 12 #[true, true, true, true, false, false, false, false, false, false, false, false, false, false, false, false] _ _
  try simp only [Act.put, List.setIfInBounds_toArray, List.set_cons_zero, List.set_cons_succ, List.getElem_toArray, List.getElem_cons_zero, List.getElem_cons_succ]
  refine rest_take (i := 4) (v := _) all_wide (noDefers_of (by kernel_rfl)) rfl (by kernel_rfl) (by kernel_rfl) (by kernel_rfl) (fun _ _ _ h => h) (Or.inl ⟨by rfl, by intro w hSw; clear hSw; go_simp; first | done | with_reducible rfl⟩) hHeld ?_
  change RestIn _ _ _ _ _ _ _ 11 #[true, true, true, true, true, false, false, false, false, false, false, false, false, false, false, false] _ _
  try simp only [Act.put, List.setIfInBounds_toArray, List.set_cons_zero, List.set_cons_succ, List.getElem_toArray, List.getElem_cons_zero, List.getElem_cons_succ]
  refine rest_take (i := 5) (v := _) all_wide (noDefers_of (by kernel_rfl)) rfl (by kernel_rfl) (by kernel_rfl) (by kernel_rfl) (fun _ _ _ h => h) (Or.inl ⟨by rfl, by intro w hSw; (obtain ⟨q0, q1, _⟩ := hSw; have q0x0 := q0.cell 0; have q0x1 := q0.cell 1; have q0x2 := q0.cell 2; have q0x3 := q0.cell 3; have q0x4 := q0.cell 4; have q0x5 := q0.cell 5; have q0x6 := q0.cell 6; have q0x7 := q0.cell 7; have q0x8 := q0.cell 8; have q0x9 := q0.cell 9; have q0x10 := q0.cell 10; have q0x11 := q0.cell 11; have q0x12 := q0.cell 12; have q0x13 := q0.cell 13; have q0x14 := q0.cell 14; have q1x0 := q1.cell 0; have q1x1 := q1.cell 1; have q1x2 := q1.cell 2; have q1x3 := q1.cell 3; have q1x4 := q1.cell 4; have q1x5 := q1.cell 5; simp at q0x0 q0x1 q0x2 q0x3 q0x4 q0x5 q0x6 q0x7 q0x8 q0x9 q0x10 q0x11 q0x12 q0x13 q0x14 q1x0 q1x1 q1x2 q1x3 q1x4 q1x5); go_simp; first | done | with_reducible rfl⟩) hHeld ?_
  change RestIn _ _ _ _ _ _ _ 10 #[true, true, true, true, true, true, false, false, false, false, false, false, false, false, false, false] _ _
  try simp only [Act.put, List.setIfInBounds_toArray, List.set_cons_zero, List.set_cons_succ, List.getElem_toArray, List.getElem_cons_zero, List.getElem_cons_succ]
  refine rest_take (i := 7) (v := _) all_wide (noDefers_of (by kernel_rfl)) rfl (by kernel_rfl) (by kernel_rfl) (by kernel_rfl) (fun _ _ _ h => h) (Or.inl ⟨by rfl, by intro w hSw; clear hSw; go_simp; first | done | with_reducible rfl⟩) hHeld ?_
  change RestIn _ _ _ _ _ _ _ 9 #[true, true, true, true, true, true, false, true, false, false, false, false, false, false, false, false] _ _
  try simp only [Act.put, List.setIfInBounds_toArray, List.set_cons_zero, List.set_cons_succ, List.getElem_toArray, List.getElem_cons_zero, List.getElem_cons_succ]
  refine rest_take (i := 8) (v := _) all_wide (noDefers_of (by kernel_rfl)) rfl (by kernel_rfl) (by kernel_rfl) (by kernel_rfl) (fun _ _ _ h => h) (Or.inl ⟨by rfl, by intro w hSw; clear hSw; go_simp; first | done | with_reducible rfl⟩) hHeld ?_
  change RestIn _ _ _ _ _ _ _ 8 #[true, true, true, true, true, true, false, true, true, false, false, false, false, false, false, false] _ _
  try simp only [Act.put, List.setIfInBounds_toArray, List.set_cons_zero, List.set_cons_succ, List.getElem_toArray, List.getElem_cons_zero, List.getElem_cons_succ]
  refine rest_take (i := 9) (v := _) all_wide (noDefers_of (by kernel_rfl)) rfl (by kernel_rfl) (by kernel_rfl) (by kernel_rfl) (fun _ _ _ h => h) (Or.inl ⟨by rfl, by intro w hSw; clear hSw; go_simp; first | done | with_reducible rfl⟩) hHeld ?_
  change RestIn _ _ _ _ _ _ _ 7 #[true, true, true, true, true, true, false, true, true, true, false, false, false, false, false, false] _ _
  try simp only [Act.put, List.setIfInBounds_toArray, List.set_cons_zero, List.set_cons_succ, List.getElem_toArray, List.getElem_cons_zero, List.getElem_cons_succ]
  refine rest_take (i := 10) (v := _) all_wide (noDefers_of (by kernel_rfl)) rfl (by kernel_rfl) (by kernel_rfl) (by kernel_rfl) (fun _ _ _ h => h) (Or.inl ⟨by rfl, by intro w hSw; (obtain ⟨q0, q1, _⟩ := hSw; have q0x0 := q0.cell 0; have q0x1 := q0.cell 1; have q0x2 := q0.cell 2; have q0x3 := q0.cell 3; have q0x4 := q0.cell 4; have q0x5 := q0.cell 5; have q0x6 := q0.cell 6; have q0x7 := q0.cell 7; have q0x8 := q0.cell 8; have q0x9 := q0.cell 9; have q0x10 := q0.cell 10; have q0x11 := q0.cell 11; have q0x12 := q0.cell 12; have q0x13 := q0.cell 13; have q0x14 := q0.cell 14; have q1x0 := q1.cell 0; have q1x1 := q1.cell 1; have q1x2 := q1.cell 2; have q1x3 := q1.cell 3; have q1x4 := q1.cell 4; have q1x5 := q1.cell 5; simp at q0x0 q0x1 q0x2 q0x3 q0x4 q0x5 q0x6 q0x7 q0x8 q0x9 q0x10 q0x11 q0x12 q0x13 q0x14 q1x0 q1x1 q1x2 q1x3 q1x4 q1x5); go_simp; first | done | with_reducible rfl⟩) hHeld ?_
  change RestIn _ _ _ _ _ _ _ 6 #[true, true, true, true, true, true, false, true, true, true, true, false, false, false, false, false] _ _
  try simp only [Act.put, List.setIfInBounds_toArray, List.set_cons_zero, List.set_cons_succ, List.getElem_toArray, List.getElem_cons_zero, List.getElem_cons_succ]
  refine rest_take (i := 11) (v := _) all_wide (noDefers_of (by kernel_rfl)) rfl (by kernel_rfl) (by kernel_rfl) (by kernel_rfl) (fun _ _ _ h => h) (Or.inl ⟨by rfl, by intro w hSw; clear hSw; go_simp; first | done | with_reducible rfl⟩) hHeld ?_
  change RestIn _ _ _ _ _ _ _ 5 #[true, true, true, true, true, true, false, true, true, true, true, true, false, false, false, false] _ _
  try simp only [Act.put, List.setIfInBounds_toArray, List.set_cons_zero, List.set_cons_succ, List.getElem_toArray, List.getElem_cons_zero, List.getElem_cons_succ]
  refine rest_take (i := 12) (v := _) all_wide (noDefers_of (by kernel_rfl)) rfl (by kernel_rfl) (by kernel_rfl) (by kernel_rfl) (fun _ _ _ h => h) (Or.inl ⟨by rfl, by intro w hSw; (obtain ⟨q0, q1, _⟩ := hSw; have q0x0 := q0.cell 0; have q0x1 := q0.cell 1; have q0x2 := q0.cell 2; have q0x3 := q0.cell 3; have q0x4 := q0.cell 4; have q0x5 := q0.cell 5; have q0x6 := q0.cell 6; have q0x7 := q0.cell 7; have q0x8 := q0.cell 8; have q0x9 := q0.cell 9; have q0x10 := q0.cell 10; have q0x11 := q0.cell 11; have q0x12 := q0.cell 12; have q0x13 := q0.cell 13; have q0x14 := q0.cell 14; have q1x0 := q1.cell 0; have q1x1 := q1.cell 1; have q1x2 := q1.cell 2; have q1x3 := q1.cell 3; have q1x4 := q1.cell 4; have q1x5 := q1.cell 5; simp at q0x0 q0x1 q0x2 q0x3 q0x4 q0x5 q0x6 q0x7 q0x8 q0x9 q0x10 q0x11 q0x12 q0x13 q0x14 q1x0 q1x1 q1x2 q1x3 q1x4 q1x5); go_simp; first | done | with_reducible rfl⟩) hHeld ?_
  change RestIn _ _ _ _ _ _ _ 4 #[true, true, true, true, true, true, false, true, true, true, true, true, true, false, false, false] _ _
  try simp only [Act.put, List.setIfInBounds_toArray, List.set_cons_zero, List.set_cons_succ, List.getElem_toArray, List.getElem_cons_zero, List.getElem_cons_succ]
  refine rest_ready (rs := [6]) (by kernel_rfl) (by simp) ?_
  refine AllRest.cons rfl (fun K hK => ?_) AllRest.nil
  have hNow := (hHeld.2.2)
  clear hLast
  have hLast := hNow
  go_simp
  gi_wp2_with ((refine ⟨trivial, ?_⟩; gi_at_call 34; (with_reducible refine (callsIn_wide.2 (HPu.out _)).mono ?_); rintro e wn ⟨rfl, hb⟩))
  refine hK.out _ _ ?_ (fun hHeld' => ?_)
  · exact ⟨hHeld.1.below hb hHeld.1.lt, hHeld.2.1.below hb hHeld.2.1.lt, (hHeld.2.2).trans (hb.mono (hHeld.2.2).size)⟩
  clear hK K
  change RestIn _ _ _ _ _ _ _ 3 #[true, true, true, true, true, true, true, true, true, true, true, true, true, false, false, false] _ _
  try simp only [Act.put, List.setIfInBounds_toArray, List.set_cons_zero, List.set_cons_succ, List.getElem_toArray, List.getElem_cons_zero, List.getElem_cons_succ]
  clear hHeld
  have hHeld := hHeld'
  clear hHeld'
  have hNow := (hHeld.2.2)
  refine rest_ready (rs := [13]) (by kernel_rfl) (by simp) ?_
  refine AllRest.cons rfl (fun K hK => ?_) AllRest.nil
  have hNow := (hHeld.2.2)
  clear hLast
  have hLast := hNow
  go_simp
  gi_wp2_with ((refine ⟨trivial, ?_⟩; gi_at_call 34; (with_reducible refine (callsIn_wide.2 (HPv.out _)).mono ?_); rintro e wn ⟨rfl, hb⟩))
  refine hK.out _ _ ?_ (fun hHeld' => ?_)
  · exact ⟨hHeld.1.below hb hHeld.1.lt, hHeld.2.1.below hb hHeld.2.1.lt, (hHeld.2.2).trans (hb.mono (hHeld.2.2).size)⟩
  clear hK K
  change RestIn _ _ _ _ _ _ _ 2 #[true, true, true, true, true, true, true, true, true, true, true, true, true, true, false, false] _ _
  try simp only [Act.put, List.setIfInBounds_toArray, List.set_cons_zero, List.set_cons_succ, List.getElem_toArray, List.getElem_cons_zero, List.getElem_cons_succ]
  clear hHeld
  have hHeld := hHeld'
  clear hHeld'
  have hNow := (hHeld.2.2)
  refine rest_take (i := 14) (v := _) all_wide (noDefers_of (by kernel_rfl)) rfl (by kernel_rfl) (by kernel_rfl) (by kernel_rfl) (fun _ _ _ h => h) (Or.inl ⟨by rfl, by intro w hSw; clear hSw; go_simp; first | done | with_reducible rfl⟩) hHeld ?_
  change RestIn _ _ _ _ _ _ _ 1 #[true, true, true, true, true, true, true, true, true, true, true, true, true, true, true, false] _ _
  try simp only [Act.put, List.setIfInBounds_toArray, List.set_cons_zero, List.set_cons_succ, List.getElem_toArray, List.getElem_cons_zero, List.getElem_cons_succ]
  refine rest_take (i := 15) (v := _) all_wide (noDefers_of (by kernel_rfl)) rfl (by kernel_rfl) (by kernel_rfl) (by kernel_rfl) (fun _ _ _ h => h) (Or.inl ⟨by rfl, by intro w hSw; clear hSw; go_simp; first | done | with_reducible rfl⟩) hHeld ?_
  change RestIn _ _ _ _ _ _ _ 0 #[true, true, true, true, true, true, true, true, true, true, true, true, true, true, true, true] _ _
  try simp only [Act.put, List.setIfInBounds_toArray, List.set_cons_zero, List.set_cons_succ, List.getElem_toArray, List.getElem_cons_zero, List.getElem_cons_succ]
  refine rest_done (by kernel_rfl) ?_
  clear hLast
  have kF1 := hHeld.1
  have kD1 := hHeld.2.1
  have hR1 := hR0.to hNow
  have hS1 := hS0.to hNow
  have HB1 := Lib.hid (HB0.out.trans (hNow.mono HB0.out.size))
  clear hHeld kF kD hR0 hS0 HB0
  go_upto_region 9 with fail
  refine name_world (motive := fun W => Code.wp _ _ _ _ W) _ ?_
  intro W0 hW
  have hWc := hW.cell
  have hWz := hW.size
  have hWb := hW.below (hNow)
  have kF := hW.blk kF1
  have kD := hW.blk kD1
  have hR0 := hR1.to (hW.below (Below.refl _ _))
  have hS0 := hS1.to (hW.below (Below.refl _ _))
  have HB0 := Lib.hid (HB1.out.trans ((hW.below (Below.refl _ _)).mono HB1.out.size))
  clear kF1 kD1 hR1 hS1 HB1 hW hWc hWz hWb hNow
  go_wp2
  obtain ⟨Wo, hWo⟩ : ∃ x, x = W0 := ⟨_, rfl⟩
  subst hWo
  go_loopw [14] (fun i wr => ∃ k : Nat, k ≤ la.length ∧ i = .int .i64 k ∧ Below Wo.heap.size Wo wr) (fun i _ => la.length - (intOf i).toNat)
  case atStart => exact ⟨0, Nat.zero_le _, rfl, Below.refl _ _⟩
  case round =>
    obtain ⟨k, hk, rfl, hB⟩ := hrel
    by_cases hlt : k < la.length
    case neg =>
      obtain rfl : k = la.length := by omega
      go_wp2_with (go_at_call 15; refine (wakes_any _).mono ?_; rintro e wk ⟨rfl, hbk⟩)
      go_ret
      exact ⟨rfl, HB0.out.trans ((sh_next hB hbk).mono HB0.out.size)⟩
    case pos =>
      have hkI : (k : Int) < (la.length : Int) := by omega
      obtain ⟨xx, hxx⟩ := getElem?_lt hlt
      obtain ⟨t, rfl, tl, tm, hit, hld⟩ := hmem.out xx (List.mem_of_getElem? hxx)
      have ht3 : t ≤ 300 := by omega
      obtain ⟨e1, e2, e3⟩ := HEL.out t ht3 hit hld
      obtain ⟨⟨q1, q2, q3⟩, q4, q5, q6⟩ := Bx.inside_iff.1 (HHI.out (rn + t))
      have hhd := HHD.out (rn + t)
      obtain ⟨h, hh⟩ : ∃ h, f.hands (rn + t) = h := ⟨_, rfl⟩
      rw [hh] at e1 e2 q1 q2 q3 q4 q5 q6 hhd
      obtain ⟨idx, hidx⟩ : ∃ y, (rn + t) % f.cycle.length = y := ⟨_, rfl⟩
      have hil : idx < f.cycle.length := by rw [← hidx]; exact Nat.mod_lt _ (by omega)
      rw [hidx] at hhd
      have HPy : Hid (∀ W : World, Calls Try.prog 34 #[.agg #[.int .i64 h.x.lo, .int .i64 h.x.hi], .int .u16 a4] W fun e w' => e = .returned (.int .i64 (pickI h.x a4)) ∧ Below W.heap.size W w') := fun W => pick_any h.x a4 W (by omega) (by omega) (by omega) (by omega)
      obtain ⟨yi1, yi2⟩ := pickI_in (w := a4) (show h.x.lo ≤ h.x.hi by omega)
      obtain ⟨y, hy⟩ : ∃ y, pickI h.x a4 = y := ⟨_, rfl⟩
      rw [hy] at HPy yi1 yi2
      have e1 := e1 y yi1 yi2
      clear hy
      have HPs : Hid (∀ W : World, Calls Try.prog 34 #[.agg #[.int .i64 h.z.lo, .int .i64 h.z.hi], .int .u16 a5] W fun e w' => e = .returned (.int .i64 (pickI h.z a5)) ∧ Below W.heap.size W w') := fun W => pick_any h.z a5 W (by omega) (by omega) (by omega) (by omega)
      obtain ⟨si1, si2⟩ := pickI_in (w := a5) (show h.z.lo ≤ h.z.hi by omega)
      obtain ⟨s, hs⟩ : ∃ y, pickI h.z a5 = y := ⟨_, rfl⟩
      rw [hs] at HPs si1 si2
      have e2 := e2 s si1 si2
      clear hs
      have by4 : -10000000 ≤ y ∧ y ≤ 10000000 := by omega
      have by5 : -10000000 ≤ s ∧ s ≤ 10000000 := by omega
      obtain ⟨t1, t2⟩ := tickb (t := (t : Int)) ⟨by omega, by omega⟩ bu
      obtain ⟨t3, t4⟩ := tickb (t := (t : Int)) ⟨by omega, by omega⟩ bv
      obtain ⟨g1, g2⟩ := sqb (t := (t : Int)) ⟨by omega, by omega⟩
      have HS1 : Hid (∀ W : World, Calls Try.prog 36 #[.int .i64 (x + t * u - y)] W fun e w' => e = .returned (.int .i64 (sizeI (x + t * u - y))) ∧ Below W.heap.size W w') := fun W => lawSizeB_any _ W (by omega)
      have HS2 : Hid (∀ W : World, Calls Try.prog 36 #[.int .i64 (z + t * v - 49 * t * t - s)] W fun e w' => e = .returned (.int .i64 (sizeI (z + t * v - 49 * t * t - s))) ∧ Below W.heap.size W w') := fun W => lawSizeB_any _ W (by omega)
      have HS3 : Hid (∀ W : World, Calls Try.prog 36 #[.int .i64 u] W fun e w' => e = .returned (.int .i64 (sizeI u)) ∧ W = w') := fun W => lawSize_any _ W (by omega)
      have HS4 : Hid (∀ W : World, Calls Try.prog 36 #[.int .i64 (v - 98 * t)] W fun e w' => e = .returned (.int .i64 (sizeI (v - 98 * t))) ∧ W = w') := fun W => lawSize_any _ W (by omega)
      have bS3 : 0 ≤ sizeI u ∧ sizeI u ≤ 40000 := by unfold sizeI; omega
      have bS4 : 0 ≤ sizeI (v - 98 * t) ∧ sizeI (v - 98 * t) ≤ 40000 := by unfold sizeI; omega
      obtain ⟨zS1, hzS1⟩ : ∃ q, sizeI (x + t * u - y) = q := ⟨_, rfl⟩
      obtain ⟨zS2, hzS2⟩ : ∃ q, sizeI (z + t * v - 49 * t * t - s) = q := ⟨_, rfl⟩
      obtain ⟨zS3, hzS3⟩ : ∃ q, sizeI (u) = q := ⟨_, rfl⟩
      obtain ⟨zS4, hzS4⟩ : ∃ q, sizeI (v - 98 * t) = q := ⟨_, rfl⟩
      rw [hzS1] at e1 HS1
      rw [hzS2] at e2 HS2
      rw [hzS3] at e3 HS3 bS3
      rw [hzS4] at e3 HS4 bS4
      clear hzS1 hzS2 hzS3 hzS4
      have hmax : ∀ (ts : Array TypeId) (ty : TypeId) (W : World), (Builtin.max_ ts ty #[.int .i64 zS3, .int .i64 zS4]).run Try.prog W = .ok (.int .i64 (max zS3 zS4)) W := by
        intro ts ty W
        simp [Builtin.max_, Builtin.max2]
        omega
      obtain ⟨F, hF⟩ : ∃ F, max zS3 zS4 = F := ⟨_, rfl⟩
      have bF : 0 ≤ F ∧ F ≤ 40000 := by omega
      rw [hF] at e3 hmax
      have m4 := mulB (a := f.fly.mass) (b := F) (A := 200) (B := 40000) hma bF
      clear hF
      have hrt : (rn : Int) + (t : Int) - (rn : Int) = (t : Int) := by omega
      have hme : ((rn : Int) + (t : Int)) % (f.cycle.length : Int) = (idx : Int) := by rw [← hidx]; norm_cast
      have hrem : ((rn : Int) + (t : Int)).tmod (f.cycle.length : Int) = (idx : Int) := by
        rw [Int.tmod_eq_emod_of_nonneg (by omega), hme]
      have hz0 : ((f.cycle.length : Int) == 0) = false := by rw [beq_eq_false_iff_ne]; omega
      have hz1 : ¬ (f.cycle.length : Int) = 0 := by omega
      have hcy : ¬ f.cycle = [] := by intro h; rw [h] at hlen1; simp at hlen1
      have hi0 : (0 : Int) ≤ (idx : Int) := by omega
      have hi1 : (idx : Int) < (f.cycle.length : Int) := by omega
      clear hidx hh hme hit hld q1 q2 q3 q4 q5 q6 yi1 yi2 si1 si2
      obtain ⟨qb, off, rfl, hqb, hcc⟩ := (hR0.to hB).at_ hhd
      obtain ⟨ql, ol, rfl, hql, hcl⟩ := (hS0.to hB).at_ (ints_get hxx)
      have x0 := hcl 0 _ rfl
      simp only [Nat.add_zero, Nat.mul_one, Int.natCast_add] at x0
      have c0 := hcc 0 _ rfl
      have c1 := hcc 1 _ rfl
      have c2 := hcc 2 _ rfl
      have c3 := hcc 3 _ rfl
      simp only [Nat.add_zero] at c0
      have kFr := kF.below hB kF.lt
      have kDr := kD.below hB kD.lt
      have v0 := kFr.cell 0; have v1 := kFr.cell 1; have v2 := kFr.cell 2; have v3 := kFr.cell 3; have v4 := kFr.cell 4; have v5 := kFr.cell 5; have v6 := kFr.cell 6; have v7 := kFr.cell 7; have v8 := kFr.cell 8; have v9 := kFr.cell 9; have v10 := kFr.cell 10; have v11 := kFr.cell 11; have v12 := kFr.cell 12; have v13 := kFr.cell 13; have v14 := kFr.cell 14; simp at v0 v1 v2 v3 v4 v5 v6 v7 v8 v9 v10 v11 v12 v13 v14
      have fl := kFr.lt
      have dl := kDr.lt
      clear hcc hcl hhd hxx hR0 hS0
      go_upto_region 15 with fail
      go_region
      all_goals go_upto_region 16 with fail
      have hX2 := (hB.alloc hB.size (.cells #[.int .i64 h.x.lo, .int .i64 h.x.hi, .int .i64 h.z.lo, .int .i64 h.z.hi] 25)).drew
      have kH0 := (Blk.new wr 25 #[.int .i64 h.x.lo, .int .i64 h.x.hi, .int .i64 h.z.lo, .int .i64 h.z.hi]).drew
      have kF1 := (kFr.alloc (.cells #[.int .i64 h.x.lo, .int .i64 h.x.hi, .int .i64 h.z.lo, .int .i64 h.z.hi] 25)).drew
      have kD1 := (kDr.alloc (.cells #[.int .i64 h.x.lo, .int .i64 h.x.hi, .int .i64 h.z.lo, .int .i64 h.z.hi] 25)).drew
      clear c0 c1 c2 c3 x0 v0 v1 v2 v3 v4 v5 v6 v7 v8 v9 v10 v11 v12 v13 v14
      refine name_world (motive := fun W => Code.wp _ _ _ _ W) _ ?_
      intro W0 hW
      have hWc := hW.cell
      have hWz := hW.size
      have hWb := hW.below (hX2)
      have kF2 := hW.blk kF1
      have kD2 := hW.blk kD1
      have kH := hW.blk kH0
      clear kF1 kD1 kH0 kFr kDr hX2 hW hWc hWz
      have ww0 : IntKind.i64.wrap ((t : Int) * u) = (t : Int) * u := IntWalk.i64_in _ (by omega)
      have ww1 : IntKind.i64.wrap (x + t * u) = x + t * u := IntWalk.i64_in _ (by omega)
      have ww2 : IntKind.i64.wrap (x + t * u - y) = x + t * u - y := IntWalk.i64_in _ (by omega)
      have ww3 : IntKind.i64.wrap ((t : Int) * v) = (t : Int) * v := IntWalk.i64_in _ (by omega)
      have ww4 : IntKind.i64.wrap (z + t * v) = z + t * v := IntWalk.i64_in _ (by omega)
      have ww5 : IntKind.i64.wrap (49 * (t : Int)) = 49 * (t : Int) := IntWalk.i64_in _ (by omega)
      have ww6 : IntKind.i64.wrap (49 * (t : Int) * t) = 49 * (t : Int) * t := IntWalk.i64_in _ (by omega)
      have ww7 : IntKind.i64.wrap (z + t * v - 49 * t * t) = z + t * v - 49 * t * t := IntWalk.i64_in _ (by omega)
      have ww8 : IntKind.i64.wrap (z + t * v - 49 * t * t - s) = z + t * v - 49 * t * t - s := IntWalk.i64_in _ (by omega)
      have hd1 : decide (f.reach < zS1) = false := decide_eq_false (by omega)
      have hd2 : decide (f.reach < zS2) = false := decide_eq_false (by omega)
      have hn1 : ¬ f.reach < zS1 := by omega
      have hn2 : ¬ f.reach < zS2 := by omega
      refine (wpIn_wide (n := 9)).1 ?_
      have hLast := trivial
      refine region_rest (S := (fun w' => Blk w' (w.heap.size) 32 #[.int .i64 f.fly.pos.x.lo, .int .i64 f.fly.pos.x.hi, .int .i64 f.fly.pos.z.lo, .int .i64 f.fly.pos.z.hi, .int .i64 f.fly.speed.x.lo, .int .i64 f.fly.speed.x.hi, .int .i64 f.fly.speed.z.lo, .int .i64 f.fly.speed.z.hi, .int .i64 f.fly.mass, .slice (some ⟨qb, off, none⟩) f.cycle.length c, .int .i64 f.reach, .int .i64 f.soft, .int .i64 f.bears, .int .i64 f.least, .int .i64 f.most] ∧ Blk w' (w.heap.size + 1) 77 #[.int .u16 a0, .int .u16 a1, .int .u16 a2, .int .u16 a3, .int .u16 a4, .int .u16 a5] ∧ Blk w' (wr.heap.size) 25 #[.int .i64 h.x.lo, .int .i64 h.x.hi, .int .i64 h.z.lo, .int .i64 h.z.hi] ∧ Below W0.heap.size W0 w')) hmx ?_ (fun hHeld => ?_)
      · exact ⟨kF2.drew, kD2.drew, kH.drew, (Below.refl W0.heap.size W0).drew⟩
      change RestIn _ _ _ _ _ _ _ 39 #[false, false, false, false, false, false, false, false, false, false, false, false, false, false, false, false, false, false, false, false, false, false, false, false, false, false, false, false, false, false, false, false, false, false, false, false, false, false, false] _ (World.drew _)
      refine rest_take (i := 0) (v := _) all_wide (noDefers_of (by kernel_rfl)) rfl (by kernel_rfl) (by kernel_rfl) (by kernel_rfl) (fun _ _ _ h => h) (Or.inl ⟨by rfl, by intro w hSw; clear hSw; go_simp; first | done | with_reducible rfl⟩) hHeld ?_
      change RestIn _ _ _ _ _ _ _ 38 #[true, false, false, false, false, false, false, false, false, false, false, false, false, false, false, false, false, false, false, false, false, false, false, false, false, false, false, false, false, false, false, false, false, false, false, false, false, false, false] _ _
      try simp only [Act.put, List.setIfInBounds_toArray, List.set_cons_zero, List.set_cons_succ, List.getElem_toArray, List.getElem_cons_zero, List.getElem_cons_succ]
      refine rest_take (i := 1) (v := _) all_wide (noDefers_of (by kernel_rfl)) rfl (by kernel_rfl) (by kernel_rfl) (by kernel_rfl) (fun _ _ _ h => h) (Or.inl ⟨by rfl, by intro w hSw; clear hSw; go_simp; first | done | with_reducible rfl⟩) hHeld ?_
      change RestIn _ _ _ _ _ _ _ 37 #[true, true, false, false, false, false, false, false, false, false, false, false, false, false, false, false, false, false, false, false, false, false, false, false, false, false, false, false, false, false, false, false, false, false, false, false, false, false, false] _ _
      try simp only [Act.put, List.setIfInBounds_toArray, List.set_cons_zero, List.set_cons_succ, List.getElem_toArray, List.getElem_cons_zero, List.getElem_cons_succ]
      refine rest_take (i := 2) (v := _) all_wide (noDefers_of (by kernel_rfl)) rfl (by kernel_rfl) (by kernel_rfl) (by kernel_rfl) (fun _ _ _ h => h) (Or.inl ⟨by rfl, by intro w hSw; clear hSw; go_simp; first | done | with_reducible rfl⟩) hHeld ?_
      change RestIn _ _ _ _ _ _ _ 36 #[true, true, true, false, false, false, false, false, false, false, false, false, false, false, false, false, false, false, false, false, false, false, false, false, false, false, false, false, false, false, false, false, false, false, false, false, false, false, false] _ _
      try simp only [Act.put, List.setIfInBounds_toArray, List.set_cons_zero, List.set_cons_succ, List.getElem_toArray, List.getElem_cons_zero, List.getElem_cons_succ]
      refine rest_take (i := 3) (v := _) all_wide (noDefers_of (by kernel_rfl)) rfl (by kernel_rfl) (by kernel_rfl) (by kernel_rfl) (fun _ _ _ h => h) (Or.inl ⟨by rfl, by intro w hSw; clear hSw; go_simp; first | done | with_reducible rfl⟩) hHeld ?_
      change RestIn _ _ _ _ _ _ _ 35 #[true, true, true, true, false, false, false, false, false, false, false, false, false, false, false, false, false, false, false, false, false, false, false, false, false, false, false, false, false, false, false, false, false, false, false, false, false, false, false] _ _
      try simp only [Act.put, List.setIfInBounds_toArray, List.set_cons_zero, List.set_cons_succ, List.getElem_toArray, List.getElem_cons_zero, List.getElem_cons_succ]
      refine rest_take (i := 4) (v := _) all_wide (noDefers_of (by kernel_rfl)) rfl (by kernel_rfl) (by kernel_rfl) (by kernel_rfl) (fun _ _ _ h => h) (Or.inl ⟨by rfl, by intro w hSw; clear hSw; go_simp; first | done | with_reducible rfl⟩) hHeld ?_
      change RestIn _ _ _ _ _ _ _ 34 #[true, true, true, true, true, false, false, false, false, false, false, false, false, false, false, false, false, false, false, false, false, false, false, false, false, false, false, false, false, false, false, false, false, false, false, false, false, false, false] _ _
      try simp only [Act.put, List.setIfInBounds_toArray, List.set_cons_zero, List.set_cons_succ, List.getElem_toArray, List.getElem_cons_zero, List.getElem_cons_succ]
      refine rest_take (i := 5) (v := _) all_wide (noDefers_of (by kernel_rfl)) rfl (by kernel_rfl) (by kernel_rfl) (by kernel_rfl) (fun _ _ _ h => h) (Or.inl ⟨by rfl, by intro w hSw; clear hSw; go_simp; first | done | with_reducible rfl⟩) hHeld ?_
      change RestIn _ _ _ _ _ _ _ 33 #[true, true, true, true, true, true, false, false, false, false, false, false, false, false, false, false, false, false, false, false, false, false, false, false, false, false, false, false, false, false, false, false, false, false, false, false, false, false, false] _ _
      try simp only [Act.put, List.setIfInBounds_toArray, List.set_cons_zero, List.set_cons_succ, List.getElem_toArray, List.getElem_cons_zero, List.getElem_cons_succ]
      refine rest_take (i := 6) (v := _) all_wide (noDefers_of (by kernel_rfl)) rfl (by kernel_rfl) (by kernel_rfl) (by kernel_rfl) (fun _ _ _ h => h) (Or.inl ⟨by rfl, by intro w hSw; (obtain ⟨q0, q1, q2, _⟩ := hSw; have q0x0 := q0.cell 0; have q0x1 := q0.cell 1; have q0x2 := q0.cell 2; have q0x3 := q0.cell 3; have q0x4 := q0.cell 4; have q0x5 := q0.cell 5; have q0x6 := q0.cell 6; have q0x7 := q0.cell 7; have q0x8 := q0.cell 8; have q0x9 := q0.cell 9; have q0x10 := q0.cell 10; have q0x11 := q0.cell 11; have q0x12 := q0.cell 12; have q0x13 := q0.cell 13; have q0x14 := q0.cell 14; have q1x0 := q1.cell 0; have q1x1 := q1.cell 1; have q1x2 := q1.cell 2; have q1x3 := q1.cell 3; have q1x4 := q1.cell 4; have q1x5 := q1.cell 5; have q2x0 := q2.cell 0; have q2x1 := q2.cell 1; have q2x2 := q2.cell 2; have q2x3 := q2.cell 3; simp at q0x0 q0x1 q0x2 q0x3 q0x4 q0x5 q0x6 q0x7 q0x8 q0x9 q0x10 q0x11 q0x12 q0x13 q0x14 q1x0 q1x1 q1x2 q1x3 q1x4 q1x5 q2x0 q2x1 q2x2 q2x3); go_simp; first | done | with_reducible rfl⟩) hHeld ?_
      change RestIn _ _ _ _ _ _ _ 32 #[true, true, true, true, true, true, true, false, false, false, false, false, false, false, false, false, false, false, false, false, false, false, false, false, false, false, false, false, false, false, false, false, false, false, false, false, false, false, false] _ _
      try simp only [Act.put, List.setIfInBounds_toArray, List.set_cons_zero, List.set_cons_succ, List.getElem_toArray, List.getElem_cons_zero, List.getElem_cons_succ]
      refine rest_take (i := 7) (v := _) all_wide (noDefers_of (by kernel_rfl)) rfl (by kernel_rfl) (by kernel_rfl) (by kernel_rfl) (fun _ _ _ h => h) (Or.inl ⟨by rfl, by intro w hSw; clear hSw; go_simp; first | done | with_reducible rfl⟩) hHeld ?_
      change RestIn _ _ _ _ _ _ _ 31 #[true, true, true, true, true, true, true, true, false, false, false, false, false, false, false, false, false, false, false, false, false, false, false, false, false, false, false, false, false, false, false, false, false, false, false, false, false, false, false] _ _
      try simp only [Act.put, List.setIfInBounds_toArray, List.set_cons_zero, List.set_cons_succ, List.getElem_toArray, List.getElem_cons_zero, List.getElem_cons_succ]
      refine rest_take (i := 8) (v := _) all_wide (noDefers_of (by kernel_rfl)) rfl (by kernel_rfl) (by kernel_rfl) (by kernel_rfl) (fun _ _ _ h => h) (Or.inl ⟨by rfl, by intro w hSw; (obtain ⟨q0, q1, q2, _⟩ := hSw; have q0x0 := q0.cell 0; have q0x1 := q0.cell 1; have q0x2 := q0.cell 2; have q0x3 := q0.cell 3; have q0x4 := q0.cell 4; have q0x5 := q0.cell 5; have q0x6 := q0.cell 6; have q0x7 := q0.cell 7; have q0x8 := q0.cell 8; have q0x9 := q0.cell 9; have q0x10 := q0.cell 10; have q0x11 := q0.cell 11; have q0x12 := q0.cell 12; have q0x13 := q0.cell 13; have q0x14 := q0.cell 14; have q1x0 := q1.cell 0; have q1x1 := q1.cell 1; have q1x2 := q1.cell 2; have q1x3 := q1.cell 3; have q1x4 := q1.cell 4; have q1x5 := q1.cell 5; have q2x0 := q2.cell 0; have q2x1 := q2.cell 1; have q2x2 := q2.cell 2; have q2x3 := q2.cell 3; simp at q0x0 q0x1 q0x2 q0x3 q0x4 q0x5 q0x6 q0x7 q0x8 q0x9 q0x10 q0x11 q0x12 q0x13 q0x14 q1x0 q1x1 q1x2 q1x3 q1x4 q1x5 q2x0 q2x1 q2x2 q2x3); go_simp; first | done | with_reducible rfl⟩) hHeld ?_
      change RestIn _ _ _ _ _ _ _ 30 #[true, true, true, true, true, true, true, true, true, false, false, false, false, false, false, false, false, false, false, false, false, false, false, false, false, false, false, false, false, false, false, false, false, false, false, false, false, false, false] _ _
      try simp only [Act.put, List.setIfInBounds_toArray, List.set_cons_zero, List.set_cons_succ, List.getElem_toArray, List.getElem_cons_zero, List.getElem_cons_succ]
      refine rest_take (i := 12) (v := _) all_wide (noDefers_of (by kernel_rfl)) rfl (by kernel_rfl) (by kernel_rfl) (by kernel_rfl) (fun _ _ _ h => h) (Or.inl ⟨by rfl, by intro w hSw; clear hSw; go_simp; first | done | with_reducible rfl⟩) hHeld ?_
      change RestIn _ _ _ _ _ _ _ 29 #[true, true, true, true, true, true, true, true, true, false, false, false, true, false, false, false, false, false, false, false, false, false, false, false, false, false, false, false, false, false, false, false, false, false, false, false, false, false, false] _ _
      try simp only [Act.put, List.setIfInBounds_toArray, List.set_cons_zero, List.set_cons_succ, List.getElem_toArray, List.getElem_cons_zero, List.getElem_cons_succ]
      refine rest_take (i := 13) (v := _) all_wide (noDefers_of (by kernel_rfl)) rfl (by kernel_rfl) (by kernel_rfl) (by kernel_rfl) (fun _ _ _ h => h) (Or.inl ⟨by rfl, by intro w hSw; clear hSw; go_simp; first | done | with_reducible rfl⟩) hHeld ?_
      change RestIn _ _ _ _ _ _ _ 28 #[true, true, true, true, true, true, true, true, true, false, false, false, true, true, false, false, false, false, false, false, false, false, false, false, false, false, false, false, false, false, false, false, false, false, false, false, false, false, false] _ _
      try simp only [Act.put, List.setIfInBounds_toArray, List.set_cons_zero, List.set_cons_succ, List.getElem_toArray, List.getElem_cons_zero, List.getElem_cons_succ]
      refine rest_take (i := 14) (v := _) all_wide (noDefers_of (by kernel_rfl)) rfl (by kernel_rfl) (by kernel_rfl) (by kernel_rfl) (fun _ _ _ h => h) (Or.inl ⟨by rfl, by intro w hSw; (obtain ⟨q0, q1, q2, _⟩ := hSw; have q0x0 := q0.cell 0; have q0x1 := q0.cell 1; have q0x2 := q0.cell 2; have q0x3 := q0.cell 3; have q0x4 := q0.cell 4; have q0x5 := q0.cell 5; have q0x6 := q0.cell 6; have q0x7 := q0.cell 7; have q0x8 := q0.cell 8; have q0x9 := q0.cell 9; have q0x10 := q0.cell 10; have q0x11 := q0.cell 11; have q0x12 := q0.cell 12; have q0x13 := q0.cell 13; have q0x14 := q0.cell 14; have q1x0 := q1.cell 0; have q1x1 := q1.cell 1; have q1x2 := q1.cell 2; have q1x3 := q1.cell 3; have q1x4 := q1.cell 4; have q1x5 := q1.cell 5; have q2x0 := q2.cell 0; have q2x1 := q2.cell 1; have q2x2 := q2.cell 2; have q2x3 := q2.cell 3; simp at q0x0 q0x1 q0x2 q0x3 q0x4 q0x5 q0x6 q0x7 q0x8 q0x9 q0x10 q0x11 q0x12 q0x13 q0x14 q1x0 q1x1 q1x2 q1x3 q1x4 q1x5 q2x0 q2x1 q2x2 q2x3); go_simp; first | done | with_reducible rfl⟩) hHeld ?_
      change RestIn _ _ _ _ _ _ _ 27 #[true, true, true, true, true, true, true, true, true, false, false, false, true, true, true, false, false, false, false, false, false, false, false, false, false, false, false, false, false, false, false, false, false, false, false, false, false, false, false] _ _
      try simp only [Act.put, List.setIfInBounds_toArray, List.set_cons_zero, List.set_cons_succ, List.getElem_toArray, List.getElem_cons_zero, List.getElem_cons_succ]
      refine rest_ready (rs := [9]) (by kernel_rfl) (by simp) ?_
      refine AllRest.cons rfl (fun K hK => ?_) AllRest.nil
      have hNow := (hHeld.2.2.2)
      clear hLast
      have hLast := hNow
      go_simp
      gi_wp2_with ((refine ⟨trivial, ?_⟩; gi_at_call 34; (with_reducible refine (callsIn_wide.2 (HPy.out _)).mono ?_); rintro e wn ⟨rfl, hb⟩))
      refine hK.out _ _ ?_ (fun hHeld' => ?_)
      · exact ⟨hHeld.1.below hb hHeld.1.lt, hHeld.2.1.below hb hHeld.2.1.lt, hHeld.2.2.1.below hb hHeld.2.2.1.lt, (hHeld.2.2.2).trans (hb.mono (hHeld.2.2.2).size)⟩
      clear hK K
      change RestIn _ _ _ _ _ _ _ 26 #[true, true, true, true, true, true, true, true, true, true, false, false, true, true, true, false, false, false, false, false, false, false, false, false, false, false, false, false, false, false, false, false, false, false, false, false, false, false, false] _ _
      try simp only [Act.put, List.setIfInBounds_toArray, List.set_cons_zero, List.set_cons_succ, List.getElem_toArray, List.getElem_cons_zero, List.getElem_cons_succ]
      clear hHeld
      have hHeld := hHeld'
      clear hHeld'
      have hNow := (hHeld.2.2.2)
      refine rest_take (i := 10) (v := _) all_wide (noDefers_of (by kernel_rfl)) rfl (by kernel_rfl) (by kernel_rfl) (by kernel_rfl) (fun _ _ _ h => h) (Or.inl ⟨by rfl, by intro w hSw; clear hSw; go_simp; first | done | with_reducible rfl⟩) hHeld ?_
      change RestIn _ _ _ _ _ _ _ 25 #[true, true, true, true, true, true, true, true, true, true, true, false, true, true, true, false, false, false, false, false, false, false, false, false, false, false, false, false, false, false, false, false, false, false, false, false, false, false, false] _ _
      try simp only [Act.put, List.setIfInBounds_toArray, List.set_cons_zero, List.set_cons_succ, List.getElem_toArray, List.getElem_cons_zero, List.getElem_cons_succ]
      refine rest_ready (rs := [11]) (by kernel_rfl) (by simp) ?_
      refine AllRest.cons rfl (fun K hK => ?_) AllRest.nil
      have hNow := (hHeld.2.2.2)
      clear hLast
      have hLast := hNow
      go_simp
      gi_wp2_with ((refine ⟨trivial, ?_⟩; gi_at_call 36; (with_reducible refine (callsIn_wide.2 (HS1.out _)).mono ?_); rintro e wn ⟨rfl, hb⟩))
      refine hK.out _ _ ?_ (fun hHeld' => ?_)
      · exact ⟨hHeld.1.below hb hHeld.1.lt, hHeld.2.1.below hb hHeld.2.1.lt, hHeld.2.2.1.below hb hHeld.2.2.1.lt, (hHeld.2.2.2).trans (hb.mono (hHeld.2.2.2).size)⟩
      clear hK K
      change RestIn _ _ _ _ _ _ _ 24 #[true, true, true, true, true, true, true, true, true, true, true, true, true, true, true, false, false, false, false, false, false, false, false, false, false, false, false, false, false, false, false, false, false, false, false, false, false, false, false] _ _
      try simp only [Act.put, List.setIfInBounds_toArray, List.set_cons_zero, List.set_cons_succ, List.getElem_toArray, List.getElem_cons_zero, List.getElem_cons_succ]
      clear hHeld
      have hHeld := hHeld'
      clear hHeld'
      have hNow := (hHeld.2.2.2)
      refine rest_take (i := 15) (v := _) all_wide (noDefers_of (by kernel_rfl)) rfl (by kernel_rfl) (by kernel_rfl) (by kernel_rfl) (fun _ _ _ h => h) (Or.inl ⟨by rfl, by intro w hSw; clear hSw; go_simp; first | done | with_reducible rfl⟩) hHeld ?_
      change RestIn _ _ _ _ _ _ _ 23 #[true, true, true, true, true, true, true, true, true, true, true, true, true, true, true, true, false, false, false, false, false, false, false, false, false, false, false, false, false, false, false, false, false, false, false, false, false, false, false] _ _
      try simp only [Act.put, List.setIfInBounds_toArray, List.set_cons_zero, List.set_cons_succ, List.getElem_toArray, List.getElem_cons_zero, List.getElem_cons_succ]
      refine rest_take (i := 16) (v := _) all_wide (noDefers_of (by kernel_rfl)) rfl (by kernel_rfl) (by kernel_rfl) (by kernel_rfl) (fun _ _ _ h => h) (Or.inl ⟨by rfl, by intro w hSw; clear hSw; go_simp; first | done | with_reducible rfl⟩) hHeld ?_
      change RestIn _ _ _ _ _ _ _ 22 #[true, true, true, true, true, true, true, true, true, true, true, true, true, true, true, true, true, false, false, false, false, false, false, false, false, false, false, false, false, false, false, false, false, false, false, false, false, false, false] _ _
      try simp only [Act.put, List.setIfInBounds_toArray, List.set_cons_zero, List.set_cons_succ, List.getElem_toArray, List.getElem_cons_zero, List.getElem_cons_succ]
      refine rest_take (i := 17) (v := _) all_wide (noDefers_of (by kernel_rfl)) rfl (by kernel_rfl) (by kernel_rfl) (by kernel_rfl) (fun _ _ _ h => h) (Or.inl ⟨by rfl, by intro w hSw; clear hSw; go_simp; first | done | with_reducible rfl⟩) hHeld ?_
      change RestIn _ _ _ _ _ _ _ 21 #[true, true, true, true, true, true, true, true, true, true, true, true, true, true, true, true, true, true, false, false, false, false, false, false, false, false, false, false, false, false, false, false, false, false, false, false, false, false, false] _ _
      try simp only [Act.put, List.setIfInBounds_toArray, List.set_cons_zero, List.set_cons_succ, List.getElem_toArray, List.getElem_cons_zero, List.getElem_cons_succ]
      refine rest_take (i := 18) (v := _) all_wide (noDefers_of (by kernel_rfl)) rfl (by kernel_rfl) (by kernel_rfl) (by kernel_rfl) (fun _ _ _ h => h) (Or.inl ⟨by rfl, by intro w hSw; clear hSw; go_simp; first | done | with_reducible rfl⟩) hHeld ?_
      change RestIn _ _ _ _ _ _ _ 20 #[true, true, true, true, true, true, true, true, true, true, true, true, true, true, true, true, true, true, true, false, false, false, false, false, false, false, false, false, false, false, false, false, false, false, false, false, false, false, false] _ _
      try simp only [Act.put, List.setIfInBounds_toArray, List.set_cons_zero, List.set_cons_succ, List.getElem_toArray, List.getElem_cons_zero, List.getElem_cons_succ]
      refine rest_take (i := 19) (v := _) all_wide (noDefers_of (by kernel_rfl)) rfl (by kernel_rfl) (by kernel_rfl) (by kernel_rfl) (fun _ _ _ h => h) (Or.inl ⟨by rfl, by intro w hSw; clear hSw; go_simp; first | done | with_reducible rfl⟩) hHeld ?_
      change RestIn _ _ _ _ _ _ _ 19 #[true, true, true, true, true, true, true, true, true, true, true, true, true, true, true, true, true, true, true, true, false, false, false, false, false, false, false, false, false, false, false, false, false, false, false, false, false, false, false] _ _
      try simp only [Act.put, List.setIfInBounds_toArray, List.set_cons_zero, List.set_cons_succ, List.getElem_toArray, List.getElem_cons_zero, List.getElem_cons_succ]
      refine rest_take (i := 20) (v := _) all_wide (noDefers_of (by kernel_rfl)) rfl (by kernel_rfl) (by kernel_rfl) (by kernel_rfl) (fun _ _ _ h => h) (Or.inl ⟨by rfl, by intro w hSw; clear hSw; go_simp; first | done | with_reducible rfl⟩) hHeld ?_
      change RestIn _ _ _ _ _ _ _ 18 #[true, true, true, true, true, true, true, true, true, true, true, true, true, true, true, true, true, true, true, true, true, false, false, false, false, false, false, false, false, false, false, false, false, false, false, false, false, false, false] _ _
      try simp only [Act.put, List.setIfInBounds_toArray, List.set_cons_zero, List.set_cons_succ, List.getElem_toArray, List.getElem_cons_zero, List.getElem_cons_succ]
      refine rest_take (i := 21) (v := _) all_wide (noDefers_of (by kernel_rfl)) rfl (by kernel_rfl) (by kernel_rfl) (by kernel_rfl) (fun _ _ _ h => h) (Or.inl ⟨by rfl, by intro w hSw; clear hSw; go_simp; first | done | with_reducible rfl⟩) hHeld ?_
      change RestIn _ _ _ _ _ _ _ 17 #[true, true, true, true, true, true, true, true, true, true, true, true, true, true, true, true, true, true, true, true, true, true, false, false, false, false, false, false, false, false, false, false, false, false, false, false, false, false, false] _ _
      try simp only [Act.put, List.setIfInBounds_toArray, List.set_cons_zero, List.set_cons_succ, List.getElem_toArray, List.getElem_cons_zero, List.getElem_cons_succ]
      refine rest_take (i := 22) (v := _) all_wide (noDefers_of (by kernel_rfl)) rfl (by kernel_rfl) (by kernel_rfl) (by kernel_rfl) (fun _ _ _ h => h) (Or.inl ⟨by rfl, by intro w hSw; clear hSw; go_simp; first | done | with_reducible rfl⟩) hHeld ?_
      change RestIn _ _ _ _ _ _ _ 16 #[true, true, true, true, true, true, true, true, true, true, true, true, true, true, true, true, true, true, true, true, true, true, true, false, false, false, false, false, false, false, false, false, false, false, false, false, false, false, false] _ _
      try simp only [Act.put, List.setIfInBounds_toArray, List.set_cons_zero, List.set_cons_succ, List.getElem_toArray, List.getElem_cons_zero, List.getElem_cons_succ]
      refine rest_take (i := 23) (v := _) all_wide (noDefers_of (by kernel_rfl)) rfl (by kernel_rfl) (by kernel_rfl) (by kernel_rfl) (fun _ _ _ h => h) (Or.inl ⟨by rfl, by intro w hSw; clear hSw; go_simp; first | done | with_reducible rfl⟩) hHeld ?_
      change RestIn _ _ _ _ _ _ _ 15 #[true, true, true, true, true, true, true, true, true, true, true, true, true, true, true, true, true, true, true, true, true, true, true, true, false, false, false, false, false, false, false, false, false, false, false, false, false, false, false] _ _
      try simp only [Act.put, List.setIfInBounds_toArray, List.set_cons_zero, List.set_cons_succ, List.getElem_toArray, List.getElem_cons_zero, List.getElem_cons_succ]
      refine rest_take (i := 24) (v := _) all_wide (noDefers_of (by kernel_rfl)) rfl (by kernel_rfl) (by kernel_rfl) (by kernel_rfl) (fun _ _ _ h => h) (Or.inl ⟨by rfl, by intro w hSw; clear hSw; go_simp; first | done | with_reducible rfl⟩) hHeld ?_
      change RestIn _ _ _ _ _ _ _ 14 #[true, true, true, true, true, true, true, true, true, true, true, true, true, true, true, true, true, true, true, true, true, true, true, true, true, false, false, false, false, false, false, false, false, false, false, false, false, false, false] _ _
      try simp only [Act.put, List.setIfInBounds_toArray, List.set_cons_zero, List.set_cons_succ, List.getElem_toArray, List.getElem_cons_zero, List.getElem_cons_succ]
      refine rest_take (i := 25) (v := _) all_wide (noDefers_of (by kernel_rfl)) rfl (by kernel_rfl) (by kernel_rfl) (by kernel_rfl) (fun _ _ _ h => h) (Or.inl ⟨by rfl, by intro w hSw; clear hSw; go_simp; first | done | with_reducible rfl⟩) hHeld ?_
      change RestIn _ _ _ _ _ _ _ 13 #[true, true, true, true, true, true, true, true, true, true, true, true, true, true, true, true, true, true, true, true, true, true, true, true, true, true, false, false, false, false, false, false, false, false, false, false, false, false, false] _ _
      try simp only [Act.put, List.setIfInBounds_toArray, List.set_cons_zero, List.set_cons_succ, List.getElem_toArray, List.getElem_cons_zero, List.getElem_cons_succ]
      refine rest_take (i := 26) (v := _) all_wide (noDefers_of (by kernel_rfl)) rfl (by kernel_rfl) (by kernel_rfl) (by kernel_rfl) (fun _ _ _ h => h) (Or.inl ⟨by rfl, by intro w hSw; clear hSw; go_simp; first | done | with_reducible rfl⟩) hHeld ?_
      change RestIn _ _ _ _ _ _ _ 12 #[true, true, true, true, true, true, true, true, true, true, true, true, true, true, true, true, true, true, true, true, true, true, true, true, true, true, true, false, false, false, false, false, false, false, false, false, false, false, false] _ _
      try simp only [Act.put, List.setIfInBounds_toArray, List.set_cons_zero, List.set_cons_succ, List.getElem_toArray, List.getElem_cons_zero, List.getElem_cons_succ]
      refine rest_take (i := 27) (v := _) all_wide (noDefers_of (by kernel_rfl)) rfl (by kernel_rfl) (by kernel_rfl) (by kernel_rfl) (fun _ _ _ h => h) (Or.inl ⟨by rfl, by intro w hSw; clear hSw; go_simp; first | done | with_reducible rfl⟩) hHeld ?_
      change RestIn _ _ _ _ _ _ _ 11 #[true, true, true, true, true, true, true, true, true, true, true, true, true, true, true, true, true, true, true, true, true, true, true, true, true, true, true, true, false, false, false, false, false, false, false, false, false, false, false] _ _
      try simp only [Act.put, List.setIfInBounds_toArray, List.set_cons_zero, List.set_cons_succ, List.getElem_toArray, List.getElem_cons_zero, List.getElem_cons_succ]
      refine rest_take (i := 28) (v := _) all_wide (noDefers_of (by kernel_rfl)) rfl (by kernel_rfl) (by kernel_rfl) (by kernel_rfl) (fun _ _ _ h => h) (Or.inl ⟨by rfl, by intro w hSw; (obtain ⟨q0, q1, q2, _⟩ := hSw; have q0x0 := q0.cell 0; have q0x1 := q0.cell 1; have q0x2 := q0.cell 2; have q0x3 := q0.cell 3; have q0x4 := q0.cell 4; have q0x5 := q0.cell 5; have q0x6 := q0.cell 6; have q0x7 := q0.cell 7; have q0x8 := q0.cell 8; have q0x9 := q0.cell 9; have q0x10 := q0.cell 10; have q0x11 := q0.cell 11; have q0x12 := q0.cell 12; have q0x13 := q0.cell 13; have q0x14 := q0.cell 14; have q1x0 := q1.cell 0; have q1x1 := q1.cell 1; have q1x2 := q1.cell 2; have q1x3 := q1.cell 3; have q1x4 := q1.cell 4; have q1x5 := q1.cell 5; have q2x0 := q2.cell 0; have q2x1 := q2.cell 1; have q2x2 := q2.cell 2; have q2x3 := q2.cell 3; simp at q0x0 q0x1 q0x2 q0x3 q0x4 q0x5 q0x6 q0x7 q0x8 q0x9 q0x10 q0x11 q0x12 q0x13 q0x14 q1x0 q1x1 q1x2 q1x3 q1x4 q1x5 q2x0 q2x1 q2x2 q2x3); go_simp; first | done | with_reducible rfl⟩) hHeld ?_
      change RestIn _ _ _ _ _ _ _ 10 #[true, true, true, true, true, true, true, true, true, true, true, true, true, true, true, true, true, true, true, true, true, true, true, true, true, true, true, true, true, false, false, false, false, false, false, false, false, false, false] _ _
      try simp only [Act.put, List.setIfInBounds_toArray, List.set_cons_zero, List.set_cons_succ, List.getElem_toArray, List.getElem_cons_zero, List.getElem_cons_succ]
      refine rest_take (i := 29) (v := _) all_wide (noDefers_of (by kernel_rfl)) rfl (by kernel_rfl) (by kernel_rfl) (by kernel_rfl) (fun _ _ _ h => h) (Or.inl ⟨by rfl, by intro w hSw; clear hSw; go_simp; first | done | with_reducible rfl⟩) hHeld ?_
      change RestIn _ _ _ _ _ _ _ 9 #[true, true, true, true, true, true, true, true, true, true, true, true, true, true, true, true, true, true, true, true, true, true, true, true, true, true, true, true, true, true, false, false, false, false, false, false, false, false, false] _ _
      try simp only [Act.put, List.setIfInBounds_toArray, List.set_cons_zero, List.set_cons_succ, List.getElem_toArray, List.getElem_cons_zero, List.getElem_cons_succ]
      refine rest_take (i := 30) (v := _) all_wide (noDefers_of (by kernel_rfl)) rfl (by kernel_rfl) (by kernel_rfl) (by kernel_rfl) (fun _ _ _ h => h) (Or.inl ⟨by rfl, by intro w hSw; (obtain ⟨q0, q1, q2, _⟩ := hSw; have q0x0 := q0.cell 0; have q0x1 := q0.cell 1; have q0x2 := q0.cell 2; have q0x3 := q0.cell 3; have q0x4 := q0.cell 4; have q0x5 := q0.cell 5; have q0x6 := q0.cell 6; have q0x7 := q0.cell 7; have q0x8 := q0.cell 8; have q0x9 := q0.cell 9; have q0x10 := q0.cell 10; have q0x11 := q0.cell 11; have q0x12 := q0.cell 12; have q0x13 := q0.cell 13; have q0x14 := q0.cell 14; have q1x0 := q1.cell 0; have q1x1 := q1.cell 1; have q1x2 := q1.cell 2; have q1x3 := q1.cell 3; have q1x4 := q1.cell 4; have q1x5 := q1.cell 5; have q2x0 := q2.cell 0; have q2x1 := q2.cell 1; have q2x2 := q2.cell 2; have q2x3 := q2.cell 3; simp at q0x0 q0x1 q0x2 q0x3 q0x4 q0x5 q0x6 q0x7 q0x8 q0x9 q0x10 q0x11 q0x12 q0x13 q0x14 q1x0 q1x1 q1x2 q1x3 q1x4 q1x5 q2x0 q2x1 q2x2 q2x3); go_simp; first | done | with_reducible rfl⟩) hHeld ?_
      change RestIn _ _ _ _ _ _ _ 8 #[true, true, true, true, true, true, true, true, true, true, true, true, true, true, true, true, true, true, true, true, true, true, true, true, true, true, true, true, true, true, true, false, false, false, false, false, false, false, false] _ _
      try simp only [Act.put, List.setIfInBounds_toArray, List.set_cons_zero, List.set_cons_succ, List.getElem_toArray, List.getElem_cons_zero, List.getElem_cons_succ]
      refine rest_take (i := 34) (v := _) all_wide (noDefers_of (by kernel_rfl)) rfl (by kernel_rfl) (by kernel_rfl) (by kernel_rfl) (fun _ _ _ h => h) (Or.inl ⟨by rfl, by intro w hSw; clear hSw; go_simp; first | done | with_reducible rfl⟩) hHeld ?_
      change RestIn _ _ _ _ _ _ _ 7 #[true, true, true, true, true, true, true, true, true, true, true, true, true, true, true, true, true, true, true, true, true, true, true, true, true, true, true, true, true, true, true, false, false, false, true, false, false, false, false] _ _
      try simp only [Act.put, List.setIfInBounds_toArray, List.set_cons_zero, List.set_cons_succ, List.getElem_toArray, List.getElem_cons_zero, List.getElem_cons_succ]
      refine rest_take (i := 35) (v := _) all_wide (noDefers_of (by kernel_rfl)) rfl (by kernel_rfl) (by kernel_rfl) (by kernel_rfl) (fun _ _ _ h => h) (Or.inl ⟨by rfl, by intro w hSw; clear hSw; go_simp; first | done | with_reducible rfl⟩) hHeld ?_
      change RestIn _ _ _ _ _ _ _ 6 #[true, true, true, true, true, true, true, true, true, true, true, true, true, true, true, true, true, true, true, true, true, true, true, true, true, true, true, true, true, true, true, false, false, false, true, true, false, false, false] _ _
      try simp only [Act.put, List.setIfInBounds_toArray, List.set_cons_zero, List.set_cons_succ, List.getElem_toArray, List.getElem_cons_zero, List.getElem_cons_succ]
      refine rest_take (i := 36) (v := _) all_wide (noDefers_of (by kernel_rfl)) rfl (by kernel_rfl) (by kernel_rfl) (by kernel_rfl) (fun _ _ _ h => h) (Or.inl ⟨by rfl, by intro w hSw; (obtain ⟨q0, q1, q2, _⟩ := hSw; have q0x0 := q0.cell 0; have q0x1 := q0.cell 1; have q0x2 := q0.cell 2; have q0x3 := q0.cell 3; have q0x4 := q0.cell 4; have q0x5 := q0.cell 5; have q0x6 := q0.cell 6; have q0x7 := q0.cell 7; have q0x8 := q0.cell 8; have q0x9 := q0.cell 9; have q0x10 := q0.cell 10; have q0x11 := q0.cell 11; have q0x12 := q0.cell 12; have q0x13 := q0.cell 13; have q0x14 := q0.cell 14; have q1x0 := q1.cell 0; have q1x1 := q1.cell 1; have q1x2 := q1.cell 2; have q1x3 := q1.cell 3; have q1x4 := q1.cell 4; have q1x5 := q1.cell 5; have q2x0 := q2.cell 0; have q2x1 := q2.cell 1; have q2x2 := q2.cell 2; have q2x3 := q2.cell 3; simp at q0x0 q0x1 q0x2 q0x3 q0x4 q0x5 q0x6 q0x7 q0x8 q0x9 q0x10 q0x11 q0x12 q0x13 q0x14 q1x0 q1x1 q1x2 q1x3 q1x4 q1x5 q2x0 q2x1 q2x2 q2x3); go_simp; first | done | with_reducible rfl⟩) hHeld ?_
      change RestIn _ _ _ _ _ _ _ 5 #[true, true, true, true, true, true, true, true, true, true, true, true, true, true, true, true, true, true, true, true, true, true, true, true, true, true, true, true, true, true, true, false, false, false, true, true, true, false, false] _ _
      try simp only [Act.put, List.setIfInBounds_toArray, List.set_cons_zero, List.set_cons_succ, List.getElem_toArray, List.getElem_cons_zero, List.getElem_cons_succ]
      refine rest_ready (rs := [31]) (by kernel_rfl) (by simp) ?_
      refine AllRest.cons rfl (fun K hK => ?_) AllRest.nil
      have hNow := (hHeld.2.2.2)
      clear hLast
      have hLast := hNow
      go_simp
      gi_wp2_with ((refine ⟨trivial, ?_⟩; gi_at_call 34; (with_reducible refine (callsIn_wide.2 (HPs.out _)).mono ?_); rintro e wn ⟨rfl, hb⟩))
      refine hK.out _ _ ?_ (fun hHeld' => ?_)
      · exact ⟨hHeld.1.below hb hHeld.1.lt, hHeld.2.1.below hb hHeld.2.1.lt, hHeld.2.2.1.below hb hHeld.2.2.1.lt, (hHeld.2.2.2).trans (hb.mono (hHeld.2.2.2).size)⟩
      clear hK K
      change RestIn _ _ _ _ _ _ _ 4 #[true, true, true, true, true, true, true, true, true, true, true, true, true, true, true, true, true, true, true, true, true, true, true, true, true, true, true, true, true, true, true, true, false, false, true, true, true, false, false] _ _
      try simp only [Act.put, List.setIfInBounds_toArray, List.set_cons_zero, List.set_cons_succ, List.getElem_toArray, List.getElem_cons_zero, List.getElem_cons_succ]
      clear hHeld
      have hHeld := hHeld'
      clear hHeld'
      have hNow := (hHeld.2.2.2)
      refine rest_take (i := 32) (v := _) all_wide (noDefers_of (by kernel_rfl)) rfl (by kernel_rfl) (by kernel_rfl) (by kernel_rfl) (fun _ _ _ h => h) (Or.inl ⟨by rfl, by intro w hSw; clear hSw; go_simp; first | done | with_reducible rfl⟩) hHeld ?_
      change RestIn _ _ _ _ _ _ _ 3 #[true, true, true, true, true, true, true, true, true, true, true, true, true, true, true, true, true, true, true, true, true, true, true, true, true, true, true, true, true, true, true, true, true, false, true, true, true, false, false] _ _
      try simp only [Act.put, List.setIfInBounds_toArray, List.set_cons_zero, List.set_cons_succ, List.getElem_toArray, List.getElem_cons_zero, List.getElem_cons_succ]
      refine rest_ready (rs := [33]) (by kernel_rfl) (by simp) ?_
      refine AllRest.cons rfl (fun K hK => ?_) AllRest.nil
      have hNow := (hHeld.2.2.2)
      clear hLast
      have hLast := hNow
      go_simp
      gi_wp2_with ((refine ⟨trivial, ?_⟩; gi_at_call 36; (with_reducible refine (callsIn_wide.2 (HS2.out _)).mono ?_); rintro e wn ⟨rfl, hb⟩))
      refine hK.out _ _ ?_ (fun hHeld' => ?_)
      · exact ⟨hHeld.1.below hb hHeld.1.lt, hHeld.2.1.below hb hHeld.2.1.lt, hHeld.2.2.1.below hb hHeld.2.2.1.lt, (hHeld.2.2.2).trans (hb.mono (hHeld.2.2.2).size)⟩
      clear hK K
      change RestIn _ _ _ _ _ _ _ 2 #[true, true, true, true, true, true, true, true, true, true, true, true, true, true, true, true, true, true, true, true, true, true, true, true, true, true, true, true, true, true, true, true, true, true, true, true, true, false, false] _ _
      try simp only [Act.put, List.setIfInBounds_toArray, List.set_cons_zero, List.set_cons_succ, List.getElem_toArray, List.getElem_cons_zero, List.getElem_cons_succ]
      clear hHeld
      have hHeld := hHeld'
      clear hHeld'
      have hNow := (hHeld.2.2.2)
      refine rest_take (i := 37) (v := _) all_wide (noDefers_of (by kernel_rfl)) rfl (by kernel_rfl) (by kernel_rfl) (by kernel_rfl) (fun _ _ _ h => h) (Or.inl ⟨by rfl, by intro w hSw; clear hSw; go_simp; first | done | with_reducible rfl⟩) hHeld ?_
      change RestIn _ _ _ _ _ _ _ 1 #[true, true, true, true, true, true, true, true, true, true, true, true, true, true, true, true, true, true, true, true, true, true, true, true, true, true, true, true, true, true, true, true, true, true, true, true, true, true, false] _ _
      try simp only [Act.put, List.setIfInBounds_toArray, List.set_cons_zero, List.set_cons_succ, List.getElem_toArray, List.getElem_cons_zero, List.getElem_cons_succ]
      refine rest_take (i := 38) (v := _) all_wide (noDefers_of (by kernel_rfl)) rfl (by kernel_rfl) (by kernel_rfl) (by kernel_rfl) (fun _ _ _ h => h) (Or.inl ⟨by rfl, by intro w hSw; clear hSw; go_simp; first | done | with_reducible rfl⟩) hHeld ?_
      change RestIn _ _ _ _ _ _ _ 0 #[true, true, true, true, true, true, true, true, true, true, true, true, true, true, true, true, true, true, true, true, true, true, true, true, true, true, true, true, true, true, true, true, true, true, true, true, true, true, true] _ _
      try simp only [Act.put, List.setIfInBounds_toArray, List.set_cons_zero, List.set_cons_succ, List.getElem_toArray, List.getElem_cons_zero, List.getElem_cons_succ]
      refine rest_done (by kernel_rfl) ?_
      clear ww0 ww1 ww2 ww3 ww4 ww5 ww6 ww7 ww8
      clear hLast
      have kF3 := hHeld.1
      have v0 := kF3.cell 0; have v1 := kF3.cell 1; have v2 := kF3.cell 2; have v3 := kF3.cell 3; have v4 := kF3.cell 4; have v5 := kF3.cell 5; have v6 := kF3.cell 6; have v7 := kF3.cell 7; have v8 := kF3.cell 8; have v9 := kF3.cell 9; have v10 := kF3.cell 10; have v11 := kF3.cell 11; have v12 := kF3.cell 12; have v13 := kF3.cell 13; have v14 := kF3.cell 14; simp at v0 v1 v2 v3 v4 v5 v6 v7 v8 v9 v10 v11 v12 v13 v14
      go_wp2_with (first | (go_at_call 36; (with_reducible refine (HS3.out _).mono ?_); rintro e wq ⟨rfl, rfl⟩) | (go_at_call 36; (with_reducible refine (HS4.out _).mono ?_); rintro e wq ⟨rfl, rfl⟩))
      go_roundw
      case rel => exact ⟨k + 1, by omega, by go_num, hWb.trans (hNow.mono hWb.size)⟩
      case measure => simp [intOf]; omega

end Go.Proofs.Ytmhnbchfmddhcaa
