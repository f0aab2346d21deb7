import Derived.Test.YtmhnbchfmddhcaaRefE
import Derived.Test.YtmhnbchfmddhcaaConvF
import Derived.Test.YtmhnbchfmddhcaaWithin
import Derived.Test.YtmhnbchfmddhcaaWords

/- With a greater reach, greater bears, or smaller ranges no catch is lost. -/
namespace Go.Proofs.Ytmhnbchfmddhcaa
open Go.RowKit Go.Shelf
theorem ints_sub {a b : List Nat} (h : ∀ x ∈ a, x ∈ b) : ∀ x ∈ ints a, x ∈ ints b := by
  intro x hx
  unfold ints at hx ⊢
  obtain ⟨n, hn, rfl⟩ := List.mem_map.1 hx
  exact List.mem_map.2 ⟨n, h n hn, rfl⟩

set_option linter.unusedSimpArgs false in
set_option maxRecDepth 100000 in
set_option maxHeartbeats 32000000 in
theorem steady_ok (f : Flt) (A : Option Addr) (c : Nat) (rel r1 r2 a0 a1 a2 a3 a4 a5 a6 a7 : Int) (w : World) (hr : RS encB 4 w w.heap.size A f.cycle) (hfew : f.cycle.length ≤ 700) (hok : f.ok = true) (hrel : 0 ≤ rel ∧ rel ≤ 65535) (hr1 : 0 ≤ r1 ∧ r1 ≤ 65535) (hr2 : 0 ≤ r2 ∧ r2 ≤ 65535)
    (b0 : 0 ≤ a0 ∧ a0 ≤ 255) (b1 : 0 ≤ a1 ∧ a1 ≤ 255) (b2 : 0 ≤ a2 ∧ a2 ≤ 255) (b3 : 0 ≤ a3 ∧ a3 ≤ 255) (b4 : 0 ≤ a4 ∧ a4 ≤ 255) (b5 : 0 ≤ a5 ∧ a5 ≤ 255) (b6 : 0 ≤ a6 ∧ a6 ≤ 255) (b7 : 0 ≤ a7 ∧ a7 ≤ 255) :
    Calls Try.prog 7 #[.agg #[.int .i64 f.fly.pos.x.lo, .int .i64 f.fly.pos.x.hi, .int .i64 f.fly.pos.z.lo, .int .i64 f.fly.pos.z.hi, .int .i64 f.fly.speed.x.lo, .int .i64 f.fly.speed.x.hi, .int .i64 f.fly.speed.z.lo, .int .i64 f.fly.speed.z.hi, .int .i64 f.fly.mass, .slice A f.cycle.length c, .int .i64 f.reach, .int .i64 f.soft, .int .i64 f.bears, .int .i64 f.least, .int .i64 f.most], .int .u16 rel, .int .u16 r1, .int .u16 r2, .agg #[.int .u8 a0, .int .u8 a1, .int .u8 a2, .int .u8 a3, .int .u8 a4, .int .u8 a5, .int .u8 a6, .int .u8 a7]] w fun e w' => e = .returned (.bool true) ∧ Below w.heap.size w w' := by
  have hB0 := ((Below.refl w.heap.size w).alloc (Nat.le_refl _) (.cells #[.int .i64 f.fly.pos.x.lo, .int .i64 f.fly.pos.x.hi, .int .i64 f.fly.pos.z.lo, .int .i64 f.fly.pos.z.hi, .int .i64 f.fly.speed.x.lo, .int .i64 f.fly.speed.x.hi, .int .i64 f.fly.speed.z.lo, .int .i64 f.fly.speed.z.hi, .int .i64 f.fly.mass, .slice A f.cycle.length c, .int .i64 f.reach, .int .i64 f.soft, .int .i64 f.bears, .int .i64 f.least, .int .i64 f.most] 32)).alloc (by simp) (.cells #[.int .u8 a0, .int .u8 a1, .int .u8 a2, .int .u8 a3, .int .u8 a4, .int .u8 a5, .int .u8 a6, .int .u8 a7] 83)
  have kF0 := (Blk.new w 32 #[.int .i64 f.fly.pos.x.lo, .int .i64 f.fly.pos.x.hi, .int .i64 f.fly.pos.z.lo, .int .i64 f.fly.pos.z.hi, .int .i64 f.fly.speed.x.lo, .int .i64 f.fly.speed.x.hi, .int .i64 f.fly.speed.z.lo, .int .i64 f.fly.speed.z.hi, .int .i64 f.fly.mass, .slice A f.cycle.length c, .int .i64 f.reach, .int .i64 f.soft, .int .i64 f.bears, .int .i64 f.least, .int .i64 f.most]).alloc (.cells #[.int .u8 a0, .int .u8 a1, .int .u8 a2, .int .u8 a3, .int .u8 a4, .int .u8 a5, .int .u8 a6, .int .u8 a7] 83)
  have kD0 := Blk.new (w.alloc (.cells #[.int .i64 f.fly.pos.x.lo, .int .i64 f.fly.pos.x.hi, .int .i64 f.fly.pos.z.lo, .int .i64 f.fly.pos.z.hi, .int .i64 f.fly.speed.x.lo, .int .i64 f.fly.speed.x.hi, .int .i64 f.fly.speed.z.lo, .int .i64 f.fly.speed.z.hi, .int .i64 f.fly.mass, .slice A f.cycle.length c, .int .i64 f.reach, .int .i64 f.soft, .int .i64 f.bears, .int .i64 f.least, .int .i64 f.most] 32)) 83 #[.int .u8 a0, .int .u8 a1, .int .u8 a2, .int .u8 a3, .int .u8 a4, .int .u8 a5, .int .u8 a6, .int .u8 a7]
  simp only [World.size_alloc] at kD0
  have hR00 := hr.to hB0
  have HFEW : Hid (∀ W : World, Calls Try.prog 14 #[.agg #[.int .i64 f.fly.pos.x.lo, .int .i64 f.fly.pos.x.hi, .int .i64 f.fly.pos.z.lo, .int .i64 f.fly.pos.z.hi, .int .i64 f.fly.speed.x.lo, .int .i64 f.fly.speed.x.hi, .int .i64 f.fly.speed.z.lo, .int .i64 f.fly.speed.z.hi, .int .i64 f.fly.mass, .slice A f.cycle.length c, .int .i64 f.reach, .int .i64 f.soft, .int .i64 f.bears, .int .i64 f.least, .int .i64 f.most]] W fun e w' => e = .returned (.bool true) ∧ Below W.heap.size W w') := fun W => by have := few_any f A c W; rw [decide_eq_true hfew] at this; exact this
  have HR : Hid (∀ W : World, RS encB 4 W W.heap.size A f.cycle → Calls Try.prog 22 #[.agg #[.int .i64 f.fly.pos.x.lo, .int .i64 f.fly.pos.x.hi, .int .i64 f.fly.pos.z.lo, .int .i64 f.fly.pos.z.hi, .int .i64 f.fly.speed.x.lo, .int .i64 f.fly.speed.x.hi, .int .i64 f.fly.speed.z.lo, .int .i64 f.fly.speed.z.hi, .int .i64 f.fly.mass, .slice A f.cycle.length c, .int .i64 f.reach, .int .i64 f.soft, .int .i64 f.bears, .int .i64 f.least, .int .i64 f.most]] W fun e w' => e = .returned (.bool true) ∧ Below W.heap.size W w') := fun W h => by rw [← hok]; exact right_any f A c W h hfew
  obtain ⟨hfl, ⟨hc1, hc2⟩, hcb, ⟨re1, re2⟩, ⟨so1, so2⟩, ⟨be1, be2⟩, ⟨le1, le2⟩, ⟨mo1, mo2⟩, hlm⟩ := Flt.ok_iff.1 hok
  obtain ⟨hpo, hsp, ma1, ma2⟩ := Fly.ok_iff.1 hfl
  obtain ⟨⟨p1, p2, p3⟩, p4, p5, p6⟩ := Bx.inside_iff.1 hpo
  obtain ⟨⟨s1, s2, s3⟩, s4, s5, s6⟩ := Bx.inside_iff.1 hsp
  obtain ⟨rn, hrn⟩ : ∃ rn : Nat, rel.tmod 6001 = rn := ⟨(rel.tmod 6001).toNat, by rw [Int.tmod_eq_emod_of_nonneg hrel.1]; omega⟩
  have hrb : rn ≤ 6000 := by rw [Int.tmod_eq_emod_of_nonneg hrel.1] at hrn; omega
  have hin : inB (rn : Int) 0 6000 = true := inB_true.2 (by omega)
  have HN0 : Hid (∀ W : World, Calls Try.prog 37 #[.agg #[.int .i64 f.fly.pos.x.lo, .int .i64 f.fly.pos.x.hi], .int .u8 a0, .int .u8 a1] W fun e w' => e = .returned (.agg #[.int .i64 (narrowI f.fly.pos.x a0 a1).lo, .int .i64 (narrowI f.fly.pos.x a0 a1).hi]) ∧ Below W.heap.size W w') := fun W => narrow_any f.fly.pos.x a0 a1 W (by omega) (by omega) (by omega) (by omega) (by omega)
  obtain ⟨n0a, n0b, n0c⟩ := narrowI_in (r := f.fly.pos.x) (a := a0) (b := a1) (by omega)
  obtain ⟨N0, hN0⟩ : ∃ N, narrowI f.fly.pos.x a0 a1 = N := ⟨_, rfl⟩
  rw [hN0] at HN0 n0a n0b n0c
  clear hN0
  have HN1 : Hid (∀ W : World, Calls Try.prog 37 #[.agg #[.int .i64 f.fly.pos.z.lo, .int .i64 f.fly.pos.z.hi], .int .u8 a2, .int .u8 a3] W fun e w' => e = .returned (.agg #[.int .i64 (narrowI f.fly.pos.z a2 a3).lo, .int .i64 (narrowI f.fly.pos.z a2 a3).hi]) ∧ Below W.heap.size W w') := fun W => narrow_any f.fly.pos.z a2 a3 W (by omega) (by omega) (by omega) (by omega) (by omega)
  obtain ⟨n1a, n1b, n1c⟩ := narrowI_in (r := f.fly.pos.z) (a := a2) (b := a3) (by omega)
  obtain ⟨N1, hN1⟩ : ∃ N, narrowI f.fly.pos.z a2 a3 = N := ⟨_, rfl⟩
  rw [hN1] at HN1 n1a n1b n1c
  clear hN1
  have HN2 : Hid (∀ W : World, Calls Try.prog 37 #[.agg #[.int .i64 f.fly.speed.x.lo, .int .i64 f.fly.speed.x.hi], .int .u8 a4, .int .u8 a5] W fun e w' => e = .returned (.agg #[.int .i64 (narrowI f.fly.speed.x a4 a5).lo, .int .i64 (narrowI f.fly.speed.x a4 a5).hi]) ∧ Below W.heap.size W w') := fun W => narrow_any f.fly.speed.x a4 a5 W (by omega) (by omega) (by omega) (by omega) (by omega)
  obtain ⟨n2a, n2b, n2c⟩ := narrowI_in (r := f.fly.speed.x) (a := a4) (b := a5) (by omega)
  obtain ⟨N2, hN2⟩ : ∃ N, narrowI f.fly.speed.x a4 a5 = N := ⟨_, rfl⟩
  rw [hN2] at HN2 n2a n2b n2c
  clear hN2
  have HN3 : Hid (∀ W : World, Calls Try.prog 37 #[.agg #[.int .i64 f.fly.speed.z.lo, .int .i64 f.fly.speed.z.hi], .int .u8 a6, .int .u8 a7] W fun e w' => e = .returned (.agg #[.int .i64 (narrowI f.fly.speed.z a6 a7).lo, .int .i64 (narrowI f.fly.speed.z a6 a7).hi]) ∧ Below W.heap.size W w') := fun W => narrow_any f.fly.speed.z a6 a7 W (by omega) (by omega) (by omega) (by omega) (by omega)
  obtain ⟨n3a, n3b, n3c⟩ := narrowI_in (r := f.fly.speed.z) (a := a6) (b := a7) (by omega)
  obtain ⟨N3, hN3⟩ : ∃ N, narrowI f.fly.speed.z a6 a7 = N := ⟨_, rfl⟩
  rw [hN3] at HN3 n3a n3b n3c
  clear hN3
  obtain ⟨g, hg⟩ : ∃ g : Fly, g = ⟨⟨N0, N1⟩, ⟨N2, N3⟩, f.fly.mass⟩ := ⟨_, rfl⟩
  have eg0 : N0 = g.pos.x := by rw [hg]
  subst eg0
  have eg1 : N1 = g.pos.z := by rw [hg]
  subst eg1
  have eg2 : N2 = g.speed.x := by rw [hg]
  subst eg2
  have eg3 : N3 = g.speed.z := by rw [hg]
  subst eg3
  have gm : g.mass = f.fly.mass := by rw [hg]
  have hgo : g.ok = true := Fly.ok_iff.2 ⟨Bx.inside_iff.2 ⟨⟨by omega, by omega, by omega⟩, by omega, by omega, by omega⟩, Bx.inside_iff.2 ⟨⟨by omega, by omega, by omega⟩, by omega, by omega, by omega⟩, by rw [gm]; omega, by rw [gm]; omega⟩
  have hok3 : ({ f with fly := g } : Flt).ok = true := Flt.ok_iff.2 ⟨hgo, ⟨hc1, hc2⟩, hcb, ⟨re1, re2⟩, ⟨so1, so2⟩, ⟨be1, be2⟩, ⟨le1, le2⟩, ⟨mo1, mo2⟩, hlm⟩
  have hs3 := fun (x : Nat) (hx : x ∈ sureL f rn) => sure_less (g := g) hok gm ⟨n0a, n0c⟩ ⟨n1a, n1c⟩ ⟨n2a, n2c, n2b⟩ ⟨n3a, n3c, n3b⟩ hx
  obtain ⟨re, hre⟩ : ∃ re, min 10000000 (f.reach + r1) = re := ⟨_, rfl⟩
  obtain ⟨be, hbe⟩ : ∃ be, min 100000000 (f.bears + r2) = be := ⟨_, rfl⟩
  have hok2 : ({ f with reach := re, bears := be } : Flt).ok = true := Flt.ok_iff.2 ⟨hfl, ⟨hc1, hc2⟩, hcb, ⟨show 0 ≤ re by omega, show re ≤ 10000000 by omega⟩, ⟨so1, so2⟩, ⟨show 0 ≤ be by omega, show be ≤ 100000000 by omega⟩, ⟨le1, le2⟩, ⟨mo1, mo2⟩, hlm⟩
  have hs2 := fun (x : Nat) (hx : x ∈ sureL f rn) => sure_more (re := re) (be := be) hok (by omega) (by omega) hx
  have hmin1 : ∀ (ts : Array TypeId) (ty : TypeId) (W : World), (Builtin.min_ ts ty #[.int .i64 10000000, .int .i64 (f.reach + r1)]).run Try.prog W = .ok (.int .i64 re) W := by
    intro ts ty W
    simp [Builtin.min_, Builtin.min2]
    omega
  have hmin2 : ∀ (ts : Array TypeId) (ty : TypeId) (W : World), (Builtin.min_ ts ty #[.int .i64 100000000, .int .i64 (f.bears + r2)]).run Try.prog W = .ok (.int .i64 be) W := by
    intro ts ty W
    simp [Builtin.min_, Builtin.min2]
    omega
  have HFL1 : Hid (∀ W : World, RS encB 4 W W.heap.size A f.cycle → Calls Try.prog 19 #[.agg #[.int .i64 f.fly.pos.x.lo, .int .i64 f.fly.pos.x.hi, .int .i64 f.fly.pos.z.lo, .int .i64 f.fly.pos.z.hi, .int .i64 f.fly.speed.x.lo, .int .i64 f.fly.speed.x.hi, .int .i64 f.fly.speed.z.lo, .int .i64 f.fly.speed.z.hi, .int .i64 f.fly.mass, .slice A f.cycle.length c, .int .i64 f.reach, .int .i64 f.soft, .int .i64 f.bears, .int .i64 f.least, .int .i64 f.most]] W fun e w' => ∃ (A : Option Addr) (c : Nat), e = .returned (.agg #[.int .i64 f.fly.pos.x.lo, .int .i64 f.fly.pos.x.hi, .int .i64 f.fly.pos.z.lo, .int .i64 f.fly.pos.z.hi, .int .i64 f.fly.speed.x.lo, .int .i64 f.fly.speed.x.hi, .int .i64 f.fly.speed.z.lo, .int .i64 f.fly.speed.z.hi, .int .i64 f.fly.mass, .slice A f.cycle.length c, .int .i64 f.reach, .int .i64 f.soft, .int .i64 f.bears, .int .i64 f.least, .int .i64 f.most]) ∧ RS encB 4 w' w'.heap.size A f.cycle ∧ Below W.heap.size W w') := fun W h => lawFlight_any (f) A c W h hfew
  have HC1 : Hid (∀ (W : World) (A : Option Addr) (c : Nat), RS encB 4 W W.heap.size A f.cycle → Calls Try.prog 35 #[.agg #[.int .i64 f.fly.pos.x.lo, .int .i64 f.fly.pos.x.hi, .int .i64 f.fly.pos.z.lo, .int .i64 f.fly.pos.z.hi, .int .i64 f.fly.speed.x.lo, .int .i64 f.fly.speed.x.hi, .int .i64 f.fly.speed.z.lo, .int .i64 f.fly.speed.z.hi, .int .i64 f.fly.mass, .slice A f.cycle.length c, .int .i64 f.reach, .int .i64 f.soft, .int .i64 f.bears, .int .i64 f.least, .int .i64 f.most], .int .i64 (rn : Int)] W fun e w' => ∃ A' c', e = .returned (.tuple #[.slice A' (sureL (f) rn).length c', .int .i64 0]) ∧ RS encI 1 w' w'.heap.size A' (ints (sureL (f) rn)) ∧ Below W.heap.size W w') := fun W A c h => Catches_ok (f) A c rn W hok h hin
  have hl1 := sureL_len (f := f) (r := rn) mo2
  obtain ⟨la, hla⟩ : ∃ l, sureL (f) rn = l := ⟨_, rfl⟩
  have HFL2 : Hid (∀ W : World, RS encB 4 W W.heap.size A f.cycle → Calls Try.prog 19 #[.agg #[.int .i64 f.fly.pos.x.lo, .int .i64 f.fly.pos.x.hi, .int .i64 f.fly.pos.z.lo, .int .i64 f.fly.pos.z.hi, .int .i64 f.fly.speed.x.lo, .int .i64 f.fly.speed.x.hi, .int .i64 f.fly.speed.z.lo, .int .i64 f.fly.speed.z.hi, .int .i64 f.fly.mass, .slice A f.cycle.length c, .int .i64 re, .int .i64 f.soft, .int .i64 be, .int .i64 f.least, .int .i64 f.most]] W fun e w' => ∃ (A : Option Addr) (c : Nat), e = .returned (.agg #[.int .i64 f.fly.pos.x.lo, .int .i64 f.fly.pos.x.hi, .int .i64 f.fly.pos.z.lo, .int .i64 f.fly.pos.z.hi, .int .i64 f.fly.speed.x.lo, .int .i64 f.fly.speed.x.hi, .int .i64 f.fly.speed.z.lo, .int .i64 f.fly.speed.z.hi, .int .i64 f.fly.mass, .slice A f.cycle.length c, .int .i64 re, .int .i64 f.soft, .int .i64 be, .int .i64 f.least, .int .i64 f.most]) ∧ RS encB 4 w' w'.heap.size A f.cycle ∧ Below W.heap.size W w') := fun W h => lawFlight_any ({ f with reach := re, bears := be }) A c W h hfew
  have HC2 : Hid (∀ (W : World) (A : Option Addr) (c : Nat), RS encB 4 W W.heap.size A f.cycle → Calls Try.prog 35 #[.agg #[.int .i64 f.fly.pos.x.lo, .int .i64 f.fly.pos.x.hi, .int .i64 f.fly.pos.z.lo, .int .i64 f.fly.pos.z.hi, .int .i64 f.fly.speed.x.lo, .int .i64 f.fly.speed.x.hi, .int .i64 f.fly.speed.z.lo, .int .i64 f.fly.speed.z.hi, .int .i64 f.fly.mass, .slice A f.cycle.length c, .int .i64 re, .int .i64 f.soft, .int .i64 be, .int .i64 f.least, .int .i64 f.most], .int .i64 (rn : Int)] W fun e w' => ∃ A' c', e = .returned (.tuple #[.slice A' (sureL ({ f with reach := re, bears := be }) rn).length c', .int .i64 0]) ∧ RS encI 1 w' w'.heap.size A' (ints (sureL ({ f with reach := re, bears := be }) rn)) ∧ Below W.heap.size W w') := fun W A c h => Catches_ok ({ f with reach := re, bears := be }) A c rn W hok2 h hin
  have hl2 := sureL_len (f := { f with reach := re, bears := be }) (r := rn) mo2
  obtain ⟨lb, hlb⟩ : ∃ l, sureL ({ f with reach := re, bears := be }) rn = l := ⟨_, rfl⟩
  have HFL3 : Hid (∀ W : World, RS encB 4 W W.heap.size A f.cycle → Calls Try.prog 19 #[.agg #[.int .i64 g.pos.x.lo, .int .i64 g.pos.x.hi, .int .i64 g.pos.z.lo, .int .i64 g.pos.z.hi, .int .i64 g.speed.x.lo, .int .i64 g.speed.x.hi, .int .i64 g.speed.z.lo, .int .i64 g.speed.z.hi, .int .i64 g.mass, .slice A f.cycle.length c, .int .i64 f.reach, .int .i64 f.soft, .int .i64 f.bears, .int .i64 f.least, .int .i64 f.most]] W fun e w' => ∃ (A : Option Addr) (c : Nat), e = .returned (.agg #[.int .i64 g.pos.x.lo, .int .i64 g.pos.x.hi, .int .i64 g.pos.z.lo, .int .i64 g.pos.z.hi, .int .i64 g.speed.x.lo, .int .i64 g.speed.x.hi, .int .i64 g.speed.z.lo, .int .i64 g.speed.z.hi, .int .i64 g.mass, .slice A f.cycle.length c, .int .i64 f.reach, .int .i64 f.soft, .int .i64 f.bears, .int .i64 f.least, .int .i64 f.most]) ∧ RS encB 4 w' w'.heap.size A f.cycle ∧ Below W.heap.size W w') := fun W h => lawFlight_any ({ f with fly := g }) A c W h hfew
  have HC3 : Hid (∀ (W : World) (A : Option Addr) (c : Nat), RS encB 4 W W.heap.size A f.cycle → Calls Try.prog 35 #[.agg #[.int .i64 g.pos.x.lo, .int .i64 g.pos.x.hi, .int .i64 g.pos.z.lo, .int .i64 g.pos.z.hi, .int .i64 g.speed.x.lo, .int .i64 g.speed.x.hi, .int .i64 g.speed.z.lo, .int .i64 g.speed.z.hi, .int .i64 g.mass, .slice A f.cycle.length c, .int .i64 f.reach, .int .i64 f.soft, .int .i64 f.bears, .int .i64 f.least, .int .i64 f.most], .int .i64 (rn : Int)] W fun e w' => ∃ A' c', e = .returned (.tuple #[.slice A' (sureL ({ f with fly := g }) rn).length c', .int .i64 0]) ∧ RS encI 1 w' w'.heap.size A' (ints (sureL ({ f with fly := g }) rn)) ∧ Below W.heap.size W w') := fun W A c h => Catches_ok ({ f with fly := g }) A c rn W hok3 h hin
  have hl3 := sureL_len (f := { f with fly := g }) (r := rn) mo2
  obtain ⟨lc, hlc⟩ : ∃ l, sureL ({ f with fly := g }) rn = l := ⟨_, rfl⟩
  simp only [hla] at HC1 hl1 hs2 hs3
  simp only [hlb] at HC2 hl2 hs2
  simp only [hlc] at HC3 hl3 hs3
  have HW2 : Hid (∀ (W : World) (A1 A2 : Option Addr) (c1 c2 : Nat), RS encI 1 W W.heap.size A1 (ints la) → RS encI 1 W W.heap.size A2 (ints lb) → Calls Try.prog 38 #[.slice A1 la.length c1, .slice A2 lb.length c2] W fun e w' => e = .returned (.bool true) ∧ Below W.heap.size W w') := fun W A1 A2 c1 c2 h1 h2 => by
    have := within_any A1 A2 c1 c2 (ints la) (ints lb) W h1 h2 (by rw [ints_len]; omega) (by rw [ints_len]; omega) (ints_sub hs2)
    rw [ints_len, ints_len] at this
    exact this
  have HW3 : Hid (∀ (W : World) (A1 A2 : Option Addr) (c1 c2 : Nat), RS encI 1 W W.heap.size A1 (ints la) → RS encI 1 W W.heap.size A2 (ints lc) → Calls Try.prog 38 #[.slice A1 la.length c1, .slice A2 lc.length c2] W fun e w' => e = .returned (.bool true) ∧ Below W.heap.size W w') := fun W A1 A2 c1 c2 h1 h2 => by
    have := within_any A1 A2 c1 c2 (ints la) (ints lc) W h1 h2 (by rw [ints_len]; omega) (by rw [ints_len]; omega) (ints_sub hs3)
    rw [ints_len, ints_len] at this
    exact this
  have brr : 0 ≤ f.reach ∧ f.reach ≤ 10000000 := ⟨re1, re2⟩
  have bbe : 0 ≤ f.bears ∧ f.bears ≤ 100000000 := ⟨be1, be2⟩
  have hcs : f.cycle.length ≤ 600 := hc2
  clear hok hok2 hok3 hfl hcb hpo hsp hr hfew hla hlb hlc hs2 hs3 hg hgo hin p1 p2 p3 p4 p5 p6 s1 s2 s3 s4 s5 s6 re1 re2 be1 be2 so1 so2 hlm le1 le2 mo1 mo2 ma1 ma2 n0a n0b n0c n1a n1b n1c n2a n2b n2c n3a n3b n3c hre hbe hc1 hc2 b0 b1 b2 b3 b4 b5 b6 b7 hl1 hl2 hl3
  have hmx : Try.prog.follows .mixedOrders = true := by kernel_rfl
  go_enter Try.func7, Try.ntmps7
  go_upto_region 1 with fail
  refine name_world (motive := fun W => Code.wp _ _ _ _ W) _ ?_
  intro W0 hW
  have hWc := hW.cell
  have hWz := hW.size
  have hWb := hW.below (hB0)
  have kF := hW.blk kF0
  have kD := hW.blk kD0
  have hR0 := hR00.to (hW.below (Below.refl _ _))
  have HB0 := Lib.hid hWb
  clear hB0 kF0 kD0 hR00 hW hWc hWz hWb
  have hX := Below.refl W0.heap.size W0
  have kX := kF
  have x0 := kX.cell 0; have x1 := kX.cell 1; have x2 := kX.cell 2; have x3 := kX.cell 3; have x4 := kX.cell 4; have x5 := kX.cell 5; have x6 := kX.cell 6; have x7 := kX.cell 7; have x8 := kX.cell 8; have x9 := kX.cell 9; have x10 := kX.cell 10; have x11 := kX.cell 11; have x12 := kX.cell 12; have x13 := kX.cell 13; have x14 := kX.cell 14; simp at x0 x1 x2 x3 x4 x5 x6 x7 x8 x9 x10 x11 x12 x13 x14
  go_upto_region 5 with (first | (go_at_call 14; (with_reducible refine (HFEW.out _).mono ?_); rintro e wn ⟨rfl, hb⟩; have hX := sh_next hX hb; clear kX x0 x1 x2 x3 x4 x5 x6 x7 x8 x9 x10 x11 x12 x13 x14; have kX := kF.below hX kF.lt; have x0 := kX.cell 0; have x1 := kX.cell 1; have x2 := kX.cell 2; have x3 := kX.cell 3; have x4 := kX.cell 4; have x5 := kX.cell 5; have x6 := kX.cell 6; have x7 := kX.cell 7; have x8 := kX.cell 8; have x9 := kX.cell 9; have x10 := kX.cell 10; have x11 := kX.cell 11; have x12 := kX.cell 12; have x13 := kX.cell 13; have x14 := kX.cell 14; simp at x0 x1 x2 x3 x4 x5 x6 x7 x8 x9 x10 x11 x12 x13 x14) | (go_at_call 22; (with_reducible refine (HR.out _ (hR0.to hX)).mono ?_); rintro e wn ⟨rfl, hb⟩; have hX := sh_next hX hb; clear kX x0 x1 x2 x3 x4 x5 x6 x7 x8 x9 x10 x11 x12 x13 x14; have kX := kF.below hX kF.lt; have x0 := kX.cell 0; have x1 := kX.cell 1; have x2 := kX.cell 2; have x3 := kX.cell 3; have x4 := kX.cell 4; have x5 := kX.cell 5; have x6 := kX.cell 6; have x7 := kX.cell 7; have x8 := kX.cell 8; have x9 := kX.cell 9; have x10 := kX.cell 10; have x11 := kX.cell 11; have x12 := kX.cell 12; have x13 := kX.cell 13; have x14 := kX.cell 14; simp at x0 x1 x2 x3 x4 x5 x6 x7 x8 x9 x10 x11 x12 x13 x14) | (go_at_call 19; (with_reducible refine (HFL1.out _ (hR0.to hX)).mono ?_); rintro e wn ⟨A2, c2, rfl, hs2, hb⟩; have hX := sh_next hX hb; clear kX x0 x1 x2 x3 x4 x5 x6 x7 x8 x9 x10 x11 x12 x13 x14; have kX := kF.below hX kF.lt; have x0 := kX.cell 0; have x1 := kX.cell 1; have x2 := kX.cell 2; have x3 := kX.cell 3; have x4 := kX.cell 4; have x5 := kX.cell 5; have x6 := kX.cell 6; have x7 := kX.cell 7; have x8 := kX.cell 8; have x9 := kX.cell 9; have x10 := kX.cell 10; have x11 := kX.cell 11; have x12 := kX.cell 12; have x13 := kX.cell 13; have x14 := kX.cell 14; simp at x0 x1 x2 x3 x4 x5 x6 x7 x8 x9 x10 x11 x12 x13 x14) | (go_at_call 35; (with_reducible refine (HC1.out _ _ _ hs2).mono ?_); rintro e wn ⟨Al, cl, rfl, hsl, hb⟩; have hX := sh_next hX hb; clear kX x0 x1 x2 x3 x4 x5 x6 x7 x8 x9 x10 x11 x12 x13 x14; have kX := kF.below hX kF.lt; have x0 := kX.cell 0; have x1 := kX.cell 1; have x2 := kX.cell 2; have x3 := kX.cell 3; have x4 := kX.cell 4; have x5 := kX.cell 5; have x6 := kX.cell 6; have x7 := kX.cell 7; have x8 := kX.cell 8; have x9 := kX.cell 9; have x10 := kX.cell 10; have x11 := kX.cell 11; have x12 := kX.cell 12; have x13 := kX.cell 13; have x14 := kX.cell 14; simp at x0 x1 x2 x3 x4 x5 x6 x7 x8 x9 x10 x11 x12 x13 x14))
  clear x0 x1 x2 x3 x4 x5 x6 x7 x8 x9 x10 x11 x12 x13 x14
  have kX1 := kX
  have kD1 := kD.below hX kD.lt
  have hR1 := hR0.to hX
  have HB1 := Lib.hid (HB0.out.trans (hX.mono HB0.out.size))
  clear kF kD kX hR0 HB0 hs2
  refine name_world (motive := fun W => Code.wp _ _ _ _ W) _ ?_
  intro W0 hW
  have hWc := hW.cell
  have hWz := hW.size
  have hWb := hW.below (hX)
  have kF := hW.blk kX1
  have kD := hW.blk kD1
  have hR0 := hR1.to (hW.below (Below.refl _ _))
  have hSa := hsl.to (hW.below (Below.refl _ _))
  have HB0 := Lib.hid (HB1.out.trans ((hW.below (Below.refl _ _)).mono HB1.out.size))
  clear kX1 kD1 hR1 hsl HB1 hW hWc hWz hWb hX
  have x0 := kF.cell 0; have x1 := kF.cell 1; have x2 := kF.cell 2; have x3 := kF.cell 3; have x4 := kF.cell 4; have x5 := kF.cell 5; have x6 := kF.cell 6; have x7 := kF.cell 7; have x8 := kF.cell 8; have x9 := kF.cell 9; have x10 := kF.cell 10; have x11 := kF.cell 11; have x12 := kF.cell 12; have x13 := kF.cell 13; have x14 := kF.cell 14; simp at x0 x1 x2 x3 x4 x5 x6 x7 x8 x9 x10 x11 x12 x13 x14
  have fl := kF.lt
  go_upto_region 8 with fail
  as_aux_lemma =>
    clear x0 x1 x2 x3 x4 x5 x6 x7 x8 x9 x10 x11 x12 x13 x14 fl
    have hX1 := (Below.refl W0.heap.size W0).alloc (Nat.le_refl _) (.cells #[.int .i64 f.fly.pos.x.lo, .int .i64 f.fly.pos.x.hi, .int .i64 f.fly.pos.z.lo, .int .i64 f.fly.pos.z.hi, .int .i64 f.fly.speed.x.lo, .int .i64 f.fly.speed.x.hi, .int .i64 f.fly.speed.z.lo, .int .i64 f.fly.speed.z.hi, .int .i64 f.fly.mass, .slice A f.cycle.length c, .int .i64 re, .int .i64 f.soft, .int .i64 be, .int .i64 f.least, .int .i64 f.most] 32)
    have kP0 := Blk.new W0 32 #[.int .i64 f.fly.pos.x.lo, .int .i64 f.fly.pos.x.hi, .int .i64 f.fly.pos.z.lo, .int .i64 f.fly.pos.z.hi, .int .i64 f.fly.speed.x.lo, .int .i64 f.fly.speed.x.hi, .int .i64 f.fly.speed.z.lo, .int .i64 f.fly.speed.z.hi, .int .i64 f.fly.mass, .slice A f.cycle.length c, .int .i64 re, .int .i64 f.soft, .int .i64 be, .int .i64 f.least, .int .i64 f.most]
    have kF1 := kF.alloc (.cells #[.int .i64 f.fly.pos.x.lo, .int .i64 f.fly.pos.x.hi, .int .i64 f.fly.pos.z.lo, .int .i64 f.fly.pos.z.hi, .int .i64 f.fly.speed.x.lo, .int .i64 f.fly.speed.x.hi, .int .i64 f.fly.speed.z.lo, .int .i64 f.fly.speed.z.hi, .int .i64 f.fly.mass, .slice A f.cycle.length c, .int .i64 re, .int .i64 f.soft, .int .i64 be, .int .i64 f.least, .int .i64 f.most] 32)
    have kD1 := kD.alloc (.cells #[.int .i64 f.fly.pos.x.lo, .int .i64 f.fly.pos.x.hi, .int .i64 f.fly.pos.z.lo, .int .i64 f.fly.pos.z.hi, .int .i64 f.fly.speed.x.lo, .int .i64 f.fly.speed.x.hi, .int .i64 f.fly.speed.z.lo, .int .i64 f.fly.speed.z.hi, .int .i64 f.fly.mass, .slice A f.cycle.length c, .int .i64 re, .int .i64 f.soft, .int .i64 be, .int .i64 f.least, .int .i64 f.most] 32)
    have hR1 := hR0.to hX1
    have hSa1 := hSa.to hX1
    have HB1 := Lib.hid (HB0.out.trans (hX1.mono HB0.out.size))
    clear kF kD hR0 hSa HB0
    obtain ⟨Wx, hWx⟩ : ∃ x, x = W0 := ⟨_, rfl⟩
    subst hWx
    refine name_world (motive := fun W => Code.wp _ _ _ _ W) _ ?_
    intro W0 hW
    have hWc := hW.cell
    have hWz := hW.size
    have hWb := hW.below (hX1)
    have kF := hW.blk kF1
    have kD := hW.blk kD1
    have kP := hW.blk kP0
    have hR0 := hR1.to (hW.below (Below.refl _ _))
    have hSa := hSa1.to (hW.below (Below.refl _ _))
    have HB0 := Lib.hid (HB1.out.trans ((hW.below (Below.refl _ _)).mono HB1.out.size))
    clear kF1 kD1 kP0 hR1 hSa1 HB1 hW hWc hWz hWb hX1
    have hX := Below.refl W0.heap.size W0
    have kX := kF
    have x0 := kX.cell 0; have x1 := kX.cell 1; have x2 := kX.cell 2; have x3 := kX.cell 3; have x4 := kX.cell 4; have x5 := kX.cell 5; have x6 := kX.cell 6; have x7 := kX.cell 7; have x8 := kX.cell 8; have x9 := kX.cell 9; have x10 := kX.cell 10; have x11 := kX.cell 11; have x12 := kX.cell 12; have x13 := kX.cell 13; have x14 := kX.cell 14; simp at x0 x1 x2 x3 x4 x5 x6 x7 x8 x9 x10 x11 x12 x13 x14
    have p0 := kP.cell 0; have p1 := kP.cell 1; have p2 := kP.cell 2; have p3 := kP.cell 3; have p4 := kP.cell 4; have p5 := kP.cell 5; have p6 := kP.cell 6; have p7 := kP.cell 7; have p8 := kP.cell 8; have p9 := kP.cell 9; have p10 := kP.cell 10; have p11 := kP.cell 11; have p12 := kP.cell 12; have p13 := kP.cell 13; have p14 := kP.cell 14; simp at p0 p1 p2 p3 p4 p5 p6 p7 p8 p9 p10 p11 p12 p13 p14
    go_upto_region 9 with (first | (go_at_call 19; (with_reducible refine (HFL2.out _ (hR0.to hX)).mono ?_); rintro e wn ⟨A2, c2, rfl, hs2, hb⟩; have hX := sh_next hX hb; clear kX x0 x1 x2 x3 x4 x5 x6 x7 x8 x9 x10 x11 x12 x13 x14; have kX := kF.below hX kF.lt; have x0 := kX.cell 0; have x1 := kX.cell 1; have x2 := kX.cell 2; have x3 := kX.cell 3; have x4 := kX.cell 4; have x5 := kX.cell 5; have x6 := kX.cell 6; have x7 := kX.cell 7; have x8 := kX.cell 8; have x9 := kX.cell 9; have x10 := kX.cell 10; have x11 := kX.cell 11; have x12 := kX.cell 12; have x13 := kX.cell 13; have x14 := kX.cell 14; simp at x0 x1 x2 x3 x4 x5 x6 x7 x8 x9 x10 x11 x12 x13 x14) | (go_at_call 35; (with_reducible refine (HC2.out _ _ _ hs2).mono ?_); rintro e wn ⟨Ab, cb, rfl, hsl, hb⟩; have hX := sh_next hX hb; clear kX x0 x1 x2 x3 x4 x5 x6 x7 x8 x9 x10 x11 x12 x13 x14; have kX := kF.below hX kF.lt; have x0 := kX.cell 0; have x1 := kX.cell 1; have x2 := kX.cell 2; have x3 := kX.cell 3; have x4 := kX.cell 4; have x5 := kX.cell 5; have x6 := kX.cell 6; have x7 := kX.cell 7; have x8 := kX.cell 8; have x9 := kX.cell 9; have x10 := kX.cell 10; have x11 := kX.cell 11; have x12 := kX.cell 12; have x13 := kX.cell 13; have x14 := kX.cell 14; simp at x0 x1 x2 x3 x4 x5 x6 x7 x8 x9 x10 x11 x12 x13 x14))
    clear x0 x1 x2 x3 x4 x5 x6 x7 x8 x9 x10 x11 x12 x13 x14 p0 p1 p2 p3 p4 p5 p6 p7 p8 p9 p10 p11 p12 p13 p14
    have kX1 := kX
    have kD1 := kD.below hX kD.lt
    have hR1 := hR0.to hX
    have hSa1 := hSa.to hX
    have HB1 := Lib.hid (HB0.out.trans (hX.mono HB0.out.size))
    clear kF kD kX kP hR0 hSa HB0 hs2
    refine name_world (motive := fun W => Code.wp _ _ _ _ W) _ ?_
    intro W0 hW
    have hWc := hW.cell
    have hWz := hW.size
    have hWb := hW.below (hX)
    have kF := hW.blk kX1
    have kD := hW.blk kD1
    have hR0 := hR1.to (hW.below (Below.refl _ _))
    have hSa := hSa1.to (hW.below (Below.refl _ _))
    have hSb := hsl.to (hW.below (Below.refl _ _))
    have HB0 := Lib.hid (HB1.out.trans ((hW.below (Below.refl _ _)).mono HB1.out.size))
    clear kX1 kD1 hR1 hSa1 hsl HB1 hW hWc hWz hWb hX
    as_aux_lemma =>
      have x0 := kF.cell 0; have x1 := kF.cell 1; have x2 := kF.cell 2; have x3 := kF.cell 3; have x4 := kF.cell 4; have x5 := kF.cell 5; have x6 := kF.cell 6; have x7 := kF.cell 7; have x8 := kF.cell 8; have x9 := kF.cell 9; have x10 := kF.cell 10; have x11 := kF.cell 11; have x12 := kF.cell 12; have x13 := kF.cell 13; have x14 := kF.cell 14; simp at x0 x1 x2 x3 x4 x5 x6 x7 x8 x9 x10 x11 x12 x13 x14
      have fl := kF.lt
      go_upto_region 10 with fail
      clear x0 x1 x2 x3 x4 x5 x6 x7 x8 x9 x10 x11 x12 x13 x14
      have hBel1 := (Below.refl W0.heap.size W0).alloc (Nat.le_refl _) (.cells #[.int .i64 f.fly.pos.x.lo, .int .i64 f.fly.pos.x.hi, .int .i64 f.fly.pos.z.lo, .int .i64 f.fly.pos.z.hi, .int .i64 f.fly.speed.x.lo, .int .i64 f.fly.speed.x.hi, .int .i64 f.fly.speed.z.lo, .int .i64 f.fly.speed.z.hi, .int .i64 f.fly.mass, .slice A f.cycle.length c, .int .i64 f.reach, .int .i64 f.soft, .int .i64 f.bears, .int .i64 f.least, .int .i64 f.most] 32)
      have kG0 := Blk.new W0 32 #[.int .i64 f.fly.pos.x.lo, .int .i64 f.fly.pos.x.hi, .int .i64 f.fly.pos.z.lo, .int .i64 f.fly.pos.z.hi, .int .i64 f.fly.speed.x.lo, .int .i64 f.fly.speed.x.hi, .int .i64 f.fly.speed.z.lo, .int .i64 f.fly.speed.z.hi, .int .i64 f.fly.mass, .slice A f.cycle.length c, .int .i64 f.reach, .int .i64 f.soft, .int .i64 f.bears, .int .i64 f.least, .int .i64 f.most]
      have kF1 := kF.alloc (.cells #[.int .i64 f.fly.pos.x.lo, .int .i64 f.fly.pos.x.hi, .int .i64 f.fly.pos.z.lo, .int .i64 f.fly.pos.z.hi, .int .i64 f.fly.speed.x.lo, .int .i64 f.fly.speed.x.hi, .int .i64 f.fly.speed.z.lo, .int .i64 f.fly.speed.z.hi, .int .i64 f.fly.mass, .slice A f.cycle.length c, .int .i64 f.reach, .int .i64 f.soft, .int .i64 f.bears, .int .i64 f.least, .int .i64 f.most] 32)
      have kD1 := kD.alloc (.cells #[.int .i64 f.fly.pos.x.lo, .int .i64 f.fly.pos.x.hi, .int .i64 f.fly.pos.z.lo, .int .i64 f.fly.pos.z.hi, .int .i64 f.fly.speed.x.lo, .int .i64 f.fly.speed.x.hi, .int .i64 f.fly.speed.z.lo, .int .i64 f.fly.speed.z.hi, .int .i64 f.fly.mass, .slice A f.cycle.length c, .int .i64 f.reach, .int .i64 f.soft, .int .i64 f.bears, .int .i64 f.least, .int .i64 f.most] 32)
      have kG := kG0.drew
      clear kG0
      refine (wpIn_wide (n := 9)).1 ?_
      have hLast := trivial
      refine region_rest (S := (fun w' => Blk w' (w.heap.size) 32 #[.int .i64 f.fly.pos.x.lo, .int .i64 f.fly.pos.x.hi, .int .i64 f.fly.pos.z.lo, .int .i64 f.fly.pos.z.hi, .int .i64 f.fly.speed.x.lo, .int .i64 f.fly.speed.x.hi, .int .i64 f.fly.speed.z.lo, .int .i64 f.fly.speed.z.hi, .int .i64 f.fly.mass, .slice A f.cycle.length c, .int .i64 f.reach, .int .i64 f.soft, .int .i64 f.bears, .int .i64 f.least, .int .i64 f.most] ∧ Blk w' (w.heap.size + 1) 83 #[.int .u8 a0, .int .u8 a1, .int .u8 a2, .int .u8 a3, .int .u8 a4, .int .u8 a5, .int .u8 a6, .int .u8 a7] ∧ Below W0.heap.size W0 w')) hmx ?_ (fun hHeld => ?_)
      · exact ⟨kF1.drew, kD1.drew, hBel1.drew⟩
      change RestIn _ _ _ _ _ _ _ 22 #[false, false, false, false, false, false, false, false, false, false, false, false, false, false, false, false, false, false, false, false, false, false] _ (World.drew _)
      refine rest_take (i := 0) (v := _) all_wide (noDefers_of (by kernel_rfl)) rfl (by kernel_rfl) (by kernel_rfl) (by kernel_rfl) (fun _ _ _ h => h) (Or.inl ⟨by rfl, by intro w hSw; clear hSw; go_simp; first | done | with_reducible rfl⟩) hHeld ?_
      change RestIn _ _ _ _ _ _ _ 21 #[true, false, false, false, false, false, false, false, false, false, false, false, false, false, false, false, false, false, false, false, false, false] _ _
      try simp only [Act.put, List.setIfInBounds_toArray, List.set_cons_zero, List.set_cons_succ, List.getElem_toArray, List.getElem_cons_zero, List.getElem_cons_succ]
      refine rest_take (i := 1) (v := _) all_wide (noDefers_of (by kernel_rfl)) rfl (by kernel_rfl) (by kernel_rfl) (by kernel_rfl) (fun _ _ _ h => h) (Or.inl ⟨by rfl, by intro w hSw; clear hSw; go_simp; first | done | with_reducible rfl⟩) hHeld ?_
      change RestIn _ _ _ _ _ _ _ 20 #[true, true, false, false, false, false, false, false, false, false, false, false, false, false, false, false, false, false, false, false, false, false] _ _
      try simp only [Act.put, List.setIfInBounds_toArray, List.set_cons_zero, List.set_cons_succ, List.getElem_toArray, List.getElem_cons_zero, List.getElem_cons_succ]
      refine rest_take (i := 2) (v := _) all_wide (noDefers_of (by kernel_rfl)) rfl (by kernel_rfl) (by kernel_rfl) (by kernel_rfl) (fun _ _ _ h => h) (Or.inl ⟨by rfl, by intro w hSw; clear hSw; go_simp; first | done | with_reducible rfl⟩) hHeld ?_
      change RestIn _ _ _ _ _ _ _ 19 #[true, true, true, false, false, false, false, false, false, false, false, false, false, false, false, false, false, false, false, false, false, false] _ _
      try simp only [Act.put, List.setIfInBounds_toArray, List.set_cons_zero, List.set_cons_succ, List.getElem_toArray, List.getElem_cons_zero, List.getElem_cons_succ]
      refine rest_take (i := 3) (v := _) all_wide (noDefers_of (by kernel_rfl)) rfl (by kernel_rfl) (by kernel_rfl) (by kernel_rfl) (fun _ _ _ h => h) (Or.inl ⟨by rfl, by intro w hSw; (obtain ⟨q0, q1, _⟩ := hSw; have q0x0 := q0.cell 0; have q0x1 := q0.cell 1; have q0x2 := q0.cell 2; have q0x3 := q0.cell 3; have q0x4 := q0.cell 4; have q0x5 := q0.cell 5; have q0x6 := q0.cell 6; have q0x7 := q0.cell 7; have q0x8 := q0.cell 8; have q0x9 := q0.cell 9; have q0x10 := q0.cell 10; have q0x11 := q0.cell 11; have q0x12 := q0.cell 12; have q0x13 := q0.cell 13; have q0x14 := q0.cell 14; have q1x0 := q1.cell 0; have q1x1 := q1.cell 1; have q1x2 := q1.cell 2; have q1x3 := q1.cell 3; have q1x4 := q1.cell 4; have q1x5 := q1.cell 5; have q1x6 := q1.cell 6; have q1x7 := q1.cell 7; simp at q0x0 q0x1 q0x2 q0x3 q0x4 q0x5 q0x6 q0x7 q0x8 q0x9 q0x10 q0x11 q0x12 q0x13 q0x14 q1x0 q1x1 q1x2 q1x3 q1x4 q1x5 q1x6 q1x7); go_simp; first | done | with_reducible rfl⟩) hHeld ?_
      change RestIn _ _ _ _ _ _ _ 18 #[true, true, true, true, false, false, false, false, false, false, false, false, false, false, false, false, false, false, false, false, false, false] _ _
      try simp only [Act.put, List.setIfInBounds_toArray, List.set_cons_zero, List.set_cons_succ, List.getElem_toArray, List.getElem_cons_zero, List.getElem_cons_succ]
      refine rest_take (i := 4) (v := _) all_wide (noDefers_of (by kernel_rfl)) rfl (by kernel_rfl) (by kernel_rfl) (by kernel_rfl) (fun _ _ _ h => h) (Or.inl ⟨by rfl, by intro w hSw; clear hSw; go_simp; first | done | with_reducible rfl⟩) hHeld ?_
      change RestIn _ _ _ _ _ _ _ 17 #[true, true, true, true, true, false, false, false, false, false, false, false, false, false, false, false, false, false, false, false, false, false] _ _
      try simp only [Act.put, List.setIfInBounds_toArray, List.set_cons_zero, List.set_cons_succ, List.getElem_toArray, List.getElem_cons_zero, List.getElem_cons_succ]
      refine rest_take (i := 5) (v := _) all_wide (noDefers_of (by kernel_rfl)) rfl (by kernel_rfl) (by kernel_rfl) (by kernel_rfl) (fun _ _ _ h => h) (Or.inl ⟨by rfl, by intro w hSw; (obtain ⟨q0, q1, _⟩ := hSw; have q0x0 := q0.cell 0; have q0x1 := q0.cell 1; have q0x2 := q0.cell 2; have q0x3 := q0.cell 3; have q0x4 := q0.cell 4; have q0x5 := q0.cell 5; have q0x6 := q0.cell 6; have q0x7 := q0.cell 7; have q0x8 := q0.cell 8; have q0x9 := q0.cell 9; have q0x10 := q0.cell 10; have q0x11 := q0.cell 11; have q0x12 := q0.cell 12; have q0x13 := q0.cell 13; have q0x14 := q0.cell 14; have q1x0 := q1.cell 0; have q1x1 := q1.cell 1; have q1x2 := q1.cell 2; have q1x3 := q1.cell 3; have q1x4 := q1.cell 4; have q1x5 := q1.cell 5; have q1x6 := q1.cell 6; have q1x7 := q1.cell 7; simp at q0x0 q0x1 q0x2 q0x3 q0x4 q0x5 q0x6 q0x7 q0x8 q0x9 q0x10 q0x11 q0x12 q0x13 q0x14 q1x0 q1x1 q1x2 q1x3 q1x4 q1x5 q1x6 q1x7); go_simp; first | done | with_reducible rfl⟩) hHeld ?_
      change RestIn _ _ _ _ _ _ _ 16 #[true, true, true, true, true, true, false, false, false, false, false, false, false, false, false, false, false, false, false, false, false, false] _ _
      try simp only [Act.put, List.setIfInBounds_toArray, List.set_cons_zero, List.set_cons_succ, List.getElem_toArray, List.getElem_cons_zero, List.getElem_cons_succ]
      refine rest_take (i := 6) (v := _) all_wide (noDefers_of (by kernel_rfl)) rfl (by kernel_rfl) (by kernel_rfl) (by kernel_rfl) (fun _ _ _ h => h) (Or.inl ⟨by rfl, by intro w hSw; clear hSw; go_simp; first | done | with_reducible rfl⟩) hHeld ?_
      change RestIn _ _ _ _ _ _ _ 15 #[true, true, true, true, true, true, true, false, false, false, false, false, false, false, false, false, false, false, false, false, false, false] _ _
      try simp only [Act.put, List.setIfInBounds_toArray, List.set_cons_zero, List.set_cons_succ, List.getElem_toArray, List.getElem_cons_zero, List.getElem_cons_succ]
      refine rest_take (i := 7) (v := _) all_wide (noDefers_of (by kernel_rfl)) rfl (by kernel_rfl) (by kernel_rfl) (by kernel_rfl) (fun _ _ _ h => h) (Or.inl ⟨by rfl, by intro w hSw; (obtain ⟨q0, q1, _⟩ := hSw; have q0x0 := q0.cell 0; have q0x1 := q0.cell 1; have q0x2 := q0.cell 2; have q0x3 := q0.cell 3; have q0x4 := q0.cell 4; have q0x5 := q0.cell 5; have q0x6 := q0.cell 6; have q0x7 := q0.cell 7; have q0x8 := q0.cell 8; have q0x9 := q0.cell 9; have q0x10 := q0.cell 10; have q0x11 := q0.cell 11; have q0x12 := q0.cell 12; have q0x13 := q0.cell 13; have q0x14 := q0.cell 14; have q1x0 := q1.cell 0; have q1x1 := q1.cell 1; have q1x2 := q1.cell 2; have q1x3 := q1.cell 3; have q1x4 := q1.cell 4; have q1x5 := q1.cell 5; have q1x6 := q1.cell 6; have q1x7 := q1.cell 7; simp at q0x0 q0x1 q0x2 q0x3 q0x4 q0x5 q0x6 q0x7 q0x8 q0x9 q0x10 q0x11 q0x12 q0x13 q0x14 q1x0 q1x1 q1x2 q1x3 q1x4 q1x5 q1x6 q1x7); go_simp; first | done | with_reducible rfl⟩) hHeld ?_
      change RestIn _ _ _ _ _ _ _ 14 #[true, true, true, true, true, true, true, true, false, false, false, false, false, false, false, false, false, false, false, false, false, false] _ _
      try simp only [Act.put, List.setIfInBounds_toArray, List.set_cons_zero, List.set_cons_succ, List.getElem_toArray, List.getElem_cons_zero, List.getElem_cons_succ]
      refine rest_take (i := 9) (v := _) all_wide (noDefers_of (by kernel_rfl)) rfl (by kernel_rfl) (by kernel_rfl) (by kernel_rfl) (fun _ _ _ h => h) (Or.inl ⟨by rfl, by intro w hSw; clear hSw; go_simp; first | done | with_reducible rfl⟩) hHeld ?_
      change RestIn _ _ _ _ _ _ _ 13 #[true, true, true, true, true, true, true, true, false, true, false, false, false, false, false, false, false, false, false, false, false, false] _ _
      try simp only [Act.put, List.setIfInBounds_toArray, List.set_cons_zero, List.set_cons_succ, List.getElem_toArray, List.getElem_cons_zero, List.getElem_cons_succ]
      refine rest_take (i := 10) (v := _) all_wide (noDefers_of (by kernel_rfl)) rfl (by kernel_rfl) (by kernel_rfl) (by kernel_rfl) (fun _ _ _ h => h) (Or.inl ⟨by rfl, by intro w hSw; clear hSw; go_simp; first | done | with_reducible rfl⟩) hHeld ?_
      change RestIn _ _ _ _ _ _ _ 12 #[true, true, true, true, true, true, true, true, false, true, true, false, false, false, false, false, false, false, false, false, false, false] _ _
      try simp only [Act.put, List.setIfInBounds_toArray, List.set_cons_zero, List.set_cons_succ, List.getElem_toArray, List.getElem_cons_zero, List.getElem_cons_succ]
      refine rest_take (i := 11) (v := _) all_wide (noDefers_of (by kernel_rfl)) rfl (by kernel_rfl) (by kernel_rfl) (by kernel_rfl) (fun _ _ _ h => h) (Or.inl ⟨by rfl, by intro w hSw; clear hSw; go_simp; first | done | with_reducible rfl⟩) hHeld ?_
      change RestIn _ _ _ _ _ _ _ 11 #[true, true, true, true, true, true, true, true, false, true, true, true, false, false, false, false, false, false, false, false, false, false] _ _
      try simp only [Act.put, List.setIfInBounds_toArray, List.set_cons_zero, List.set_cons_succ, List.getElem_toArray, List.getElem_cons_zero, List.getElem_cons_succ]
      refine rest_take (i := 12) (v := _) all_wide (noDefers_of (by kernel_rfl)) rfl (by kernel_rfl) (by kernel_rfl) (by kernel_rfl) (fun _ _ _ h => h) (Or.inl ⟨by rfl, by intro w hSw; (obtain ⟨q0, q1, _⟩ := hSw; have q0x0 := q0.cell 0; have q0x1 := q0.cell 1; have q0x2 := q0.cell 2; have q0x3 := q0.cell 3; have q0x4 := q0.cell 4; have q0x5 := q0.cell 5; have q0x6 := q0.cell 6; have q0x7 := q0.cell 7; have q0x8 := q0.cell 8; have q0x9 := q0.cell 9; have q0x10 := q0.cell 10; have q0x11 := q0.cell 11; have q0x12 := q0.cell 12; have q0x13 := q0.cell 13; have q0x14 := q0.cell 14; have q1x0 := q1.cell 0; have q1x1 := q1.cell 1; have q1x2 := q1.cell 2; have q1x3 := q1.cell 3; have q1x4 := q1.cell 4; have q1x5 := q1.cell 5; have q1x6 := q1.cell 6; have q1x7 := q1.cell 7; simp at q0x0 q0x1 q0x2 q0x3 q0x4 q0x5 q0x6 q0x7 q0x8 q0x9 q0x10 q0x11 q0x12 q0x13 q0x14 q1x0 q1x1 q1x2 q1x3 q1x4 q1x5 q1x6 q1x7); go_simp; first | done | with_reducible rfl⟩) hHeld ?_
      change RestIn _ _ _ _ _ _ _ 10 #[true, true, true, true, true, true, true, true, false, true, true, true, true, false, false, false, false, false, false, false, false, false] _ _
      try simp only [Act.put, List.setIfInBounds_toArray, List.set_cons_zero, List.set_cons_succ, List.getElem_toArray, List.getElem_cons_zero, List.getElem_cons_succ]
      refine rest_take (i := 13) (v := _) all_wide (noDefers_of (by kernel_rfl)) rfl (by kernel_rfl) (by kernel_rfl) (by kernel_rfl) (fun _ _ _ h => h) (Or.inl ⟨by rfl, by intro w hSw; clear hSw; go_simp; first | done | with_reducible rfl⟩) hHeld ?_
      change RestIn _ _ _ _ _ _ _ 9 #[true, true, true, true, true, true, true, true, false, true, true, true, true, true, false, false, false, false, false, false, false, false] _ _
      try simp only [Act.put, List.setIfInBounds_toArray, List.set_cons_zero, List.set_cons_succ, List.getElem_toArray, List.getElem_cons_zero, List.getElem_cons_succ]
      refine rest_take (i := 14) (v := _) all_wide (noDefers_of (by kernel_rfl)) rfl (by kernel_rfl) (by kernel_rfl) (by kernel_rfl) (fun _ _ _ h => h) (Or.inl ⟨by rfl, by intro w hSw; (obtain ⟨q0, q1, _⟩ := hSw; have q0x0 := q0.cell 0; have q0x1 := q0.cell 1; have q0x2 := q0.cell 2; have q0x3 := q0.cell 3; have q0x4 := q0.cell 4; have q0x5 := q0.cell 5; have q0x6 := q0.cell 6; have q0x7 := q0.cell 7; have q0x8 := q0.cell 8; have q0x9 := q0.cell 9; have q0x10 := q0.cell 10; have q0x11 := q0.cell 11; have q0x12 := q0.cell 12; have q0x13 := q0.cell 13; have q0x14 := q0.cell 14; have q1x0 := q1.cell 0; have q1x1 := q1.cell 1; have q1x2 := q1.cell 2; have q1x3 := q1.cell 3; have q1x4 := q1.cell 4; have q1x5 := q1.cell 5; have q1x6 := q1.cell 6; have q1x7 := q1.cell 7; simp at q0x0 q0x1 q0x2 q0x3 q0x4 q0x5 q0x6 q0x7 q0x8 q0x9 q0x10 q0x11 q0x12 q0x13 q0x14 q1x0 q1x1 q1x2 q1x3 q1x4 q1x5 q1x6 q1x7); go_simp; first | done | with_reducible rfl⟩) hHeld ?_
      change RestIn _ _ _ _ _ _ _ 8 #[true, true, true, true, true, true, true, true, false, true, true, true, true, true, true, false, false, false, false, false, false, false] _ _
      try simp only [Act.put, List.setIfInBounds_toArray, List.set_cons_zero, List.set_cons_succ, List.getElem_toArray, List.getElem_cons_zero, List.getElem_cons_succ]
      refine rest_take (i := 15) (v := _) all_wide (noDefers_of (by kernel_rfl)) rfl (by kernel_rfl) (by kernel_rfl) (by kernel_rfl) (fun _ _ _ h => h) (Or.inl ⟨by rfl, by intro w hSw; clear hSw; go_simp; first | done | with_reducible rfl⟩) hHeld ?_
      change RestIn _ _ _ _ _ _ _ 7 #[true, true, true, true, true, true, true, true, false, true, true, true, true, true, true, true, false, false, false, false, false, false] _ _
      try simp only [Act.put, List.setIfInBounds_toArray, List.set_cons_zero, List.set_cons_succ, List.getElem_toArray, List.getElem_cons_zero, List.getElem_cons_succ]
      refine rest_take (i := 16) (v := _) all_wide (noDefers_of (by kernel_rfl)) rfl (by kernel_rfl) (by kernel_rfl) (by kernel_rfl) (fun _ _ _ h => h) (Or.inl ⟨by rfl, by intro w hSw; (obtain ⟨q0, q1, _⟩ := hSw; have q0x0 := q0.cell 0; have q0x1 := q0.cell 1; have q0x2 := q0.cell 2; have q0x3 := q0.cell 3; have q0x4 := q0.cell 4; have q0x5 := q0.cell 5; have q0x6 := q0.cell 6; have q0x7 := q0.cell 7; have q0x8 := q0.cell 8; have q0x9 := q0.cell 9; have q0x10 := q0.cell 10; have q0x11 := q0.cell 11; have q0x12 := q0.cell 12; have q0x13 := q0.cell 13; have q0x14 := q0.cell 14; have q1x0 := q1.cell 0; have q1x1 := q1.cell 1; have q1x2 := q1.cell 2; have q1x3 := q1.cell 3; have q1x4 := q1.cell 4; have q1x5 := q1.cell 5; have q1x6 := q1.cell 6; have q1x7 := q1.cell 7; simp at q0x0 q0x1 q0x2 q0x3 q0x4 q0x5 q0x6 q0x7 q0x8 q0x9 q0x10 q0x11 q0x12 q0x13 q0x14 q1x0 q1x1 q1x2 q1x3 q1x4 q1x5 q1x6 q1x7); go_simp; first | done | with_reducible rfl⟩) hHeld ?_
      change RestIn _ _ _ _ _ _ _ 6 #[true, true, true, true, true, true, true, true, false, true, true, true, true, true, true, true, true, false, false, false, false, false] _ _
      try simp only [Act.put, List.setIfInBounds_toArray, List.set_cons_zero, List.set_cons_succ, List.getElem_toArray, List.getElem_cons_zero, List.getElem_cons_succ]
      refine rest_ready (rs := [8]) (by kernel_rfl) (by simp) ?_
      refine AllRest.cons rfl (fun K hK => ?_) AllRest.nil
      have hNow := (hHeld.2.2)
      clear hLast
      have hLast := hNow
      go_simp
      gi_wp2_with ((refine ⟨trivial, ?_⟩; gi_at_call 37; (with_reducible refine (callsIn_wide.2 (HN0.out _)).mono ?_); rintro e wn ⟨rfl, hb⟩))
      refine hK.out _ _ ?_ (fun hHeld' => ?_)
      · exact ⟨hHeld.1.below hb hHeld.1.lt, hHeld.2.1.below hb hHeld.2.1.lt, (hHeld.2.2).trans (hb.mono (hHeld.2.2).size)⟩
      clear hK K
      change RestIn _ _ _ _ _ _ _ 5 #[true, true, true, true, true, true, true, true, true, true, true, true, true, true, true, true, true, false, false, false, false, false] _ _
      try simp only [Act.put, List.setIfInBounds_toArray, List.set_cons_zero, List.set_cons_succ, List.getElem_toArray, List.getElem_cons_zero, List.getElem_cons_succ]
      clear hHeld
      have hHeld := hHeld'
      clear hHeld'
      have hNow := (hHeld.2.2)
      try have kG := kG.below hb kG.lt
      refine rest_ready (rs := [17]) (by kernel_rfl) (by simp) ?_
      refine AllRest.cons rfl (fun K hK => ?_) AllRest.nil
      have hNow := (hHeld.2.2)
      clear hLast
      have hLast := hNow
      go_simp
      gi_wp2_with ((refine ⟨trivial, ?_⟩; gi_at_call 37; (with_reducible refine (callsIn_wide.2 (HN1.out _)).mono ?_); rintro e wn ⟨rfl, hb⟩))
      refine hK.out _ _ ?_ (fun hHeld' => ?_)
      · exact ⟨hHeld.1.below hb hHeld.1.lt, hHeld.2.1.below hb hHeld.2.1.lt, (hHeld.2.2).trans (hb.mono (hHeld.2.2).size)⟩
      clear hK K
      change RestIn _ _ _ _ _ _ _ 4 #[true, true, true, true, true, true, true, true, true, true, true, true, true, true, true, true, true, true, false, false, false, false] _ _
      try simp only [Act.put, List.setIfInBounds_toArray, List.set_cons_zero, List.set_cons_succ, List.getElem_toArray, List.getElem_cons_zero, List.getElem_cons_succ]
      clear hHeld
      have hHeld := hHeld'
      clear hHeld'
      have hNow := (hHeld.2.2)
      try have kG := kG.below hb kG.lt
      refine rest_take (i := 18) (v := _) all_wide (noDefers_of (by kernel_rfl)) rfl (by kernel_rfl) (by kernel_rfl) (by kernel_rfl) (fun _ _ _ h => h) (Or.inl ⟨by rfl, by intro w hSw; clear hSw; go_simp; first | done | with_reducible rfl⟩) hHeld ?_
      change RestIn _ _ _ _ _ _ _ 3 #[true, true, true, true, true, true, true, true, true, true, true, true, true, true, true, true, true, true, true, false, false, false] _ _
      try simp only [Act.put, List.setIfInBounds_toArray, List.set_cons_zero, List.set_cons_succ, List.getElem_toArray, List.getElem_cons_zero, List.getElem_cons_succ]
      refine rest_take (i := 19) (v := _) all_wide (noDefers_of (by kernel_rfl)) rfl (by kernel_rfl) (by kernel_rfl) (by kernel_rfl) (fun _ _ _ h => h) (Or.inl ⟨by rfl, by intro w hSw; clear hSw; go_simp; first | done | with_reducible rfl⟩) hHeld ?_
      change RestIn _ _ _ _ _ _ _ 2 #[true, true, true, true, true, true, true, true, true, true, true, true, true, true, true, true, true, true, true, true, false, false] _ _
      try simp only [Act.put, List.setIfInBounds_toArray, List.set_cons_zero, List.set_cons_succ, List.getElem_toArray, List.getElem_cons_zero, List.getElem_cons_succ]
      refine rest_take (i := 20) (v := _) all_wide (noDefers_of (by kernel_rfl)) rfl (by kernel_rfl) (by kernel_rfl) (by kernel_rfl) (fun _ _ _ h => h) (Or.inl ⟨by rfl, by intro w hSw; clear hSw; go_simp; first | done | with_reducible rfl⟩) hHeld ?_
      change RestIn _ _ _ _ _ _ _ 1 #[true, true, true, true, true, true, true, true, true, true, true, true, true, true, true, true, true, true, true, true, true, false] _ _
      try simp only [Act.put, List.setIfInBounds_toArray, List.set_cons_zero, List.set_cons_succ, List.getElem_toArray, List.getElem_cons_zero, List.getElem_cons_succ]
      refine rest_ready (rs := [21]) (by kernel_rfl) (by simp) ?_
      refine AllRest.cons rfl (fun K hK => ?_) AllRest.nil
      have kGc0 := kG.cell 0
      have kGc1 := kG.cell 1
      have kGc2 := kG.cell 2
      have kGc3 := kG.cell 3
      have kGc4 := kG.cell 4
      have kGc5 := kG.cell 5
      have kGc6 := kG.cell 6
      have kGc7 := kG.cell 7
      have kGc8 := kG.cell 8
      have kGc9 := kG.cell 9
      have kGc10 := kG.cell 10
      have kGc11 := kG.cell 11
      have kGc12 := kG.cell 12
      have kGc13 := kG.cell 13
      have kGc14 := kG.cell 14
      have kGf0 := kG.frozen 0
      have kGf1 := kG.frozen 1
      have kGf2 := kG.frozen 2
      have kGf3 := kG.frozen 3
      have kGf4 := kG.frozen 4
      have kGf5 := kG.frozen 5
      have kGf6 := kG.frozen 6
      have kGf7 := kG.frozen 7
      have kGf8 := kG.frozen 8
      have kGf9 := kG.frozen 9
      have kGf10 := kG.frozen 10
      have kGf11 := kG.frozen 11
      have kGf12 := kG.frozen 12
      have kGf13 := kG.frozen 13
      have kGf14 := kG.frozen 14
      have kGl := kG.lt
      try simp at kGc0
      try simp at kGc1
      try simp at kGc2
      try simp at kGc3
      try simp at kGc4
      try simp at kGc5
      try simp at kGc6
      try simp at kGc7
      try simp at kGc8
      try simp at kGc9
      try simp at kGc10
      try simp at kGc11
      try simp at kGc12
      try simp at kGc13
      try simp at kGc14
      try simp at kGf0
      try simp at kGf1
      try simp at kGf2
      try simp at kGf3
      try simp at kGf4
      try simp at kGf5
      try simp at kGf6
      try simp at kGf7
      try simp at kGf8
      try simp at kGf9
      try simp at kGf10
      try simp at kGf11
      try simp at kGf12
      try simp at kGf13
      try simp at kGf14
      try simp at kGl
      have hNow := (hHeld.2.2)
      go_simp
      refine hK.out _ _ ?_ (fun hHeld' => ?_)
      · (refine (fun (hbel : Below W0.heap.size W0 _) => ⟨kF.below hbel kF.lt, kD.below hbel kD.lt, hbel⟩) ?_; repeat' (first | with_reducible exact hNow | with_reducible exact hOld | with_reducible refine Below.setCell ?_ (by (try simp) <;> omega) _ | with_reducible refine Below.alloc ?_ (by (try simp) <;> omega) _))
      clear hK K
      change RestIn _ _ _ _ _ _ _ 0 #[true, true, true, true, true, true, true, true, true, true, true, true, true, true, true, true, true, true, true, true, true, true] _ _
      try simp only [Act.put, List.setIfInBounds_toArray, List.set_cons_zero, List.set_cons_succ, List.getElem_toArray, List.getElem_cons_zero, List.getElem_cons_succ]
      clear hHeld
      have hHeld := hHeld'
      clear hHeld'
      have hNow := (hHeld.2.2)
      refine rest_done (by kernel_rfl) ?_
      clear hLast kF1 kD1 hBel1
      try clear kGc0 kGf0; try clear kGc1 kGf1; try clear kGc2 kGf2; try clear kGc3 kGf3; try clear kGc4 kGf4; try clear kGc5 kGf5; try clear kGc6 kGf6; try clear kGc7 kGf7; try clear kGc8 kGf8; try clear kGc9 kGf9; try clear kGc10 kGf10; try clear kGc11 kGf11; try clear kGc12 kGf12; try clear kGc13 kGf13; try clear kGc14 kGf14
      have kG1 := (((kG.set_ 0 (.int .i64 g.pos.x.lo)).set_ 1 (.int .i64 g.pos.x.hi)).set_ 2 (.int .i64 g.pos.z.lo)).set_ 3 (.int .i64 g.pos.z.hi)
      have kF1 := hHeld.1
      have kD1 := hHeld.2.1
      have hB1 := hHeld.2.2
      clear hHeld hNow kG
      go_upto_region 11 with fail
      as_aux_lemma =>
        refine name_world (motive := fun W => Code.wp _ _ _ _ W) _ ?_
        intro W1 hW1
        have kF2 := hW1.blk kF1
        have kD2 := hW1.blk kD1
        have kG := (hW1.blk kG1).drew
        have hB2 := hW1.below hB1
        clear kF1 kD1 kG1 hB1 hW1
        refine (wpIn_wide (n := 9)).1 ?_
        have hLast := trivial
        refine region_rest (S := (fun w' => Blk w' (w.heap.size) 32 #[.int .i64 f.fly.pos.x.lo, .int .i64 f.fly.pos.x.hi, .int .i64 f.fly.pos.z.lo, .int .i64 f.fly.pos.z.hi, .int .i64 f.fly.speed.x.lo, .int .i64 f.fly.speed.x.hi, .int .i64 f.fly.speed.z.lo, .int .i64 f.fly.speed.z.hi, .int .i64 f.fly.mass, .slice A f.cycle.length c, .int .i64 f.reach, .int .i64 f.soft, .int .i64 f.bears, .int .i64 f.least, .int .i64 f.most] ∧ Blk w' (w.heap.size + 1) 83 #[.int .u8 a0, .int .u8 a1, .int .u8 a2, .int .u8 a3, .int .u8 a4, .int .u8 a5, .int .u8 a6, .int .u8 a7] ∧ Below W0.heap.size W0 w')) hmx ?_ (fun hHeld => ?_)
        · exact ⟨kF2.drew, kD2.drew, hB2.drew⟩
        change RestIn _ _ _ _ _ _ _ 22 #[false, false, false, false, false, false, false, false, false, false, false, false, false, false, false, false, false, false, false, false, false, false] _ (World.drew _)
        refine rest_take (i := 0) (v := _) all_wide (noDefers_of (by kernel_rfl)) rfl (by kernel_rfl) (by kernel_rfl) (by kernel_rfl) (fun _ _ _ h => h) (Or.inl ⟨by rfl, by intro w hSw; clear hSw; go_simp; first | done | with_reducible rfl⟩) hHeld ?_
        change RestIn _ _ _ _ _ _ _ 21 #[true, false, false, false, false, false, false, false, false, false, false, false, false, false, false, false, false, false, false, false, false, false] _ _
        try simp only [Act.put, List.setIfInBounds_toArray, List.set_cons_zero, List.set_cons_succ, List.getElem_toArray, List.getElem_cons_zero, List.getElem_cons_succ]
        refine rest_take (i := 1) (v := _) all_wide (noDefers_of (by kernel_rfl)) rfl (by kernel_rfl) (by kernel_rfl) (by kernel_rfl) (fun _ _ _ h => h) (Or.inl ⟨by rfl, by intro w hSw; clear hSw; go_simp; first | done | with_reducible rfl⟩) hHeld ?_
        change RestIn _ _ _ _ _ _ _ 20 #[true, true, false, false, false, false, false, false, false, false, false, false, false, false, false, false, false, false, false, false, false, false] _ _
        try simp only [Act.put, List.setIfInBounds_toArray, List.set_cons_zero, List.set_cons_succ, List.getElem_toArray, List.getElem_cons_zero, List.getElem_cons_succ]
        refine rest_take (i := 2) (v := _) all_wide (noDefers_of (by kernel_rfl)) rfl (by kernel_rfl) (by kernel_rfl) (by kernel_rfl) (fun _ _ _ h => h) (Or.inl ⟨by rfl, by intro w hSw; clear hSw; go_simp; first | done | with_reducible rfl⟩) hHeld ?_
        change RestIn _ _ _ _ _ _ _ 19 #[true, true, true, false, false, false, false, false, false, false, false, false, false, false, false, false, false, false, false, false, false, false] _ _
        try simp only [Act.put, List.setIfInBounds_toArray, List.set_cons_zero, List.set_cons_succ, List.getElem_toArray, List.getElem_cons_zero, List.getElem_cons_succ]
        refine rest_take (i := 3) (v := _) all_wide (noDefers_of (by kernel_rfl)) rfl (by kernel_rfl) (by kernel_rfl) (by kernel_rfl) (fun _ _ _ h => h) (Or.inl ⟨by rfl, by intro w hSw; (obtain ⟨q0, q1, _⟩ := hSw; have q0x0 := q0.cell 0; have q0x1 := q0.cell 1; have q0x2 := q0.cell 2; have q0x3 := q0.cell 3; have q0x4 := q0.cell 4; have q0x5 := q0.cell 5; have q0x6 := q0.cell 6; have q0x7 := q0.cell 7; have q0x8 := q0.cell 8; have q0x9 := q0.cell 9; have q0x10 := q0.cell 10; have q0x11 := q0.cell 11; have q0x12 := q0.cell 12; have q0x13 := q0.cell 13; have q0x14 := q0.cell 14; have q1x0 := q1.cell 0; have q1x1 := q1.cell 1; have q1x2 := q1.cell 2; have q1x3 := q1.cell 3; have q1x4 := q1.cell 4; have q1x5 := q1.cell 5; have q1x6 := q1.cell 6; have q1x7 := q1.cell 7; simp at q0x0 q0x1 q0x2 q0x3 q0x4 q0x5 q0x6 q0x7 q0x8 q0x9 q0x10 q0x11 q0x12 q0x13 q0x14 q1x0 q1x1 q1x2 q1x3 q1x4 q1x5 q1x6 q1x7); go_simp; first | done | with_reducible rfl⟩) hHeld ?_
        change RestIn _ _ _ _ _ _ _ 18 #[true, true, true, true, false, false, false, false, false, false, false, false, false, false, false, false, false, false, false, false, false, false] _ _
        try simp only [Act.put, List.setIfInBounds_toArray, List.set_cons_zero, List.set_cons_succ, List.getElem_toArray, List.getElem_cons_zero, List.getElem_cons_succ]
        refine rest_take (i := 4) (v := _) all_wide (noDefers_of (by kernel_rfl)) rfl (by kernel_rfl) (by kernel_rfl) (by kernel_rfl) (fun _ _ _ h => h) (Or.inl ⟨by rfl, by intro w hSw; clear hSw; go_simp; first | done | with_reducible rfl⟩) hHeld ?_
        change RestIn _ _ _ _ _ _ _ 17 #[true, true, true, true, true, false, false, false, false, false, false, false, false, false, false, false, false, false, false, false, false, false] _ _
        try simp only [Act.put, List.setIfInBounds_toArray, List.set_cons_zero, List.set_cons_succ, List.getElem_toArray, List.getElem_cons_zero, List.getElem_cons_succ]
        refine rest_take (i := 5) (v := _) all_wide (noDefers_of (by kernel_rfl)) rfl (by kernel_rfl) (by kernel_rfl) (by kernel_rfl) (fun _ _ _ h => h) (Or.inl ⟨by rfl, by intro w hSw; (obtain ⟨q0, q1, _⟩ := hSw; have q0x0 := q0.cell 0; have q0x1 := q0.cell 1; have q0x2 := q0.cell 2; have q0x3 := q0.cell 3; have q0x4 := q0.cell 4; have q0x5 := q0.cell 5; have q0x6 := q0.cell 6; have q0x7 := q0.cell 7; have q0x8 := q0.cell 8; have q0x9 := q0.cell 9; have q0x10 := q0.cell 10; have q0x11 := q0.cell 11; have q0x12 := q0.cell 12; have q0x13 := q0.cell 13; have q0x14 := q0.cell 14; have q1x0 := q1.cell 0; have q1x1 := q1.cell 1; have q1x2 := q1.cell 2; have q1x3 := q1.cell 3; have q1x4 := q1.cell 4; have q1x5 := q1.cell 5; have q1x6 := q1.cell 6; have q1x7 := q1.cell 7; simp at q0x0 q0x1 q0x2 q0x3 q0x4 q0x5 q0x6 q0x7 q0x8 q0x9 q0x10 q0x11 q0x12 q0x13 q0x14 q1x0 q1x1 q1x2 q1x3 q1x4 q1x5 q1x6 q1x7); go_simp; first | done | with_reducible rfl⟩) hHeld ?_
        change RestIn _ _ _ _ _ _ _ 16 #[true, true, true, true, true, true, false, false, false, false, false, false, false, false, false, false, false, false, false, false, false, false] _ _
        try simp only [Act.put, List.setIfInBounds_toArray, List.set_cons_zero, List.set_cons_succ, List.getElem_toArray, List.getElem_cons_zero, List.getElem_cons_succ]
        refine rest_take (i := 6) (v := _) all_wide (noDefers_of (by kernel_rfl)) rfl (by kernel_rfl) (by kernel_rfl) (by kernel_rfl) (fun _ _ _ h => h) (Or.inl ⟨by rfl, by intro w hSw; clear hSw; go_simp; first | done | with_reducible rfl⟩) hHeld ?_
        change RestIn _ _ _ _ _ _ _ 15 #[true, true, true, true, true, true, true, false, false, false, false, false, false, false, false, false, false, false, false, false, false, false] _ _
        try simp only [Act.put, List.setIfInBounds_toArray, List.set_cons_zero, List.set_cons_succ, List.getElem_toArray, List.getElem_cons_zero, List.getElem_cons_succ]
        refine rest_take (i := 7) (v := _) all_wide (noDefers_of (by kernel_rfl)) rfl (by kernel_rfl) (by kernel_rfl) (by kernel_rfl) (fun _ _ _ h => h) (Or.inl ⟨by rfl, by intro w hSw; (obtain ⟨q0, q1, _⟩ := hSw; have q0x0 := q0.cell 0; have q0x1 := q0.cell 1; have q0x2 := q0.cell 2; have q0x3 := q0.cell 3; have q0x4 := q0.cell 4; have q0x5 := q0.cell 5; have q0x6 := q0.cell 6; have q0x7 := q0.cell 7; have q0x8 := q0.cell 8; have q0x9 := q0.cell 9; have q0x10 := q0.cell 10; have q0x11 := q0.cell 11; have q0x12 := q0.cell 12; have q0x13 := q0.cell 13; have q0x14 := q0.cell 14; have q1x0 := q1.cell 0; have q1x1 := q1.cell 1; have q1x2 := q1.cell 2; have q1x3 := q1.cell 3; have q1x4 := q1.cell 4; have q1x5 := q1.cell 5; have q1x6 := q1.cell 6; have q1x7 := q1.cell 7; simp at q0x0 q0x1 q0x2 q0x3 q0x4 q0x5 q0x6 q0x7 q0x8 q0x9 q0x10 q0x11 q0x12 q0x13 q0x14 q1x0 q1x1 q1x2 q1x3 q1x4 q1x5 q1x6 q1x7); go_simp; first | done | with_reducible rfl⟩) hHeld ?_
        change RestIn _ _ _ _ _ _ _ 14 #[true, true, true, true, true, true, true, true, false, false, false, false, false, false, false, false, false, false, false, false, false, false] _ _
        try simp only [Act.put, List.setIfInBounds_toArray, List.set_cons_zero, List.set_cons_succ, List.getElem_toArray, List.getElem_cons_zero, List.getElem_cons_succ]
        refine rest_take (i := 9) (v := _) all_wide (noDefers_of (by kernel_rfl)) rfl (by kernel_rfl) (by kernel_rfl) (by kernel_rfl) (fun _ _ _ h => h) (Or.inl ⟨by rfl, by intro w hSw; clear hSw; go_simp; first | done | with_reducible rfl⟩) hHeld ?_
        change RestIn _ _ _ _ _ _ _ 13 #[true, true, true, true, true, true, true, true, false, true, false, false, false, false, false, false, false, false, false, false, false, false] _ _
        try simp only [Act.put, List.setIfInBounds_toArray, List.set_cons_zero, List.set_cons_succ, List.getElem_toArray, List.getElem_cons_zero, List.getElem_cons_succ]
        refine rest_take (i := 10) (v := _) all_wide (noDefers_of (by kernel_rfl)) rfl (by kernel_rfl) (by kernel_rfl) (by kernel_rfl) (fun _ _ _ h => h) (Or.inl ⟨by rfl, by intro w hSw; clear hSw; go_simp; first | done | with_reducible rfl⟩) hHeld ?_
        change RestIn _ _ _ _ _ _ _ 12 #[true, true, true, true, true, true, true, true, false, true, true, false, false, false, false, false, false, false, false, false, false, false] _ _
        try simp only [Act.put, List.setIfInBounds_toArray, List.set_cons_zero, List.set_cons_succ, List.getElem_toArray, List.getElem_cons_zero, List.getElem_cons_succ]
        refine rest_take (i := 11) (v := _) all_wide (noDefers_of (by kernel_rfl)) rfl (by kernel_rfl) (by kernel_rfl) (by kernel_rfl) (fun _ _ _ h => h) (Or.inl ⟨by rfl, by intro w hSw; clear hSw; go_simp; first | done | with_reducible rfl⟩) hHeld ?_
        change RestIn _ _ _ _ _ _ _ 11 #[true, true, true, true, true, true, true, true, false, true, true, true, false, false, false, false, false, false, false, false, false, false] _ _
        try simp only [Act.put, List.setIfInBounds_toArray, List.set_cons_zero, List.set_cons_succ, List.getElem_toArray, List.getElem_cons_zero, List.getElem_cons_succ]
        refine rest_take (i := 12) (v := _) all_wide (noDefers_of (by kernel_rfl)) rfl (by kernel_rfl) (by kernel_rfl) (by kernel_rfl) (fun _ _ _ h => h) (Or.inl ⟨by rfl, by intro w hSw; (obtain ⟨q0, q1, _⟩ := hSw; have q0x0 := q0.cell 0; have q0x1 := q0.cell 1; have q0x2 := q0.cell 2; have q0x3 := q0.cell 3; have q0x4 := q0.cell 4; have q0x5 := q0.cell 5; have q0x6 := q0.cell 6; have q0x7 := q0.cell 7; have q0x8 := q0.cell 8; have q0x9 := q0.cell 9; have q0x10 := q0.cell 10; have q0x11 := q0.cell 11; have q0x12 := q0.cell 12; have q0x13 := q0.cell 13; have q0x14 := q0.cell 14; have q1x0 := q1.cell 0; have q1x1 := q1.cell 1; have q1x2 := q1.cell 2; have q1x3 := q1.cell 3; have q1x4 := q1.cell 4; have q1x5 := q1.cell 5; have q1x6 := q1.cell 6; have q1x7 := q1.cell 7; simp at q0x0 q0x1 q0x2 q0x3 q0x4 q0x5 q0x6 q0x7 q0x8 q0x9 q0x10 q0x11 q0x12 q0x13 q0x14 q1x0 q1x1 q1x2 q1x3 q1x4 q1x5 q1x6 q1x7); go_simp; first | done | with_reducible rfl⟩) hHeld ?_
        change RestIn _ _ _ _ _ _ _ 10 #[true, true, true, true, true, true, true, true, false, true, true, true, true, false, false, false, false, false, false, false, false, false] _ _
        try simp only [Act.put, List.setIfInBounds_toArray, List.set_cons_zero, List.set_cons_succ, List.getElem_toArray, List.getElem_cons_zero, List.getElem_cons_succ]
        refine rest_take (i := 13) (v := _) all_wide (noDefers_of (by kernel_rfl)) rfl (by kernel_rfl) (by kernel_rfl) (by kernel_rfl) (fun _ _ _ h => h) (Or.inl ⟨by rfl, by intro w hSw; clear hSw; go_simp; first | done | with_reducible rfl⟩) hHeld ?_
        change RestIn _ _ _ _ _ _ _ 9 #[true, true, true, true, true, true, true, true, false, true, true, true, true, true, false, false, false, false, false, false, false, false] _ _
        try simp only [Act.put, List.setIfInBounds_toArray, List.set_cons_zero, List.set_cons_succ, List.getElem_toArray, List.getElem_cons_zero, List.getElem_cons_succ]
        refine rest_take (i := 14) (v := _) all_wide (noDefers_of (by kernel_rfl)) rfl (by kernel_rfl) (by kernel_rfl) (by kernel_rfl) (fun _ _ _ h => h) (Or.inl ⟨by rfl, by intro w hSw; (obtain ⟨q0, q1, _⟩ := hSw; have q0x0 := q0.cell 0; have q0x1 := q0.cell 1; have q0x2 := q0.cell 2; have q0x3 := q0.cell 3; have q0x4 := q0.cell 4; have q0x5 := q0.cell 5; have q0x6 := q0.cell 6; have q0x7 := q0.cell 7; have q0x8 := q0.cell 8; have q0x9 := q0.cell 9; have q0x10 := q0.cell 10; have q0x11 := q0.cell 11; have q0x12 := q0.cell 12; have q0x13 := q0.cell 13; have q0x14 := q0.cell 14; have q1x0 := q1.cell 0; have q1x1 := q1.cell 1; have q1x2 := q1.cell 2; have q1x3 := q1.cell 3; have q1x4 := q1.cell 4; have q1x5 := q1.cell 5; have q1x6 := q1.cell 6; have q1x7 := q1.cell 7; simp at q0x0 q0x1 q0x2 q0x3 q0x4 q0x5 q0x6 q0x7 q0x8 q0x9 q0x10 q0x11 q0x12 q0x13 q0x14 q1x0 q1x1 q1x2 q1x3 q1x4 q1x5 q1x6 q1x7); go_simp; first | done | with_reducible rfl⟩) hHeld ?_
        change RestIn _ _ _ _ _ _ _ 8 #[true, true, true, true, true, true, true, true, false, true, true, true, true, true, true, false, false, false, false, false, false, false] _ _
        try simp only [Act.put, List.setIfInBounds_toArray, List.set_cons_zero, List.set_cons_succ, List.getElem_toArray, List.getElem_cons_zero, List.getElem_cons_succ]
        refine rest_take (i := 15) (v := _) all_wide (noDefers_of (by kernel_rfl)) rfl (by kernel_rfl) (by kernel_rfl) (by kernel_rfl) (fun _ _ _ h => h) (Or.inl ⟨by rfl, by intro w hSw; clear hSw; go_simp; first | done | with_reducible rfl⟩) hHeld ?_
        change RestIn _ _ _ _ _ _ _ 7 #[true, true, true, true, true, true, true, true, false, true, true, true, true, true, true, true, false, false, false, false, false, false] _ _
        try simp only [Act.put, List.setIfInBounds_toArray, List.set_cons_zero, List.set_cons_succ, List.getElem_toArray, List.getElem_cons_zero, List.getElem_cons_succ]
        refine rest_take (i := 16) (v := _) all_wide (noDefers_of (by kernel_rfl)) rfl (by kernel_rfl) (by kernel_rfl) (by kernel_rfl) (fun _ _ _ h => h) (Or.inl ⟨by rfl, by intro w hSw; (obtain ⟨q0, q1, _⟩ := hSw; have q0x0 := q0.cell 0; have q0x1 := q0.cell 1; have q0x2 := q0.cell 2; have q0x3 := q0.cell 3; have q0x4 := q0.cell 4; have q0x5 := q0.cell 5; have q0x6 := q0.cell 6; have q0x7 := q0.cell 7; have q0x8 := q0.cell 8; have q0x9 := q0.cell 9; have q0x10 := q0.cell 10; have q0x11 := q0.cell 11; have q0x12 := q0.cell 12; have q0x13 := q0.cell 13; have q0x14 := q0.cell 14; have q1x0 := q1.cell 0; have q1x1 := q1.cell 1; have q1x2 := q1.cell 2; have q1x3 := q1.cell 3; have q1x4 := q1.cell 4; have q1x5 := q1.cell 5; have q1x6 := q1.cell 6; have q1x7 := q1.cell 7; simp at q0x0 q0x1 q0x2 q0x3 q0x4 q0x5 q0x6 q0x7 q0x8 q0x9 q0x10 q0x11 q0x12 q0x13 q0x14 q1x0 q1x1 q1x2 q1x3 q1x4 q1x5 q1x6 q1x7); go_simp; first | done | with_reducible rfl⟩) hHeld ?_
        change RestIn _ _ _ _ _ _ _ 6 #[true, true, true, true, true, true, true, true, false, true, true, true, true, true, true, true, true, false, false, false, false, false] _ _
        try simp only [Act.put, List.setIfInBounds_toArray, List.set_cons_zero, List.set_cons_succ, List.getElem_toArray, List.getElem_cons_zero, List.getElem_cons_succ]
        refine rest_ready (rs := [8]) (by kernel_rfl) (by simp) ?_
        refine AllRest.cons rfl (fun K hK => ?_) AllRest.nil
        have hNow := (hHeld.2.2)
        clear hLast
        have hLast := hNow
        go_simp
        gi_wp2_with ((refine ⟨trivial, ?_⟩; gi_at_call 37; (with_reducible refine (callsIn_wide.2 (HN2.out _)).mono ?_); rintro e wn ⟨rfl, hb⟩))
        refine hK.out _ _ ?_ (fun hHeld' => ?_)
        · exact ⟨hHeld.1.below hb hHeld.1.lt, hHeld.2.1.below hb hHeld.2.1.lt, (hHeld.2.2).trans (hb.mono (hHeld.2.2).size)⟩
        clear hK K
        change RestIn _ _ _ _ _ _ _ 5 #[true, true, true, true, true, true, true, true, true, true, true, true, true, true, true, true, true, false, false, false, false, false] _ _
        try simp only [Act.put, List.setIfInBounds_toArray, List.set_cons_zero, List.set_cons_succ, List.getElem_toArray, List.getElem_cons_zero, List.getElem_cons_succ]
        clear hHeld
        have hHeld := hHeld'
        clear hHeld'
        have hNow := (hHeld.2.2)
        try have kG := kG.below hb kG.lt
        refine rest_ready (rs := [17]) (by kernel_rfl) (by simp) ?_
        refine AllRest.cons rfl (fun K hK => ?_) AllRest.nil
        have hNow := (hHeld.2.2)
        clear hLast
        have hLast := hNow
        go_simp
        gi_wp2_with ((refine ⟨trivial, ?_⟩; gi_at_call 37; (with_reducible refine (callsIn_wide.2 (HN3.out _)).mono ?_); rintro e wn ⟨rfl, hb⟩))
        refine hK.out _ _ ?_ (fun hHeld' => ?_)
        · exact ⟨hHeld.1.below hb hHeld.1.lt, hHeld.2.1.below hb hHeld.2.1.lt, (hHeld.2.2).trans (hb.mono (hHeld.2.2).size)⟩
        clear hK K
        change RestIn _ _ _ _ _ _ _ 4 #[true, true, true, true, true, true, true, true, true, true, true, true, true, true, true, true, true, true, false, false, false, false] _ _
        try simp only [Act.put, List.setIfInBounds_toArray, List.set_cons_zero, List.set_cons_succ, List.getElem_toArray, List.getElem_cons_zero, List.getElem_cons_succ]
        clear hHeld
        have hHeld := hHeld'
        clear hHeld'
        have hNow := (hHeld.2.2)
        try have kG := kG.below hb kG.lt
        refine rest_take (i := 18) (v := _) all_wide (noDefers_of (by kernel_rfl)) rfl (by kernel_rfl) (by kernel_rfl) (by kernel_rfl) (fun _ _ _ h => h) (Or.inl ⟨by rfl, by intro w hSw; clear hSw; go_simp; first | done | with_reducible rfl⟩) hHeld ?_
        change RestIn _ _ _ _ _ _ _ 3 #[true, true, true, true, true, true, true, true, true, true, true, true, true, true, true, true, true, true, true, false, false, false] _ _
        try simp only [Act.put, List.setIfInBounds_toArray, List.set_cons_zero, List.set_cons_succ, List.getElem_toArray, List.getElem_cons_zero, List.getElem_cons_succ]
        refine rest_take (i := 19) (v := _) all_wide (noDefers_of (by kernel_rfl)) rfl (by kernel_rfl) (by kernel_rfl) (by kernel_rfl) (fun _ _ _ h => h) (Or.inl ⟨by rfl, by intro w hSw; clear hSw; go_simp; first | done | with_reducible rfl⟩) hHeld ?_
        change RestIn _ _ _ _ _ _ _ 2 #[true, true, true, true, true, true, true, true, true, true, true, true, true, true, true, true, true, true, true, true, false, false] _ _
        try simp only [Act.put, List.setIfInBounds_toArray, List.set_cons_zero, List.set_cons_succ, List.getElem_toArray, List.getElem_cons_zero, List.getElem_cons_succ]
        refine rest_take (i := 20) (v := _) all_wide (noDefers_of (by kernel_rfl)) rfl (by kernel_rfl) (by kernel_rfl) (by kernel_rfl) (fun _ _ _ h => h) (Or.inl ⟨by rfl, by intro w hSw; clear hSw; go_simp; first | done | with_reducible rfl⟩) hHeld ?_
        change RestIn _ _ _ _ _ _ _ 1 #[true, true, true, true, true, true, true, true, true, true, true, true, true, true, true, true, true, true, true, true, true, false] _ _
        try simp only [Act.put, List.setIfInBounds_toArray, List.set_cons_zero, List.set_cons_succ, List.getElem_toArray, List.getElem_cons_zero, List.getElem_cons_succ]
        refine rest_ready (rs := [21]) (by kernel_rfl) (by simp) ?_
        refine AllRest.cons rfl (fun K hK => ?_) AllRest.nil
        have kGc0 := kG.cell 0
        have kGc1 := kG.cell 1
        have kGc2 := kG.cell 2
        have kGc3 := kG.cell 3
        have kGc4 := kG.cell 4
        have kGc5 := kG.cell 5
        have kGc6 := kG.cell 6
        have kGc7 := kG.cell 7
        have kGc8 := kG.cell 8
        have kGc9 := kG.cell 9
        have kGc10 := kG.cell 10
        have kGc11 := kG.cell 11
        have kGc12 := kG.cell 12
        have kGc13 := kG.cell 13
        have kGc14 := kG.cell 14
        have kGf0 := kG.frozen 0
        have kGf1 := kG.frozen 1
        have kGf2 := kG.frozen 2
        have kGf3 := kG.frozen 3
        have kGf4 := kG.frozen 4
        have kGf5 := kG.frozen 5
        have kGf6 := kG.frozen 6
        have kGf7 := kG.frozen 7
        have kGf8 := kG.frozen 8
        have kGf9 := kG.frozen 9
        have kGf10 := kG.frozen 10
        have kGf11 := kG.frozen 11
        have kGf12 := kG.frozen 12
        have kGf13 := kG.frozen 13
        have kGf14 := kG.frozen 14
        have kGl := kG.lt
        try simp at kGc0
        try simp at kGc1
        try simp at kGc2
        try simp at kGc3
        try simp at kGc4
        try simp at kGc5
        try simp at kGc6
        try simp at kGc7
        try simp at kGc8
        try simp at kGc9
        try simp at kGc10
        try simp at kGc11
        try simp at kGc12
        try simp at kGc13
        try simp at kGc14
        try simp at kGf0
        try simp at kGf1
        try simp at kGf2
        try simp at kGf3
        try simp at kGf4
        try simp at kGf5
        try simp at kGf6
        try simp at kGf7
        try simp at kGf8
        try simp at kGf9
        try simp at kGf10
        try simp at kGf11
        try simp at kGf12
        try simp at kGf13
        try simp at kGf14
        try simp at kGl
        have hNow := (hHeld.2.2)
        go_simp
        refine hK.out _ _ ?_ (fun hHeld' => ?_)
        · (refine (fun (hbel : Below W0.heap.size W0 _) => ⟨kF.below hbel kF.lt, kD.below hbel kD.lt, hbel⟩) ?_; repeat' (first | with_reducible exact hNow | with_reducible exact hOld | with_reducible refine Below.setCell ?_ (by (try simp) <;> omega) _ | with_reducible refine Below.alloc ?_ (by (try simp) <;> omega) _))
        clear hK K
        change RestIn _ _ _ _ _ _ _ 0 #[true, true, true, true, true, true, true, true, true, true, true, true, true, true, true, true, true, true, true, true, true, true] _ _
        try simp only [Act.put, List.setIfInBounds_toArray, List.set_cons_zero, List.set_cons_succ, List.getElem_toArray, List.getElem_cons_zero, List.getElem_cons_succ]
        clear hHeld
        have hHeld := hHeld'
        clear hHeld'
        have hNow := (hHeld.2.2)
        refine rest_done (by kernel_rfl) ?_
        clear hLast kF2 kD2 hB2
        try clear kGc0 kGf0; try clear kGc1 kGf1; try clear kGc2 kGf2; try clear kGc3 kGf3; try clear kGc4 kGf4; try clear kGc5 kGf5; try clear kGc6 kGf6; try clear kGc7 kGf7; try clear kGc8 kGf8; try clear kGc9 kGf9; try clear kGc10 kGf10; try clear kGc11 kGf11; try clear kGc12 kGf12; try clear kGc13 kGf13; try clear kGc14 kGf14
        have kG1 := (((kG.set_ 4 (.int .i64 g.speed.x.lo)).set_ 5 (.int .i64 g.speed.x.hi)).set_ 6 (.int .i64 g.speed.z.lo)).set_ 7 (.int .i64 g.speed.z.hi)
        have hB1 := hHeld.2.2
        have hR1 := hR0.to hB1
        have hSa1 := hSa.to hB1
        have hSb1 := hSb.to hB1
        have HB1 := Lib.hid (HB0.out.trans (hB1.mono HB0.out.size))
        clear hHeld hNow kG kF kD hR0 hSa hSb HB0
        as_aux_lemma =>
          go_upto_region 12 with fail
          obtain ⟨Wy, hWy⟩ : ∃ x, x = W0 := ⟨_, rfl⟩
          subst hWy
          refine name_world (motive := fun W => Code.wp _ _ _ _ W) _ ?_
          intro W0 hW
          have hWc := hW.cell
          have hWz := hW.size
          have hWb := hW.below (hB1)
          have kF : Blk W0 Wy.heap.size 32 #[.int .i64 g.pos.x.lo, .int .i64 g.pos.x.hi, .int .i64 g.pos.z.lo, .int .i64 g.pos.z.hi, .int .i64 g.speed.x.lo, .int .i64 g.speed.x.hi, .int .i64 g.speed.z.lo, .int .i64 g.speed.z.hi, .int .i64 g.mass, .slice A f.cycle.length c, .int .i64 f.reach, .int .i64 f.soft, .int .i64 f.bears, .int .i64 f.least, .int .i64 f.most] := by have := hW.blk kG1; rw [gm]; exact this
          clear gm
          have hR0 := hR1.to (hW.below (Below.refl _ _))
          have hSa := hSa1.to (hW.below (Below.refl _ _))
          have hSb := hSb1.to (hW.below (Below.refl _ _))
          have HB0 := Lib.hid (HB1.out.trans ((hW.below (Below.refl _ _)).mono HB1.out.size))
          clear kG1 hB1 hR1 hSa1 hSb1 HB1 hW hWc hWz hWb
          as_aux_lemma =>
            have x0 := kF.cell 0; have x1 := kF.cell 1; have x2 := kF.cell 2; have x3 := kF.cell 3; have x4 := kF.cell 4; have x5 := kF.cell 5; have x6 := kF.cell 6; have x7 := kF.cell 7; have x8 := kF.cell 8; have x9 := kF.cell 9; have x10 := kF.cell 10; have x11 := kF.cell 11; have x12 := kF.cell 12; have x13 := kF.cell 13; have x14 := kF.cell 14; simp at x0 x1 x2 x3 x4 x5 x6 x7 x8 x9 x10 x11 x12 x13 x14
            go_upto_region 13 with (first | ((go_at_call 19; (with_reducible refine (HFL3.out _ hR0).mono ?_); rintro e w1 ⟨A3, c3, rfl, hs3, hb1⟩)) | ((go_at_call 35; (with_reducible refine (HC3.out _ _ _ hs3).mono ?_); rintro e w2 ⟨Ac, cc, rfl, hSc, hb2⟩; have hX2 := sh_next hb1 hb2)))
            have tok2 : True := trivial
            go_wp2_with (first | ((go_at_call 38; have := tok2; clear this tok2; (with_reducible refine (HW2.out _ _ _ _ _ (hSa.to hX2) (hSb.to hX2)).mono ?_); rintro e w3 ⟨rfl, hb3⟩; have hX3 := sh_next hX2 hb3)) | ((go_at_call 38; (with_reducible refine (HW3.out _ _ _ _ _ (hSa.to hX3) (hSc.to hb3)).mono ?_); rintro e w4 ⟨rfl, hb4⟩; have hX4 := sh_next hX3 hb4)) | (go_at_call 15; refine (wakes_any _).mono ?_; rintro e w5 ⟨rfl, hb5⟩))
            go_ret
            exact ⟨rfl, HB0.out.trans ((sh_next hX4 hb5).mono HB0.out.size)⟩
end Go.Proofs.Ytmhnbchfmddhcaa
