import Derived.Test.YtmidkopiiifakaaConvF

/- A cycle later there are the same catches. -/
namespace Go.Proofs.Ytmidkopiiifakaa
open Go.RowKit Go.Shelf
theorem sure_mem {f : Flt} {r x : Nat} (h : x ∈ sureL f r) : x ≤ r + 300 := by
  unfold sureL sureTo at h
  obtain ⟨t, _, rfl⟩ := List.mem_map.1 h
  have := t.2
  omega
theorem sure_cycle {f : Flt} {r : Nat} : sureL f (r + f.cycle.length) = (sureL f r).map (· + f.cycle.length) := by
  have hh : ∀ t, f.hitB (r + f.cycle.length) t = f.hitB r t := by
    intro t
    unfold Flt.hitB Flt.hands
    rw [show r + f.cycle.length + t = (r + t) + f.cycle.length by omega, Nat.add_mod_right]
  unfold sureL sureTo
  rw [List.map_map]
  simp only [hh]
  congr 1
  funext t
  simp only [Function.comp]
  omega
theorem sureL_len {f : Flt} {r : Nat} (hm : f.most ≤ 300) : (sureL f r).length ≤ 301 := Nat.le_trans sureTo_len (borneL_len hm)
theorem ints_get {l : List Nat} {k x : Nat} (h : l[k]? = some x) : (ints l)[k]? = some (x : Int) := by unfold ints; rw [List.getElem?_map, h]; rfl

set_option maxRecDepth 100000 in
set_option maxHeartbeats 16000000 in
theorem cycles_any (f : Flt) (A : Option Addr) (c : Nat) (rel : Int) (w : World) (hr : RS encB 4 w w.heap.size A f.cycle) (hlc : f.cycle.length ≤ maxLen) (hrel : 0 ≤ rel ∧ rel ≤ 65535) :
    Calls Try.prog 10 #[.agg #[.int .i64 f.fly.pos.x.lo, .int .i64 f.fly.pos.x.hi, .int .i64 f.fly.pos.z.lo, .int .i64 f.fly.pos.z.hi, .int .i64 f.fly.speed.x.lo, .int .i64 f.fly.speed.x.hi, .int .i64 f.fly.speed.z.lo, .int .i64 f.fly.speed.z.hi, .int .i64 f.fly.mass, .slice A f.cycle.length c, .int .i64 f.reach, .int .i64 f.soft, .int .i64 f.bears, .int .i64 f.least, .int .i64 f.most], .int .u16 rel] w fun e w' => e = .returned (.bool true) ∧ Below w.heap.size w w' := by
  have kF := Blk.new w 43 #[.int .i64 f.fly.pos.x.lo, .int .i64 f.fly.pos.x.hi, .int .i64 f.fly.pos.z.lo, .int .i64 f.fly.pos.z.hi, .int .i64 f.fly.speed.x.lo, .int .i64 f.fly.speed.x.hi, .int .i64 f.fly.speed.z.lo, .int .i64 f.fly.speed.z.hi, .int .i64 f.fly.mass, .slice A f.cycle.length c, .int .i64 f.reach, .int .i64 f.soft, .int .i64 f.bears, .int .i64 f.least, .int .i64 f.most]
  have hB0 := (Below.refl w.heap.size w).alloc (Nat.le_refl _) (.cells #[.int .i64 f.fly.pos.x.lo, .int .i64 f.fly.pos.x.hi, .int .i64 f.fly.pos.z.lo, .int .i64 f.fly.pos.z.hi, .int .i64 f.fly.speed.x.lo, .int .i64 f.fly.speed.x.hi, .int .i64 f.fly.speed.z.lo, .int .i64 f.fly.speed.z.hi, .int .i64 f.fly.mass, .slice A f.cycle.length c, .int .i64 f.reach, .int .i64 f.soft, .int .i64 f.bears, .int .i64 f.least, .int .i64 f.most] 43)
  have HB0 := Lib.hid hB0
  have HRS : Hid (∀ w1 : World, Below (w.alloc (.cells #[.int .i64 f.fly.pos.x.lo, .int .i64 f.fly.pos.x.hi, .int .i64 f.fly.pos.z.lo, .int .i64 f.fly.pos.z.hi, .int .i64 f.fly.speed.x.lo, .int .i64 f.fly.speed.x.hi, .int .i64 f.fly.speed.z.lo, .int .i64 f.fly.speed.z.hi, .int .i64 f.fly.mass, .slice A f.cycle.length c, .int .i64 f.reach, .int .i64 f.soft, .int .i64 f.bears, .int .i64 f.least, .int .i64 f.most] 43)).heap.size (w.alloc (.cells #[.int .i64 f.fly.pos.x.lo, .int .i64 f.fly.pos.x.hi, .int .i64 f.fly.pos.z.lo, .int .i64 f.fly.pos.z.hi, .int .i64 f.fly.speed.x.lo, .int .i64 f.fly.speed.x.hi, .int .i64 f.fly.speed.z.lo, .int .i64 f.fly.speed.z.hi, .int .i64 f.fly.mass, .slice A f.cycle.length c, .int .i64 f.reach, .int .i64 f.soft, .int .i64 f.bears, .int .i64 f.least, .int .i64 f.most] 43)) w1 → RS encB 4 w1 w1.heap.size A f.cycle) := fun w1 h => (hr.to hB0).to h
  have HFEW : Hid (∀ W : World, Calls Try.prog 20 #[.agg #[.int .i64 f.fly.pos.x.lo, .int .i64 f.fly.pos.x.hi, .int .i64 f.fly.pos.z.lo, .int .i64 f.fly.pos.z.hi, .int .i64 f.fly.speed.x.lo, .int .i64 f.fly.speed.x.hi, .int .i64 f.fly.speed.z.lo, .int .i64 f.fly.speed.z.hi, .int .i64 f.fly.mass, .slice A f.cycle.length c, .int .i64 f.reach, .int .i64 f.soft, .int .i64 f.bears, .int .i64 f.least, .int .i64 f.most]] W fun e w' => e = .returned (.bool (decide (f.cycle.length ≤ 700))) ∧ Below W.heap.size W w') := fun W => few_any f A c W
  clear hB0 hr
  unfold maxLen at hlc
  by_cases hfew : f.cycle.length ≤ 700
  case neg =>
    rw [show decide (f.cycle.length ≤ 700) = false by simpa using hfew] at HFEW
    have HN := Lib.hid hfew
    clear hfew
    go_enter Try.func10, Try.ntmps10
    go_wp2_with (first | (go_at_call 20; (with_reducible refine (HFEW.out _).mono ?_); rintro e w1 ⟨rfl, hb1⟩) | (go_at_call 16; refine (wakes_any _).mono ?_; rintro e w2 ⟨rfl, hb2⟩))
    go_ret
    exact ⟨rfl, HB0.out.trans ((sh_next hb1 hb2).mono (by simp))⟩
  case pos =>
    rw [show decide (f.cycle.length ≤ 700) = true by simpa using hfew] at HFEW
    have HR : Hid (∀ W : World, RS encB 4 W W.heap.size A f.cycle → Calls Try.prog 26 #[.agg #[.int .i64 f.fly.pos.x.lo, .int .i64 f.fly.pos.x.hi, .int .i64 f.fly.pos.z.lo, .int .i64 f.fly.pos.z.hi, .int .i64 f.fly.speed.x.lo, .int .i64 f.fly.speed.x.hi, .int .i64 f.fly.speed.z.lo, .int .i64 f.fly.speed.z.hi, .int .i64 f.fly.mass, .slice A f.cycle.length c, .int .i64 f.reach, .int .i64 f.soft, .int .i64 f.bears, .int .i64 f.least, .int .i64 f.most]] W fun e w' => e = .returned (.bool f.ok) ∧ Below W.heap.size W w') := fun W h => right_any f A c W h hfew
    cases hok : f.ok
    · rw [hok] at HR
      have HO := Lib.hid hok
      clear hok
      go_enter Try.func10, Try.ntmps10
      go_wp2_with (first | (go_at_call 20; (with_reducible refine (HFEW.out _).mono ?_); rintro e w1 ⟨rfl, hb1⟩; have kF1 := kF.below hb1 kF.lt; have x0 := kF1.cell 0; have x1 := kF1.cell 1; have x2 := kF1.cell 2; have x3 := kF1.cell 3; have x4 := kF1.cell 4; have x5 := kF1.cell 5; have x6 := kF1.cell 6; have x7 := kF1.cell 7; have x8 := kF1.cell 8; have x9 := kF1.cell 9; have x10 := kF1.cell 10; have x11 := kF1.cell 11; have x12 := kF1.cell 12; have x13 := kF1.cell 13; have x14 := kF1.cell 14; simp at x0 x1 x2 x3 x4 x5 x6 x7 x8 x9 x10 x11 x12 x13 x14) | (go_at_call 26; (with_reducible refine (HR.out _ (HRS.out _ hb1)).mono ?_); rintro e w2 ⟨rfl, hb2⟩) | (go_at_call 16; refine (wakes_any _).mono ?_; rintro e w3 ⟨rfl, hb3⟩))
      go_ret
      exact ⟨rfl, HB0.out.trans ((sh_next (sh_next hb1 hb2) hb3).mono (by simp))⟩
    · rw [hok] at HR
      obtain ⟨_, ⟨hc1, hc2⟩, _, _, _, _, _, hmo, _⟩ := Flt.ok_iff.1 hok
      obtain ⟨N, hN⟩ : ∃ N, f.cycle.length = N := ⟨_, rfl⟩
      obtain ⟨rn, hrn⟩ : ∃ rn : Nat, rel.tmod (6001 - (f.cycle.length : Int)) = rn := ⟨(rel.tmod (6001 - (f.cycle.length : Int))).toNat, by
        rw [Int.tmod_eq_emod_of_nonneg hrel.1]
        have := Int.emod_nonneg rel (show (6001 - (f.cycle.length : Int)) ≠ 0 by omega)
        omega⟩
      have hrb : rn + f.cycle.length ≤ 6000 := by
        rw [Int.tmod_eq_emod_of_nonneg hrel.1] at hrn
        have := Int.emod_lt_of_pos rel (show 0 < (6001 - (f.cycle.length : Int)) by omega)
        omega
      have hll := sureL_len (f := f) (r := rn) hmo.2
      have hmem : Hid (∀ x ∈ sureL f rn, x ≤ rn + 300) := fun x h => sure_mem h
      have HC2 : Hid (∀ (W : World) (A : Option Addr) (c : Nat), RS encB 4 W W.heap.size A f.cycle → Calls Try.prog 38 #[.agg #[.int .i64 f.fly.pos.x.lo, .int .i64 f.fly.pos.x.hi, .int .i64 f.fly.pos.z.lo, .int .i64 f.fly.pos.z.hi, .int .i64 f.fly.speed.x.lo, .int .i64 f.fly.speed.x.hi, .int .i64 f.fly.speed.z.lo, .int .i64 f.fly.speed.z.hi, .int .i64 f.fly.mass, .slice A f.cycle.length c, .int .i64 f.reach, .int .i64 f.soft, .int .i64 f.bears, .int .i64 f.least, .int .i64 f.most], .int .i64 ((rn : Int) + (f.cycle.length : Int))] W fun e w' => ∃ A' c', e = .returned (.tuple #[.slice A' (sureL f rn).length c', .int .i64 0]) ∧ RS encI 1 w' w'.heap.size A' (ints ((sureL f rn).map (· + f.cycle.length))) ∧ Below W.heap.size W w') := fun W A c h => by
        have := Catches_ok f A c (rn + f.cycle.length) W hok h (inB_true.2 (by omega))
        rw [sure_cycle, List.length_map, Int.natCast_add] at this
        exact this
      have HC1 : Hid (∀ (W : World) (A : Option Addr) (c : Nat), RS encB 4 W W.heap.size A f.cycle → Calls Try.prog 38 #[.agg #[.int .i64 f.fly.pos.x.lo, .int .i64 f.fly.pos.x.hi, .int .i64 f.fly.pos.z.lo, .int .i64 f.fly.pos.z.hi, .int .i64 f.fly.speed.x.lo, .int .i64 f.fly.speed.x.hi, .int .i64 f.fly.speed.z.lo, .int .i64 f.fly.speed.z.hi, .int .i64 f.fly.mass, .slice A f.cycle.length c, .int .i64 f.reach, .int .i64 f.soft, .int .i64 f.bears, .int .i64 f.least, .int .i64 f.most], .int .i64 (rn : Int)] W fun e w' => ∃ A' c', e = .returned (.tuple #[.slice A' (sureL f rn).length c', .int .i64 0]) ∧ RS encI 1 w' w'.heap.size A' (ints (sureL f rn)) ∧ Below W.heap.size W w') := fun W A c h =>
        Catches_ok f A c rn W hok h (inB_true.2 (by omega))
      have HFL : Hid (∀ W : World, RS encB 4 W W.heap.size A f.cycle → Calls Try.prog 24 #[.agg #[.int .i64 f.fly.pos.x.lo, .int .i64 f.fly.pos.x.hi, .int .i64 f.fly.pos.z.lo, .int .i64 f.fly.pos.z.hi, .int .i64 f.fly.speed.x.lo, .int .i64 f.fly.speed.x.hi, .int .i64 f.fly.speed.z.lo, .int .i64 f.fly.speed.z.hi, .int .i64 f.fly.mass, .slice A f.cycle.length c, .int .i64 f.reach, .int .i64 f.soft, .int .i64 f.bears, .int .i64 f.least, .int .i64 f.most]] W fun e w' => ∃ (A : Option Addr) (c : Nat), e = .returned (.agg #[.int .i64 f.fly.pos.x.lo, .int .i64 f.fly.pos.x.hi, .int .i64 f.fly.pos.z.lo, .int .i64 f.fly.pos.z.hi, .int .i64 f.fly.speed.x.lo, .int .i64 f.fly.speed.x.hi, .int .i64 f.fly.speed.z.lo, .int .i64 f.fly.speed.z.hi, .int .i64 f.fly.mass, .slice A f.cycle.length c, .int .i64 f.reach, .int .i64 f.soft, .int .i64 f.bears, .int .i64 f.least, .int .i64 f.most]) ∧ RS encB 4 w' w'.heap.size A f.cycle ∧ Below W.heap.size W w') := fun W h => lawFlight_any f A c W h hfew
      have HO := Lib.hid hok
      have HMO := Lib.hid hmo
      obtain ⟨la, hla⟩ : ∃ la, sureL f rn = la := ⟨_, rfl⟩
      rw [hla] at HC1 HC2 hll hmem
      have hz1 : ¬ (6001 - (f.cycle.length : Int)) = 0 := by omega
      have hz2 : ((6001 - (f.cycle.length : Int)) == 0) = false := by simp; omega
      clear hok hmo hla hN
      go_enter Try.func10, Try.ntmps10
      go_upto_region 5 with (first | (go_at_call 20; (with_reducible refine (HFEW.out _).mono ?_); rintro e w1 ⟨rfl, hb1⟩; have kF1 := kF.below hb1 kF.lt; have x0 := kF1.cell 0; have x1 := kF1.cell 1; have x2 := kF1.cell 2; have x3 := kF1.cell 3; have x4 := kF1.cell 4; have x5 := kF1.cell 5; have x6 := kF1.cell 6; have x7 := kF1.cell 7; have x8 := kF1.cell 8; have x9 := kF1.cell 9; have x10 := kF1.cell 10; have x11 := kF1.cell 11; have x12 := kF1.cell 12; have x13 := kF1.cell 13; have x14 := kF1.cell 14; simp at x0 x1 x2 x3 x4 x5 x6 x7 x8 x9 x10 x11 x12 x13 x14) | (go_at_call 26; (with_reducible refine (HR.out _ (HRS.out _ hb1)).mono ?_); rintro e w2 ⟨rfl, hb2⟩; have kF2 := kF1.below hb2 kF1.lt; have y0 := kF2.cell 0; have y1 := kF2.cell 1; have y2 := kF2.cell 2; have y3 := kF2.cell 3; have y4 := kF2.cell 4; have y5 := kF2.cell 5; have y6 := kF2.cell 6; have y7 := kF2.cell 7; have y8 := kF2.cell 8; have y9 := kF2.cell 9; have y10 := kF2.cell 10; have y11 := kF2.cell 11; have y12 := kF2.cell 12; have y13 := kF2.cell 13; have y14 := kF2.cell 14; simp at y0 y1 y2 y3 y4 y5 y6 y7 y8 y9 y10 y11 y12 y13 y14))
      have hX2 := sh_next hb1 hb2
      have hr2 := HRS.out _ hX2
      go_upto_region 6 with (first | (go_at_call 24; (with_reducible refine (HFL.out _ hr2).mono ?_); rintro e w3 ⟨A3, c3, rfl, hs3, hb3⟩) | (go_at_call 38; (with_reducible refine (HC1.out _ _ _ hs3).mono ?_); rintro e w4 ⟨A4, c4, rfl, hs4, hb4⟩))
      have hX4 := sh_next hb3 hb4
      have kF4 := kF2.below hX4 kF2.lt
      have hr4 := hr2.to hX4
      have z0 := kF4.cell 0
      have z1 := kF4.cell 1
      have z2 := kF4.cell 2
      have z3 := kF4.cell 3
      have z4 := kF4.cell 4
      have z5 := kF4.cell 5
      have z6 := kF4.cell 6
      have z7 := kF4.cell 7
      have z8 := kF4.cell 8
      have z9 := kF4.cell 9
      have z10 := kF4.cell 10
      have z11 := kF4.cell 11
      have z12 := kF4.cell 12
      have z13 := kF4.cell 13
      have z14 := kF4.cell 14
      simp at z0 z1 z2 z3 z4 z5 z6 z7 z8 z9 z10 z11 z12 z13 z14
      go_upto_region 7 with (first | (go_at_call 24; (with_reducible refine (HFL.out _ hr4).mono ?_); rintro e w5 ⟨A5, c5, rfl, hs5, hb5⟩) | (go_at_call 38; (with_reducible refine (HC2.out _ _ _ hs5).mono ?_); rintro e w6 ⟨A6, c6, rfl, hs6, hb6⟩))
      have hX6 := sh_next hb5 hb6
      have hs4' := hs4.to hX6
      have hXA := HB0.out.trans ((sh_next (sh_next hX2 hX4) hX6).mono (by simp))
      have HXA := Lib.hid hXA
      clear hX2 hX4 hX6 hb1 hb2 hb3 hb4 hb5 hb6 hs3 hs4 hs5 hr2 hr4 kF kF1 kF2 kF4 hXA
      have e0 : ((la.length : Int) != (la.length : Int)) = false := by simp
      go_wp2
      go_loopw [11] (fun i wr => ∃ k : Nat, k ≤ la.length ∧ i = .int .i64 k ∧ Below w6.heap.size w6 wr) (fun i _ => la.length - (intOf i).toNat)
      case atStart => exact ⟨0, Nat.zero_le _, rfl, Below.refl _ _⟩
      case round =>
        obtain ⟨k, hk, rfl, hB⟩ := hrel
        by_cases hlt : k < la.length
        · obtain ⟨x, hx⟩ := getElem?_lt hlt
          have hxb := hmem.out x (List.mem_of_getElem? hx)
          have hkI : (k : Int) < (la.length : Int) := by omega
          obtain ⟨q1, o1, rfl, hq1, hc1⟩ := (hs4'.below hB (Nat.le_refl _)).at_ (ints_get hx)
          obtain ⟨q2, o2, rfl, hq2, hc2⟩ := (hs6.below hB (Nat.le_refl _)).at_ (ints_get (l := la.map (· + f.cycle.length)) (by rw [List.getElem?_map, hx]; rfl))
          have x0 := hc1 0 _ rfl
          have y0 := hc2 0 _ rfl
          simp only [Nat.add_zero, Nat.mul_one, Int.natCast_add] at x0 y0
          have e3 : (((x : Int) + (f.cycle.length : Int)) != ((x : Int) + (f.cycle.length : Int))) = false := by simp
          have Hx := Lib.hid hx
          clear hx hc1 hc2 hs4' hs6
          go_wp2
          go_quiet (fail)
          go_wp2
          exact ⟨⟨k + 1, by omega, by go_num, below_drewN hB _⟩, by simp [intOf]; omega⟩
        · obtain rfl : k = la.length := by omega
          go_wp2_with (go_at_call 16; refine (wakes_any _).mono ?_; rintro e w7 ⟨rfl, hb7⟩)
          go_ret
          exact ⟨rfl, HXA.out.trans ((sh_next hB hb7).mono HXA.out.size)⟩
end Go.Proofs.Ytmidkopiiifakaa
