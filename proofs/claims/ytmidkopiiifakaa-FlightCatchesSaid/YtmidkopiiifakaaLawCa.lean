import Derived.Test.YtmidkopiiifakaaRefE

/- The ticks at which a catch is sure are as the document says. -/
namespace Go.Proofs.Ytmidkopiiifakaa
open Go.RowKit Go.Shelf
theorem sure_air {f : Flt} {r : Nat} (hm : f.most ≤ 300) : airTo f r (f.most.toNat + 1 - f.least.toNat) = sureL f r := by
  unfold sureL sureTo borneL borneTo airTo
  rw [List.take_length, List.filter_map, List.map_map, List.filter_filter]
  have hb : ∀ t ∈ List.range' f.least.toNat (f.most.toNat + 1 - f.least.toNat), t ≤ 300 := by
    intro t ht
    rw [List.mem_range'_1] at ht
    omega
  have hfc : (List.range' f.least.toNat (f.most.toNat + 1 - f.least.toNat)).filter (fun a => ((fun t : Tick => f.hitB r t.1) ∘ tickAt) a && f.bornB a) = (List.range' f.least.toNat (f.most.toNat + 1 - f.least.toNat)).filter (fun t => f.sure r t) := by
    refine List.filter_congr fun t ht => ?_
    show (f.hitB r (tickAt t).1 && f.bornB t) = f.sure r t
    rw [tickAt_val (hb t ht), Bool.and_comm]
    rfl
  rw [hfc]
  refine List.map_congr_left fun t ht => ?_
  show r + t = r + (tickAt t).1
  rw [tickAt_val (hb t (List.mem_filter.1 ht).1)]

set_option maxRecDepth 100000 in
set_option maxHeartbeats 16000000 in
theorem lawCatches_any (f : Flt) (A : Option Addr) (c : Nat) (rel : Int) (w : World) (hr : RS encB 4 w w.heap.size A f.cycle) (hlc : f.cycle.length ≤ maxLen) :
    Calls Try.prog 9 #[.agg #[.int .i64 f.fly.pos.x.lo, .int .i64 f.fly.pos.x.hi, .int .i64 f.fly.pos.z.lo, .int .i64 f.fly.pos.z.hi, .int .i64 f.fly.speed.x.lo, .int .i64 f.fly.speed.x.hi, .int .i64 f.fly.speed.z.lo, .int .i64 f.fly.speed.z.hi, .int .i64 f.fly.mass, .slice A f.cycle.length c, .int .i64 f.reach, .int .i64 f.soft, .int .i64 f.bears, .int .i64 f.least, .int .i64 f.most], .int .i64 rel] w fun e w' => e = .returned (.bool true) ∧ Below w.heap.size w w' := by
  have kF := Blk.new w 43 #[.int .i64 f.fly.pos.x.lo, .int .i64 f.fly.pos.x.hi, .int .i64 f.fly.pos.z.lo, .int .i64 f.fly.pos.z.hi, .int .i64 f.fly.speed.x.lo, .int .i64 f.fly.speed.x.hi, .int .i64 f.fly.speed.z.lo, .int .i64 f.fly.speed.z.hi, .int .i64 f.fly.mass, .slice A f.cycle.length c, .int .i64 f.reach, .int .i64 f.soft, .int .i64 f.bears, .int .i64 f.least, .int .i64 f.most]
  have hB0 := (Below.refl w.heap.size w).alloc (Nat.le_refl _) (.cells #[.int .i64 f.fly.pos.x.lo, .int .i64 f.fly.pos.x.hi, .int .i64 f.fly.pos.z.lo, .int .i64 f.fly.pos.z.hi, .int .i64 f.fly.speed.x.lo, .int .i64 f.fly.speed.x.hi, .int .i64 f.fly.speed.z.lo, .int .i64 f.fly.speed.z.hi, .int .i64 f.fly.mass, .slice A f.cycle.length c, .int .i64 f.reach, .int .i64 f.soft, .int .i64 f.bears, .int .i64 f.least, .int .i64 f.most] 43)
  have HB0 := Lib.hid hB0
  have HRS : Hid (∀ w1 : World, Below (w.alloc (.cells #[.int .i64 f.fly.pos.x.lo, .int .i64 f.fly.pos.x.hi, .int .i64 f.fly.pos.z.lo, .int .i64 f.fly.pos.z.hi, .int .i64 f.fly.speed.x.lo, .int .i64 f.fly.speed.x.hi, .int .i64 f.fly.speed.z.lo, .int .i64 f.fly.speed.z.hi, .int .i64 f.fly.mass, .slice A f.cycle.length c, .int .i64 f.reach, .int .i64 f.soft, .int .i64 f.bears, .int .i64 f.least, .int .i64 f.most] 43)).heap.size (w.alloc (.cells #[.int .i64 f.fly.pos.x.lo, .int .i64 f.fly.pos.x.hi, .int .i64 f.fly.pos.z.lo, .int .i64 f.fly.pos.z.hi, .int .i64 f.fly.speed.x.lo, .int .i64 f.fly.speed.x.hi, .int .i64 f.fly.speed.z.lo, .int .i64 f.fly.speed.z.hi, .int .i64 f.fly.mass, .slice A f.cycle.length c, .int .i64 f.reach, .int .i64 f.soft, .int .i64 f.bears, .int .i64 f.least, .int .i64 f.most] 43)) w1 → RS encB 4 w1 w1.heap.size A f.cycle) := fun w1 h => (hr.to hB0).to h
  have HFEW : Hid (∀ W : World, Calls Try.prog 20 #[.agg #[.int .i64 f.fly.pos.x.lo, .int .i64 f.fly.pos.x.hi, .int .i64 f.fly.pos.z.lo, .int .i64 f.fly.pos.z.hi, .int .i64 f.fly.speed.x.lo, .int .i64 f.fly.speed.x.hi, .int .i64 f.fly.speed.z.lo, .int .i64 f.fly.speed.z.hi, .int .i64 f.fly.mass, .slice A f.cycle.length c, .int .i64 f.reach, .int .i64 f.soft, .int .i64 f.bears, .int .i64 f.least, .int .i64 f.most]] W fun e w' => e = .returned (.bool (decide (f.cycle.length ≤ 700))) ∧ Below W.heap.size W w') := fun W => few_any f A c W
  clear hB0 hr
  by_cases hfew : f.cycle.length ≤ 700
  case neg =>
    rw [show decide (f.cycle.length ≤ 700) = false by simpa using hfew] at HFEW
    have HN := Lib.hid hfew
    clear hfew
    go_enter Try.func9, Try.ntmps9
    go_wp2_with (first | (go_at_call 20; (with_reducible refine (HFEW.out _).mono ?_); rintro e w1 ⟨rfl, hb1⟩) | (go_at_call 16; refine (wakes_any _).mono ?_; rintro e w2 ⟨rfl, hb2⟩))
    go_ret
    exact ⟨rfl, HB0.out.trans ((sh_next hb1 hb2).mono (by simp))⟩
  case pos =>
    rw [show decide (f.cycle.length ≤ 700) = true by simpa using hfew] at HFEW
    have HR : Hid (∀ W : World, RS encB 4 W W.heap.size A f.cycle → Calls Try.prog 26 #[.agg #[.int .i64 f.fly.pos.x.lo, .int .i64 f.fly.pos.x.hi, .int .i64 f.fly.pos.z.lo, .int .i64 f.fly.pos.z.hi, .int .i64 f.fly.speed.x.lo, .int .i64 f.fly.speed.x.hi, .int .i64 f.fly.speed.z.lo, .int .i64 f.fly.speed.z.hi, .int .i64 f.fly.mass, .slice A f.cycle.length c, .int .i64 f.reach, .int .i64 f.soft, .int .i64 f.bears, .int .i64 f.least, .int .i64 f.most]] W fun e w' => e = .returned (.bool f.ok) ∧ Below W.heap.size W w') := fun W h => right_any f A c W h hfew
    have HFL : Hid (∀ W : World, RS encB 4 W W.heap.size A f.cycle → Calls Try.prog 24 #[.agg #[.int .i64 f.fly.pos.x.lo, .int .i64 f.fly.pos.x.hi, .int .i64 f.fly.pos.z.lo, .int .i64 f.fly.pos.z.hi, .int .i64 f.fly.speed.x.lo, .int .i64 f.fly.speed.x.hi, .int .i64 f.fly.speed.z.lo, .int .i64 f.fly.speed.z.hi, .int .i64 f.fly.mass, .slice A f.cycle.length c, .int .i64 f.reach, .int .i64 f.soft, .int .i64 f.bears, .int .i64 f.least, .int .i64 f.most]] W fun e w' => ∃ (A : Option Addr) (c : Nat), e = .returned (.agg #[.int .i64 f.fly.pos.x.lo, .int .i64 f.fly.pos.x.hi, .int .i64 f.fly.pos.z.lo, .int .i64 f.fly.pos.z.hi, .int .i64 f.fly.speed.x.lo, .int .i64 f.fly.speed.x.hi, .int .i64 f.fly.speed.z.lo, .int .i64 f.fly.speed.z.hi, .int .i64 f.fly.mass, .slice A f.cycle.length c, .int .i64 f.reach, .int .i64 f.soft, .int .i64 f.bears, .int .i64 f.least, .int .i64 f.most]) ∧ RS encB 4 w' w'.heap.size A f.cycle ∧ Below W.heap.size W w') := fun W h => lawFlight_any f A c W h hfew
    have HW1 : Hid True := Lib.hid trivial
    by_cases hE : tickE f.ok rel = 0
    case neg =>
      have HC : Hid (∀ (W : World) (A : Option Addr) (c : Nat), RS encB 4 W W.heap.size A f.cycle → Calls Try.prog 38 #[.agg #[.int .i64 f.fly.pos.x.lo, .int .i64 f.fly.pos.x.hi, .int .i64 f.fly.pos.z.lo, .int .i64 f.fly.pos.z.hi, .int .i64 f.fly.speed.x.lo, .int .i64 f.fly.speed.x.hi, .int .i64 f.fly.speed.z.lo, .int .i64 f.fly.speed.z.hi, .int .i64 f.fly.mass, .slice A f.cycle.length c, .int .i64 f.reach, .int .i64 f.soft, .int .i64 f.bears, .int .i64 f.least, .int .i64 f.most], .int .i64 rel] W fun e w' => e = .returned (.tuple #[.slice none 0 0, .int .i64 (tickE f.ok rel)]) ∧ Below W.heap.size W w') := fun W A c h => Catches_bad f A c rel W hlc h hE
      cases hok : f.ok
      · rw [hok] at HR HC
        rw [show tickE false rel = 1 from rfl] at HC
        have HO := Lib.hid hok
        clear hok hE hlc hfew
        go_enter Try.func9, Try.ntmps9
        go_wp2_with (first | (go_at_call 20; (with_reducible refine (HFEW.out _).mono ?_); rintro e w1 ⟨rfl, hb1⟩; have kF1 := kF.below hb1 kF.lt; have x0 := kF1.cell 0; have x1 := kF1.cell 1; have x2 := kF1.cell 2; have x3 := kF1.cell 3; have x4 := kF1.cell 4; have x5 := kF1.cell 5; have x6 := kF1.cell 6; have x7 := kF1.cell 7; have x8 := kF1.cell 8; have x9 := kF1.cell 9; have x10 := kF1.cell 10; have x11 := kF1.cell 11; have x12 := kF1.cell 12; have x13 := kF1.cell 13; have x14 := kF1.cell 14; simp at x0 x1 x2 x3 x4 x5 x6 x7 x8 x9 x10 x11 x12 x13 x14) | (go_at_call 24; (with_reducible refine (HFL.out _ (HRS.out _ hb1)).mono ?_); rintro e w2 ⟨A2, c2, rfl, hs2, hb2⟩) | (go_at_call 38; (with_reducible refine (HC.out _ _ _ hs2).mono ?_); rintro e w3 ⟨rfl, hb3⟩; have hX3 := sh_next (sh_next hb1 hb2) hb3; have kF3 := kF.below hX3 kF.lt; have y0 := kF3.cell 0; have y1 := kF3.cell 1; have y2 := kF3.cell 2; have y3 := kF3.cell 3; have y4 := kF3.cell 4; have y5 := kF3.cell 5; have y6 := kF3.cell 6; have y7 := kF3.cell 7; have y8 := kF3.cell 8; have y9 := kF3.cell 9; have y10 := kF3.cell 10; have y11 := kF3.cell 11; have y12 := kF3.cell 12; have y13 := kF3.cell 13; have y14 := kF3.cell 14; simp at y0 y1 y2 y3 y4 y5 y6 y7 y8 y9 y10 y11 y12 y13 y14) | (go_at_call 26; (with_reducible refine (HR.out _ (HRS.out _ hX3)).mono ?_); rintro e w4 ⟨rfl, hb4⟩) | (go_at_call 16; refine (wakes_any _).mono ?_; rintro e w5 ⟨rfl, hb5⟩))
        go_ret
        exact ⟨rfl, HB0.out.trans ((sh_next (sh_next hX3 hb4) hb5).mono (by simp))⟩
      · cases hin : inB rel 0 6000
        · rw [hok] at HR HC
          rw [show tickE true rel = 2 by unfold tickE; rw [hin]; rfl] at HC
          have HO := Lib.hid hok
          have HIN := Lib.hid hin
          clear hok hE hlc hfew hin
          go_enter Try.func9, Try.ntmps9
          go_wp2_with (first | (go_at_call 20; (with_reducible refine (HFEW.out _).mono ?_); rintro e w1 ⟨rfl, hb1⟩; have kF1 := kF.below hb1 kF.lt; have x0 := kF1.cell 0; have x1 := kF1.cell 1; have x2 := kF1.cell 2; have x3 := kF1.cell 3; have x4 := kF1.cell 4; have x5 := kF1.cell 5; have x6 := kF1.cell 6; have x7 := kF1.cell 7; have x8 := kF1.cell 8; have x9 := kF1.cell 9; have x10 := kF1.cell 10; have x11 := kF1.cell 11; have x12 := kF1.cell 12; have x13 := kF1.cell 13; have x14 := kF1.cell 14; simp at x0 x1 x2 x3 x4 x5 x6 x7 x8 x9 x10 x11 x12 x13 x14) | (go_at_call 24; (with_reducible refine (HFL.out _ (HRS.out _ hb1)).mono ?_); rintro e w2 ⟨A2, c2, rfl, hs2, hb2⟩) | (go_at_call 38; (with_reducible refine (HC.out _ _ _ hs2).mono ?_); rintro e w3 ⟨rfl, hb3⟩; have hX3 := sh_next (sh_next hb1 hb2) hb3; have kF3 := kF.below hX3 kF.lt; have y0 := kF3.cell 0; have y1 := kF3.cell 1; have y2 := kF3.cell 2; have y3 := kF3.cell 3; have y4 := kF3.cell 4; have y5 := kF3.cell 5; have y6 := kF3.cell 6; have y7 := kF3.cell 7; have y8 := kF3.cell 8; have y9 := kF3.cell 9; have y10 := kF3.cell 10; have y11 := kF3.cell 11; have y12 := kF3.cell 12; have y13 := kF3.cell 13; have y14 := kF3.cell 14; simp at y0 y1 y2 y3 y4 y5 y6 y7 y8 y9 y10 y11 y12 y13 y14) | (go_at_call 26; (with_reducible refine (HR.out _ (HRS.out _ hX3)).mono ?_); rintro e w4 ⟨rfl, hb4⟩) | (go_at_call 17; (with_reducible refine (in_val HIN.out _).mono ?_); rintro e w' ⟨rfl, rfl⟩) | (go_at_call 16; refine (wakes_any _).mono ?_; rintro e w5 ⟨rfl, hb5⟩))
          go_ret
          exact ⟨rfl, HB0.out.trans ((sh_next (sh_next hX3 hb4) hb5).mono (by simp))⟩
        · exfalso
          apply hE
          rw [hok]
          unfold tickE
          rw [hin]
          rfl
    case pos =>
      obtain ⟨hok, hin⟩ : f.ok = true ∧ inB rel 0 6000 = true := by
        cases hok : f.ok
        · rw [hok] at hE; exact absurd (show (1 : Int) = 0 from hE) (by decide)
        · cases hin : inB rel 0 6000
          · rw [hok] at hE; unfold tickE at hE; rw [hin] at hE; exact absurd (show (2 : Int) = 0 from hE) (by decide)
          · exact ⟨rfl, rfl⟩
      obtain ⟨in1, in2⟩ := inB_true.1 hin
      obtain ⟨rn, rfl⟩ : ∃ rn : Nat, rel = rn := ⟨rel.toNat, by omega⟩
      obtain ⟨_, _, _, _, _, _, _, hmo, _⟩ := Flt.ok_iff.1 hok
      have hll := sureL_len (f := f) (r := rn) hmo.2
      have HC1 : Hid (∀ (W : World) (A : Option Addr) (c : Nat), RS encB 4 W W.heap.size A f.cycle → Calls Try.prog 38 #[.agg #[.int .i64 f.fly.pos.x.lo, .int .i64 f.fly.pos.x.hi, .int .i64 f.fly.pos.z.lo, .int .i64 f.fly.pos.z.hi, .int .i64 f.fly.speed.x.lo, .int .i64 f.fly.speed.x.hi, .int .i64 f.fly.speed.z.lo, .int .i64 f.fly.speed.z.hi, .int .i64 f.fly.mass, .slice A f.cycle.length c, .int .i64 f.reach, .int .i64 f.soft, .int .i64 f.bears, .int .i64 f.least, .int .i64 f.most], .int .i64 (rn : Int)] W fun e w' => ∃ A' c', e = .returned (.tuple #[.slice A' (sureL f rn).length c', .int .i64 0]) ∧ RS encI 1 w' w'.heap.size A' (ints (sureL f rn)) ∧ Below W.heap.size W w') := fun W A c h =>
        Catches_ok f A c rn W hok h hin
      have HC2 : Hid (∀ W : World, RS encB 4 W W.heap.size A f.cycle → Calls Try.prog 41 #[.agg #[.int .i64 f.fly.pos.x.lo, .int .i64 f.fly.pos.x.hi, .int .i64 f.fly.pos.z.lo, .int .i64 f.fly.pos.z.hi, .int .i64 f.fly.speed.x.lo, .int .i64 f.fly.speed.x.hi, .int .i64 f.fly.speed.z.lo, .int .i64 f.fly.speed.z.hi, .int .i64 f.fly.mass, .slice A f.cycle.length c, .int .i64 f.reach, .int .i64 f.soft, .int .i64 f.bears, .int .i64 f.least, .int .i64 f.most], .int .i64 (rn : Int)] W fun e w' => ∃ A' c', e = .returned (.slice A' (sureL f rn).length c') ∧ RS encI 1 w' w'.heap.size A' (ints (sureL f rn)) ∧ Below W.heap.size W w') := fun W h => by
        have := refCatches_any f A c rn W hok (by omega) h
        rw [sure_air hmo.2] at this
        exact this
      obtain ⟨la, hla⟩ : ∃ la, sureL f rn = la := ⟨_, rfl⟩
      rw [hla] at HC1 HC2 hll
      have HIT : Hid (∀ (W : World) (A1 A2 : Option Addr) (c1 c2 : Nat), RS encI 1 W W.heap.size A1 (ints la) → RS encI 1 W W.heap.size A2 (ints la) → Calls Try.prog 40 #[.slice A1 la.length c1, .slice A2 la.length c2] W fun e w' => e = .returned (.bool true) ∧ Below W.heap.size W w') := fun W A1 A2 c1 c2 h1 h2 => by
        have hm : (ints la).length ≤ maxLen := by rw [ints_len]; unfold maxLen; omega
        have := ints_any A1 A2 c1 c2 (ints la) (ints la) W h1 h2 hm hm
        rw [ints_len, decide_eq_true rfl] at this
        exact this
      rw [hok] at HR
      have HIN := Lib.hid hin
      clear hok hE hlc hfew hin hmo hla in1 in2
      go_enter Try.func9, Try.ntmps9
      go_wp2_with (first | (go_at_call 20; (with_reducible refine (HFEW.out _).mono ?_); rintro e w1 ⟨rfl, hb1⟩; have kF1 := kF.below hb1 kF.lt; have x0 := kF1.cell 0; have x1 := kF1.cell 1; have x2 := kF1.cell 2; have x3 := kF1.cell 3; have x4 := kF1.cell 4; have x5 := kF1.cell 5; have x6 := kF1.cell 6; have x7 := kF1.cell 7; have x8 := kF1.cell 8; have x9 := kF1.cell 9; have x10 := kF1.cell 10; have x11 := kF1.cell 11; have x12 := kF1.cell 12; have x13 := kF1.cell 13; have x14 := kF1.cell 14; simp at x0 x1 x2 x3 x4 x5 x6 x7 x8 x9 x10 x11 x12 x13 x14) | (go_at_call 24; (with_reducible refine (HFL.out _ (HRS.out _ hb1)).mono ?_); rintro e w2 ⟨A2, c2, rfl, hs2, hb2⟩) | (go_at_call 38; (with_reducible refine (HC1.out _ _ _ hs2).mono ?_); rintro e w3 ⟨A3, c3, rfl, hs3, hb3⟩; have hX3 := sh_next (sh_next hb1 hb2) hb3; have kF3 := kF.below hX3 kF.lt; have y0 := kF3.cell 0; have y1 := kF3.cell 1; have y2 := kF3.cell 2; have y3 := kF3.cell 3; have y4 := kF3.cell 4; have y5 := kF3.cell 5; have y6 := kF3.cell 6; have y7 := kF3.cell 7; have y8 := kF3.cell 8; have y9 := kF3.cell 9; have y10 := kF3.cell 10; have y11 := kF3.cell 11; have y12 := kF3.cell 12; have y13 := kF3.cell 13; have y14 := kF3.cell 14; simp at y0 y1 y2 y3 y4 y5 y6 y7 y8 y9 y10 y11 y12 y13 y14) | (go_at_call 26; (with_reducible refine (HR.out _ (HRS.out _ hX3)).mono ?_); rintro e w4 ⟨rfl, hb4⟩; have hX4 := sh_next hX3 hb4; have kF4 := kF.below hX4 kF.lt; have z0 := kF4.cell 0; have z1 := kF4.cell 1; have z2 := kF4.cell 2; have z3 := kF4.cell 3; have z4 := kF4.cell 4; have z5 := kF4.cell 5; have z6 := kF4.cell 6; have z7 := kF4.cell 7; have z8 := kF4.cell 8; have z9 := kF4.cell 9; have z10 := kF4.cell 10; have z11 := kF4.cell 11; have z12 := kF4.cell 12; have z13 := kF4.cell 13; have z14 := kF4.cell 14; simp at z0 z1 z2 z3 z4 z5 z6 z7 z8 z9 z10 z11 z12 z13 z14) | (go_at_call 17; (with_reducible refine (in_val HIN.out _).mono ?_); rintro e w' ⟨rfl, rfl⟩) | (go_at_call 41; (with_reducible refine (HC2.out _ (HRS.out _ hX4)).mono ?_); rintro e w5 ⟨A5, c5, rfl, hs5, hb5⟩) | (go_at_call 40; (with_reducible refine (HIT.out _ A3 A5 c3 c5 ((hs3.to hb4).to hb5) hs5).mono ?_); rintro e w6 ⟨rfl, hb6⟩) | (go_at_call 16; refine (wakes_any _).mono ?_; rintro e w7 ⟨rfl, hb7⟩))
      go_ret
      exact ⟨rfl, HB0.out.trans ((sh_next (sh_next (sh_next hX4 hb5) hb6) hb7).mono (by simp))⟩
end Go.Proofs.Ytmidkopiiifakaa
