import Derived.Test.YtbagfapalkmikaaConv
import Derived.Deep.AppendLies
import Derived.Deep.RegionLaw

/- The law's copy of a flight. -/
namespace Go.Proofs.Ytbagfapalkmikaa
open Go.RowKit Go.Shelf
set_option maxRecDepth 100000 in
set_option maxHeartbeats 8000000 in
theorem lawFlight_any (f : Flt) (A : Option Addr) (c : Nat) (w : World) (hr : RS encB 4 w w.heap.size A f.cycle) (hl : f.cycle.length ≤ 700) :
    Calls Try.prog 19 #[.agg #[.int .i64 f.fly.pos.x.lo, .int .i64 f.fly.pos.x.hi, .int .i64 f.fly.pos.z.lo, .int .i64 f.fly.pos.z.hi, .int .i64 f.fly.speed.x.lo, .int .i64 f.fly.speed.x.hi, .int .i64 f.fly.speed.z.lo, .int .i64 f.fly.speed.z.hi, .int .i64 f.fly.mass, .slice A f.cycle.length c, .int .i64 f.reach, .int .i64 f.soft, .int .i64 f.bears, .int .i64 f.least, .int .i64 f.most]] w fun e w' => ∃ (A : Option Addr) (c : Nat), e = .returned (.agg #[.int .i64 f.fly.pos.x.lo, .int .i64 f.fly.pos.x.hi, .int .i64 f.fly.pos.z.lo, .int .i64 f.fly.pos.z.hi, .int .i64 f.fly.speed.x.lo, .int .i64 f.fly.speed.x.hi, .int .i64 f.fly.speed.z.lo, .int .i64 f.fly.speed.z.hi, .int .i64 f.fly.mass, .slice A f.cycle.length c, .int .i64 f.reach, .int .i64 f.soft, .int .i64 f.bears, .int .i64 f.least, .int .i64 f.most]) ∧ RS encB 4 w' w'.heap.size A f.cycle ∧ Below w.heap.size w w' := by
  have kF0 := (Blk.new w 32 #[.int .i64 f.fly.pos.x.lo, .int .i64 f.fly.pos.x.hi, .int .i64 f.fly.pos.z.lo, .int .i64 f.fly.pos.z.hi, .int .i64 f.fly.speed.x.lo, .int .i64 f.fly.speed.x.hi, .int .i64 f.fly.speed.z.lo, .int .i64 f.fly.speed.z.hi, .int .i64 f.fly.mass, .slice A f.cycle.length c, .int .i64 f.reach, .int .i64 f.soft, .int .i64 f.bears, .int .i64 f.least, .int .i64 f.most]).alloc (.cells #[.int .i64 0, .int .i64 0, .int .i64 0, .int .i64 0, .int .i64 0, .int .i64 0, .int .i64 0, .int .i64 0, .int .i64 0, .slice none 0 0, .int .i64 0, .int .i64 0, .int .i64 0, .int .i64 0, .int .i64 0] 50)
  have kR0 := Blk.new (w.alloc (.cells #[.int .i64 f.fly.pos.x.lo, .int .i64 f.fly.pos.x.hi, .int .i64 f.fly.pos.z.lo, .int .i64 f.fly.pos.z.hi, .int .i64 f.fly.speed.x.lo, .int .i64 f.fly.speed.x.hi, .int .i64 f.fly.speed.z.lo, .int .i64 f.fly.speed.z.hi, .int .i64 f.fly.mass, .slice A f.cycle.length c, .int .i64 f.reach, .int .i64 f.soft, .int .i64 f.bears, .int .i64 f.least, .int .i64 f.most] 32)) 50 #[.int .i64 0, .int .i64 0, .int .i64 0, .int .i64 0, .int .i64 0, .int .i64 0, .int .i64 0, .int .i64 0, .int .i64 0, .slice none 0 0, .int .i64 0, .int .i64 0, .int .i64 0, .int .i64 0, .int .i64 0]
  simp only [World.size_alloc] at kR0
  obtain ⟨i0, hi0, hz0, hz1, hz2⟩ := info_parts infoB
  go_enter Try.func19, Try.ntmps19
  go_upto_region 1 with fail
  go_cut [3] (fun s3 wx => ∃ g : Nat, s3 = .pointer (some ⟨g, 0, none⟩) ∧ w.heap.size + 1 < g ∧ Blk wx g 50 #[.int .i64 f.fly.pos.x.lo, .int .i64 f.fly.pos.x.hi, .int .i64 f.fly.pos.z.lo, .int .i64 f.fly.pos.z.hi, .int .i64 f.fly.speed.x.lo, .int .i64 f.fly.speed.x.hi, .int .i64 f.fly.speed.z.lo, .int .i64 f.fly.speed.z.hi, .int .i64 f.fly.mass, .slice none 0 0, .int .i64 f.reach, .int .i64 f.soft, .int .i64 f.bears, .int .i64 f.least, .int .i64 f.most] ∧ Blk wx w.heap.size 32 #[.int .i64 f.fly.pos.x.lo, .int .i64 f.fly.pos.x.hi, .int .i64 f.fly.pos.z.lo, .int .i64 f.fly.pos.z.hi, .int .i64 f.fly.speed.x.lo, .int .i64 f.fly.speed.x.hi, .int .i64 f.fly.speed.z.lo, .int .i64 f.fly.speed.z.hi, .int .i64 f.fly.mass, .slice A f.cycle.length c, .int .i64 f.reach, .int .i64 f.soft, .int .i64 f.bears, .int .i64 f.least, .int .i64 f.most] ∧ Blk wx (w.heap.size + 1) 50 #[.int .i64 0, .int .i64 0, .int .i64 0, .int .i64 0, .int .i64 0, .int .i64 0, .int .i64 0, .int .i64 0, .int .i64 0, .slice none 0 0, .int .i64 0, .int .i64 0, .int .i64 0, .int .i64 0, .int .i64 0] ∧ Below w.heap.size w wx)
  case first =>
    refine name_world (motive := fun W => Code.wp _ _ _ _ W) _ ?_
    intro W0 hW
    have hWc := hW.cell
    have hWz := hW.size
    have hWb := hW.below (((Below.refl w.heap.size w).alloc (Nat.le_refl _) _).alloc (by simp) _)
    simp only [World.size_alloc] at hWz
    have z0 : w.heap.size < W0.heap.size := by omega
    have z1 : w.heap.size + 1 < W0.heap.size := by omega
    have hKf := hW.blk kF0
    have hKr := hW.blk kR0
    clear hWz kF0 kR0
    go_region_held3 (fun w' => (∀ b o, b < W0.heap.size → w'.cell? ⟨b, o, none⟩ = W0.cell? ⟨b, o, none⟩) ∧ Below W0.heap.size W0 w') (first | with_reducible exact sh_refl _ | (with_reducible refine sh_of ?_; with_reducible assumption) | (with_reducible refine sh_alloc ?_ _; with_reducible assumption) | with_reducible exact sh_first _ _ | (refine sh_of ?_; repeat' (first | with_reducible assumption | with_reducible exact Below.refl _ _ | with_reducible refine Below.drew ?_ | with_reducible refine Below.alloc ?_ (by simp <;> omega) _ | with_reducible refine Below.setCell ?_ (by simp <;> omega) _)))
      (first | (go_at_call 17; go_split_ands; have hS1 : Below W0.heap.size W0 _ := (by with_reducible assumption); (with_reducible refine (lawFlyer_any f.fly _).mono ?_); rintro e w1 ⟨rfl, hb1⟩; have hB1 := sh_next hS1 hb1; obtain ⟨hc1, hf1⟩ := bcell hb1; have hy1 := hb1.size; have hz1 := hB1.size; (try have hs10 : W0.heap.size < w1.heap.size := (by (try simp at hy1); omega))))
    · go_wp2_with fail
      go_meet
      go_split_ands
      have q0 := hb1.size
      simp at q0
      exact ⟨_, rfl, by omega, Blk.new w1 _ _, (hKf.drew.below hb1 (by simpa using z0)).alloc _, (hKr.drew.below hb1 (by simpa using z1)).alloc _, (hWb.trans (hB1.mono (by omega))).alloc (by omega) _⟩
    · go_wp2_with fail
      go_meet
      go_split_ands
      have q0 := hb1.size
      simp at q0
      have kN := ((Blk.new W0 50 #[.int .i64 0, .int .i64 0, .int .i64 0, .int .i64 0, .int .i64 0, .int .i64 0, .int .i64 0, .int .i64 0, .int .i64 0, .slice none 0 0, .int .i64 0, .int .i64 0, .int .i64 0, .int .i64 0, .int .i64 0]).drew).below hb1 (by simp)
      have kN' := (((((((((((((((kN.set_ 0 (.int .i64 f.fly.pos.x.lo)).set_ 1 (.int .i64 f.fly.pos.x.hi)).set_ 2 (.int .i64 f.fly.pos.z.lo)).set_ 3 (.int .i64 f.fly.pos.z.hi)).set_ 4 (.int .i64 f.fly.speed.x.lo)).set_ 5 (.int .i64 f.fly.speed.x.hi)).set_ 6 (.int .i64 f.fly.speed.z.lo)).set_ 7 (.int .i64 f.fly.speed.z.hi)).set_ 8 (.int .i64 f.fly.mass)).set_ 9 (.slice none 0 0)).set_ 10 (.int .i64 f.reach)).set_ 11 (.int .i64 f.soft)).set_ 12 (.int .i64 f.bears)).set_ 13 (.int .i64 f.least)).set_ 14 (.int .i64 f.most))
      refine ⟨_, rfl, by omega, by simpa using kN', (((((((((((((((((hKf.alloc _).drew.below hb1 (by simp <;> omega)).far (by simp <;> omega) _).far (by simp <;> omega) _).far (by simp <;> omega) _).far (by simp <;> omega) _).far (by simp <;> omega) _).far (by simp <;> omega) _).far (by simp <;> omega) _).far (by simp <;> omega) _).far (by simp <;> omega) _).far (by simp <;> omega) _).far (by simp <;> omega) _).far (by simp <;> omega) _).far (by simp <;> omega) _).far (by simp <;> omega) _).far (by simp <;> omega) _), (((((((((((((((((hKr.alloc _).drew.below hb1 (by simp <;> omega)).far (by simp <;> omega) _).far (by simp <;> omega) _).far (by simp <;> omega) _).far (by simp <;> omega) _).far (by simp <;> omega) _).far (by simp <;> omega) _).far (by simp <;> omega) _).far (by simp <;> omega) _).far (by simp <;> omega) _).far (by simp <;> omega) _).far (by simp <;> omega) _).far (by simp <;> omega) _).far (by simp <;> omega) _).far (by simp <;> omega) _).far (by simp <;> omega) _), ?_⟩
      exact ((((((((((((((((hWb.trans (hB1.mono (by omega))).setCell (p := ⟨W0.heap.size, 0, none⟩) (by simp <;> omega) _).setCell (p := ⟨W0.heap.size, 1, none⟩) (by simp <;> omega) _).setCell (p := ⟨W0.heap.size, 2, none⟩) (by simp <;> omega) _).setCell (p := ⟨W0.heap.size, 3, none⟩) (by simp <;> omega) _).setCell (p := ⟨W0.heap.size, 4, none⟩) (by simp <;> omega) _).setCell (p := ⟨W0.heap.size, 5, none⟩) (by simp <;> omega) _).setCell (p := ⟨W0.heap.size, 6, none⟩) (by simp <;> omega) _).setCell (p := ⟨W0.heap.size, 7, none⟩) (by simp <;> omega) _).setCell (p := ⟨W0.heap.size, 8, none⟩) (by simp <;> omega) _).setCell (p := ⟨W0.heap.size, 9, none⟩) (by simp <;> omega) _).setCell (p := ⟨W0.heap.size, 10, none⟩) (by simp <;> omega) _).setCell (p := ⟨W0.heap.size, 11, none⟩) (by simp <;> omega) _).setCell (p := ⟨W0.heap.size, 12, none⟩) (by simp <;> omega) _).setCell (p := ⟨W0.heap.size, 13, none⟩) (by simp <;> omega) _).setCell (p := ⟨W0.heap.size, 14, none⟩) (by simp <;> omega) _)
  case rest =>
    obtain ⟨g, rfl, hg, kG, kF, kR, hBW⟩ := hcut
    clear kF0 kR0
    have hgl := kG.lt
    have hwcz := kR.lt
    go_wp2
    go_loopw [4] (fun i wr => ∃ (k : Nat) (v : Value), k ≤ f.cycle.length ∧ i = .int .i64 k ∧ Blk wr g 50 #[.int .i64 f.fly.pos.x.lo, .int .i64 f.fly.pos.x.hi, .int .i64 f.fly.pos.z.lo, .int .i64 f.fly.pos.z.hi, .int .i64 f.fly.speed.x.lo, .int .i64 f.fly.speed.x.hi, .int .i64 f.fly.speed.z.lo, .int .i64 f.fly.speed.z.hi, .int .i64 f.fly.mass, v, .int .i64 f.reach, .int .i64 f.soft, .int .i64 f.bears, .int .i64 f.least, .int .i64 f.most] ∧ Blk wr w.heap.size 32 #[.int .i64 f.fly.pos.x.lo, .int .i64 f.fly.pos.x.hi, .int .i64 f.fly.pos.z.lo, .int .i64 f.fly.pos.z.hi, .int .i64 f.fly.speed.x.lo, .int .i64 f.fly.speed.x.hi, .int .i64 f.fly.speed.z.lo, .int .i64 f.fly.speed.z.hi, .int .i64 f.fly.mass, .slice A f.cycle.length c, .int .i64 f.reach, .int .i64 f.soft, .int .i64 f.bears, .int .i64 f.least, .int .i64 f.most] ∧ Blk wr (w.heap.size + 1) 50 #[.int .i64 0, .int .i64 0, .int .i64 0, .int .i64 0, .int .i64 0, .int .i64 0, .int .i64 0, .int .i64 0, .int .i64 0, .slice none 0 0, .int .i64 0, .int .i64 0, .int .i64 0, .int .i64 0, .int .i64 0] ∧ wr.ownsRow wc.heap.size 37 4 v k ((f.cycle.take k).flatMap encB) ∧ Below w.heap.size w wr ∧ wc.heap.size ≤ wr.heap.size) (fun i _ => f.cycle.length - (intOf i).toNat)
    case atStart => exact ⟨0, _, Nat.zero_le _, rfl, kG, kF, kR, World.ownsRow_nil _ _ _ _, hBW, Nat.le_refl _⟩
    case round =>
      obtain ⟨k, v, hk, rfl, rG, rF, rR, hown, hB, hsz⟩ := hrel
      have f9 := rF.cell 9
      have fl := rF.lt
      simp at f9
      by_cases hlt : k < f.cycle.length
      · obtain ⟨b, hb⟩ := getElem?_lt hlt
        obtain ⟨q, off, rfl, hq, hc⟩ := (hr.below hB (Nat.le_refl _)).at_ hb
        have b0 := hc 0 _ rfl
        have b1 := hc 1 _ rfl
        have b2 := hc 2 _ rfl
        have b3 := hc 3 _ rfl
        simp only [Nat.add_zero] at b0
        have hkI : (k : Int) < (f.cycle.length : Int) := by omega
        have g9 := rG.cell 9
        have gl := rG.lt
        simp at g9
        have Hb := Lib.hid hb
        have HB := Lib.hid hB
        have HO := Lib.hid hown
        clear hb hc hB hown kG kF kR
        go_wp2
        go_region_law (first | (refine step_append_lies _ (by rfl) _ _ _ (by rfl) wc.heap.size 37 i0 _ 4 32 Try.underlying46 hi0 hz0 hz1 hz2 rfl (by omega) v k _ (by rfl) (hown1.out.alloc _) ⟨w1.heap.size, 0, none⟩ 1 1 [.int .i64 b.x.lo, .int .i64 b.x.hi, .int .i64 b.z.lo, .int .i64 b.z.hi] (by rfl) (by rfl) (World.news_of_block (cs := #[.int .i64 b.x.lo, .int .i64 b.x.hi, .int .i64 b.z.lo, .int .i64 b.z.hi]) (t := 37) (fr := (0, 0)) (heap_alloc_new w1 _)) (by simp [Value.oneCell']) (by omega) (by unfold maxLen; omega) (by omega) (by simp <;> omega) (w1.heap.size + 1) (by simp) ?_; intro gg cap w3 hown3 hgrow hat hlt3; have rG3 := (rG1.alloc (.cells #[.int .i64 b.x.lo, .int .i64 b.x.hi, .int .i64 b.z.lo, .int .i64 b.z.hi] 37)).grown hgrow (fun e => by have := own_base hown1.out _ e.symm; omega); have y9 := rG3.cell 9; have yf := rG3.frozen 9; have yl := rG3.lt; simp at y9) | (go_simp; go_at_call 24; refine (lawBox_any b _).mono ?_; rintro e w1 ⟨rfl, hb1⟩; have rG1 := (rG.drew).below hb1 (by simpa using gl); have g9' := rG1.cell 9; have gl1 := rG1.lt; simp at g9'; have hown1 := Lib.hid (own_below (w := wr.drew) HO.out hb1); have hsz1 : wc.heap.size ≤ w1.heap.size := (by have := hb1.size; simp at this; omega)))
        all_goals go_wp2
        all_goals
          have hs1 := hb1.size
          have hs3 := hgrow.size
          simp at hs1 hs3
          have rF3 := ((rF.drew.below hb1 (by simpa using fl)).alloc (.cells #[.int .i64 b.x.lo, .int .i64 b.x.hi, .int .i64 b.z.lo, .int .i64 b.z.hi] 37)).grown hgrow (fun e => by have := own_base hown1.out _ e.symm; omega)
          have rR3 := ((rR.drew.below hb1 (by simpa using rR.lt)).alloc (.cells #[.int .i64 b.x.lo, .int .i64 b.x.hi, .int .i64 b.z.lo, .int .i64 b.z.hi] 37)).grown hgrow (fun e => by have := own_base hown1.out _ e.symm; omega)
          have hBe := (((HB.out.drew.trans (hb1.mono (by simpa using HB.out.size))).alloc (by have := HB.out.size; omega) (.cells #[.int .i64 b.x.lo, .int .i64 b.x.hi, .int .i64 b.z.lo, .int .i64 b.z.hi] 37)).grown hgrow (by have := HB.out.size; simp; omega) (fun j e => by have := own_base hown1.out _ e; omega)).setCell (p := ⟨g, 9, none⟩) (by show w.heap.size ≤ g; omega) (.slice (some ⟨gg, 0, none⟩) (k + 1) cap)
          refine ⟨⟨k + 1, .slice (some ⟨gg, 0, none⟩) (k + 1) cap, by omega, by go_num, by simpa using rG3.set_ 9 (.slice (some ⟨gg, 0, none⟩) (k + 1) cap), rF3.far (by show w.heap.size ≠ g; omega) _, rR3.far (by show w.heap.size + 1 ≠ g; omega) _, ?_, hBe, by simp; omega⟩, by simp [intOf]; omega⟩
          rw [flat_snoc Hb.out]
          exact ownsRow_setCell_below hown3 (by show g < _; omega) _
      · obtain rfl : k = f.cycle.length := by omega
        rw [List.take_length] at hown
        obtain ⟨A2, c2, rfl, hc3, hc4⟩ := own_slice hown
        clear hr hc3 hc4
        have HO := Lib.hid hown
        clear hown
        have g0 := rG.cell 0
        have g1 := rG.cell 1
        have g2 := rG.cell 2
        have g3 := rG.cell 3
        have g4 := rG.cell 4
        have g5 := rG.cell 5
        have g6 := rG.cell 6
        have g7 := rG.cell 7
        have g8 := rG.cell 8
        have g9 := rG.cell 9
        have g10 := rG.cell 10
        have g11 := rG.cell 11
        have g12 := rG.cell 12
        have g13 := rG.cell 13
        have g14 := rG.cell 14
        simp at g0 g1 g2 g3 g4 g5 g6 g7 g8 g9 g10 g11 g12 g13 g14
        have gl := rG.lt
        have rl := rR.lt
        have z0 := rR.frozen 0
        have z1 := rR.frozen 1
        have z2 := rR.frozen 2
        have z3 := rR.frozen 3
        have z4 := rR.frozen 4
        have z5 := rR.frozen 5
        have z6 := rR.frozen 6
        have z7 := rR.frozen 7
        have z8 := rR.frozen 8
        have z9 := rR.frozen 9
        have z10 := rR.frozen 10
        have z11 := rR.frozen 11
        have z12 := rR.frozen 12
        have z13 := rR.frozen 13
        have z14 := rR.frozen 14
        have y0 := rR.cell 0
        have y1 := rR.cell 1
        have y2 := rR.cell 2
        have y3 := rR.cell 3
        have y4 := rR.cell 4
        have y5 := rR.cell 5
        have y6 := rR.cell 6
        have y7 := rR.cell 7
        have y8 := rR.cell 8
        have y9 := rR.cell 9
        have y10 := rR.cell 10
        have y11 := rR.cell 11
        have y12 := rR.cell 12
        have y13 := rR.cell 13
        have y14 := rR.cell 14
        simp at y0 y1 y2 y3 y4 y5 y6 y7 y8 y9 y10 y11 y12 y13 y14
        go_wp2
        have kF := (((((((((((((((rR.set_ 0 (.int .i64 f.fly.pos.x.lo)).set_ 1 (.int .i64 f.fly.pos.x.hi)).set_ 2 (.int .i64 f.fly.pos.z.lo)).set_ 3 (.int .i64 f.fly.pos.z.hi)).set_ 4 (.int .i64 f.fly.speed.x.lo)).set_ 5 (.int .i64 f.fly.speed.x.hi)).set_ 6 (.int .i64 f.fly.speed.z.lo)).set_ 7 (.int .i64 f.fly.speed.z.hi)).set_ 8 (.int .i64 f.fly.mass)).set_ 9 (.slice A2 f.cycle.length c2)).set_ 10 (.int .i64 f.reach)).set_ 11 (.int .i64 f.soft)).set_ 12 (.int .i64 f.bears)).set_ 13 (.int .i64 f.least)).set_ 14 (.int .i64 f.most))
        have r0 := kF.cell 0
        have r1 := kF.cell 1
        have r2 := kF.cell 2
        have r3 := kF.cell 3
        have r4 := kF.cell 4
        have r5 := kF.cell 5
        have r6 := kF.cell 6
        have r7 := kF.cell 7
        have r8 := kF.cell 8
        have r9 := kF.cell 9
        have r10 := kF.cell 10
        have r11 := kF.cell 11
        have r12 := kF.cell 12
        have r13 := kF.cell 13
        have r14 := kF.cell 14
        simp at r0 r1 r2 r3 r4 r5 r6 r7 r8 r9 r10 r11 r12 r13 r14
        refine bodyPost_ret (v := .agg #[.int .i64 f.fly.pos.x.lo, .int .i64 f.fly.pos.x.hi, .int .i64 f.fly.pos.z.lo, .int .i64 f.fly.pos.z.hi, .int .i64 f.fly.speed.x.lo, .int .i64 f.fly.speed.x.hi, .int .i64 f.fly.speed.z.lo, .int .i64 f.fly.speed.z.hi, .int .i64 f.fly.mass, .slice A2 f.cycle.length c2, .int .i64 f.reach, .int .i64 f.soft, .int .i64 f.bears, .int .i64 f.least, .int .i64 f.most]) (by simp [results, Try.results19, go_sem, r0, r1, r2, r3, r4, r5, r6, r7, r8, r9, r10, r11, r12, r13, r14]) rfl ⟨A2, c2, rfl, RS.of_own (enc := encB) (sz := 4) (fun _ => rfl) (ownsRow_setCell_below (ownsRow_setCell_below (ownsRow_setCell_below (ownsRow_setCell_below (ownsRow_setCell_below (ownsRow_setCell_below (ownsRow_setCell_below (ownsRow_setCell_below (ownsRow_setCell_below (ownsRow_setCell_below (ownsRow_setCell_below (ownsRow_setCell_below (ownsRow_setCell_below (ownsRow_setCell_below (ownsRow_setCell_below HO.out (by show w.heap.size + 1 < _; omega) _) (by show w.heap.size + 1 < _; omega) _) (by show w.heap.size + 1 < _; omega) _) (by show w.heap.size + 1 < _; omega) _) (by show w.heap.size + 1 < _; omega) _) (by show w.heap.size + 1 < _; omega) _) (by show w.heap.size + 1 < _; omega) _) (by show w.heap.size + 1 < _; omega) _) (by show w.heap.size + 1 < _; omega) _) (by show w.heap.size + 1 < _; omega) _) (by show w.heap.size + 1 < _; omega) _) (by show w.heap.size + 1 < _; omega) _) (by show w.heap.size + 1 < _; omega) _) (by show w.heap.size + 1 < _; omega) _) (by show w.heap.size + 1 < _; omega) _) rfl, ?_⟩
        exact (((((((((((((((hB.setCell (p := ⟨w.heap.size + 1, 0, none⟩) (by show w.heap.size ≤ w.heap.size + 1; omega) _).setCell (p := ⟨w.heap.size + 1, 1, none⟩) (by show w.heap.size ≤ w.heap.size + 1; omega) _).setCell (p := ⟨w.heap.size + 1, 2, none⟩) (by show w.heap.size ≤ w.heap.size + 1; omega) _).setCell (p := ⟨w.heap.size + 1, 3, none⟩) (by show w.heap.size ≤ w.heap.size + 1; omega) _).setCell (p := ⟨w.heap.size + 1, 4, none⟩) (by show w.heap.size ≤ w.heap.size + 1; omega) _).setCell (p := ⟨w.heap.size + 1, 5, none⟩) (by show w.heap.size ≤ w.heap.size + 1; omega) _).setCell (p := ⟨w.heap.size + 1, 6, none⟩) (by show w.heap.size ≤ w.heap.size + 1; omega) _).setCell (p := ⟨w.heap.size + 1, 7, none⟩) (by show w.heap.size ≤ w.heap.size + 1; omega) _).setCell (p := ⟨w.heap.size + 1, 8, none⟩) (by show w.heap.size ≤ w.heap.size + 1; omega) _).setCell (p := ⟨w.heap.size + 1, 9, none⟩) (by show w.heap.size ≤ w.heap.size + 1; omega) _).setCell (p := ⟨w.heap.size + 1, 10, none⟩) (by show w.heap.size ≤ w.heap.size + 1; omega) _).setCell (p := ⟨w.heap.size + 1, 11, none⟩) (by show w.heap.size ≤ w.heap.size + 1; omega) _).setCell (p := ⟨w.heap.size + 1, 12, none⟩) (by show w.heap.size ≤ w.heap.size + 1; omega) _).setCell (p := ⟨w.heap.size + 1, 13, none⟩) (by show w.heap.size ≤ w.heap.size + 1; omega) _).setCell (p := ⟨w.heap.size + 1, 14, none⟩) (by show w.heap.size ≤ w.heap.size + 1; omega) _)
end Go.Proofs.Ytbagfapalkmikaa
