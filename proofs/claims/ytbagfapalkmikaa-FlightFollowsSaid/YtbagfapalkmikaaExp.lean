import Derived.Test.YtbagfapalkmikaaTakes
import Derived.Test.YtbagfapalkmikaaLoad

/- Contracts of Swing, After, Load, CheckFlight, Landing, Takes. -/
namespace Go.Proofs.Ytbagfapalkmikaa
open Go.RowKit

set_option maxHeartbeats 1000000 in
theorem Swing_ok (l wd : Int) (w : World) (hl : 1 ≤ l ∧ l ≤ 20000) (hw : 0 ≤ wd ∧ wd ≤ 100) :
    Calls Try.prog 50 #[.int .i64 l, .int .i64 wd] w fun e w' => e = .returned (.tuple #[.agg #[.int .i64 (swing l wd).lo, .int .i64 (swing l wd).hi], .int .i64 0]) ∧ Below w.heap.size w w' := by
  have h1 : inB l 1 20000 = true := inB_true.2 hl
  have h2 : inB wd 0 100 = true := inB_true.2 hw
  have kR := Blk.new w 35 #[.int .i64 0, .int .i64 0]
  have HS : Hid (∀ W : World, Calls Try.prog 80 #[.int .i64 l, .int .i64 wd] W fun e w' => e = .returned (.agg #[.int .i64 (swing l wd).lo, .int .i64 (swing l wd).hi]) ∧ Below W.heap.size W w') := fun W => swing_any l wd W hl hw
  clear hl hw
  go_enter Try.func50, Try.ntmps50
  go_wp2_with (first | (go_at_call 76; refine (fwithin_any _ _ _ _).mono ?_; rintro e w' ⟨rfl, rfl⟩) | (go_at_call 80; (with_reducible refine (HS.out _).mono ?_); rintro e w1 ⟨rfl, hb1⟩; have kR1 := kR.below hb1 kR.lt; have r0 := kR1.cell 0; have r1 := kR1.cell 1; have g0 := kR1.frozen 0; have g1 := kR1.frozen 1; have rl := kR1.lt; simp at r0 r1))
  have kF := (kR1.set_ 0 (.int .i64 (swing l wd).lo)).set_ 1 (.int .i64 (swing l wd).hi)
  have v0 := kF.cell 0
  have v1 := kF.cell 1
  simp at v0 v1
  refine bodyPost_ret (v := .tuple #[.agg #[.int .i64 (swing l wd).lo, .int .i64 (swing l wd).hi], .int .i64 0]) (by simp [results, Try.results50, go_sem, v0, v1]) rfl ⟨rfl, ?_⟩
  exact ((((Below.refl _ w).alloc (Nat.le_refl _) _).trans (hb1.mono (by simp))).setCell (p := ⟨w.heap.size, 0, none⟩) (Nat.le_refl _) _).setCell (p := ⟨w.heap.size, 1, none⟩) (Nat.le_refl _) _
set_option maxHeartbeats 1000000 in
theorem Swing_bad (l wd : Int) (w : World) (h : (inB l 1 20000 && inB wd 0 100) = false) :
    Calls Try.prog 50 #[.int .i64 l, .int .i64 wd] w fun e w' => e = .returned (.tuple #[.agg #[.int .i64 0, .int .i64 0], .int .i64 2]) ∧ Below w.heap.size w w' := by
  cases h1 : inB l 1 20000 <;> cases h2 : inB wd 0 100
  all_goals try (exfalso; rw [h1, h2] at h; exact absurd h (by decide))
  all_goals
    clear h
    go_enter Try.func50, Try.ntmps50
    go_wp2_with ((go_at_call 76; refine (fwithin_any _ _ _ _).mono ?_; rintro e w' ⟨rfl, rfl⟩))
    refine bodyPost_ret (v := .tuple #[.agg #[.int .i64 0, .int .i64 0], .int .i64 2]) (by simp [results, Try.results50, go_sem]) rfl ⟨rfl, ?_⟩
    exact (Below.refl _ _).alloc (Nat.le_refl _) _

/-- The error of a call with a flyer and ticks. -/
def airE (ok : Bool) (t : Int) : Int := if ok then (if inB t 0 300 then 0 else 2) else 1
set_option maxHeartbeats 2000000 in
theorem After_ok (f : Fly) (t : Int) (w : World) (hf : f.ok = true) (ht : inB t 0 300 = true) :
    Calls Try.prog 16 #[.agg #[.int .i64 f.pos.x.lo, .int .i64 f.pos.x.hi, .int .i64 f.pos.z.lo, .int .i64 f.pos.z.hi, .int .i64 f.speed.x.lo, .int .i64 f.speed.x.hi, .int .i64 f.speed.z.lo, .int .i64 f.speed.z.hi, .int .i64 f.mass], .int .i64 t] w fun e w' => e = .returned (.tuple #[.agg #[.int .i64 (f.after t).x.lo, .int .i64 (f.after t).x.hi, .int .i64 (f.after t).z.lo, .int .i64 (f.after t).z.hi], .int .i64 0]) ∧ Below w.heap.size w w' := by
  have hB0 := ((Below.refl w.heap.size w).alloc (Nat.le_refl _) (.cells #[.int .i64 f.pos.x.lo, .int .i64 f.pos.x.hi, .int .i64 f.pos.z.lo, .int .i64 f.pos.z.hi, .int .i64 f.speed.x.lo, .int .i64 f.speed.x.hi, .int .i64 f.speed.z.lo, .int .i64 f.speed.z.hi, .int .i64 f.mass] 42)).alloc (by simp) (.cells #[.int .i64 0, .int .i64 0, .int .i64 0, .int .i64 0] 37)
  have kY := (Blk.new w 42 #[.int .i64 f.pos.x.lo, .int .i64 f.pos.x.hi, .int .i64 f.pos.z.lo, .int .i64 f.pos.z.hi, .int .i64 f.speed.x.lo, .int .i64 f.speed.x.hi, .int .i64 f.speed.z.lo, .int .i64 f.speed.z.hi, .int .i64 f.mass]).alloc (.cells #[.int .i64 0, .int .i64 0, .int .i64 0, .int .i64 0] 37)
  have kR := Blk.new (w.alloc (.cells #[.int .i64 f.pos.x.lo, .int .i64 f.pos.x.hi, .int .i64 f.pos.z.lo, .int .i64 f.pos.z.hi, .int .i64 f.speed.x.lo, .int .i64 f.speed.x.hi, .int .i64 f.speed.z.lo, .int .i64 f.speed.z.hi, .int .i64 f.mass] 42)) 37 #[.int .i64 0, .int .i64 0, .int .i64 0, .int .i64 0]
  simp only [World.size_alloc] at kR
  have hz := hB0.size
  have HA : Hid (∀ W : World, Calls Try.prog 55 #[.agg #[.int .i64 f.pos.x.lo, .int .i64 f.pos.x.hi, .int .i64 f.pos.z.lo, .int .i64 f.pos.z.hi, .int .i64 f.speed.x.lo, .int .i64 f.speed.x.hi, .int .i64 f.speed.z.lo, .int .i64 f.speed.z.hi, .int .i64 f.mass], .int .i64 t] W fun e w' => e = .returned (.agg #[.int .i64 (f.after t).x.lo, .int .i64 (f.after t).x.hi, .int .i64 (f.after t).z.lo, .int .i64 (f.after t).z.hi]) ∧ Below W.heap.size W w') := fun W => after_any f t W hf (inB_true.1 ht)
  have HV : Hid (∀ W : World, Calls Try.prog 53 #[.agg #[.int .i64 f.pos.x.lo, .int .i64 f.pos.x.hi, .int .i64 f.pos.z.lo, .int .i64 f.pos.z.hi, .int .i64 f.speed.x.lo, .int .i64 f.speed.x.hi, .int .i64 f.speed.z.lo, .int .i64 f.speed.z.hi, .int .i64 f.mass]] W fun e w' => e = .returned (.bool true) ∧ Below W.heap.size W w') := fun W => by rw [← hf]; exact flyer_any f W
  clear hf
  go_enter Try.func16, Try.ntmps16
  go_wp2_with (first | (go_at_call 53; (with_reducible refine (HV.out _).mono ?_); rintro e w1 ⟨rfl, hb1⟩; have kY1 := kY.below hb1 kY.lt; have kR1 := kR.below hb1 kR.lt; have y0 := kY1.cell 0; have y1 := kY1.cell 1; have y2 := kY1.cell 2; have y3 := kY1.cell 3; have y4 := kY1.cell 4; have y5 := kY1.cell 5; have y6 := kY1.cell 6; have y7 := kY1.cell 7; have y8 := kY1.cell 8; simp at y0 y1 y2 y3 y4 y5 y6 y7 y8) | (go_at_call 54; refine (isAir_any _ _).mono ?_; rintro e w' ⟨rfl, rfl⟩) | (go_at_call 55; (with_reducible refine (HA.out _).mono ?_); rintro e w2 ⟨rfl, hb2⟩; have kR2 := kR1.below hb2 kR1.lt; have r0 := kR2.cell 0; have r1 := kR2.cell 1; have r2 := kR2.cell 2; have r3 := kR2.cell 3; have g0 := kR2.frozen 0; have g1 := kR2.frozen 1; have g2 := kR2.frozen 2; have g3 := kR2.frozen 3; have rl := kR2.lt; simp at r0 r1 r2 r3))
  have hB2 := hB0.trans ((sh_next hb1 hb2).mono hz)
  have kF := (((kR2.set_ 0 (.int .i64 (f.after t).x.lo)).set_ 1 (.int .i64 (f.after t).x.hi)).set_ 2 (.int .i64 (f.after t).z.lo)).set_ 3 (.int .i64 (f.after t).z.hi)
  have v0 := kF.cell 0
  have v1 := kF.cell 1
  have v2 := kF.cell 2
  have v3 := kF.cell 3
  simp at v0 v1 v2 v3
  refine bodyPost_ret (v := .tuple #[.agg #[.int .i64 (f.after t).x.lo, .int .i64 (f.after t).x.hi, .int .i64 (f.after t).z.lo, .int .i64 (f.after t).z.hi], .int .i64 0]) (by simp [results, Try.results16, go_sem, v0, v1, v2, v3]) rfl ⟨rfl, ?_⟩
  exact (((hB2.setCell (p := ⟨w.heap.size + 1, 0, none⟩) (by simp) _).setCell (p := ⟨w.heap.size + 1, 1, none⟩) (by simp) _).setCell (p := ⟨w.heap.size + 1, 2, none⟩) (by simp) _).setCell (p := ⟨w.heap.size + 1, 3, none⟩) (by simp) _
set_option maxHeartbeats 2000000 in
theorem After_bad (f : Fly) (t : Int) (w : World) (h : airE f.ok t ≠ 0) :
    Calls Try.prog 16 #[.agg #[.int .i64 f.pos.x.lo, .int .i64 f.pos.x.hi, .int .i64 f.pos.z.lo, .int .i64 f.pos.z.hi, .int .i64 f.speed.x.lo, .int .i64 f.speed.x.hi, .int .i64 f.speed.z.lo, .int .i64 f.speed.z.hi, .int .i64 f.mass], .int .i64 t] w fun e w' => e = .returned (.tuple #[.agg #[.int .i64 0, .int .i64 0, .int .i64 0, .int .i64 0], .int .i64 (airE f.ok t)]) ∧ Below w.heap.size w w' := by
  have hB0 := ((Below.refl w.heap.size w).alloc (Nat.le_refl _) (.cells #[.int .i64 f.pos.x.lo, .int .i64 f.pos.x.hi, .int .i64 f.pos.z.lo, .int .i64 f.pos.z.hi, .int .i64 f.speed.x.lo, .int .i64 f.speed.x.hi, .int .i64 f.speed.z.lo, .int .i64 f.speed.z.hi, .int .i64 f.mass] 42)).alloc (by simp) (.cells #[.int .i64 0, .int .i64 0, .int .i64 0, .int .i64 0] 37)
  have kR := Blk.new (w.alloc (.cells #[.int .i64 f.pos.x.lo, .int .i64 f.pos.x.hi, .int .i64 f.pos.z.lo, .int .i64 f.pos.z.hi, .int .i64 f.speed.x.lo, .int .i64 f.speed.x.hi, .int .i64 f.speed.z.lo, .int .i64 f.speed.z.hi, .int .i64 f.mass] 42)) 37 #[.int .i64 0, .int .i64 0, .int .i64 0, .int .i64 0]
  simp only [World.size_alloc] at kR
  have hz := hB0.size
  cases h1 : f.ok <;> cases h2 : inB t 0 300
  all_goals try (exfalso; apply h; rw [h1]; unfold airE; rw [h2]; rfl)
  all_goals
    have HEf : Hid (airE false t = 1) := rfl
    have HEt : Hid (inB t 0 300 = false → airE true t = 2) := (fun h => by unfold airE; rw [h]; rfl : _ → _)
    have HV : Hid (∀ W : World, Calls Try.prog 53 #[.agg #[.int .i64 f.pos.x.lo, .int .i64 f.pos.x.hi, .int .i64 f.pos.z.lo, .int .i64 f.pos.z.hi, .int .i64 f.speed.x.lo, .int .i64 f.speed.x.hi, .int .i64 f.speed.z.lo, .int .i64 f.speed.z.hi, .int .i64 f.mass]] W fun e w' => e = .returned (.bool f.ok) ∧ Below W.heap.size W w') := fun W => flyer_any f W
    rw [h1] at HV
    have H1 := Lib.hid h1
    have HH := Lib.hid h
    clear h1 h
    go_enter Try.func16, Try.ntmps16
    go_wp2_with (first | (go_at_call 53; (with_reducible refine (HV.out _).mono ?_); rintro e w1 ⟨rfl, hb1⟩; have kR1 := kR.below hb1 kR.lt; have r0 := kR1.cell 0; have r1 := kR1.cell 1; have r2 := kR1.cell 2; have r3 := kR1.cell 3; have g0 := kR1.frozen 0; have g1 := kR1.frozen 1; have g2 := kR1.frozen 2; have g3 := kR1.frozen 3; have rl := kR1.lt; simp at r0 r1 r2 r3) | (go_at_call 54; refine (isAir_any _ _).mono ?_; rintro e w' ⟨rfl, rfl⟩))
    have hB2 := hB0.trans (hb1.mono hz)
    have kF := (((kR1.set_ 0 (.int .i64 0)).set_ 1 (.int .i64 0)).set_ 2 (.int .i64 0)).set_ 3 (.int .i64 0)
    have v0 := kF.cell 0
    have v1 := kF.cell 1
    have v2 := kF.cell 2
    have v3 := kF.cell 3
    simp at v0 v1 v2 v3
    first
    | rw [HEt.out h2]
    | rw [HEf.out]
    first
    | refine bodyPost_ret (v := .tuple #[.agg #[.int .i64 0, .int .i64 0, .int .i64 0, .int .i64 0], .int .i64 1]) (by simp [results, Try.results16, go_sem, v0, v1, v2, v3]; done) rfl ⟨rfl, ?_⟩
    | refine bodyPost_ret (v := .tuple #[.agg #[.int .i64 0, .int .i64 0, .int .i64 0, .int .i64 0], .int .i64 2]) (by simp [results, Try.results16, go_sem, v0, v1, v2, v3]; done) rfl ⟨rfl, ?_⟩
    exact (((hB2.setCell (p := ⟨w.heap.size + 1, 0, none⟩) (by simp) _).setCell (p := ⟨w.heap.size + 1, 1, none⟩) (by simp) _).setCell (p := ⟨w.heap.size + 1, 2, none⟩) (by simp) _).setCell (p := ⟨w.heap.size + 1, 3, none⟩) (by simp) _

set_option maxHeartbeats 2000000 in
theorem Takes_ok (f : Fly) (n : Net) (w : World) (hf : f.ok = true) (hn : n.ok = true) :
    Calls Try.prog 29 #[.agg #[.int .i64 f.pos.x.lo, .int .i64 f.pos.x.hi, .int .i64 f.pos.z.lo, .int .i64 f.pos.z.hi, .int .i64 f.speed.x.lo, .int .i64 f.speed.x.hi, .int .i64 f.speed.z.lo, .int .i64 f.speed.z.hi, .int .i64 f.mass], .agg #[.int .i64 n.x.lo, .int .i64 n.x.hi, .int .i64 n.height]] w fun e w' => e = .returned (.tuple #[.bool (takesB f n), .int .i64 0]) ∧ Below w.heap.size w w' := by
  have hB0 := ((Below.refl w.heap.size w).alloc (Nat.le_refl _) (.cells #[.int .i64 f.pos.x.lo, .int .i64 f.pos.x.hi, .int .i64 f.pos.z.lo, .int .i64 f.pos.z.hi, .int .i64 f.speed.x.lo, .int .i64 f.speed.x.hi, .int .i64 f.speed.z.lo, .int .i64 f.speed.z.hi, .int .i64 f.mass] 42)).alloc (by simp) (.cells #[.int .i64 n.x.lo, .int .i64 n.x.hi, .int .i64 n.height] 64)
  have kY := (Blk.new w 42 #[.int .i64 f.pos.x.lo, .int .i64 f.pos.x.hi, .int .i64 f.pos.z.lo, .int .i64 f.pos.z.hi, .int .i64 f.speed.x.lo, .int .i64 f.speed.x.hi, .int .i64 f.speed.z.lo, .int .i64 f.speed.z.hi, .int .i64 f.mass]).alloc (.cells #[.int .i64 n.x.lo, .int .i64 n.x.hi, .int .i64 n.height] 64)
  have kN := Blk.new (w.alloc (.cells #[.int .i64 f.pos.x.lo, .int .i64 f.pos.x.hi, .int .i64 f.pos.z.lo, .int .i64 f.pos.z.hi, .int .i64 f.speed.x.lo, .int .i64 f.speed.x.hi, .int .i64 f.speed.z.lo, .int .i64 f.speed.z.hi, .int .i64 f.mass] 42)) 64 #[.int .i64 n.x.lo, .int .i64 n.x.hi, .int .i64 n.height]
  simp only [World.size_alloc] at kN
  have hz := hB0.size
  have HA : Hid (∀ W : World, Calls Try.prog 62 #[.agg #[.int .i64 n.x.lo, .int .i64 n.x.hi, .int .i64 n.height], .agg #[.int .i64 f.pos.x.lo, .int .i64 f.pos.x.hi, .int .i64 f.pos.z.lo, .int .i64 f.pos.z.hi, .int .i64 f.speed.x.lo, .int .i64 f.speed.x.hi, .int .i64 f.speed.z.lo, .int .i64 f.speed.z.hi, .int .i64 f.mass]] W fun e w' => e = .returned (.bool (takesB f n)) ∧ Below W.heap.size W w') := fun W => takes_any n f W hf
  have HV : Hid (∀ W : World, Calls Try.prog 53 #[.agg #[.int .i64 f.pos.x.lo, .int .i64 f.pos.x.hi, .int .i64 f.pos.z.lo, .int .i64 f.pos.z.hi, .int .i64 f.speed.x.lo, .int .i64 f.speed.x.hi, .int .i64 f.speed.z.lo, .int .i64 f.speed.z.hi, .int .i64 f.mass]] W fun e w' => e = .returned (.bool true) ∧ Below W.heap.size W w') := fun W => by rw [← hf]; exact flyer_any f W
  have HN : Hid (∀ W : World, Calls Try.prog 60 #[.agg #[.int .i64 n.x.lo, .int .i64 n.x.hi, .int .i64 n.height]] W fun e w' => e = .returned (.bool true) ∧ Below W.heap.size W w') := fun W => by rw [← hn]; exact netValid_any n W
  clear hf hn
  go_enter Try.func29, Try.ntmps29
  go_wp2_with (first | (go_at_call 53; (with_reducible refine (HV.out _).mono ?_); rintro e w1 ⟨rfl, hb1⟩; have kY1 := kY.below hb1 kY.lt; have kN1 := kN.below hb1 kN.lt; have n0 := kN1.cell 0; have n1 := kN1.cell 1; have n2 := kN1.cell 2; simp at n0 n1 n2) | (go_at_call 60; (with_reducible refine (HN.out _).mono ?_); rintro e w2 ⟨rfl, hb2⟩; have kY2 := kY1.below hb2 kY1.lt; have kN2 := kN1.below hb2 kN1.lt; have m0 := kN2.cell 0; have m1 := kN2.cell 1; have m2 := kN2.cell 2; have y0 := kY2.cell 0; have y1 := kY2.cell 1; have y2 := kY2.cell 2; have y3 := kY2.cell 3; have y4 := kY2.cell 4; have y5 := kY2.cell 5; have y6 := kY2.cell 6; have y7 := kY2.cell 7; have y8 := kY2.cell 8; simp at m0 m1 m2 y0 y1 y2 y3 y4 y5 y6 y7 y8) | (go_at_call 62; (with_reducible refine (HA.out _).mono ?_); rintro e w3 ⟨rfl, hb3⟩))
  go_ret2
  exact ⟨rfl, hB0.trans ((sh_next (sh_next hb1 hb2) hb3).mono hz)⟩
end Go.Proofs.Ytbagfapalkmikaa
