import Derived.Test.YtbagfapalkmikaaExp
import Derived.Test.YtbagfapalkmikaaCatches

/- Contracts of Load, CheckFlight, Landing, and of Takes on an error. -/
namespace Go.Proofs.Ytbagfapalkmikaa
open Go.RowKit

set_option maxHeartbeats 4000000 in
theorem Check_any (f : Flt) (A : Option Addr) (c : Nat) (w : World) (hl : f.cycle.length ≤ maxLen) (hA : RS encB 4 w w.heap.size A f.cycle) :
    Calls Try.prog 23 #[.agg #[.int .i64 f.fly.pos.x.lo, .int .i64 f.fly.pos.x.hi, .int .i64 f.fly.pos.z.lo, .int .i64 f.fly.pos.z.hi, .int .i64 f.fly.speed.x.lo, .int .i64 f.fly.speed.x.hi, .int .i64 f.fly.speed.z.lo, .int .i64 f.fly.speed.z.hi, .int .i64 f.fly.mass, .slice A f.cycle.length c, .int .i64 f.reach, .int .i64 f.soft, .int .i64 f.bears, .int .i64 f.least, .int .i64 f.most]] w fun e w' => e = .returned (.int .i64 (if f.ok then 0 else 1)) ∧ Below w.heap.size w w' := by
  have hB0 := (Below.refl w.heap.size w).alloc (Nat.le_refl _) (.cells #[.int .i64 f.fly.pos.x.lo, .int .i64 f.fly.pos.x.hi, .int .i64 f.fly.pos.z.lo, .int .i64 f.fly.pos.z.hi, .int .i64 f.fly.speed.x.lo, .int .i64 f.fly.speed.x.hi, .int .i64 f.fly.speed.z.lo, .int .i64 f.fly.speed.z.hi, .int .i64 f.fly.mass, .slice A f.cycle.length c, .int .i64 f.reach, .int .i64 f.soft, .int .i64 f.bears, .int .i64 f.least, .int .i64 f.most] 50)
  have HV : Hid (Calls Try.prog 56 #[.agg #[.int .i64 f.fly.pos.x.lo, .int .i64 f.fly.pos.x.hi, .int .i64 f.fly.pos.z.lo, .int .i64 f.fly.pos.z.hi, .int .i64 f.fly.speed.x.lo, .int .i64 f.fly.speed.x.hi, .int .i64 f.fly.speed.z.lo, .int .i64 f.fly.speed.z.hi, .int .i64 f.fly.mass, .slice A f.cycle.length c, .int .i64 f.reach, .int .i64 f.soft, .int .i64 f.bears, .int .i64 f.least, .int .i64 f.most]] (w.alloc (.cells #[.int .i64 f.fly.pos.x.lo, .int .i64 f.fly.pos.x.hi, .int .i64 f.fly.pos.z.lo, .int .i64 f.fly.pos.z.hi, .int .i64 f.fly.speed.x.lo, .int .i64 f.fly.speed.x.hi, .int .i64 f.fly.speed.z.lo, .int .i64 f.fly.speed.z.hi, .int .i64 f.fly.mass, .slice A f.cycle.length c, .int .i64 f.reach, .int .i64 f.soft, .int .i64 f.bears, .int .i64 f.least, .int .i64 f.most] 50)) fun e w' => e = .returned (.bool f.ok) ∧ Below (w.alloc (.cells #[.int .i64 f.fly.pos.x.lo, .int .i64 f.fly.pos.x.hi, .int .i64 f.fly.pos.z.lo, .int .i64 f.fly.pos.z.hi, .int .i64 f.fly.speed.x.lo, .int .i64 f.fly.speed.x.hi, .int .i64 f.fly.speed.z.lo, .int .i64 f.fly.speed.z.hi, .int .i64 f.fly.mass, .slice A f.cycle.length c, .int .i64 f.reach, .int .i64 f.soft, .int .i64 f.bears, .int .i64 f.least, .int .i64 f.most] 50)).heap.size (w.alloc (.cells #[.int .i64 f.fly.pos.x.lo, .int .i64 f.fly.pos.x.hi, .int .i64 f.fly.pos.z.lo, .int .i64 f.fly.pos.z.hi, .int .i64 f.fly.speed.x.lo, .int .i64 f.fly.speed.x.hi, .int .i64 f.fly.speed.z.lo, .int .i64 f.fly.speed.z.hi, .int .i64 f.fly.mass, .slice A f.cycle.length c, .int .i64 f.reach, .int .i64 f.soft, .int .i64 f.bears, .int .i64 f.least, .int .i64 f.most] 50)) w') := flight_any f A c _ (hA.to hB0) hl
  have HB0 := Lib.hid hB0
  clear hA hl hB0
  cases h1 : f.ok
  all_goals
    rw [h1] at HV
    have H1 := Lib.hid h1
    clear h1
    go_enter Try.func23, Try.ntmps23
    go_wp2_with (go_at_call 56; (with_reducible refine HV.out.mono ?_); rintro e w1 ⟨rfl, hb1⟩)
    go_ret
    exact ⟨rfl, HB0.out.trans (hb1.mono (by simp))⟩

set_option maxHeartbeats 8000000 in
theorem Load_ok (f : Flt) (A : Option Addr) (c : Nat) (t : Int) (w : World) (hf : f.ok = true) (hA : RS encB 4 w w.heap.size A f.cycle) (ht : inB t 0 300 = true) :
    Calls Try.prog 18 #[.agg #[.int .i64 f.fly.pos.x.lo, .int .i64 f.fly.pos.x.hi, .int .i64 f.fly.pos.z.lo, .int .i64 f.fly.pos.z.hi, .int .i64 f.fly.speed.x.lo, .int .i64 f.fly.speed.x.hi, .int .i64 f.fly.speed.z.lo, .int .i64 f.fly.speed.z.hi, .int .i64 f.fly.mass, .slice A f.cycle.length c, .int .i64 f.reach, .int .i64 f.soft, .int .i64 f.bears, .int .i64 f.least, .int .i64 f.most], .int .i64 t] w fun e w' => e = .returned (.tuple #[.int .i64 (f.load t), .int .i64 0]) ∧ Below w.heap.size w w' := by
  obtain ⟨hfl, ⟨hc1, hc2⟩, _, _, hso, _, _, hmo, _⟩ := Flt.ok_iff.1 hf
  have hB0 := (Below.refl w.heap.size w).alloc (Nat.le_refl _) (.cells #[.int .i64 f.fly.pos.x.lo, .int .i64 f.fly.pos.x.hi, .int .i64 f.fly.pos.z.lo, .int .i64 f.fly.pos.z.hi, .int .i64 f.fly.speed.x.lo, .int .i64 f.fly.speed.x.hi, .int .i64 f.fly.speed.z.lo, .int .i64 f.fly.speed.z.hi, .int .i64 f.fly.mass, .slice A f.cycle.length c, .int .i64 f.reach, .int .i64 f.soft, .int .i64 f.bears, .int .i64 f.least, .int .i64 f.most] 50)
  have kF := Blk.new w 50 #[.int .i64 f.fly.pos.x.lo, .int .i64 f.fly.pos.x.hi, .int .i64 f.fly.pos.z.lo, .int .i64 f.fly.pos.z.hi, .int .i64 f.fly.speed.x.lo, .int .i64 f.fly.speed.x.hi, .int .i64 f.fly.speed.z.lo, .int .i64 f.fly.speed.z.hi, .int .i64 f.fly.mass, .slice A f.cycle.length c, .int .i64 f.reach, .int .i64 f.soft, .int .i64 f.bears, .int .i64 f.least, .int .i64 f.most]
  have HV : Hid (Calls Try.prog 56 #[.agg #[.int .i64 f.fly.pos.x.lo, .int .i64 f.fly.pos.x.hi, .int .i64 f.fly.pos.z.lo, .int .i64 f.fly.pos.z.hi, .int .i64 f.fly.speed.x.lo, .int .i64 f.fly.speed.x.hi, .int .i64 f.fly.speed.z.lo, .int .i64 f.fly.speed.z.hi, .int .i64 f.fly.mass, .slice A f.cycle.length c, .int .i64 f.reach, .int .i64 f.soft, .int .i64 f.bears, .int .i64 f.least, .int .i64 f.most]] (w.alloc (.cells #[.int .i64 f.fly.pos.x.lo, .int .i64 f.fly.pos.x.hi, .int .i64 f.fly.pos.z.lo, .int .i64 f.fly.pos.z.hi, .int .i64 f.fly.speed.x.lo, .int .i64 f.fly.speed.x.hi, .int .i64 f.fly.speed.z.lo, .int .i64 f.fly.speed.z.hi, .int .i64 f.fly.mass, .slice A f.cycle.length c, .int .i64 f.reach, .int .i64 f.soft, .int .i64 f.bears, .int .i64 f.least, .int .i64 f.most] 50)) fun e w' => e = .returned (.bool true) ∧ Below (w.alloc (.cells #[.int .i64 f.fly.pos.x.lo, .int .i64 f.fly.pos.x.hi, .int .i64 f.fly.pos.z.lo, .int .i64 f.fly.pos.z.hi, .int .i64 f.fly.speed.x.lo, .int .i64 f.fly.speed.x.hi, .int .i64 f.fly.speed.z.lo, .int .i64 f.fly.speed.z.hi, .int .i64 f.fly.mass, .slice A f.cycle.length c, .int .i64 f.reach, .int .i64 f.soft, .int .i64 f.bears, .int .i64 f.least, .int .i64 f.most] 50)).heap.size (w.alloc (.cells #[.int .i64 f.fly.pos.x.lo, .int .i64 f.fly.pos.x.hi, .int .i64 f.fly.pos.z.lo, .int .i64 f.fly.pos.z.hi, .int .i64 f.fly.speed.x.lo, .int .i64 f.fly.speed.x.hi, .int .i64 f.fly.speed.z.lo, .int .i64 f.fly.speed.z.hi, .int .i64 f.fly.mass, .slice A f.cycle.length c, .int .i64 f.reach, .int .i64 f.soft, .int .i64 f.bears, .int .i64 f.least, .int .i64 f.most] 50)) w') := by
    rw [← hf]; exact flight_any f A c _ (hA.to hB0) (by have : (600 : Nat) ≤ maxLen := (by unfold maxLen; omega); omega)
  have HL : Hid (∀ W : World, Calls Try.prog 57 #[.agg #[.int .i64 f.fly.pos.x.lo, .int .i64 f.fly.pos.x.hi, .int .i64 f.fly.pos.z.lo, .int .i64 f.fly.pos.z.hi, .int .i64 f.fly.speed.x.lo, .int .i64 f.fly.speed.x.hi, .int .i64 f.fly.speed.z.lo, .int .i64 f.fly.speed.z.hi, .int .i64 f.fly.mass, .slice A f.cycle.length c, .int .i64 f.reach, .int .i64 f.soft, .int .i64 f.bears, .int .i64 f.least, .int .i64 f.most], .int .i64 t] W fun e w' => e = .returned (.int .i64 (f.load t)) ∧ Below W.heap.size W w') := fun W => load_any f A c t W hfl hso (inB_true.1 ht)
  have HT : Hid (∀ W : World, Calls Try.prog 54 #[.int .i64 t] W fun e w' => e = .returned (.bool true) ∧ W = w') := fun W => by rw [← ht]; exact isAir_any _ W
  have HB0 := Lib.hid hB0
  clear hf hA ht hc1 hc2 hmo hfl hso hB0
  go_enter Try.func18, Try.ntmps18
  go_wp2_with (first | (go_at_call 56; (with_reducible refine HV.out.mono ?_); rintro e w1 ⟨rfl, hb1⟩; have kF1 := kF.below hb1 kF.lt; have x0 := kF1.cell 0; have x1 := kF1.cell 1; have x2 := kF1.cell 2; have x3 := kF1.cell 3; have x4 := kF1.cell 4; have x5 := kF1.cell 5; have x6 := kF1.cell 6; have x7 := kF1.cell 7; have x8 := kF1.cell 8; have x9 := kF1.cell 9; have x10 := kF1.cell 10; have x11 := kF1.cell 11; have x12 := kF1.cell 12; have x13 := kF1.cell 13; have x14 := kF1.cell 14; simp at x0 x1 x2 x3 x4 x5 x6 x7 x8 x9 x10 x11 x12 x13 x14) | (go_at_call 54; (with_reducible refine (HT.out _).mono ?_); rintro e w2 ⟨rfl, rfl⟩) | (go_at_call 57; (with_reducible refine (HL.out _).mono ?_); rintro e w3 ⟨rfl, hb3⟩))
  go_ret2
  exact ⟨rfl, HB0.out.trans ((sh_next hb1 hb3).mono (by simp))⟩

set_option maxHeartbeats 8000000 in
theorem Load_bad (f : Flt) (A : Option Addr) (c : Nat) (t : Int) (w : World) (hl : f.cycle.length ≤ maxLen) (hA : RS encB 4 w w.heap.size A f.cycle) (h : airE f.ok t ≠ 0) :
    Calls Try.prog 18 #[.agg #[.int .i64 f.fly.pos.x.lo, .int .i64 f.fly.pos.x.hi, .int .i64 f.fly.pos.z.lo, .int .i64 f.fly.pos.z.hi, .int .i64 f.fly.speed.x.lo, .int .i64 f.fly.speed.x.hi, .int .i64 f.fly.speed.z.lo, .int .i64 f.fly.speed.z.hi, .int .i64 f.fly.mass, .slice A f.cycle.length c, .int .i64 f.reach, .int .i64 f.soft, .int .i64 f.bears, .int .i64 f.least, .int .i64 f.most], .int .i64 t] w fun e w' => e = .returned (.tuple #[.int .i64 0, .int .i64 (airE f.ok t)]) ∧ Below w.heap.size w w' := by
  have hB0 := (Below.refl w.heap.size w).alloc (Nat.le_refl _) (.cells #[.int .i64 f.fly.pos.x.lo, .int .i64 f.fly.pos.x.hi, .int .i64 f.fly.pos.z.lo, .int .i64 f.fly.pos.z.hi, .int .i64 f.fly.speed.x.lo, .int .i64 f.fly.speed.x.hi, .int .i64 f.fly.speed.z.lo, .int .i64 f.fly.speed.z.hi, .int .i64 f.fly.mass, .slice A f.cycle.length c, .int .i64 f.reach, .int .i64 f.soft, .int .i64 f.bears, .int .i64 f.least, .int .i64 f.most] 50)
  have HV : Hid (Calls Try.prog 56 #[.agg #[.int .i64 f.fly.pos.x.lo, .int .i64 f.fly.pos.x.hi, .int .i64 f.fly.pos.z.lo, .int .i64 f.fly.pos.z.hi, .int .i64 f.fly.speed.x.lo, .int .i64 f.fly.speed.x.hi, .int .i64 f.fly.speed.z.lo, .int .i64 f.fly.speed.z.hi, .int .i64 f.fly.mass, .slice A f.cycle.length c, .int .i64 f.reach, .int .i64 f.soft, .int .i64 f.bears, .int .i64 f.least, .int .i64 f.most]] (w.alloc (.cells #[.int .i64 f.fly.pos.x.lo, .int .i64 f.fly.pos.x.hi, .int .i64 f.fly.pos.z.lo, .int .i64 f.fly.pos.z.hi, .int .i64 f.fly.speed.x.lo, .int .i64 f.fly.speed.x.hi, .int .i64 f.fly.speed.z.lo, .int .i64 f.fly.speed.z.hi, .int .i64 f.fly.mass, .slice A f.cycle.length c, .int .i64 f.reach, .int .i64 f.soft, .int .i64 f.bears, .int .i64 f.least, .int .i64 f.most] 50)) fun e w' => e = .returned (.bool f.ok) ∧ Below (w.alloc (.cells #[.int .i64 f.fly.pos.x.lo, .int .i64 f.fly.pos.x.hi, .int .i64 f.fly.pos.z.lo, .int .i64 f.fly.pos.z.hi, .int .i64 f.fly.speed.x.lo, .int .i64 f.fly.speed.x.hi, .int .i64 f.fly.speed.z.lo, .int .i64 f.fly.speed.z.hi, .int .i64 f.fly.mass, .slice A f.cycle.length c, .int .i64 f.reach, .int .i64 f.soft, .int .i64 f.bears, .int .i64 f.least, .int .i64 f.most] 50)).heap.size (w.alloc (.cells #[.int .i64 f.fly.pos.x.lo, .int .i64 f.fly.pos.x.hi, .int .i64 f.fly.pos.z.lo, .int .i64 f.fly.pos.z.hi, .int .i64 f.fly.speed.x.lo, .int .i64 f.fly.speed.x.hi, .int .i64 f.fly.speed.z.lo, .int .i64 f.fly.speed.z.hi, .int .i64 f.fly.mass, .slice A f.cycle.length c, .int .i64 f.reach, .int .i64 f.soft, .int .i64 f.bears, .int .i64 f.least, .int .i64 f.most] 50)) w') := flight_any f A c _ (hA.to hB0) hl
  have HB0 := Lib.hid hB0
  clear hA hl hB0
  cases h1 : f.ok <;> cases h2 : inB t 0 300
  all_goals try (exfalso; apply h; rw [h1]; unfold airE; rw [h2]; rfl)
  all_goals
    have HEf : Hid (airE false t = 1) := rfl
    have HEt : Hid (inB t 0 300 = false → airE true t = 2) := (fun h => by unfold airE; rw [h]; rfl : _ → _)
    have HT : Hid (∀ W : World, Calls Try.prog 54 #[.int .i64 t] W fun e w' => e = .returned (.bool (inB t 0 300)) ∧ W = w') := fun W => isAir_any _ W
    rw [h1] at HV
    have H1 := Lib.hid h1
    have H2 := Lib.hid h2
    have HH := Lib.hid h
    rw [h2] at HT
    clear h1 h
    go_enter Try.func18, Try.ntmps18
    go_wp2_with (first | (go_at_call 56; (with_reducible refine HV.out.mono ?_); rintro e w1 ⟨rfl, hb1⟩) | (go_at_call 54; (with_reducible refine (HT.out _).mono ?_); rintro e w2 ⟨rfl, rfl⟩))
    first
    | rw [HEt.out H2.out]
    | rw [HEf.out]
    go_ret2
    exact ⟨rfl, HB0.out.trans (hb1.mono (by simp))⟩

set_option maxHeartbeats 4000000 in
theorem Landing_ok (f : Fly) (n : Net) (w : World) (hf : f.ok = true) (hn : n.ok = true) :
    Calls Try.prog 27 #[.agg #[.int .i64 f.pos.x.lo, .int .i64 f.pos.x.hi, .int .i64 f.pos.z.lo, .int .i64 f.pos.z.hi, .int .i64 f.speed.x.lo, .int .i64 f.speed.x.hi, .int .i64 f.speed.z.lo, .int .i64 f.speed.z.hi, .int .i64 f.mass], .agg #[.int .i64 n.x.lo, .int .i64 n.x.hi, .int .i64 n.height]] w fun e w' => e = .returned (.tuple #[.agg #[.int .i64 (landR f n).lo, .int .i64 (landR f n).hi], .int .i64 (if comesB f n then 0 else 7)]) ∧ Below w.heap.size w w' := by
  have hB0 := (((Below.refl w.heap.size w).alloc (Nat.le_refl _) (.cells #[.int .i64 f.pos.x.lo, .int .i64 f.pos.x.hi, .int .i64 f.pos.z.lo, .int .i64 f.pos.z.hi, .int .i64 f.speed.x.lo, .int .i64 f.speed.x.hi, .int .i64 f.speed.z.lo, .int .i64 f.speed.z.hi, .int .i64 f.mass] 42)).alloc (by simp) (.cells #[.int .i64 n.x.lo, .int .i64 n.x.hi, .int .i64 n.height] 64)).alloc (by simp <;> omega) (.cells #[.int .i64 0, .int .i64 0] 35)
  have kY := ((Blk.new w 42 #[.int .i64 f.pos.x.lo, .int .i64 f.pos.x.hi, .int .i64 f.pos.z.lo, .int .i64 f.pos.z.hi, .int .i64 f.speed.x.lo, .int .i64 f.speed.x.hi, .int .i64 f.speed.z.lo, .int .i64 f.speed.z.hi, .int .i64 f.mass]).alloc (.cells #[.int .i64 n.x.lo, .int .i64 n.x.hi, .int .i64 n.height] 64)).alloc (.cells #[.int .i64 0, .int .i64 0] 35)
  have kN := (Blk.new (w.alloc (.cells #[.int .i64 f.pos.x.lo, .int .i64 f.pos.x.hi, .int .i64 f.pos.z.lo, .int .i64 f.pos.z.hi, .int .i64 f.speed.x.lo, .int .i64 f.speed.x.hi, .int .i64 f.speed.z.lo, .int .i64 f.speed.z.hi, .int .i64 f.mass] 42)) 64 #[.int .i64 n.x.lo, .int .i64 n.x.hi, .int .i64 n.height]).alloc (.cells #[.int .i64 0, .int .i64 0] 35)
  have kR := Blk.new ((w.alloc (.cells #[.int .i64 f.pos.x.lo, .int .i64 f.pos.x.hi, .int .i64 f.pos.z.lo, .int .i64 f.pos.z.hi, .int .i64 f.speed.x.lo, .int .i64 f.speed.x.hi, .int .i64 f.speed.z.lo, .int .i64 f.speed.z.hi, .int .i64 f.mass] 42)).alloc (.cells #[.int .i64 n.x.lo, .int .i64 n.x.hi, .int .i64 n.height] 64)) 35 #[.int .i64 0, .int .i64 0]
  simp only [World.size_alloc] at kN kR
  have hz : w.heap.size ≤ (((w.alloc (.cells #[.int .i64 f.pos.x.lo, .int .i64 f.pos.x.hi, .int .i64 f.pos.z.lo, .int .i64 f.pos.z.hi, .int .i64 f.speed.x.lo, .int .i64 f.speed.x.hi, .int .i64 f.speed.z.lo, .int .i64 f.speed.z.hi, .int .i64 f.mass] 42)).alloc (.cells #[.int .i64 n.x.lo, .int .i64 n.x.hi, .int .i64 n.height] 64)).alloc (.cells #[.int .i64 0, .int .i64 0] 35)).heap.size := hB0.size
  have HR : Hid (landR f n = if comesB f n then ⟨tickN (lowO f n), tickN (highO f n)⟩ else ⟨0, 0⟩) := rfl
  have HA : Hid (∀ W : World, Calls Try.prog 61 #[.agg #[.int .i64 f.pos.x.lo, .int .i64 f.pos.x.hi, .int .i64 f.pos.z.lo, .int .i64 f.pos.z.hi, .int .i64 f.speed.x.lo, .int .i64 f.speed.x.hi, .int .i64 f.speed.z.lo, .int .i64 f.speed.z.hi, .int .i64 f.mass], .agg #[.int .i64 n.x.lo, .int .i64 n.x.hi, .int .i64 n.height]] W fun e w' => e = .returned (.tuple #[.agg #[.int .i64 (landR f n).lo, .int .i64 (landR f n).hi], .bool (comesB f n)]) ∧ Below W.heap.size W w') := fun W => landing_any f n W hf
  have HV : Hid (∀ W : World, Calls Try.prog 53 #[.agg #[.int .i64 f.pos.x.lo, .int .i64 f.pos.x.hi, .int .i64 f.pos.z.lo, .int .i64 f.pos.z.hi, .int .i64 f.speed.x.lo, .int .i64 f.speed.x.hi, .int .i64 f.speed.z.lo, .int .i64 f.speed.z.hi, .int .i64 f.mass]] W fun e w' => e = .returned (.bool true) ∧ Below W.heap.size W w') := fun W => by rw [← hf]; exact flyer_any f W
  have HN : Hid (∀ W : World, Calls Try.prog 60 #[.agg #[.int .i64 n.x.lo, .int .i64 n.x.hi, .int .i64 n.height]] W fun e w' => e = .returned (.bool true) ∧ Below W.heap.size W w') := fun W => by rw [← hn]; exact netValid_any n W
  clear hf hn
  cases hc : comesB f n
  all_goals
    rw [hc] at HA HR
    have HC := Lib.hid hc
    clear hc
    go_enter Try.func27, Try.ntmps27
    go_wp2_with (first | (go_at_call 53; (with_reducible refine (HV.out _).mono ?_); rintro e w1 ⟨rfl, hb1⟩; have kY1 := kY.below hb1 kY.lt; have kN1 := kN.below hb1 kN.lt; have kR1 := kR.below hb1 kR.lt; have n0 := kN1.cell 0; have n1 := kN1.cell 1; have n2 := kN1.cell 2; simp at n0 n1 n2) | (go_at_call 60; (with_reducible refine (HN.out _).mono ?_); rintro e w2 ⟨rfl, hb2⟩; have kY2 := kY1.below hb2 kY1.lt; have kN2 := kN1.below hb2 kN1.lt; have kR2 := kR1.below hb2 kR1.lt; have y0 := kY2.cell 0; have y1 := kY2.cell 1; have y2 := kY2.cell 2; have y3 := kY2.cell 3; have y4 := kY2.cell 4; have y5 := kY2.cell 5; have y6 := kY2.cell 6; have y7 := kY2.cell 7; have y8 := kY2.cell 8; simp at y0 y1 y2 y3 y4 y5 y6 y7 y8; have m0 := kN2.cell 0; have m1 := kN2.cell 1; have m2 := kN2.cell 2; simp at m0 m1 m2) | (go_at_call 61; (with_reducible refine (HA.out _).mono ?_); rintro e w3 ⟨rfl, hb3⟩; have kR3 := kR2.below hb3 kR2.lt; have r0 := kR3.cell 0; have rf0 := kR3.frozen 0; have r1 := kR3.cell 1; have rf1 := kR3.frozen 1; have rl := kR3.lt; simp at r0 r1))
    have hB2 := hB0.trans ((sh_next (sh_next hb1 hb2) hb3).mono hz)
  · rw [HR.out, if_neg (by simp)]
    have kF := ((kR3.set_ 0 (.int .i64 0)).set_ 1 (.int .i64 0)).alloc (.cells #[.int .i64 0, .int .i64 0] 35)
    have v0 := kF.cell 0
    have v1 := kF.cell 1
    simp at v0 v1
    refine bodyPost_ret (v := .tuple #[.agg #[.int .i64 0, .int .i64 0], .int .i64 7]) (by simp [results, Try.results27, go_sem, v0, v1]) rfl ⟨rfl, ?_⟩
    exact ((hB2.setCell (p := ⟨w.heap.size + 1 + 1, 0, none⟩) (by simp <;> omega) _).setCell (p := ⟨w.heap.size + 1 + 1, 1, none⟩) (by simp <;> omega) _).alloc ((hB2.setCell (p := ⟨w.heap.size + 1 + 1, 0, none⟩) (by simp <;> omega) _).setCell (p := ⟨w.heap.size + 1 + 1, 1, none⟩) (by simp <;> omega) _).size _
  · have kF := ((kR3.set_ 0 (.int .i64 (landR f n).lo)).set_ 1 (.int .i64 (landR f n).hi)).alloc (.cells #[.int .i64 (landR f n).lo, .int .i64 (landR f n).hi] 35)
    have v0 := kF.cell 0
    have v1 := kF.cell 1
    simp at v0 v1
    refine bodyPost_ret (v := .tuple #[.agg #[.int .i64 (landR f n).lo, .int .i64 (landR f n).hi], .int .i64 0]) (by simp [results, Try.results27, go_sem, v0, v1]) rfl ⟨rfl, ?_⟩
    exact ((hB2.setCell (p := ⟨w.heap.size + 1 + 1, 0, none⟩) (by simp <;> omega) _).setCell (p := ⟨w.heap.size + 1 + 1, 1, none⟩) (by simp <;> omega) _).alloc ((hB2.setCell (p := ⟨w.heap.size + 1 + 1, 0, none⟩) (by simp <;> omega) _).setCell (p := ⟨w.heap.size + 1 + 1, 1, none⟩) (by simp <;> omega) _).size _

set_option maxHeartbeats 4000000 in
theorem Landing_bad (f : Fly) (n : Net) (w : World) (h : (f.ok && n.ok) = false) :
    Calls Try.prog 27 #[.agg #[.int .i64 f.pos.x.lo, .int .i64 f.pos.x.hi, .int .i64 f.pos.z.lo, .int .i64 f.pos.z.hi, .int .i64 f.speed.x.lo, .int .i64 f.speed.x.hi, .int .i64 f.speed.z.lo, .int .i64 f.speed.z.hi, .int .i64 f.mass], .agg #[.int .i64 n.x.lo, .int .i64 n.x.hi, .int .i64 n.height]] w fun e w' => e = .returned (.tuple #[.agg #[.int .i64 0, .int .i64 0], .int .i64 1]) ∧ Below w.heap.size w w' := by
  have hB0 := (((Below.refl w.heap.size w).alloc (Nat.le_refl _) (.cells #[.int .i64 f.pos.x.lo, .int .i64 f.pos.x.hi, .int .i64 f.pos.z.lo, .int .i64 f.pos.z.hi, .int .i64 f.speed.x.lo, .int .i64 f.speed.x.hi, .int .i64 f.speed.z.lo, .int .i64 f.speed.z.hi, .int .i64 f.mass] 42)).alloc (by simp) (.cells #[.int .i64 n.x.lo, .int .i64 n.x.hi, .int .i64 n.height] 64)).alloc (by simp <;> omega) (.cells #[.int .i64 0, .int .i64 0] 35)
  have kN := (Blk.new (w.alloc (.cells #[.int .i64 f.pos.x.lo, .int .i64 f.pos.x.hi, .int .i64 f.pos.z.lo, .int .i64 f.pos.z.hi, .int .i64 f.speed.x.lo, .int .i64 f.speed.x.hi, .int .i64 f.speed.z.lo, .int .i64 f.speed.z.hi, .int .i64 f.mass] 42)) 64 #[.int .i64 n.x.lo, .int .i64 n.x.hi, .int .i64 n.height]).alloc (.cells #[.int .i64 0, .int .i64 0] 35)
  have kR := Blk.new ((w.alloc (.cells #[.int .i64 f.pos.x.lo, .int .i64 f.pos.x.hi, .int .i64 f.pos.z.lo, .int .i64 f.pos.z.hi, .int .i64 f.speed.x.lo, .int .i64 f.speed.x.hi, .int .i64 f.speed.z.lo, .int .i64 f.speed.z.hi, .int .i64 f.mass] 42)).alloc (.cells #[.int .i64 n.x.lo, .int .i64 n.x.hi, .int .i64 n.height] 64)) 35 #[.int .i64 0, .int .i64 0]
  simp only [World.size_alloc] at kN kR
  have hz : w.heap.size ≤ (((w.alloc (.cells #[.int .i64 f.pos.x.lo, .int .i64 f.pos.x.hi, .int .i64 f.pos.z.lo, .int .i64 f.pos.z.hi, .int .i64 f.speed.x.lo, .int .i64 f.speed.x.hi, .int .i64 f.speed.z.lo, .int .i64 f.speed.z.hi, .int .i64 f.mass] 42)).alloc (.cells #[.int .i64 n.x.lo, .int .i64 n.x.hi, .int .i64 n.height] 64)).alloc (.cells #[.int .i64 0, .int .i64 0] 35)).heap.size := hB0.size
  have HV : Hid (∀ W : World, Calls Try.prog 53 #[.agg #[.int .i64 f.pos.x.lo, .int .i64 f.pos.x.hi, .int .i64 f.pos.z.lo, .int .i64 f.pos.z.hi, .int .i64 f.speed.x.lo, .int .i64 f.speed.x.hi, .int .i64 f.speed.z.lo, .int .i64 f.speed.z.hi, .int .i64 f.mass]] W fun e w' => e = .returned (.bool f.ok) ∧ Below W.heap.size W w') := fun W => flyer_any f W
  have HN : Hid (∀ W : World, Calls Try.prog 60 #[.agg #[.int .i64 n.x.lo, .int .i64 n.x.hi, .int .i64 n.height]] W fun e w' => e = .returned (.bool n.ok) ∧ Below W.heap.size W w') := fun W => netValid_any n W
  cases h1 : f.ok
  · rw [h1] at HV
    have H1 := Lib.hid h1
    clear h1 h
    go_enter Try.func27, Try.ntmps27
    go_wp2_with (go_at_call 53; (with_reducible refine (HV.out _).mono ?_); rintro e w1 ⟨rfl, hb1⟩; have kR1 := kR.below hb1 kR.lt; have r0 := kR1.cell 0; have rf0 := kR1.frozen 0; have r1 := kR1.cell 1; have rf1 := kR1.frozen 1; have rl := kR1.lt; simp at r0 r1)
    have hB2 := hB0.trans (hb1.mono hz)
    have kF := (kR1.set_ 0 (.int .i64 0)).set_ 1 (.int .i64 0)
    have v0 := kF.cell 0
    have v1 := kF.cell 1
    simp at v0 v1
    refine bodyPost_ret (v := .tuple #[.agg #[.int .i64 0, .int .i64 0], .int .i64 1]) (by simp [results, Try.results27, go_sem, v0, v1]) rfl ⟨rfl, ?_⟩
    exact (hB2.setCell (p := ⟨w.heap.size + 1 + 1, 0, none⟩) (by simp <;> omega) _).setCell (p := ⟨w.heap.size + 1 + 1, 1, none⟩) (by simp <;> omega) _
  · rw [h1] at HV h
    have h2 : n.ok = false := by simpa using h
    rw [h2] at HN
    have H1 := Lib.hid h1
    have H2 := Lib.hid h2
    clear h1 h h2
    go_enter Try.func27, Try.ntmps27
    go_wp2_with (first | (go_at_call 53; (with_reducible refine (HV.out _).mono ?_); rintro e w1 ⟨rfl, hb1⟩; have kN1 := kN.below hb1 kN.lt; have kR1 := kR.below hb1 kR.lt; have n0 := kN1.cell 0; have n1 := kN1.cell 1; have n2 := kN1.cell 2; simp at n0 n1 n2) | (go_at_call 60; (with_reducible refine (HN.out _).mono ?_); rintro e w2 ⟨rfl, hb2⟩; have kR2 := kR1.below hb2 kR1.lt; have r0 := kR2.cell 0; have rf0 := kR2.frozen 0; have r1 := kR2.cell 1; have rf1 := kR2.frozen 1; have rl := kR2.lt; simp at r0 r1))
    have hB2 := hB0.trans ((sh_next hb1 hb2).mono hz)
    have kF := (kR2.set_ 0 (.int .i64 0)).set_ 1 (.int .i64 0)
    have v0 := kF.cell 0
    have v1 := kF.cell 1
    simp at v0 v1
    refine bodyPost_ret (v := .tuple #[.agg #[.int .i64 0, .int .i64 0], .int .i64 1]) (by simp [results, Try.results27, go_sem, v0, v1]) rfl ⟨rfl, ?_⟩
    exact (hB2.setCell (p := ⟨w.heap.size + 1 + 1, 0, none⟩) (by simp <;> omega) _).setCell (p := ⟨w.heap.size + 1 + 1, 1, none⟩) (by simp <;> omega) _

set_option maxHeartbeats 4000000 in
theorem Takes_bad (f : Fly) (n : Net) (w : World) (h : (f.ok && n.ok) = false) :
    Calls Try.prog 29 #[.agg #[.int .i64 f.pos.x.lo, .int .i64 f.pos.x.hi, .int .i64 f.pos.z.lo, .int .i64 f.pos.z.hi, .int .i64 f.speed.x.lo, .int .i64 f.speed.x.hi, .int .i64 f.speed.z.lo, .int .i64 f.speed.z.hi, .int .i64 f.mass], .agg #[.int .i64 n.x.lo, .int .i64 n.x.hi, .int .i64 n.height]] w fun e w' => e = .returned (.tuple #[.bool false, .int .i64 1]) ∧ Below w.heap.size w w' := by
  have hB0 := ((Below.refl w.heap.size w).alloc (Nat.le_refl _) (.cells #[.int .i64 f.pos.x.lo, .int .i64 f.pos.x.hi, .int .i64 f.pos.z.lo, .int .i64 f.pos.z.hi, .int .i64 f.speed.x.lo, .int .i64 f.speed.x.hi, .int .i64 f.speed.z.lo, .int .i64 f.speed.z.hi, .int .i64 f.mass] 42)).alloc (by simp) (.cells #[.int .i64 n.x.lo, .int .i64 n.x.hi, .int .i64 n.height] 64)
  have kN := Blk.new (w.alloc (.cells #[.int .i64 f.pos.x.lo, .int .i64 f.pos.x.hi, .int .i64 f.pos.z.lo, .int .i64 f.pos.z.hi, .int .i64 f.speed.x.lo, .int .i64 f.speed.x.hi, .int .i64 f.speed.z.lo, .int .i64 f.speed.z.hi, .int .i64 f.mass] 42)) 64 #[.int .i64 n.x.lo, .int .i64 n.x.hi, .int .i64 n.height]
  simp only [World.size_alloc] at kN
  have hz := hB0.size
  have HV : Hid (∀ W : World, Calls Try.prog 53 #[.agg #[.int .i64 f.pos.x.lo, .int .i64 f.pos.x.hi, .int .i64 f.pos.z.lo, .int .i64 f.pos.z.hi, .int .i64 f.speed.x.lo, .int .i64 f.speed.x.hi, .int .i64 f.speed.z.lo, .int .i64 f.speed.z.hi, .int .i64 f.mass]] W fun e w' => e = .returned (.bool f.ok) ∧ Below W.heap.size W w') := fun W => flyer_any f W
  have HN : Hid (∀ W : World, Calls Try.prog 60 #[.agg #[.int .i64 n.x.lo, .int .i64 n.x.hi, .int .i64 n.height]] W fun e w' => e = .returned (.bool n.ok) ∧ Below W.heap.size W w') := fun W => netValid_any n W
  cases h1 : f.ok
  · rw [h1] at HV
    have H1 := Lib.hid h1
    clear h1 h
    go_enter Try.func29, Try.ntmps29
    go_wp2_with (go_at_call 53; (with_reducible refine (HV.out _).mono ?_); rintro e w1 ⟨rfl, hb1⟩)
    go_ret2
    exact ⟨rfl, hB0.trans (hb1.mono hz)⟩
  · rw [h1] at HV h
    have h2 : n.ok = false := by simpa using h
    rw [h2] at HN
    have H1 := Lib.hid h1
    have H2 := Lib.hid h2
    clear h1 h h2
    go_enter Try.func29, Try.ntmps29
    go_wp2_with (first | (go_at_call 53; (with_reducible refine (HV.out _).mono ?_); rintro e w1 ⟨rfl, hb1⟩; have kN1 := kN.below hb1 kN.lt; have n0 := kN1.cell 0; have n1 := kN1.cell 1; have n2 := kN1.cell 2; simp at n0 n1 n2) | (go_at_call 60; (with_reducible refine (HN.out _).mono ?_); rintro e w2 ⟨rfl, hb2⟩))
    go_ret2
    exact ⟨rfl, hB0.trans ((sh_next hb1 hb2).mono hz)⟩
theorem neqB (a b c d p q r s : Int) (w : World) : (binOp .neq 37 (.agg #[.int .i64 a, .int .i64 b, .int .i64 c, .int .i64 d]) (.agg #[.int .i64 p, .int .i64 q, .int .i64 r, .int .i64 s])).run Try.prog w = .ok (.bool (!((a == p && b == q) && (c == r && d == s)))) w := by
  rw [run_neq_struct, show (10000 : Nat) = 9997 + 3 from rfl, eqInB]; rfl
end Go.Proofs.Ytbagfapalkmikaa
