import Derived.Test.YtbagfapalkmikaaFlE
import Derived.Test.YtbagfapalkmikaaFlF

/- When a flyer comes to a net, and whether the net takes the flyer. -/
namespace Go.Proofs.Ytbagfapalkmikaa
open Go.RowKit

/-- The first tick, up to 300, after which p. -/
def firstT (p : Nat → Bool) : Option Nat := (List.range 301).find? p
theorem firstT_miss {p : Nat → Bool} {k : Nat} (h : (List.range k).find? p = none) (hk : p k = false) : (List.range (k + 1)).find? p = none := by
  rw [List.range_succ, List.find?_append, h]; simp [hk]
theorem firstT_hit {p : Nat → Bool} {k : Nat} (h : (List.range k).find? p = none) (hk : p k = true) (hl : k < 301) : firstT p = some k := by
  obtain ⟨c, hc⟩ := Nat.le.dest (show k + 1 ≤ 301 by omega)
  unfold firstT
  rw [← hc, List.range_add, List.find?_append, List.range_succ, List.find?_append, h]; simp [hk]
def lowB (f : Fly) (n : Net) (t : Nat) : Bool := decide ((f.after t).z.lo ≤ n.height)
def highB (f : Fly) (n : Net) (t : Nat) : Bool := decide ((f.after t).z.hi ≤ n.height)
theorem lowC_any (b : Bx) (n : Net) (g : Nat) (w : World) (hk : Blk w g 64 #[.int .i64 n.x.lo, .int .i64 n.x.hi, .int .i64 n.height]) :
    Calls Try.prog 94 #[.agg #[.int .i64 b.x.lo, .int .i64 b.x.hi, .int .i64 b.z.lo, .int .i64 b.z.hi], .pointer (some ⟨g, 0, none⟩)] w fun e w' => e = .returned (.bool (decide (b.z.lo ≤ n.height))) ∧ Below w.heap.size w w' := by
  have c2 := hk.cell 2
  have hl := hk.lt
  simp at c2
  go_enter Try.func94, Try.ntmps94
  go_wp2
  go_ret
  exact ⟨rfl, (Below.refl _ _).alloc (Nat.le_refl _) _⟩
theorem highC_any (b : Bx) (n : Net) (g : Nat) (w : World) (hk : Blk w g 64 #[.int .i64 n.x.lo, .int .i64 n.x.hi, .int .i64 n.height]) :
    Calls Try.prog 95 #[.agg #[.int .i64 b.x.lo, .int .i64 b.x.hi, .int .i64 b.z.lo, .int .i64 b.z.hi], .pointer (some ⟨g, 0, none⟩)] w fun e w' => e = .returned (.bool (decide (b.z.hi ≤ n.height))) ∧ Below w.heap.size w w' := by
  have c2 := hk.cell 2
  have hl := hk.lt
  simp at c2
  go_enter Try.func95, Try.ntmps95
  go_wp2
  go_ret
  exact ⟨rfl, (Below.refl _ _).alloc (Nat.le_refl _) _⟩
def tickN (o : Option Nat) : Nat := o.getD 0
theorem tickN_le {p : Nat → Bool} : tickN (firstT p) ≤ 300 := by
  unfold tickN
  cases h : firstT p with
  | none => simp
  | some k =>
    have := List.mem_of_find?_eq_some h
    simp at this
    simp; omega
set_option maxRecDepth 100000 in
set_option maxHeartbeats 4000000 in
theorem firstLow_any (f : Fly) (n : Net) (g : Nat) (w : World) (hf : f.ok = true) (hk : Blk w g 64 #[.int .i64 n.x.lo, .int .i64 n.x.hi, .int .i64 n.height]) :
    Calls Try.prog 93 #[.agg #[.int .i64 f.pos.x.lo, .int .i64 f.pos.x.hi, .int .i64 f.pos.z.lo, .int .i64 f.pos.z.hi, .int .i64 f.speed.x.lo, .int .i64 f.speed.x.hi, .int .i64 f.speed.z.lo, .int .i64 f.speed.z.hi, .int .i64 f.mass], .func (.func 94) #[] #[.pointer (some ⟨g, 0, none⟩)]] w fun e w' => e = .returned (.tuple #[.int .i64 (tickN (firstT fun t : Nat => decide ((f.after t).z.lo ≤ n.height))), .bool (firstT fun t : Nat => decide ((f.after t).z.lo ≤ n.height)).isSome]) ∧ Below w.heap.size w w' := by
  have Hf := Lib.hid hf
  have hB0 := (Below.refl w.heap.size w).alloc (Nat.le_refl _) (.cells #[.int .i64 f.pos.x.lo, .int .i64 f.pos.x.hi, .int .i64 f.pos.z.lo, .int .i64 f.pos.z.hi, .int .i64 f.speed.x.lo, .int .i64 f.speed.x.hi, .int .i64 f.speed.z.lo, .int .i64 f.speed.z.hi, .int .i64 f.mass] 42)
  have kY := Blk.new w 42 #[.int .i64 f.pos.x.lo, .int .i64 f.pos.x.hi, .int .i64 f.pos.z.lo, .int .i64 f.pos.z.hi, .int .i64 f.speed.x.lo, .int .i64 f.speed.x.hi, .int .i64 f.speed.z.lo, .int .i64 f.speed.z.hi, .int .i64 f.mass]
  have kN := hk.alloc (.cells #[.int .i64 f.pos.x.lo, .int .i64 f.pos.x.hi, .int .i64 f.pos.z.lo, .int .i64 f.pos.z.hi, .int .i64 f.speed.x.lo, .int .i64 f.speed.x.hi, .int .i64 f.speed.z.lo, .int .i64 f.speed.z.hi, .int .i64 f.mass] 42)
  have hgz := hk.lt
  clear hf hk
  go_enter Try.func93, Try.ntmps93
  go_wp2
  generalize hWo : w.alloc (.cells #[.int .i64 f.pos.x.lo, .int .i64 f.pos.x.hi, .int .i64 f.pos.z.lo, .int .i64 f.pos.z.hi, .int .i64 f.speed.x.lo, .int .i64 f.speed.x.hi, .int .i64 f.speed.z.lo, .int .i64 f.speed.z.hi, .int .i64 f.mass] 42) = wo at *
  clear hWo
  go_loopw [7] (fun i wr => ∃ k : Nat, k ≤ 301 ∧ i = .int .i64 k ∧ (List.range k).find? (fun t : Nat => decide ((f.after t).z.lo ≤ n.height)) = none ∧ Below wo.heap.size wo wr) (fun i _ => 301 - (intOf i).toNat)
  case atStart => exact ⟨0, by omega, rfl, rfl, Below.refl _ _⟩
  case round =>
    obtain ⟨k, hk, rfl, hnone, hB⟩ := hrel
    have Hnone := Lib.hid hnone
    clear hnone
    have kYr := kY.below hB kY.lt
    have kNr := kN.below hB kN.lt
    have hbz := hB.size
    have y0 := kYr.cell 0
    have y1 := kYr.cell 1
    have y2 := kYr.cell 2
    have y3 := kYr.cell 3
    have y4 := kYr.cell 4
    have y5 := kYr.cell 5
    have y6 := kYr.cell 6
    have y7 := kYr.cell 7
    have y8 := kYr.cell 8
    simp at y0 y1 y2 y3 y4 y5 y6 y7 y8
    by_cases hlt : k < 301
    · have HA : Hid (∀ W : World, Calls Try.prog 55 #[.agg #[.int .i64 f.pos.x.lo, .int .i64 f.pos.x.hi, .int .i64 f.pos.z.lo, .int .i64 f.pos.z.hi, .int .i64 f.speed.x.lo, .int .i64 f.speed.x.hi, .int .i64 f.speed.z.lo, .int .i64 f.speed.z.hi, .int .i64 f.mass], .int .i64 k] W fun e w' => e = .returned (.agg #[.int .i64 (f.after k).x.lo, .int .i64 (f.after k).x.hi, .int .i64 (f.after k).z.lo, .int .i64 (f.after k).z.hi]) ∧ Below W.heap.size W w') := fun W => after_any f k W Hf.out (by omega)
      have hpk : (fun t : Nat => decide ((f.after t).z.lo ≤ n.height)) k = decide ((f.after k).z.lo ≤ n.height) := rfl
      cases hqk : decide ((f.after k).z.lo ≤ n.height)
      all_goals
        have HQ : Hid (∀ W : World, Blk W g 64 #[.int .i64 n.x.lo, .int .i64 n.x.hi, .int .i64 n.height] → Calls Try.prog 94 #[.agg #[.int .i64 (f.after k).x.lo, .int .i64 (f.after k).x.hi, .int .i64 (f.after k).z.lo, .int .i64 (f.after k).z.hi], .pointer (some ⟨g, 0, none⟩)] W fun e W' => e = .returned (.bool (decide ((f.after k).z.lo ≤ n.height))) ∧ Below W.heap.size W W') := fun W h => lowC_any _ n g W h
        rw [hqk] at HQ
        have Hpk := Lib.hid (hpk.trans hqk)
        clear hqk hpk
        go_wp2_with (first | (go_at_call 55; (with_reducible refine (HA.out _).mono ?_); rintro e w1 ⟨rfl, hb1⟩) | (go_at_call 94; (with_reducible refine (HQ.out _ (kNr.below hb1 kNr.lt)).mono ?_); rintro e w2 ⟨rfl, hb2⟩))
      · go_roundw
        case rel => exact ⟨k + 1, by omega, by go_num, firstT_miss Hnone.out Hpk.out, hB.trans ((sh_next hb1 hb2).mono hbz)⟩
        case measure => simp [intOf]; omega
      · have HT := firstT_hit Hnone.out Hpk.out hlt
        go_ret2
        exact ⟨by rw [HT]; rfl, hB0.trans ((hB.trans ((sh_next hb1 hb2).mono hbz)).mono hB0.size)⟩
    · obtain rfl : k = 301 := by omega
      have HT : firstT (fun t : Nat => decide ((f.after t).z.lo ≤ n.height)) = none := Hnone.out
      go_wp2
      go_ret2
      exact ⟨by rw [HT]; rfl, hB0.trans (hB.mono hB0.size)⟩

set_option maxRecDepth 100000 in
set_option maxHeartbeats 4000000 in
theorem firstHigh_any (f : Fly) (n : Net) (g : Nat) (w : World) (hf : f.ok = true) (hk : Blk w g 64 #[.int .i64 n.x.lo, .int .i64 n.x.hi, .int .i64 n.height]) :
    Calls Try.prog 93 #[.agg #[.int .i64 f.pos.x.lo, .int .i64 f.pos.x.hi, .int .i64 f.pos.z.lo, .int .i64 f.pos.z.hi, .int .i64 f.speed.x.lo, .int .i64 f.speed.x.hi, .int .i64 f.speed.z.lo, .int .i64 f.speed.z.hi, .int .i64 f.mass], .func (.func 95) #[] #[.pointer (some ⟨g, 0, none⟩)]] w fun e w' => e = .returned (.tuple #[.int .i64 (tickN (firstT fun t : Nat => decide ((f.after t).z.hi ≤ n.height))), .bool (firstT fun t : Nat => decide ((f.after t).z.hi ≤ n.height)).isSome]) ∧ Below w.heap.size w w' := by
  have Hf := Lib.hid hf
  have hB0 := (Below.refl w.heap.size w).alloc (Nat.le_refl _) (.cells #[.int .i64 f.pos.x.lo, .int .i64 f.pos.x.hi, .int .i64 f.pos.z.lo, .int .i64 f.pos.z.hi, .int .i64 f.speed.x.lo, .int .i64 f.speed.x.hi, .int .i64 f.speed.z.lo, .int .i64 f.speed.z.hi, .int .i64 f.mass] 42)
  have kY := Blk.new w 42 #[.int .i64 f.pos.x.lo, .int .i64 f.pos.x.hi, .int .i64 f.pos.z.lo, .int .i64 f.pos.z.hi, .int .i64 f.speed.x.lo, .int .i64 f.speed.x.hi, .int .i64 f.speed.z.lo, .int .i64 f.speed.z.hi, .int .i64 f.mass]
  have kN := hk.alloc (.cells #[.int .i64 f.pos.x.lo, .int .i64 f.pos.x.hi, .int .i64 f.pos.z.lo, .int .i64 f.pos.z.hi, .int .i64 f.speed.x.lo, .int .i64 f.speed.x.hi, .int .i64 f.speed.z.lo, .int .i64 f.speed.z.hi, .int .i64 f.mass] 42)
  have hgz := hk.lt
  clear hf hk
  go_enter Try.func93, Try.ntmps93
  go_wp2
  generalize hWo : w.alloc (.cells #[.int .i64 f.pos.x.lo, .int .i64 f.pos.x.hi, .int .i64 f.pos.z.lo, .int .i64 f.pos.z.hi, .int .i64 f.speed.x.lo, .int .i64 f.speed.x.hi, .int .i64 f.speed.z.lo, .int .i64 f.speed.z.hi, .int .i64 f.mass] 42) = wo at *
  clear hWo
  go_loopw [7] (fun i wr => ∃ k : Nat, k ≤ 301 ∧ i = .int .i64 k ∧ (List.range k).find? (fun t : Nat => decide ((f.after t).z.hi ≤ n.height)) = none ∧ Below wo.heap.size wo wr) (fun i _ => 301 - (intOf i).toNat)
  case atStart => exact ⟨0, by omega, rfl, rfl, Below.refl _ _⟩
  case round =>
    obtain ⟨k, hk, rfl, hnone, hB⟩ := hrel
    have Hnone := Lib.hid hnone
    clear hnone
    have kYr := kY.below hB kY.lt
    have kNr := kN.below hB kN.lt
    have hbz := hB.size
    have y0 := kYr.cell 0
    have y1 := kYr.cell 1
    have y2 := kYr.cell 2
    have y3 := kYr.cell 3
    have y4 := kYr.cell 4
    have y5 := kYr.cell 5
    have y6 := kYr.cell 6
    have y7 := kYr.cell 7
    have y8 := kYr.cell 8
    simp at y0 y1 y2 y3 y4 y5 y6 y7 y8
    by_cases hlt : k < 301
    · have HA : Hid (∀ W : World, Calls Try.prog 55 #[.agg #[.int .i64 f.pos.x.lo, .int .i64 f.pos.x.hi, .int .i64 f.pos.z.lo, .int .i64 f.pos.z.hi, .int .i64 f.speed.x.lo, .int .i64 f.speed.x.hi, .int .i64 f.speed.z.lo, .int .i64 f.speed.z.hi, .int .i64 f.mass], .int .i64 k] W fun e w' => e = .returned (.agg #[.int .i64 (f.after k).x.lo, .int .i64 (f.after k).x.hi, .int .i64 (f.after k).z.lo, .int .i64 (f.after k).z.hi]) ∧ Below W.heap.size W w') := fun W => after_any f k W Hf.out (by omega)
      have hpk : (fun t : Nat => decide ((f.after t).z.hi ≤ n.height)) k = decide ((f.after k).z.hi ≤ n.height) := rfl
      cases hqk : decide ((f.after k).z.hi ≤ n.height)
      all_goals
        have HQ : Hid (∀ W : World, Blk W g 64 #[.int .i64 n.x.lo, .int .i64 n.x.hi, .int .i64 n.height] → Calls Try.prog 95 #[.agg #[.int .i64 (f.after k).x.lo, .int .i64 (f.after k).x.hi, .int .i64 (f.after k).z.lo, .int .i64 (f.after k).z.hi], .pointer (some ⟨g, 0, none⟩)] W fun e W' => e = .returned (.bool (decide ((f.after k).z.hi ≤ n.height))) ∧ Below W.heap.size W W') := fun W h => highC_any _ n g W h
        rw [hqk] at HQ
        have Hpk := Lib.hid (hpk.trans hqk)
        clear hqk hpk
        go_wp2_with (first | (go_at_call 55; (with_reducible refine (HA.out _).mono ?_); rintro e w1 ⟨rfl, hb1⟩) | (go_at_call 95; (with_reducible refine (HQ.out _ (kNr.below hb1 kNr.lt)).mono ?_); rintro e w2 ⟨rfl, hb2⟩))
      · go_roundw
        case rel => exact ⟨k + 1, by omega, by go_num, firstT_miss Hnone.out Hpk.out, hB.trans ((sh_next hb1 hb2).mono hbz)⟩
        case measure => simp [intOf]; omega
      · have HT := firstT_hit Hnone.out Hpk.out hlt
        go_ret2
        exact ⟨by rw [HT]; rfl, hB0.trans ((hB.trans ((sh_next hb1 hb2).mono hbz)).mono hB0.size)⟩
    · obtain rfl : k = 301 := by omega
      have HT : firstT (fun t : Nat => decide ((f.after t).z.hi ≤ n.height)) = none := Hnone.out
      go_wp2
      go_ret2
      exact ⟨by rw [HT]; rfl, hB0.trans (hB.mono hB0.size)⟩
end Go.Proofs.Ytbagfapalkmikaa

namespace Go.Proofs.Ytbagfapalkmikaa
open Go.RowKit

def lowO (f : Fly) (n : Net) : Option Nat := firstT fun t : Nat => decide ((f.after t).z.lo ≤ n.height)
def highO (f : Fly) (n : Net) : Option Nat := firstT fun t : Nat => decide ((f.after t).z.hi ≤ n.height)
def comesB (f : Fly) (n : Net) : Bool := (highO f n).isSome
/-- The ticks at which a flyer comes to a net. -/
def landR (f : Fly) (n : Net) : Rng := if comesB f n then ⟨tickN (lowO f n), tickN (highO f n)⟩ else ⟨0, 0⟩
set_option maxRecDepth 100000 in
set_option maxHeartbeats 4000000 in
theorem landing_any (f : Fly) (n : Net) (w : World) (hf : f.ok = true) :
    Calls Try.prog 61 #[.agg #[.int .i64 f.pos.x.lo, .int .i64 f.pos.x.hi, .int .i64 f.pos.z.lo, .int .i64 f.pos.z.hi, .int .i64 f.speed.x.lo, .int .i64 f.speed.x.hi, .int .i64 f.speed.z.lo, .int .i64 f.speed.z.hi, .int .i64 f.mass], .agg #[.int .i64 n.x.lo, .int .i64 n.x.hi, .int .i64 n.height]] w fun e w' => e = .returned (.tuple #[.agg #[.int .i64 (landR f n).lo, .int .i64 (landR f n).hi], .bool (comesB f n)]) ∧ Below w.heap.size w w' := by
  have hB0 := (((Below.refl w.heap.size w).alloc (Nat.le_refl _) (.cells #[.int .i64 f.pos.x.lo, .int .i64 f.pos.x.hi, .int .i64 f.pos.z.lo, .int .i64 f.pos.z.hi, .int .i64 f.speed.x.lo, .int .i64 f.speed.x.hi, .int .i64 f.speed.z.lo, .int .i64 f.speed.z.hi, .int .i64 f.mass] 42)).alloc (by simp) (.cells #[.int .i64 n.x.lo, .int .i64 n.x.hi, .int .i64 n.height] 64)).alloc (by simp <;> omega) (.cells #[.int .i64 0, .int .i64 0] 35)
  have kY := ((Blk.new w 42 #[.int .i64 f.pos.x.lo, .int .i64 f.pos.x.hi, .int .i64 f.pos.z.lo, .int .i64 f.pos.z.hi, .int .i64 f.speed.x.lo, .int .i64 f.speed.x.hi, .int .i64 f.speed.z.lo, .int .i64 f.speed.z.hi, .int .i64 f.mass]).alloc (.cells #[.int .i64 n.x.lo, .int .i64 n.x.hi, .int .i64 n.height] 64)).alloc (.cells #[.int .i64 0, .int .i64 0] 35)
  have kN := (Blk.new (w.alloc (.cells #[.int .i64 f.pos.x.lo, .int .i64 f.pos.x.hi, .int .i64 f.pos.z.lo, .int .i64 f.pos.z.hi, .int .i64 f.speed.x.lo, .int .i64 f.speed.x.hi, .int .i64 f.speed.z.lo, .int .i64 f.speed.z.hi, .int .i64 f.mass] 42)) 64 #[.int .i64 n.x.lo, .int .i64 n.x.hi, .int .i64 n.height]).alloc (.cells #[.int .i64 0, .int .i64 0] 35)
  have kR := Blk.new ((w.alloc (.cells #[.int .i64 f.pos.x.lo, .int .i64 f.pos.x.hi, .int .i64 f.pos.z.lo, .int .i64 f.pos.z.hi, .int .i64 f.speed.x.lo, .int .i64 f.speed.x.hi, .int .i64 f.speed.z.lo, .int .i64 f.speed.z.hi, .int .i64 f.mass] 42)).alloc (.cells #[.int .i64 n.x.lo, .int .i64 n.x.hi, .int .i64 n.height] 64)) 35 #[.int .i64 0, .int .i64 0]
  simp only [World.size_alloc] at kN kR
  have hz : w.heap.size ≤ (((w.alloc (.cells #[.int .i64 f.pos.x.lo, .int .i64 f.pos.x.hi, .int .i64 f.pos.z.lo, .int .i64 f.pos.z.hi, .int .i64 f.speed.x.lo, .int .i64 f.speed.x.hi, .int .i64 f.speed.z.lo, .int .i64 f.speed.z.hi, .int .i64 f.mass] 42)).alloc (.cells #[.int .i64 n.x.lo, .int .i64 n.x.hi, .int .i64 n.height] 64)).alloc (.cells #[.int .i64 0, .int .i64 0] 35)).heap.size := hB0.size
  have HR : Hid (landR f n = if comesB f n then ⟨tickN (lowO f n), tickN (highO f n)⟩ else ⟨0, 0⟩) := rfl
  have HLo : Hid (∀ W : World, Blk W (w.heap.size + 1) 64 #[.int .i64 n.x.lo, .int .i64 n.x.hi, .int .i64 n.height] → Calls Try.prog 93 #[.agg #[.int .i64 f.pos.x.lo, .int .i64 f.pos.x.hi, .int .i64 f.pos.z.lo, .int .i64 f.pos.z.hi, .int .i64 f.speed.x.lo, .int .i64 f.speed.x.hi, .int .i64 f.speed.z.lo, .int .i64 f.speed.z.hi, .int .i64 f.mass], .func (.func 94) #[] #[.pointer (some ⟨w.heap.size + 1, 0, none⟩)]] W fun e w' => e = .returned (.tuple #[.int .i64 (tickN (lowO f n)), .bool (lowO f n).isSome]) ∧ Below W.heap.size W w') := fun W h => firstLow_any f n _ W hf h
  have HHi : Hid (∀ W : World, Blk W (w.heap.size + 1) 64 #[.int .i64 n.x.lo, .int .i64 n.x.hi, .int .i64 n.height] → Calls Try.prog 93 #[.agg #[.int .i64 f.pos.x.lo, .int .i64 f.pos.x.hi, .int .i64 f.pos.z.lo, .int .i64 f.pos.z.hi, .int .i64 f.speed.x.lo, .int .i64 f.speed.x.hi, .int .i64 f.speed.z.lo, .int .i64 f.speed.z.hi, .int .i64 f.mass], .func (.func 95) #[] #[.pointer (some ⟨w.heap.size + 1, 0, none⟩)]] W fun e w' => e = .returned (.tuple #[.int .i64 (tickN (highO f n)), .bool (comesB f n)]) ∧ Below W.heap.size W w') := fun W h => firstHigh_any f n _ W hf h
  cases hc : comesB f n
  all_goals
    rw [hc] at HHi HR
    have HC := Lib.hid hc
    clear hc
    go_enter Try.func61, Try.ntmps61
    go_wp2_with (first | (go_at_call 93; (with_reducible refine (HLo.out _ kN).mono ?_); rintro e w1 ⟨rfl, hb1⟩; have kY1 := kY.below hb1 kY.lt; have kN1 := kN.below hb1 kN.lt; have kR1 := kR.below hb1 kR.lt; have y0 := kY1.cell 0; have y1 := kY1.cell 1; have y2 := kY1.cell 2; have y3 := kY1.cell 3; have y4 := kY1.cell 4; have y5 := kY1.cell 5; have y6 := kY1.cell 6; have y7 := kY1.cell 7; have y8 := kY1.cell 8; simp at y0 y1 y2 y3 y4 y5 y6 y7 y8) | (go_at_call 93; (with_reducible refine (HHi.out _ kN1).mono ?_); rintro e w2 ⟨rfl, hb2⟩; have kR2 := kR1.below hb2 kR1.lt; have r0 := kR2.cell 0; have r1 := kR2.cell 1; have g0 := kR2.frozen 0; have g1 := kR2.frozen 1; have rl := kR2.lt; simp at r0 r1))
    have hB2 := hB0.trans ((sh_next hb1 hb2).mono hz)
  · rw [HR.out, if_neg (by simp)]
    have kF := (kR2.set_ 0 (.int .i64 0)).set_ 1 (.int .i64 0)
    have v0 := kF.cell 0
    have v1 := kF.cell 1
    simp at v0 v1
    refine bodyPost_ret (v := .tuple #[.agg #[.int .i64 0, .int .i64 0], .bool false]) (by simp [results, Try.results61, go_sem, v0, v1]) rfl ⟨rfl, ?_⟩
    exact (hB2.setCell (p := ⟨w.heap.size + 1 + 1, 0, none⟩) (by simp <;> omega) _).setCell (p := ⟨w.heap.size + 1 + 1, 1, none⟩) (by simp <;> omega) _
  · rw [HR.out]
    simp only [if_true]
    have kF := (kR2.set_ 0 (.int .i64 (tickN (lowO f n)))).set_ 1 (.int .i64 (tickN (highO f n)))
    have v0 := kF.cell 0
    have v1 := kF.cell 1
    simp at v0 v1
    refine bodyPost_ret (v := .tuple #[.agg #[.int .i64 (tickN (lowO f n)), .int .i64 (tickN (highO f n))], .bool true]) (by simp [results, Try.results61, go_sem, v0, v1]) rfl ⟨rfl, ?_⟩
    exact (hB2.setCell (p := ⟨w.heap.size + 1 + 1, 0, none⟩) (by simp <;> omega) _).setCell (p := ⟨w.heap.size + 1 + 1, 1, none⟩) (by simp <;> omega) _
end Go.Proofs.Ytbagfapalkmikaa
