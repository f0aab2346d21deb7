import Derived.Test.YtmhnbchfmddhcaaLandR

/- Whether a net takes a flyer, by the document's words. -/
namespace Go.Proofs.Ytmhnbchfmddhcaa
open Go.RowKit Go.Shelf
theorem none_of_not {f : Fly} {n : Net} (h : comesB f n = false) : highO f n = none := by
  unfold comesB at h
  cases hh : highO f n with
  | none => rfl
  | some k => rw [hh] at h; cases h
theorem allFrom_miss {p : Nat → Bool} {lo k hi : Nat} (h1 : lo ≤ k) (h2 : k < hi) (hp : p k = false) : allFrom p lo hi = false := by
  rw [Bool.eq_false_iff]
  intro h
  unfold allFrom at h
  rw [List.all_eq_true] at h
  have := h k (by rw [List.mem_range'_1]; omega)
  rw [hp] at this; cases this
set_option maxRecDepth 100000 in
set_option maxHeartbeats 8000000 in
theorem refTakes_any (f : Fly) (n : Net) (w : World) (hf : f.ok = true) :
    Calls Try.prog 32 #[.agg #[.int .i64 f.pos.x.lo, .int .i64 f.pos.x.hi, .int .i64 f.pos.z.lo, .int .i64 f.pos.z.hi, .int .i64 f.speed.x.lo, .int .i64 f.speed.x.hi, .int .i64 f.speed.z.lo, .int .i64 f.speed.z.hi, .int .i64 f.mass], .agg #[.int .i64 n.x.lo, .int .i64 n.x.hi, .int .i64 n.height]] w fun e w' => e = .returned (.bool (takesB f n)) ∧ Below w.heap.size w w' := by
  have hB0 := ((Below.refl w.heap.size w).alloc (Nat.le_refl _) (.cells #[.int .i64 f.pos.x.lo, .int .i64 f.pos.x.hi, .int .i64 f.pos.z.lo, .int .i64 f.pos.z.hi, .int .i64 f.speed.x.lo, .int .i64 f.speed.x.hi, .int .i64 f.speed.z.lo, .int .i64 f.speed.z.hi, .int .i64 f.mass] 27)).alloc (by simp) (.cells #[.int .i64 n.x.lo, .int .i64 n.x.hi, .int .i64 n.height] 60)
  have kY := (Blk.new w 27 #[.int .i64 f.pos.x.lo, .int .i64 f.pos.x.hi, .int .i64 f.pos.z.lo, .int .i64 f.pos.z.hi, .int .i64 f.speed.x.lo, .int .i64 f.speed.x.hi, .int .i64 f.speed.z.lo, .int .i64 f.speed.z.hi, .int .i64 f.mass]).alloc (.cells #[.int .i64 n.x.lo, .int .i64 n.x.hi, .int .i64 n.height] 60)
  have kN := Blk.new (w.alloc (.cells #[.int .i64 f.pos.x.lo, .int .i64 f.pos.x.hi, .int .i64 f.pos.z.lo, .int .i64 f.pos.z.hi, .int .i64 f.speed.x.lo, .int .i64 f.speed.x.hi, .int .i64 f.speed.z.lo, .int .i64 f.speed.z.hi, .int .i64 f.mass] 27)) 60 #[.int .i64 n.x.lo, .int .i64 n.x.hi, .int .i64 n.height]
  simp only [World.size_alloc] at kN
  have hz := hB0.size
  have HF := Lib.hid hf
  have HT : Hid (takesB f n = (comesB f n && allFrom (overB f n) (tickN (lowO f n)) (tickN (highO f n) + 1))) := rfl
  have HL : Hid (∀ W : World, Calls Try.prog 31 #[.agg #[.int .i64 f.pos.x.lo, .int .i64 f.pos.x.hi, .int .i64 f.pos.z.lo, .int .i64 f.pos.z.hi, .int .i64 f.speed.x.lo, .int .i64 f.speed.x.hi, .int .i64 f.speed.z.lo, .int .i64 f.speed.z.hi, .int .i64 f.mass], .agg #[.int .i64 n.x.lo, .int .i64 n.x.hi, .int .i64 n.height]] W fun e w' => e = .returned (.tuple #[.agg #[.int .i64 (tickI (lowO f n)), .int .i64 (tickI (highO f n))], .bool (decide (0 ≤ tickI (highO f n)))]) ∧ Below W.heap.size W w') := fun W => refLanding_any f n W hf
  have h300 : tickN (highO f n) ≤ 300 := tickN_le
  have hls := low_some (n := n) hf
  clear hf
  cases hc : comesB f n
  · have hno := none_of_not hc
    rw [hno, show tickI none = -1 from rfl, show decide ((0 : Int) ≤ -1) = false from rfl] at HL
    rw [hc] at HT
    clear hc hls h300 hno
    go_enter Try.func32, Try.ntmps32
    go_wp2_with (go_at_call 31; (with_reducible refine (HL.out _).mono ?_); rintro e w1 ⟨rfl, hb1⟩)
    go_ret
    exact ⟨ret_bool HT.out.symm, (hB0.trans (hb1.mono hz)).alloc (hB0.trans (hb1.mono hz)).size _⟩
  · have hlo' := tickI_some (hls hc)
    have hhi' := tickI_some (show (highO f n).isSome = true from hc)
    rw [hlo', hhi', show decide ((0 : Int) ≤ (tickN (highO f n) : Int)) = true by simp] at HL
    rw [hc] at HT
    obtain ⟨lo, hlo⟩ : ∃ x, tickN (lowO f n) = x := ⟨_, rfl⟩
    obtain ⟨hi, hhi⟩ : ∃ x, tickN (highO f n) = x := ⟨_, rfl⟩
    rw [hlo, hhi] at HL HT
    rw [hhi] at h300
    have hle : lo ≤ hi := by rw [← hlo, ← hhi]; exact low_le f n HF.out hc
    clear hc hls hlo hhi hlo' hhi'
    go_enter Try.func32, Try.ntmps32
    go_wp2_with (go_at_call 31; (with_reducible refine (HL.out _).mono ?_); rintro e w1 ⟨rfl, hb1⟩)
    have hB1 := hB0.trans (hb1.mono hz)
    have kN1 := (kN.below hb1 kN.lt).alloc (.cells #[.int .i64 lo, .int .i64 hi] 23)
    have kY1 := (kY.below hb1 kY.lt).alloc (.cells #[.int .i64 lo, .int .i64 hi] 23)
    have kT1 := Blk.new w1 23 #[.int .i64 lo, .int .i64 hi]
    have hT1 := hB1.alloc hB1.size (.cells #[.int .i64 lo, .int .i64 hi] 23)
    refine name_world (motive := fun W => Code.wp _ _ _ _ W) _ ?_
    intro wo hWo
    have kN := hWo.blk kN1
    have kY := hWo.blk kY1
    have kT := hWo.blk kT1
    have hBo := hWo.below hT1
    clear hWo kN1 kY1 kT1 hT1 hb1
    have t0 := kT.cell 0
    simp at t0
    go_wp2
    go_loopw [7] (fun i wr => ∃ k : Nat, lo ≤ k ∧ k ≤ hi + 1 ∧ i = .int .i64 k ∧ allFrom (overB f n) lo k = true ∧ Below wo.heap.size wo wr) (fun i _ => hi + 1 - (intOf i).toNat)
    case atStart => exact ⟨lo, Nat.le_refl _, by omega, rfl, by rw [allFrom_start], Below.refl _ _⟩
    case round =>
      obtain ⟨k, hk1, hk2, rfl, hall, hB⟩ := hrel
      have kNr := kN.below hB kN.lt
      have kYr := kY.below hB kY.lt
      have kTr := kT.below hB kT.lt
      have hbz := hB.size
      have y0 := kYr.cell 0; have y1 := kYr.cell 1; have y2 := kYr.cell 2; have y3 := kYr.cell 3; have y4 := kYr.cell 4; have y5 := kYr.cell 5; have y6 := kYr.cell 6; have y7 := kYr.cell 7; have y8 := kYr.cell 8; simp at y0 y1 y2 y3 y4 y5 y6 y7 y8
      have r0 := kTr.cell 0; have r1 := kTr.cell 1; simp at r0 r1
      by_cases hlt : k ≤ hi
      · have HS : Hid (allFrom (overB f n) lo (k + 1) = (allFrom (overB f n) lo k && overB f n k)) := allFrom_succ hk1
        have HO : Hid (overB f n k = (decide (n.x.lo ≤ (f.after k).x.lo) && decide ((f.after k).x.hi ≤ n.x.hi))) := rfl
        have HALL := Lib.hid hall
        have HA : Hid (∀ W : World, Calls Try.prog 25 #[.agg #[.int .i64 f.pos.x.lo, .int .i64 f.pos.x.hi, .int .i64 f.pos.z.lo, .int .i64 f.pos.z.hi, .int .i64 f.speed.x.lo, .int .i64 f.speed.x.hi, .int .i64 f.speed.z.lo, .int .i64 f.speed.z.hi, .int .i64 f.mass], .int .i64 k] W fun e w' => e = .returned (.agg #[.int .i64 (f.after k).x.lo, .int .i64 (f.after k).x.hi, .int .i64 (f.after k).z.lo, .int .i64 (f.after k).z.hi]) ∧ Below W.heap.size W w') := fun W => refAfter_any f k W HF.out ⟨by omega, by omega⟩
        have HM : Hid (overB f n k = false → allFrom (overB f n) lo (hi + 1) = false) := fun h => allFrom_miss hk1 (by omega) h
        obtain ⟨b, hb⟩ : ∃ b, f.after k = b := ⟨_, rfl⟩
        rw [hb] at HA HO
        clear hb hall
        by_cases h1 : b.x.lo < n.x.lo
        · have HR : Hid (takesB f n = false) := by show _ = _; rw [HT.out, HM.out (by rw [HO.out]; simp; omega)]; rfl
          go_wp2_with (go_at_call 25; (with_reducible refine (HA.out _).mono ?_); rintro e w2 ⟨rfl, hb2⟩; have kN2 := (kNr.below hb2 kNr.lt).alloc (.cells #[.int .i64 b.x.lo, .int .i64 b.x.hi] 23); have n0 := kN2.cell 0; have n1 := kN2.cell 1; have n2 := kN2.cell 2; simp at n0 n1 n2)
          go_ret
          refine ⟨ret_bool HR.out.symm, ?_⟩
          have hX := hB.trans (hb2.mono hbz)
          exact hBo.trans ((hX.alloc hX.size _).mono hBo.size)
        · by_cases h2 : b.x.hi > n.x.hi
          · have HR : Hid (takesB f n = false) := by show _ = _; rw [HT.out, HM.out (by rw [HO.out]; simp; omega)]; rfl
            go_wp2_with (go_at_call 25; (with_reducible refine (HA.out _).mono ?_); rintro e w2 ⟨rfl, hb2⟩; have kN2 := (kNr.below hb2 kNr.lt).alloc (.cells #[.int .i64 b.x.lo, .int .i64 b.x.hi] 23); have n0 := kN2.cell 0; have n1 := kN2.cell 1; have n2 := kN2.cell 2; simp at n0 n1 n2)
            go_ret
            refine ⟨ret_bool HR.out.symm, ?_⟩
            have hX := hB.trans (hb2.mono hbz)
            exact hBo.trans ((hX.alloc hX.size _).mono hBo.size)
          · have HR : Hid (allFrom (overB f n) lo (k + 1) = true) := by show _ = _; rw [HS.out, HALL.out, HO.out]; simp; omega
            go_wp2_with (go_at_call 25; (with_reducible refine (HA.out _).mono ?_); rintro e w2 ⟨rfl, hb2⟩; have kN2 := (kNr.below hb2 kNr.lt).alloc (.cells #[.int .i64 b.x.lo, .int .i64 b.x.hi] 23); have n0 := kN2.cell 0; have n1 := kN2.cell 1; have n2 := kN2.cell 2; simp at n0 n1 n2)
            go_roundw
            case rel =>
              have hX := hB.trans (hb2.mono hbz)
              exact ⟨k + 1, by omega, by omega, by go_num, HR.out, hX.alloc hX.size _⟩
            case measure => simp [intOf]; omega
      · obtain rfl : k = hi + 1 := by omega
        go_wp2
        go_ret
        exact ⟨ret_bool (by rw [HT.out, hall]; rfl), hBo.trans (hB.mono hBo.size)⟩
end Go.Proofs.Ytmhnbchfmddhcaa
