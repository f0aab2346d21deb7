import Derived.Test.YtbagfapalkmikaaLand

/- Whether a net takes a flyer. -/
namespace Go.Proofs.Ytbagfapalkmikaa
open Go.RowKit

def overB (f : Fly) (n : Net) (t : Nat) : Bool := n.x.hasB (f.after t).x
def allFrom (p : Nat → Bool) (lo k : Nat) : Bool := (List.range' lo (k - lo)).all p
theorem allFrom_start {p : Nat → Bool} {lo : Nat} : allFrom p lo lo = true := by simp [allFrom]
theorem allFrom_succ {p : Nat → Bool} {lo k : Nat} (h : lo ≤ k) : allFrom p lo (k + 1) = (allFrom p lo k && p k) := by
  unfold allFrom
  rw [show k + 1 - lo = (k - lo) + 1 by omega, List.range'_concat, List.all_append]
  simp
  rw [show lo + (k - lo) = k by omega]
def takesB (f : Fly) (n : Net) : Bool := comesB f n && allFrom (overB f n) (tickN (lowO f n)) (tickN (highO f n) + 1)
theorem first_least {p : Nat → Bool} {j : Nat} (h : firstT p = some j) (k : Nat) (hk : k < j) : p k = false := by
  have key : ∀ n, (List.range n).find? p = some j → p k = false := by
    intro n
    induction n with
    | zero => intro h; simp at h
    | succ n ih =>
      intro h
      rw [List.range_succ, List.find?_append] at h
      cases hq : (List.range n).find? p with
      | some i =>
        rw [hq] at h
        simp at h
        subst h
        exact ih hq
      | none =>
        rw [hq] at h
        cases hpn : p n with
        | false => simp [hpn] at h
        | true =>
          simp [hpn] at h
          subst h
          have := (List.find?_eq_none.1 hq) k (by simpa using hk)
          simpa using this
  exact key 301 h
theorem low_le : ∀ (f : Fly) (n : Net), f.ok = true → comesB f n = true → tickN (lowO f n) ≤ tickN (highO f n) := by
  intro f n hf hc
  obtain ⟨hp, hs, _⟩ := Fly.ok_iff.1 hf
  obtain ⟨_, p5⟩ := Bx.inside_iff.1 hp
  obtain ⟨_, s5⟩ := Bx.inside_iff.1 hs
  unfold comesB at hc
  obtain ⟨k, hk⟩ := Option.isSome_iff_exists.1 hc
  have hk1 := List.find?_some hk
  have hk2 := List.mem_of_find?_eq_some hk
  simp at hk1 hk2
  have hzz : (f.after k).z.lo ≤ (f.after k).z.hi := by
    simp only [Fly.after]
    have : (k : Int) * f.speed.z.lo ≤ k * f.speed.z.hi := Int.mul_le_mul_of_nonneg_left (by omega) (by omega)
    omega
  rw [hk]
  cases hl : lowO f n with
  | none =>
    have := (List.find?_eq_none.1 hl) k (by simpa using hk2)
    simp at this
    omega
  | some j =>
    show j ≤ k
    refine Nat.not_lt.1 fun hlt => ?_
    have hn := first_least hl k hlt
    simp at hn
    omega
set_option maxRecDepth 100000 in
set_option maxHeartbeats 8000000 in
theorem takes_any (n : Net) (f : Fly) (w : World) (hf : f.ok = true) :
    Calls Try.prog 62 #[.agg #[.int .i64 n.x.lo, .int .i64 n.x.hi, .int .i64 n.height], .agg #[.int .i64 f.pos.x.lo, .int .i64 f.pos.x.hi, .int .i64 f.pos.z.lo, .int .i64 f.pos.z.hi, .int .i64 f.speed.x.lo, .int .i64 f.speed.x.hi, .int .i64 f.speed.z.lo, .int .i64 f.speed.z.hi, .int .i64 f.mass]] w fun e w' => e = .returned (.bool (takesB f n)) ∧ Below w.heap.size w w' := by
  have hB0 := ((Below.refl w.heap.size w).alloc (Nat.le_refl _) (.cells #[.int .i64 n.x.lo, .int .i64 n.x.hi, .int .i64 n.height] 64)).alloc (by simp) (.cells #[.int .i64 f.pos.x.lo, .int .i64 f.pos.x.hi, .int .i64 f.pos.z.lo, .int .i64 f.pos.z.hi, .int .i64 f.speed.x.lo, .int .i64 f.speed.x.hi, .int .i64 f.speed.z.lo, .int .i64 f.speed.z.hi, .int .i64 f.mass] 42)
  have kN := (Blk.new w 64 #[.int .i64 n.x.lo, .int .i64 n.x.hi, .int .i64 n.height]).alloc (.cells #[.int .i64 f.pos.x.lo, .int .i64 f.pos.x.hi, .int .i64 f.pos.z.lo, .int .i64 f.pos.z.hi, .int .i64 f.speed.x.lo, .int .i64 f.speed.x.hi, .int .i64 f.speed.z.lo, .int .i64 f.speed.z.hi, .int .i64 f.mass] 42)
  have kY := Blk.new (w.alloc (.cells #[.int .i64 n.x.lo, .int .i64 n.x.hi, .int .i64 n.height] 64)) 42 #[.int .i64 f.pos.x.lo, .int .i64 f.pos.x.hi, .int .i64 f.pos.z.lo, .int .i64 f.pos.z.hi, .int .i64 f.speed.x.lo, .int .i64 f.speed.x.hi, .int .i64 f.speed.z.lo, .int .i64 f.speed.z.hi, .int .i64 f.mass]
  simp only [World.size_alloc] at kY
  have hz := hB0.size
  have HF := Lib.hid hf
  have HT : Hid (takesB f n = (comesB f n && allFrom (overB f n) (tickN (lowO f n)) (tickN (highO f n) + 1))) := rfl
  have HL : Hid (∀ W : World, Calls Try.prog 61 #[.agg #[.int .i64 f.pos.x.lo, .int .i64 f.pos.x.hi, .int .i64 f.pos.z.lo, .int .i64 f.pos.z.hi, .int .i64 f.speed.x.lo, .int .i64 f.speed.x.hi, .int .i64 f.speed.z.lo, .int .i64 f.speed.z.hi, .int .i64 f.mass], .agg #[.int .i64 n.x.lo, .int .i64 n.x.hi, .int .i64 n.height]] W fun e w' => e = .returned (.tuple #[.agg #[.int .i64 (landR f n).lo, .int .i64 (landR f n).hi], .bool (comesB f n)]) ∧ Below W.heap.size W w') := fun W => landing_any f n W hf
  have hlow := low_le f n hf
  have h300 : tickN (highO f n) ≤ 300 := tickN_le
  clear hf
  cases hc : comesB f n
  · have HR : landR f n = ⟨0, 0⟩ := by unfold landR; rw [hc]; rfl
    rw [HR, hc] at HL
    rw [hc] at HT
    clear hc HR hlow h300
    go_enter Try.func62, Try.ntmps62
    go_wp2_with (go_at_call 61; (with_reducible refine (HL.out _).mono ?_); rintro e w1 ⟨rfl, hb1⟩)
    have hB1 := hB0.trans (hb1.mono hz)
    have kN1 := (kN.below hb1 kN.lt).alloc (.cells #[.int .i64 0, .int .i64 0] 35)
    have kY1 := (kY.below hb1 kY.lt).alloc (.cells #[.int .i64 0, .int .i64 0] 35)
    have kT1 := Blk.new w1 35 #[.int .i64 0, .int .i64 0]
    have hT1 := hB1.alloc hB1.size (.cells #[.int .i64 0, .int .i64 0] 35)
    refine name_world (motive := fun W => Code.wp _ _ _ _ W) _ ?_
    intro wo hWo
    have kN := hWo.blk kN1
    have kY := hWo.blk kY1
    have kT := hWo.blk kT1
    have hBo := hWo.below hT1
    clear hWo kN1 kY1 kT1 hT1 hb1
    have r0 := kT.cell 0
    have r1 := kT.cell 1
    simp at r0 r1
    refine wp_loop_rounds 2 ?_
    rw [rounds_succ]
    go_wp2
    go_quiet (fail)
    go_wp2
    rw [rounds_succ]
    go_wp2
    go_ret
    exact ⟨ret_bool HT.out.symm, below_drewN hBo _⟩
  · have HR : landR f n = ⟨tickN (lowO f n), tickN (highO f n)⟩ := by unfold landR; rw [hc]; rfl
    rw [HR, hc] at HL
    rw [hc] at HT
    have hle := hlow hc
    obtain ⟨lo, hlo⟩ : ∃ x, tickN (lowO f n) = x := ⟨_, rfl⟩
    obtain ⟨hi, hhi⟩ : ∃ x, tickN (highO f n) = x := ⟨_, rfl⟩
    rw [hlo, hhi] at HL hle HT
    rw [hhi] at h300
    clear hc HR hlow hlo hhi
    go_enter Try.func62, Try.ntmps62
    go_wp2_with (go_at_call 61; (with_reducible refine (HL.out _).mono ?_); rintro e w1 ⟨rfl, hb1⟩)
    have hB1 := hB0.trans (hb1.mono hz)
    have kN1 := (kN.below hb1 kN.lt).alloc (.cells #[.int .i64 lo, .int .i64 hi] 35)
    have kY1 := (kY.below hb1 kY.lt).alloc (.cells #[.int .i64 lo, .int .i64 hi] 35)
    have kT1 := Blk.new w1 35 #[.int .i64 lo, .int .i64 hi]
    have hT1 := hB1.alloc hB1.size (.cells #[.int .i64 lo, .int .i64 hi] 35)
    refine name_world (motive := fun W => Code.wp _ _ _ _ W) _ ?_
    intro wo hWo
    have kN := hWo.blk kN1
    have kY := hWo.blk kY1
    have kT := hWo.blk kT1
    have hBo := hWo.below hT1
    clear hWo kN1 kY1 kT1 hT1 hb1
    have t0 := kT.cell 0
    simp at t0
    go_wp2
    go_loopw [6, 7] (fun c i wr => ∃ k : Nat, lo ≤ k ∧ k ≤ hi + 1 ∧ i = .int .i64 k ∧ c = .bool (allFrom (overB f n) lo k) ∧ Below wo.heap.size wo wr) (fun _ i _ => hi + 1 - (intOf i).toNat)
    case atStart => exact ⟨lo, Nat.le_refl _, by omega, rfl, by rw [allFrom_start], Below.refl _ _⟩
    case round =>
      obtain ⟨k, hk1, hk2, rfl, rfl, hB⟩ := hrel
      have kNr := kN.below hB kN.lt
      have kYr := kY.below hB kY.lt
      have kTr := kT.below hB kT.lt
      have hbz := hB.size
      have HS : Hid (allFrom (overB f n) lo (k + 1) = (allFrom (overB f n) lo k && overB f n k)) := allFrom_succ hk1
      have y0 := kYr.cell 0
      have y1 := kYr.cell 1
      have y2 := kYr.cell 2
      have y3 := kYr.cell 3
      have y4 := kYr.cell 4
      have y5 := kYr.cell 5
      have y6 := kYr.cell 6
      have y7 := kYr.cell 7
      have y8 := kYr.cell 8
      have n0 := kNr.cell 0
      have n1 := kNr.cell 1
      have r0 := kTr.cell 0
      have r1 := kTr.cell 1
      have yl := kYr.lt
      have nl := kNr.lt
      have tl := kTr.lt
      simp at y0 y1 y2 y3 y4 y5 y6 y7 y8 n0 n1 r0 r1
      by_cases hlt : k ≤ hi
      · cases hall : allFrom (overB f n) lo k
        · rw [hall] at HS
          go_wp2
          go_quiet (fail)
          go_wp2
          go_roundw
          case rel => exact ⟨k + 1, by omega, by omega, by go_num, by rw [HS.out]; rfl, below_drewN hB _⟩
          case measure => simp [intOf]; omega
        · rw [hall] at HS
          have HA : Hid (∀ W : World, Calls Try.prog 55 #[.agg #[.int .i64 f.pos.x.lo, .int .i64 f.pos.x.hi, .int .i64 f.pos.z.lo, .int .i64 f.pos.z.hi, .int .i64 f.speed.x.lo, .int .i64 f.speed.x.hi, .int .i64 f.speed.z.lo, .int .i64 f.speed.z.hi, .int .i64 f.mass], .int .i64 k] W fun e w' => e = .returned (.agg #[.int .i64 (f.after k).x.lo, .int .i64 (f.after k).x.hi, .int .i64 (f.after k).z.lo, .int .i64 (f.after k).z.hi]) ∧ Below W.heap.size W w') := fun W => after_any f k W HF.out ⟨by omega, by omega⟩
          have HH : Hid (∀ W : World, Calls Try.prog 96 #[.agg #[.int .i64 n.x.lo, .int .i64 n.x.hi], .agg #[.int .i64 (f.after k).x.lo, .int .i64 (f.after k).x.hi]] W fun e w' => e = .returned (.bool (overB f n k)) ∧ Below W.heap.size W w') := fun W => has_any n.x (f.after k).x W
          go_wp2
          refine name_world (motive := fun W => Code.wp _ _ _ _ W) _ ?_
          intro W0 hW
          have hWc := hW.cell
          have hWz := hW.size
          have hWb := hW.below (hB)
          have nl1 : w.heap.size < W0.heap.size := by omega
          have yl1 : w.heap.size + 1 < W0.heap.size := by omega
          have hle1 : wo.heap.size ≤ W0.heap.size := by omega
          clear hWz
          go_region_held3 (fun w' => (∀ b o, b < W0.heap.size → w'.cell? ⟨b, o, none⟩ = W0.cell? ⟨b, o, none⟩) ∧ Below W0.heap.size W0 w') (first | with_reducible exact sh_refl _ | (with_reducible refine sh_of ?_; with_reducible assumption) | (with_reducible refine sh_alloc ?_ _; with_reducible assumption) | with_reducible exact sh_first _ _)
            (first | (go_at_call 55; go_split_ands; have hS11 : Below W0.heap.size W0 _ := (by with_reducible assumption); refine (HA.out _).mono ?_; rintro e w11 ⟨rfl, hb11⟩; have hB11 := sh_next hS11 hb11) | (go_at_call 96; go_split_ands; have hS12 : Below W0.heap.size W0 _ := (by with_reducible assumption); refine (HH.out _).mono ?_; rintro e w12 ⟨rfl, hb12⟩; have hB12 := sh_next hS12 hb12))
          all_goals go_wp2
          go_roundw
          case rel => exact ⟨k + 1, by omega, by omega, by go_num, by rw [HS.out]; rfl, hWb.trans (hB12.mono hle1)⟩
          case measure => simp [intOf]; omega
      · obtain rfl : k = hi + 1 := by omega
        go_wp2
        go_ret
        exact ⟨ret_bool (by rw [HT.out]; rfl), hBo.trans (hB.mono hBo.size)⟩
end Go.Proofs.Ytbagfapalkmikaa
