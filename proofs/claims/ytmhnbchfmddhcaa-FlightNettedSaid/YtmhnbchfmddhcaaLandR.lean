import Derived.Test.YtmhnbchfmddhcaaNetR

/- When a flyer comes to a net, by the document's words. -/
namespace Go.Proofs.Ytmhnbchfmddhcaa
open Go.RowKit Go.Shelf
theorem down_hit {p : Nat → Bool} {j : Nat} (h : j ≤ 300) (hp : p j = true) : tickI (downT p j) = (j : Int) := by rw [downT_step h, hp]; rfl
theorem down_miss {p : Nat → Bool} {j : Nat} (h : j ≤ 300) (hp : p j = false) : downT p j = downT p (j + 1) := by rw [downT_step h, hp]; rfl
set_option linter.unusedSimpArgs false in
set_option maxRecDepth 100000 in
set_option maxHeartbeats 8000000 in
theorem refLanding_any (f : Fly) (n : Net) (w : World) (hf : f.ok = true) :
    Calls Try.prog 31 #[.agg #[.int .i64 f.pos.x.lo, .int .i64 f.pos.x.hi, .int .i64 f.pos.z.lo, .int .i64 f.pos.z.hi, .int .i64 f.speed.x.lo, .int .i64 f.speed.x.hi, .int .i64 f.speed.z.lo, .int .i64 f.speed.z.hi, .int .i64 f.mass], .agg #[.int .i64 n.x.lo, .int .i64 n.x.hi, .int .i64 n.height]] w fun e w' => e = .returned (.tuple #[.agg #[.int .i64 (tickI (lowO f n)), .int .i64 (tickI (highO f n))], .bool (decide (0 ≤ tickI (highO f n)))]) ∧ Below w.heap.size w w' := by
  have HF := Lib.hid hf
  have HL : Hid (tickI (lowO f n) = tickI (downT (fun t : Nat => decide ((f.after t).z.lo ≤ n.height)) 0)) := by show _ = _; rw [downT_all]; rfl
  have HH : Hid (tickI (highO f n) = tickI (downT (fun t : Nat => decide ((f.after t).z.hi ≤ n.height)) 0)) := by show _ = _; rw [downT_all]; rfl
  have hB0 := (((Below.refl w.heap.size w).alloc (Nat.le_refl _) (.cells #[.int .i64 f.pos.x.lo, .int .i64 f.pos.x.hi, .int .i64 f.pos.z.lo, .int .i64 f.pos.z.hi, .int .i64 f.speed.x.lo, .int .i64 f.speed.x.hi, .int .i64 f.speed.z.lo, .int .i64 f.speed.z.hi, .int .i64 f.mass] 27)).alloc (by simp) (.cells #[.int .i64 n.x.lo, .int .i64 n.x.hi, .int .i64 n.height] 60)).alloc (by simp <;> omega) (.cells #[.int .i64 0, .int .i64 0] 23)
  have hB1 := hB0.alloc (by simp <;> omega) (.cells #[.int .i64 (-1), .int .i64 (-1)] 23)
  have kY0 := (((Blk.new w 27 #[.int .i64 f.pos.x.lo, .int .i64 f.pos.x.hi, .int .i64 f.pos.z.lo, .int .i64 f.pos.z.hi, .int .i64 f.speed.x.lo, .int .i64 f.speed.x.hi, .int .i64 f.speed.z.lo, .int .i64 f.speed.z.hi, .int .i64 f.mass]).alloc (.cells #[.int .i64 n.x.lo, .int .i64 n.x.hi, .int .i64 n.height] 60)).alloc (.cells #[.int .i64 0, .int .i64 0] 23)).alloc (.cells #[.int .i64 (-1), .int .i64 (-1)] 23)
  have kN0 := ((Blk.new (w.alloc (.cells #[.int .i64 f.pos.x.lo, .int .i64 f.pos.x.hi, .int .i64 f.pos.z.lo, .int .i64 f.pos.z.hi, .int .i64 f.speed.x.lo, .int .i64 f.speed.x.hi, .int .i64 f.speed.z.lo, .int .i64 f.speed.z.hi, .int .i64 f.mass] 27)) 60 #[.int .i64 n.x.lo, .int .i64 n.x.hi, .int .i64 n.height]).alloc (.cells #[.int .i64 0, .int .i64 0] 23)).alloc (.cells #[.int .i64 (-1), .int .i64 (-1)] 23)
  have kT0 := (Blk.new ((w.alloc (.cells #[.int .i64 f.pos.x.lo, .int .i64 f.pos.x.hi, .int .i64 f.pos.z.lo, .int .i64 f.pos.z.hi, .int .i64 f.speed.x.lo, .int .i64 f.speed.x.hi, .int .i64 f.speed.z.lo, .int .i64 f.speed.z.hi, .int .i64 f.mass] 27)).alloc (.cells #[.int .i64 n.x.lo, .int .i64 n.x.hi, .int .i64 n.height] 60)) 23 #[.int .i64 0, .int .i64 0]).alloc (.cells #[.int .i64 (-1), .int .i64 (-1)] 23)
  have kR0 := Blk.new (((w.alloc (.cells #[.int .i64 f.pos.x.lo, .int .i64 f.pos.x.hi, .int .i64 f.pos.z.lo, .int .i64 f.pos.z.hi, .int .i64 f.speed.x.lo, .int .i64 f.speed.x.hi, .int .i64 f.speed.z.lo, .int .i64 f.speed.z.hi, .int .i64 f.mass] 27)).alloc (.cells #[.int .i64 n.x.lo, .int .i64 n.x.hi, .int .i64 n.height] 60)).alloc (.cells #[.int .i64 0, .int .i64 0] 23)) 23 #[.int .i64 (-1), .int .i64 (-1)]
  simp only [World.size_alloc] at kN0 kT0 kR0
  clear hf hB0
  go_enter Try.func31, Try.ntmps31
  go_wp2
  go_loopw [7] (fun i wr => ∃ k : Nat, k ≤ 301 ∧ i = .int .i64 ((k : Int) - 1) ∧ Below w.heap.size w wr ∧ Blk wr w.heap.size 27 #[.int .i64 f.pos.x.lo, .int .i64 f.pos.x.hi, .int .i64 f.pos.z.lo, .int .i64 f.pos.z.hi, .int .i64 f.speed.x.lo, .int .i64 f.speed.x.hi, .int .i64 f.speed.z.lo, .int .i64 f.speed.z.hi, .int .i64 f.mass] ∧ Blk wr (w.heap.size + 1) 60 #[.int .i64 n.x.lo, .int .i64 n.x.hi, .int .i64 n.height] ∧ Blk wr (w.heap.size + 1 + 1) 23 #[.int .i64 0, .int .i64 0] ∧ Blk wr (w.heap.size + 1 + 1 + 1) 23 #[.int .i64 (tickI (downT (fun t : Nat => decide ((f.after t).z.lo ≤ n.height)) k)), .int .i64 (tickI (downT (fun t : Nat => decide ((f.after t).z.hi ≤ n.height)) k))]) (fun i _ => (intOf i + 1).toNat)
  case atStart => exact ⟨301, by omega, rfl, hB1, kY0, kN0, kT0, kR0⟩
  case round =>
    obtain ⟨k, hk, rfl, hB, kY, kN, kT, kR⟩ := hrel
    clear hB1 kY0 kN0 kT0 kR0
    have hbz := hB.size
    have kl := kR.lt
    cases k with
    | zero =>
      have hneg : ¬ (0 : Int) ≤ (((0 : Nat) : Int) - 1) := by omega
      rw [← HL.out, ← HH.out] at kR
      obtain ⟨p, hp⟩ : ∃ p, tickI (lowO f n) = p := ⟨_, rfl⟩
      obtain ⟨q, hq⟩ : ∃ q, tickI (highO f n) = q := ⟨_, rfl⟩
      rw [hp, hq] at kR
      have Hp := Lib.hid hp
      have Hq := Lib.hid hq
      have r0 := kR.cell 0; have r1 := kR.cell 1; simp at r0 r1
      have s0 := kT.cell 0; have sf0 := kT.frozen 0; have s1 := kT.cell 1; have sf1 := kT.frozen 1; have sl := kT.lt; simp at s0 s1
      clear hp hq
      go_wp2
      go_region
      all_goals go_wp2
      have v0 := (kT.set_ 0 (.int .i64 p)).cell 0
      have v1 := ((kT.set_ 0 (.int .i64 p)).set_ 1 (.int .i64 q)).cell 1
      have v2 := ((kT.set_ 0 (.int .i64 p)).set_ 1 (.int .i64 q)).cell 0
      simp at v0 v1 v2
      rw [Hp.out, Hq.out]
      refine bodyPost_ret (v := .tuple #[.agg #[.int .i64 p, .int .i64 q], .bool (decide (0 ≤ q))]) (by simp [results, Try.results31, go_sem, v0, v1, v2]) rfl ⟨rfl, ?_⟩
      repeat' (first | with_reducible exact hB | with_reducible refine Below.drew ?_ | with_reducible refine Below.setCell ?_ (by simp <;> omega) _)
    | succ j =>
      have hj : j ≤ 300 := by omega
      have hpos : (0 : Int) ≤ (((j + 1 : Nat) : Int) - 1) := by omega
      have hji : (((j + 1 : Nat) : Int) - 1) = (j : Int) := by omega
      rw [hji]
      have hjp : (0 : Int) ≤ (j : Int) := by omega
      clear hpos
      have y0 := kY.cell 0; have y1 := kY.cell 1; have y2 := kY.cell 2; have y3 := kY.cell 3; have y4 := kY.cell 4; have y5 := kY.cell 5; have y6 := kY.cell 6; have y7 := kY.cell 7; have y8 := kY.cell 8; simp at y0 y1 y2 y3 y4 y5 y6 y7 y8
      have HA : Hid (∀ W : World, Calls Try.prog 25 #[.agg #[.int .i64 f.pos.x.lo, .int .i64 f.pos.x.hi, .int .i64 f.pos.z.lo, .int .i64 f.pos.z.hi, .int .i64 f.speed.x.lo, .int .i64 f.speed.x.hi, .int .i64 f.speed.z.lo, .int .i64 f.speed.z.hi, .int .i64 f.mass], .int .i64 j] W fun e w' => e = .returned (.agg #[.int .i64 (f.after j).x.lo, .int .i64 (f.after j).x.hi, .int .i64 (f.after j).z.lo, .int .i64 (f.after j).z.hi]) ∧ Below W.heap.size W w') := fun W => refAfter_any f j W HF.out ⟨by omega, by omega⟩
      have HML : Hid (decide ((f.after j).z.lo ≤ n.height) = false → downT (fun t : Nat => decide ((f.after t).z.lo ≤ n.height)) j = downT (fun t : Nat => decide ((f.after t).z.lo ≤ n.height)) (j + 1)) := fun h => down_miss (p := fun t : Nat => decide ((f.after t).z.lo ≤ n.height)) hj h
      have HMH : Hid (decide ((f.after j).z.hi ≤ n.height) = false → downT (fun t : Nat => decide ((f.after t).z.hi ≤ n.height)) j = downT (fun t : Nat => decide ((f.after t).z.hi ≤ n.height)) (j + 1)) := fun h => down_miss (p := fun t : Nat => decide ((f.after t).z.hi ≤ n.height)) hj h
      have HTL : Hid (decide ((f.after j).z.lo ≤ n.height) = true → tickI (downT (fun t : Nat => decide ((f.after t).z.lo ≤ n.height)) j) = (j : Int)) := fun h => down_hit (p := fun t : Nat => decide ((f.after t).z.lo ≤ n.height)) hj h
      have HTH : Hid (decide ((f.after j).z.hi ≤ n.height) = true → tickI (downT (fun t : Nat => decide ((f.after t).z.hi ≤ n.height)) j) = (j : Int)) := fun h => down_hit (p := fun t : Nat => decide ((f.after t).z.hi ≤ n.height)) hj h
      obtain ⟨b, hb⟩ : ∃ b, f.after j = b := ⟨_, rfl⟩
      rw [hb] at HA HML HMH HTL HTH
      obtain ⟨P, hP⟩ : ∃ P, tickI (downT (fun t : Nat => decide ((f.after t).z.lo ≤ n.height)) j) = P := ⟨_, rfl⟩
      obtain ⟨Q, hQ⟩ : ∃ Q, tickI (downT (fun t : Nat => decide ((f.after t).z.hi ≤ n.height)) j) = Q := ⟨_, rfl⟩
      have HP := Lib.hid hP
      have HQ := Lib.hid hQ
      rw [hP] at HTL
      rw [hQ] at HTH
      clear hb hji hP hQ
      by_cases h1 : b.z.lo ≤ n.height <;> by_cases h2 : b.z.hi ≤ n.height
      all_goals
        first
        | (have E1 : P = (j : Int) := HTL.out (by simpa using h1); subst E1)
        | (have E1 := HML.out (by simpa using h1); rw [← E1, HP.out] at kR; clear E1)
        first
        | (have E2 : Q = (j : Int) := HTH.out (by simpa using h2); subst E2)
        | (have E2 := HMH.out (by simpa using h2); rw [← E2, HQ.out] at kR; clear E2)
        clear HML HMH HTL HTH
        go_wp2_with (go_at_call 25; (with_reducible refine (HA.out _).mono ?_); rintro e w1 ⟨rfl, hb1⟩; have kN1 := (kN.below hb1 kN.lt).alloc (.cells #[.int .i64 b.x.lo, .int .i64 b.x.hi, .int .i64 b.z.lo, .int .i64 b.z.hi] 25); have kR1 := (kR.below hb1 kR.lt).alloc (.cells #[.int .i64 b.x.lo, .int .i64 b.x.hi, .int .i64 b.z.lo, .int .i64 b.z.hi] 25); have n0 := kN1.cell 0; have n1 := kN1.cell 1; have n2 := kN1.cell 2; simp at n0 n1 n2; have r0 := kR1.cell 0; have rf0 := kR1.frozen 0; have r1 := kR1.cell 1; have rf1 := kR1.frozen 1; have rl := kR1.lt; simp at r0 r1; have hz1 := hb1.size)
        go_roundw
        case rel =>
          refine ⟨j, by omega, rfl, ?_, ?_, ?_, ?_, ?_⟩
          · repeat' (first | with_reducible exact hB.trans (hb1.mono hbz) | with_reducible refine Below.setCell ?_ (by simp <;> omega) _ | with_reducible refine Below.alloc ?_ (by (try simp) <;> omega) _)
          · repeat' (first | with_reducible exact kY.below hb1 kY.lt | with_reducible refine Blk.far ?_ (by simp <;> omega) _ | with_reducible refine Blk.alloc ?_ _)
          · repeat' (first | with_reducible exact kN.below hb1 kN.lt | with_reducible refine Blk.far ?_ (by simp <;> omega) _ | with_reducible refine Blk.alloc ?_ _)
          · repeat' (first | with_reducible exact kT.below hb1 kT.lt | with_reducible refine Blk.far ?_ (by simp <;> omega) _ | with_reducible refine Blk.alloc ?_ _)
          · rw [HP.out, HQ.out]
            first
            | exact (kR1.set_ 0 (.int .i64 (j : Int))).set_ 1 (.int .i64 (j : Int))
            | exact kR1.set_ 0 (.int .i64 (j : Int))
            | exact kR1.set_ 1 (.int .i64 (j : Int))
            | exact kR1
        case measure => simp [intOf] <;> omega
end Go.Proofs.Ytmhnbchfmddhcaa
