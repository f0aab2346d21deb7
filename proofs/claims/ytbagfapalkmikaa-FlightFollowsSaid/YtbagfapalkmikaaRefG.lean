import Derived.Test.YtbagfapalkmikaaRefFl

/- Whether a flight is valid, by the document's words. -/
namespace Go.Proofs.Ytbagfapalkmikaa
open Go.RowKit Go.Shelf
theorem between_any (r : Rng) (m : Int) (w : World) (hm : 0 ≤ m ∧ m ≤ 10000000) : Calls Try.prog 63 #[.agg #[.int .i64 r.lo, .int .i64 r.hi], .int .i64 m] w fun e w' => e = .returned (.bool (r.inside m)) ∧ Below w.heap.size w w' := by
  by_cases h1 : -m ≤ r.lo <;> by_cases h2 : r.lo ≤ r.hi <;> by_cases h3 : r.hi ≤ m
  all_goals try (exfalso; omega)
  all_goals
    go_enter Try.func63, Try.ntmps63
    go_wp2
    go_ret
    exact ⟨ret_bool (by simp [Rng.inside] <;> omega), (Below.refl _ _).alloc (Nat.le_refl _) _⟩
set_option maxHeartbeats 1000000 in
theorem boxed_any (b : Bx) (m : Int) (w : World) (hm : 0 ≤ m ∧ m ≤ 10000000) : Calls Try.prog 58 #[.agg #[.int .i64 b.x.lo, .int .i64 b.x.hi, .int .i64 b.z.lo, .int .i64 b.z.hi], .int .i64 m] w fun e w' => e = .returned (.bool (b.inside m)) ∧ Below w.heap.size w w' := by
  have HK : Hid (b.inside m = (b.x.inside m && b.z.inside m)) := rfl
  cases h1 : b.x.inside m <;> cases h2 : b.z.inside m
  all_goals
    rw [h1, h2] at HK
    go_enter Try.func58, Try.ntmps58
    have tok1 : True := trivial
    go_wp2_with (first | (go_at_call 63; have := tok1; clear this tok1; refine (between_any _ _ _ hm).mono ?_; rintro e w1 ⟨rfl, hb1⟩; obtain ⟨hc1, hf1⟩ := bcell hb1; have hz1 : w.heap.size < w1.heap.size := (by have := hb1.size; (try simp at this); omega)) | (go_at_call 63; refine (between_any _ _ _ hm).mono ?_; rintro e w2 ⟨rfl, hb2⟩; obtain ⟨hc2, hf2⟩ := bcell hb2; have hz2 : w.heap.size < w2.heap.size := (by have := hb2.size; (try simp at this); omega)))
    go_ret
    first
    | exact ⟨ret_bool HK.out.symm, ((Below.refl _ _).alloc (Nat.le_refl _) _).trans ((sh_next hb1 hb2).mono (by simp))⟩
    | exact ⟨ret_bool HK.out.symm, ((Below.refl _ _).alloc (Nat.le_refl _) _).trans (hb1.mono (by simp))⟩
set_option maxHeartbeats 1000000 in
theorem rightFlyer_any (f : Fly) (w : World) : Calls Try.prog 21 #[.agg #[.int .i64 f.pos.x.lo, .int .i64 f.pos.x.hi, .int .i64 f.pos.z.lo, .int .i64 f.pos.z.hi, .int .i64 f.speed.x.lo, .int .i64 f.speed.x.hi, .int .i64 f.speed.z.lo, .int .i64 f.speed.z.hi, .int .i64 f.mass]] w fun e w' => e = .returned (.bool f.ok) ∧ Below w.heap.size w w' := by
  have HK : Hid (f.ok = (f.pos.inside 10000000 && (f.speed.inside 10000 && inB f.mass 1 200))) := rfl
  cases h1 : f.pos.inside 10000000 <;> cases h2 : f.speed.inside 10000 <;> cases h3 : inB f.mass 1 200
  all_goals
    rw [h1, h2, h3] at HK
    have tok1 : True := trivial
    go_enter Try.func21, Try.ntmps21
    go_wp2_with (first | (go_at_call 58; have := tok1; clear this tok1; refine (boxed_any _ _ _ (by omega)).mono ?_; rintro e w1 ⟨rfl, hb1⟩; obtain ⟨hc1, hf1⟩ := bcell hb1; have hz1 : w.heap.size < w1.heap.size := (by have := hb1.size; (try simp at this); omega)) | (go_at_call 58; refine (boxed_any _ _ _ (by omega)).mono ?_; rintro e w2 ⟨rfl, hb2⟩; obtain ⟨hc2, hf2⟩ := bcell hb2; have hz2 : w.heap.size < w2.heap.size := (by have := hb2.size; (try simp at this); omega)) | (go_at_call 20; refine (in_any _ _ _ _).mono ?_; rintro e w' ⟨rfl, rfl⟩))
    go_ret
    first
    | exact ⟨ret_bool HK.out.symm, ((Below.refl _ _).alloc (Nat.le_refl _) _).trans ((sh_next hb1 hb2).mono (by simp))⟩
    | exact ⟨ret_bool HK.out.symm, ((Below.refl _ _).alloc (Nat.le_refl _) _).trans (hb1.mono (by simp))⟩
theorem few_any (f : Flt) (A : Option Addr) (c : Nat) (w : World) : Calls Try.prog 14 #[.agg #[.int .i64 f.fly.pos.x.lo, .int .i64 f.fly.pos.x.hi, .int .i64 f.fly.pos.z.lo, .int .i64 f.fly.pos.z.hi, .int .i64 f.fly.speed.x.lo, .int .i64 f.fly.speed.x.hi, .int .i64 f.fly.speed.z.lo, .int .i64 f.fly.speed.z.hi, .int .i64 f.fly.mass, .slice A f.cycle.length c, .int .i64 f.reach, .int .i64 f.soft, .int .i64 f.bears, .int .i64 f.least, .int .i64 f.most]] w fun e w' => e = .returned (.bool (decide (f.cycle.length ≤ 700))) ∧ Below w.heap.size w w' := by
  by_cases h : f.cycle.length ≤ 700
  all_goals
    go_enter Try.func14, Try.ntmps14
    go_wp2
    go_ret
    exact ⟨ret_bool (by simp [h] <;> omega), (Below.refl _ _).alloc (Nat.le_refl _) _⟩
theorem ok_eq {f : Flt} (h : f.cycle.all Bx.tent = true) : f.ok = (f.fly.ok && (decide (1 ≤ f.cycle.length) && (decide (f.cycle.length ≤ 600) && (inB f.reach 0 10000000 && (inB f.soft 1 100 && (inB f.bears 0 100000000 && (inB f.least 0 300 && inB f.most f.least 300))))))) := by
  rw [Bool.eq_iff_iff]
  unfold Flt.ok Flt.cat
  rw [h]
  simp only [Bool.and_eq_true, decide_eq_true_eq, inB_true, true_and]
  refine and_congr_right fun _ => ?_
  omega
theorem ok_bad {f : Flt} (h : f.cycle.all Bx.tent = false) : f.ok = false := by
  unfold Flt.ok Flt.cat
  rw [h]; simp
end Go.Proofs.Ytbagfapalkmikaa

namespace Go.Proofs.Ytbagfapalkmikaa
open Go.RowKit Go.Shelf
set_option maxRecDepth 100000 in
set_option maxHeartbeats 16000000 in
theorem right_any (f : Flt) (A : Option Addr) (c : Nat) (w : World) (hr : RS encB 4 w w.heap.size A f.cycle) (hl : f.cycle.length ≤ 700) :
    Calls Try.prog 22 #[.agg #[.int .i64 f.fly.pos.x.lo, .int .i64 f.fly.pos.x.hi, .int .i64 f.fly.pos.z.lo, .int .i64 f.fly.pos.z.hi, .int .i64 f.fly.speed.x.lo, .int .i64 f.fly.speed.x.hi, .int .i64 f.fly.speed.z.lo, .int .i64 f.fly.speed.z.hi, .int .i64 f.fly.mass, .slice A f.cycle.length c, .int .i64 f.reach, .int .i64 f.soft, .int .i64 f.bears, .int .i64 f.least, .int .i64 f.most]] w fun e w' => e = .returned (.bool f.ok) ∧ Below w.heap.size w w' := by
  have HRF : Hid (∀ W : World, Calls Try.prog 21 #[.agg #[.int .i64 f.fly.pos.x.lo, .int .i64 f.fly.pos.x.hi, .int .i64 f.fly.pos.z.lo, .int .i64 f.fly.pos.z.hi, .int .i64 f.fly.speed.x.lo, .int .i64 f.fly.speed.x.hi, .int .i64 f.fly.speed.z.lo, .int .i64 f.fly.speed.z.hi, .int .i64 f.fly.mass]] W fun e w' => e = .returned (.bool f.fly.ok) ∧ Below W.heap.size W w') := fun W => rightFlyer_any f.fly W
  have kF0 := (Blk.new w 32 #[.int .i64 f.fly.pos.x.lo, .int .i64 f.fly.pos.x.hi, .int .i64 f.fly.pos.z.lo, .int .i64 f.fly.pos.z.hi, .int .i64 f.fly.speed.x.lo, .int .i64 f.fly.speed.x.hi, .int .i64 f.fly.speed.z.lo, .int .i64 f.fly.speed.z.hi, .int .i64 f.fly.mass, .slice A f.cycle.length c, .int .i64 f.reach, .int .i64 f.soft, .int .i64 f.bears, .int .i64 f.least, .int .i64 f.most]).alloc (.cells #[.slice A f.cycle.length c, .int .i64 f.reach, .int .i64 f.soft, .int .i64 f.bears] 30)
  have kC0 := Blk.new (w.alloc (.cells #[.int .i64 f.fly.pos.x.lo, .int .i64 f.fly.pos.x.hi, .int .i64 f.fly.pos.z.lo, .int .i64 f.fly.pos.z.hi, .int .i64 f.fly.speed.x.lo, .int .i64 f.fly.speed.x.hi, .int .i64 f.fly.speed.z.lo, .int .i64 f.fly.speed.z.hi, .int .i64 f.fly.mass, .slice A f.cycle.length c, .int .i64 f.reach, .int .i64 f.soft, .int .i64 f.bears, .int .i64 f.least, .int .i64 f.most] 32)) 30 #[.slice A f.cycle.length c, .int .i64 f.reach, .int .i64 f.soft, .int .i64 f.bears]
  simp only [World.size_alloc] at kC0
  go_enter Try.func22, Try.ntmps22
  go_wp2
  go_loopw [4] (fun i wr => ∃ k : Nat, k ≤ f.cycle.length ∧ i = .int .i64 k ∧ (f.cycle.take k).all Bx.tent = true ∧ Below w.heap.size w wr ∧ Blk wr w.heap.size 32 #[.int .i64 f.fly.pos.x.lo, .int .i64 f.fly.pos.x.hi, .int .i64 f.fly.pos.z.lo, .int .i64 f.fly.pos.z.hi, .int .i64 f.fly.speed.x.lo, .int .i64 f.fly.speed.x.hi, .int .i64 f.fly.speed.z.lo, .int .i64 f.fly.speed.z.hi, .int .i64 f.fly.mass, .slice A f.cycle.length c, .int .i64 f.reach, .int .i64 f.soft, .int .i64 f.bears, .int .i64 f.least, .int .i64 f.most] ∧ Blk wr (w.heap.size + 1) 30 #[.slice A f.cycle.length c, .int .i64 f.reach, .int .i64 f.soft, .int .i64 f.bears]) (fun i _ => f.cycle.length - (intOf i).toNat)
  case atStart => exact ⟨0, Nat.zero_le _, rfl, rfl, ((Below.refl _ _).alloc (Nat.le_refl _) _).alloc (by simp) _, kF0, kC0⟩
  case round =>
    obtain ⟨k, hk, rfl, hall, hB, hKF, hKC⟩ := hrel
    clear kF0 kC0
    have x0 := hKC.cell 0
    have hkl := hKC.lt
    have hfl := hKF.lt
    simp at x0
    by_cases hlt : k < f.cycle.length
    · obtain ⟨b, hb⟩ := getElem?_lt hlt
      obtain ⟨q, off, rfl, hq, hc⟩ := (hr.below hB (Nat.le_refl _)).at_ hb
      have b0 := hc 0 _ rfl
      have b1 := hc 1 _ rfl
      have b2 := hc 2 _ rfl
      have b3 := hc 3 _ rfl
      simp only [Nat.add_zero] at b0
      have hkI : (k : Int) < (f.cycle.length : Int) := by omega
      have HBX : Hid (∀ W : World, Calls Try.prog 58 #[.agg #[.int .i64 b.x.lo, .int .i64 b.x.hi, .int .i64 b.z.lo, .int .i64 b.z.hi], .int .i64 10000000] W fun e w' => e = .returned (.bool b.tent) ∧ Below W.heap.size W w') := fun W => boxed_any b 10000000 W (by omega)
      cases ht : b.tent
      · rw [ht] at HBX
        have HOK : Hid (f.ok = false) := by
          show _ = _
          refine ok_bad ?_
          rw [Bool.eq_false_iff]
          intro hh
          rw [List.all_eq_true] at hh
          have := hh b (List.mem_of_getElem? hb)
          rw [ht] at this; cases this
        have HB := Lib.hid hb
        have HT := Lib.hid ht
        clear hb ht hc hall
        go_wp2_with ((go_at_call 58; (with_reducible refine (HBX.out _).mono ?_); rintro e w1 ⟨rfl, hb1⟩))
        go_ret
        exact ⟨ret_bool HOK.out.symm, hB.trans (hb1.mono hB.size)⟩
      · rw [ht] at HBX
        have hall' : (f.cycle.take (k + 1)).all Bx.tent = true := by rw [take_snoc' hb, List.all_append, hall]; simp [ht]
        have HALL := Lib.hid hall'
        have HB := Lib.hid hb
        have HT := Lib.hid ht
        clear hb ht hc hall hall'
        go_wp2_with ((go_at_call 58; (with_reducible refine (HBX.out _).mono ?_); rintro e w1 ⟨rfl, hb1⟩))
        go_roundw
        case rel => exact ⟨k + 1, by omega, by go_num, HALL.out, hB.trans (hb1.mono hB.size), hKF.below hb1 hfl, hKC.below hb1 hkl⟩
        case measure => simp [intOf]; omega
    · obtain rfl : k = f.cycle.length := by omega
      rw [List.take_length] at hall
      clear hr
      have k0 := hKF.cell 0
      have k1 := hKF.cell 1
      have k2 := hKF.cell 2
      have k3 := hKF.cell 3
      have k4 := hKF.cell 4
      have k5 := hKF.cell 5
      have k6 := hKF.cell 6
      have k7 := hKF.cell 7
      have k8 := hKF.cell 8
      simp at k0 k1 k2 k3 k4 k5 k6 k7 k8
      cases h1 : f.fly.ok
      · have HOK : Hid (f.ok = false) := by show _ = _; rw [ok_eq hall]; simp [h1]
        rw [h1] at HRF
        have H1 := Lib.hid h1
        clear hall h1
        go_wp2_with (first | (go_at_call 21; (with_reducible refine (HRF.out _).mono ?_); rintro e w1 ⟨rfl, hb1⟩; have kF1 := hKF.below hb1 hKF.lt; have kC1 := hKC.below hb1 hKC.lt; have y13 := kF1.cell 13; have y14 := kF1.cell 14; have z0 := kC1.cell 0; have z1 := kC1.cell 1; have z2 := kC1.cell 2; have z3 := kC1.cell 3; simp at y13 y14 z0 z1 z2 z3))
        go_ret
        exact ⟨ret_bool HOK.out.symm, hB.trans (hb1.mono hB.size)⟩
      · by_cases h2 : 1 ≤ f.cycle.length
        · by_cases h3 : f.cycle.length ≤ 600
          · cases h4 : inB f.reach 0 10000000
            · have HOK : Hid (f.ok = false) := by show _ = _; rw [ok_eq hall]; simp [h1, h2, h3, h4]
              have e2 : 1 ≤ (f.cycle.length : Int) := by omega
              have e3 : (f.cycle.length : Int) ≤ 600 := by omega
              have K4 := Lib.hid h4
              rw [h1] at HRF
              have H1 := Lib.hid h1
              clear hall h1 h2 h3 h4
              go_wp2_with (first | (go_at_call 21; (with_reducible refine (HRF.out _).mono ?_); rintro e w1 ⟨rfl, hb1⟩; have kF1 := hKF.below hb1 hKF.lt; have kC1 := hKC.below hb1 hKC.lt; have y13 := kF1.cell 13; have y14 := kF1.cell 14; have z0 := kC1.cell 0; have z1 := kC1.cell 1; have z2 := kC1.cell 2; have z3 := kC1.cell 3; simp at y13 y14 z0 z1 z2 z3) | (go_at_call 20; (with_reducible refine (in_val K4.out _).mono ?_); rintro e w' ⟨rfl, rfl⟩))
              go_ret
              exact ⟨ret_bool HOK.out.symm, hB.trans (hb1.mono hB.size)⟩
            · cases h5 : inB f.soft 1 100
              · have HOK : Hid (f.ok = false) := by show _ = _; rw [ok_eq hall]; simp [h1, h2, h3, h4, h5]
                have e2 : 1 ≤ (f.cycle.length : Int) := by omega
                have e3 : (f.cycle.length : Int) ≤ 600 := by omega
                have K4 := Lib.hid h4
                have K5 := Lib.hid h5
                rw [h1] at HRF
                have H1 := Lib.hid h1
                clear hall h1 h2 h3 h4 h5
                go_wp2_with (first | (go_at_call 21; (with_reducible refine (HRF.out _).mono ?_); rintro e w1 ⟨rfl, hb1⟩; have kF1 := hKF.below hb1 hKF.lt; have kC1 := hKC.below hb1 hKC.lt; have y13 := kF1.cell 13; have y14 := kF1.cell 14; have z0 := kC1.cell 0; have z1 := kC1.cell 1; have z2 := kC1.cell 2; have z3 := kC1.cell 3; simp at y13 y14 z0 z1 z2 z3) | (go_at_call 20; (with_reducible refine (in_val K4.out _).mono ?_); rintro e w' ⟨rfl, rfl⟩) | (go_at_call 20; (with_reducible refine (in_val K5.out _).mono ?_); rintro e w' ⟨rfl, rfl⟩))
                go_ret
                exact ⟨ret_bool HOK.out.symm, hB.trans (hb1.mono hB.size)⟩
              · cases h6 : inB f.bears 0 100000000
                · have HOK : Hid (f.ok = false) := by show _ = _; rw [ok_eq hall]; simp [h1, h2, h3, h4, h5, h6]
                  have e2 : 1 ≤ (f.cycle.length : Int) := by omega
                  have e3 : (f.cycle.length : Int) ≤ 600 := by omega
                  have K4 := Lib.hid h4
                  have K5 := Lib.hid h5
                  have K6 := Lib.hid h6
                  rw [h1] at HRF
                  have H1 := Lib.hid h1
                  clear hall h1 h2 h3 h4 h5 h6
                  go_wp2_with (first | (go_at_call 21; (with_reducible refine (HRF.out _).mono ?_); rintro e w1 ⟨rfl, hb1⟩; have kF1 := hKF.below hb1 hKF.lt; have kC1 := hKC.below hb1 hKC.lt; have y13 := kF1.cell 13; have y14 := kF1.cell 14; have z0 := kC1.cell 0; have z1 := kC1.cell 1; have z2 := kC1.cell 2; have z3 := kC1.cell 3; simp at y13 y14 z0 z1 z2 z3) | (go_at_call 20; (with_reducible refine (in_val K4.out _).mono ?_); rintro e w' ⟨rfl, rfl⟩) | (go_at_call 20; (with_reducible refine (in_val K5.out _).mono ?_); rintro e w' ⟨rfl, rfl⟩) | (go_at_call 20; (with_reducible refine (in_val K6.out _).mono ?_); rintro e w' ⟨rfl, rfl⟩))
                  go_ret
                  exact ⟨ret_bool HOK.out.symm, hB.trans (hb1.mono hB.size)⟩
                · cases h7 : inB f.least 0 300
                  · have HOK : Hid (f.ok = false) := by show _ = _; rw [ok_eq hall]; simp [h1, h2, h3, h4, h5, h6, h7]
                    have e2 : 1 ≤ (f.cycle.length : Int) := by omega
                    have e3 : (f.cycle.length : Int) ≤ 600 := by omega
                    have K4 := Lib.hid h4
                    have K5 := Lib.hid h5
                    have K6 := Lib.hid h6
                    have K7 := Lib.hid h7
                    rw [h1] at HRF
                    have H1 := Lib.hid h1
                    clear hall h1 h2 h3 h4 h5 h6 h7
                    go_wp2_with (first | (go_at_call 21; (with_reducible refine (HRF.out _).mono ?_); rintro e w1 ⟨rfl, hb1⟩; have kF1 := hKF.below hb1 hKF.lt; have kC1 := hKC.below hb1 hKC.lt; have y13 := kF1.cell 13; have y14 := kF1.cell 14; have z0 := kC1.cell 0; have z1 := kC1.cell 1; have z2 := kC1.cell 2; have z3 := kC1.cell 3; simp at y13 y14 z0 z1 z2 z3) | (go_at_call 20; (with_reducible refine (in_val K4.out _).mono ?_); rintro e w' ⟨rfl, rfl⟩) | (go_at_call 20; (with_reducible refine (in_val K5.out _).mono ?_); rintro e w' ⟨rfl, rfl⟩) | (go_at_call 20; (with_reducible refine (in_val K6.out _).mono ?_); rintro e w' ⟨rfl, rfl⟩) | (go_at_call 20; (with_reducible refine (in_val K7.out _).mono ?_); rintro e w' ⟨rfl, rfl⟩))
                    go_ret
                    exact ⟨ret_bool HOK.out.symm, hB.trans (hb1.mono hB.size)⟩
                  · cases h8 : inB f.most f.least 300
                    · have HOK : Hid (f.ok = false) := by show _ = _; rw [ok_eq hall]; simp [h1, h2, h3, h4, h5, h6, h7, h8]
                      have e2 : 1 ≤ (f.cycle.length : Int) := by omega
                      have e3 : (f.cycle.length : Int) ≤ 600 := by omega
                      have K4 := Lib.hid h4
                      have K5 := Lib.hid h5
                      have K6 := Lib.hid h6
                      have K7 := Lib.hid h7
                      have K8 := Lib.hid h8
                      rw [h1] at HRF
                      have H1 := Lib.hid h1
                      clear hall h1 h2 h3 h4 h5 h6 h7 h8
                      go_wp2_with (first | (go_at_call 21; (with_reducible refine (HRF.out _).mono ?_); rintro e w1 ⟨rfl, hb1⟩; have kF1 := hKF.below hb1 hKF.lt; have kC1 := hKC.below hb1 hKC.lt; have y13 := kF1.cell 13; have y14 := kF1.cell 14; have z0 := kC1.cell 0; have z1 := kC1.cell 1; have z2 := kC1.cell 2; have z3 := kC1.cell 3; simp at y13 y14 z0 z1 z2 z3) | (go_at_call 20; (with_reducible refine (in_val K4.out _).mono ?_); rintro e w' ⟨rfl, rfl⟩) | (go_at_call 20; (with_reducible refine (in_val K5.out _).mono ?_); rintro e w' ⟨rfl, rfl⟩) | (go_at_call 20; (with_reducible refine (in_val K6.out _).mono ?_); rintro e w' ⟨rfl, rfl⟩) | (go_at_call 20; (with_reducible refine (in_val K7.out _).mono ?_); rintro e w' ⟨rfl, rfl⟩) | (go_at_call 20; (with_reducible refine (in_val K8.out _).mono ?_); rintro e w' ⟨rfl, rfl⟩))
                      go_ret
                      exact ⟨ret_bool HOK.out.symm, hB.trans (hb1.mono hB.size)⟩
                    · have HOK : Hid (f.ok = true) := by show _ = _; rw [ok_eq hall]; simp [h1, h2, h3, h4, h5, h6, h7, h8]
                      have e2 : 1 ≤ (f.cycle.length : Int) := by omega
                      have e3 : (f.cycle.length : Int) ≤ 600 := by omega
                      have K4 := Lib.hid h4
                      have K5 := Lib.hid h5
                      have K6 := Lib.hid h6
                      have K7 := Lib.hid h7
                      have K8 := Lib.hid h8
                      rw [h1] at HRF
                      have H1 := Lib.hid h1
                      clear hall h1 h2 h3 h4 h5 h6 h7 h8
                      go_wp2_with (first | (go_at_call 21; (with_reducible refine (HRF.out _).mono ?_); rintro e w1 ⟨rfl, hb1⟩; have kF1 := hKF.below hb1 hKF.lt; have kC1 := hKC.below hb1 hKC.lt; have y13 := kF1.cell 13; have y14 := kF1.cell 14; have z0 := kC1.cell 0; have z1 := kC1.cell 1; have z2 := kC1.cell 2; have z3 := kC1.cell 3; simp at y13 y14 z0 z1 z2 z3) | (go_at_call 20; (with_reducible refine (in_val K4.out _).mono ?_); rintro e w' ⟨rfl, rfl⟩) | (go_at_call 20; (with_reducible refine (in_val K5.out _).mono ?_); rintro e w' ⟨rfl, rfl⟩) | (go_at_call 20; (with_reducible refine (in_val K6.out _).mono ?_); rintro e w' ⟨rfl, rfl⟩) | (go_at_call 20; (with_reducible refine (in_val K7.out _).mono ?_); rintro e w' ⟨rfl, rfl⟩) | (go_at_call 20; (with_reducible refine (in_val K8.out _).mono ?_); rintro e w' ⟨rfl, rfl⟩))
                      go_ret
                      exact ⟨ret_bool HOK.out.symm, hB.trans (hb1.mono hB.size)⟩
          · have HOK : Hid (f.ok = false) := by show _ = _; rw [ok_eq hall]; simp [h1, h2, h3]
            have e2 : 1 ≤ (f.cycle.length : Int) := by omega
            have e3 : ¬ (f.cycle.length : Int) ≤ 600 := by omega
            rw [h1] at HRF
            have H1 := Lib.hid h1
            clear hall h1 h2 h3
            go_wp2_with (first | (go_at_call 21; (with_reducible refine (HRF.out _).mono ?_); rintro e w1 ⟨rfl, hb1⟩; have kF1 := hKF.below hb1 hKF.lt; have kC1 := hKC.below hb1 hKC.lt; have y13 := kF1.cell 13; have y14 := kF1.cell 14; have z0 := kC1.cell 0; have z1 := kC1.cell 1; have z2 := kC1.cell 2; have z3 := kC1.cell 3; simp at y13 y14 z0 z1 z2 z3))
            go_ret
            exact ⟨ret_bool HOK.out.symm, hB.trans (hb1.mono hB.size)⟩
        · have HOK : Hid (f.ok = false) := by show _ = _; rw [ok_eq hall]; simp [h1, h2]
          have e2 : ¬ 1 ≤ (f.cycle.length : Int) := by omega
          rw [h1] at HRF
          have H1 := Lib.hid h1
          clear hall h1 h2
          go_wp2_with (first | (go_at_call 21; (with_reducible refine (HRF.out _).mono ?_); rintro e w1 ⟨rfl, hb1⟩; have kF1 := hKF.below hb1 hKF.lt; have kC1 := hKC.below hb1 hKC.lt; have y13 := kF1.cell 13; have y14 := kF1.cell 14; have z0 := kC1.cell 0; have z1 := kC1.cell 1; have z2 := kC1.cell 2; have z3 := kC1.cell 3; simp at y13 y14 z0 z1 z2 z3))
          go_ret
          exact ⟨ret_bool HOK.out.symm, hB.trans (hb1.mono hB.size)⟩
end Go.Proofs.Ytbagfapalkmikaa
