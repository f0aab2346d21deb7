import Derived.Test.YtlfaafhdacmgnaaLawB
namespace Go.Proofs.Ytlfaafhdacmgnaa
open Go.RowKit

theorem isTrue_val {b : Bool} : (b = true) ∨ (b = false) := by cases b <;> simp
set_option maxRecDepth 100000 in
set_option maxHeartbeats 4000000 in
theorem stakes_few (A : Option Addr) (c : Nat) (l : List Tst) (soil depth force : Int) (w : World) (hr : RS encT 4 w w.heap.size A l) (hl : l.length ≤ 45) :
    Calls Try.prog 8 #[.slice A l.length c, .int .i64 soil, .int .i64 depth, .int .i64 force] w fun e w' => e = .returned (.bool true) ∧ Below w.heap.size w w' := by
  have hlm : l.length ≤ maxLen := by unfold maxLen; omega
  have h45 : ¬ 45 < l.length := by omega
  have hl1 : l.length ≤ 1000 := by omega
  obtain ⟨M1, M2⟩ := stakes_math l soil depth force
  obtain ⟨z, hz⟩ : ∃ z, testsFault l = z := ⟨_, rfl⟩
  obtain ⟨ec, hec⟩ : ∃ x, clashE l = x := ⟨_, rfl⟩
  obtain ⟨ci, hci⟩ : ∃ x, (if testsFault l = 0 then fcI l else 0) = x := ⟨_, rfl⟩
  obtain ⟨ck, hck⟩ : ∃ x, (if testsFault l = 0 then fcK l else 0) = x := ⟨_, rfl⟩
  obtain ⟨eh, heh⟩ : ∃ x, holdsE l soil depth = x := ⟨_, rfl⟩
  obtain ⟨ed, hed⟩ : ∃ x, deepE l soil force = x := ⟨_, rfl⟩
  obtain ⟨dv, hdv⟩ : ∃ x, deepV l soil force = x := ⟨_, rfl⟩
  obtain ⟨lo, hlo⟩ : ∃ x, (if eh = 0 then (holdsM l soil depth).1 else 0) = x := ⟨_, rfl⟩
  obtain ⟨hi, hhi⟩ : ∃ x, (if eh = 0 then (holdsM l soil depth).2 else 0) = x := ⟨_, rfl⟩
  have HV : Hid (∀ W, RS encT 4 W W.heap.size A l → Calls Try.prog 49 #[.slice A l.length c] W fun e W' => e = .returned (.int .i64 z) ∧ W = W') := by
    intro W h; rw [← hz]; exact testsFault_any A c l W _ h hlm
  have HC : Hid (∀ W A' c', RS encT 4 W W.heap.size A' l → Calls Try.prog 41 #[.slice A' l.length c'] W fun e W' => e = .returned (.tuple #[.int .i64 ci, .int .i64 ck, .int .i64 ec]) ∧ Below W.heap.size W W') := by
    intro W A' c' h; rw [← hci, ← hck, ← hec]; exact Clash_any A' c' l W h hlm
  have HH : Hid (∀ W A' c', RS encT 4 W W.heap.size A' l → Calls Try.prog 38 #[.slice A' l.length c', .int .i64 soil, .int .i64 depth] W fun e W' => e = .returned (.tuple #[.agg #[.int .i64 lo, .int .i64 hi], .int .i64 eh]) ∧ Below W.heap.size W W') := by
    intro W A' c' h
    exact HoldsAll A' c' l soil depth W h hlm heh (fun h0 => by rw [← hlo, ← hhi, if_pos h0, if_pos h0]) (fun h0 => by rw [← hlo, ← hhi, if_neg h0, if_neg h0]; exact ⟨rfl, rfl⟩)
  have HD : Hid (∀ W A' c', RS encT 4 W W.heap.size A' l → Calls Try.prog 40 #[.slice A' l.length c', .int .i64 soil, .int .i64 force] W fun e W' => e = .returned (.tuple #[.int .i64 dv, .int .i64 ed]) ∧ Below W.heap.size W W') := by
    intro W A' c' h; rw [← hdv, ← hed]; exact Deep_any A' c' l soil force W h hlm
  have HT : Hid (∀ W A' c', RS encT 4 W W.heap.size A' l → Calls Try.prog 48 #[.slice A' l.length c'] W fun e W' => e = .returned (.int .i64 z) ∧ Below W.heap.size W W') := by
    intro W A' c' h; rw [← hz]; exact checkTests_any A' c' l W h hlm
  have Hlo := Lib.hid hlo
  have Hhi := Lib.hid hhi
  rw [hz, hec, heh, hed, hdv] at M1
  rw [hz, hec, heh, hed, hdv] at M2
  have N1 := Lib.hid M1
  have N2 := Lib.hid M2
  have Hci := Lib.hid hci
  have Hck := Lib.hid hck
  have Hz := Lib.hid hz
  have hz3 : z = 0 → ∀ x ∈ l, x.ok = true := fun h => (testsFault_ok (hz.trans h)).1
  have Hz3 := Lib.hid hz3
  clear hlo hhi M1 M2 hci hck hec heh hed hdv hz hz3
  go_enter Try.func8, Try.ntmps8
  go_upto_region 4 with (go_at_call 49; refine (HV.out _ hr).mono ?_; rintro e w' ⟨rfl, rfl⟩)
  go_upto_region 5 with (first | (go_at_call 20; refine (Tests_any A c l _ hr hl1).mono ?_; rintro e w1 ⟨A1, c1, rfl, hs1, _, _, hb1⟩) | (go_at_call 41; refine (HC.out _ A1 c1 hs1).mono ?_; rintro e w2 ⟨rfl, hb2⟩))
  have hX2 := sh_next hb1 hb2
  clear hs1 hb1 hb2
  have hr2 := hr.to hX2
  go_upto_region 6 with (first | (go_at_call 20; refine (Tests_any A c l _ hr2 hl1).mono ?_; rintro e w3 ⟨A3, c3, rfl, hs3, _, _, hb3⟩) | (go_at_call 38; refine (HH.out _ A3 c3 hs3).mono ?_; rintro e w4 ⟨rfl, hb4⟩))
  have hX4 := hX2.trans ((sh_next hb3 hb4).mono hX2.size)
  refine name_world (motive := fun W => Code.wp _ _ _ _ W) _ ?_
  intro W1 hW1
  have hB1 := hW1.below (hX4.alloc hX4.size (.cells #[.int .i64 lo, .int .i64 hi] 76))
  have kR := hW1.blk (Blk.new w4 76 #[.int .i64 lo, .int .i64 hi])
  have hr4 := (hr.below hB1 (Nat.le_refl _)).more hB1.size
  have gR : w.heap.size ≤ w4.heap.size := hX4.size
  clear hW1 hs3 hb3 hb4 hX4 hX2 hr2
  go_upto_region 7 with (first | (go_at_call 20; refine (Tests_any A c l _ hr4 hl1).mono ?_; rintro e w5 ⟨A5, c5, rfl, hs5, _, _, hb5⟩) | (go_at_call 40; refine (HD.out _ A5 c5 hs5).mono ?_; rintro e w6 ⟨rfl, hb6⟩))
  have hX6 := sh_next hb5 hb6
  have hr6 := hr4.to hX6
  go_upto_if 61 with (first | (go_at_call 20; refine (Tests_any A c l _ hr6 hl1).mono ?_; rintro e w7 ⟨A7, c7, rfl, hs7, _, _, hb7⟩) | (go_at_call 48; refine (HT.out _ A7 c7 hs7).mono ?_; rintro e w8 ⟨rfl, hb8⟩))
  have hX8 := hX6.trans ((sh_next hb7 hb8).mono hX6.size)
  refine name_world (motive := fun W => Code.wp _ _ _ _ W) _ ?_
  intro W2 hW2
  have hX9 := hW2.below hX8
  have hB2 := hB1.trans (hX9.mono hB1.size)
  have kR2 := kR.below hX9 kR.lt
  have hr8 := hr4.to hX9
  clear hW2 hs5 hb5 hb6 hX6 hr6 hs7 hb7 hb8 hX8 hr4 hB1 hX9 kR
  go_cut [17, 18, 19, 20, 21] (fun s17 s18 s19 s20 s21 wx => s17 = .int .i64 ec ∧ s18 = .int .i64 eh ∧ s19 = .int .i64 ed ∧ s20 = .int .i64 ci ∧ s21 = .int .i64 ck ∧ Below W2.heap.size W2 wx)
  case first =>
    by_cases h0 : z = 0
    · have e1 : (z == 0) = true := by simpa using h0
      obtain ⟨q1, q2, q3, q4, q5, q6⟩ := N2.out h0
      have hok := Hz3.out h0
      have Hok := Lib.hid hok
      have H1 := Hci.out
      have H2 := Hck.out
      rw [Hz.out, if_pos h0, q2] at H1
      rw [Hz.out, if_pos h0, q3] at H2
      have G1 : Hid (ec = (if fclA l < 0 then 7 else 0)) := q1
      have G2 : Hid ((if fclA l < 0 then 0 else fclA l) = ci) := H1
      have G3 : Hid ((if fclA l < 0 then 0 else fclB l) = ck) := H2
      have G4 : Hid (eh = if (inB soil 0 9 && inB depth 1 3000) = true then agreeE l else 2) := q4
      have G5 : Hid (ed = if (inB soil 0 9 && inB force 0 5000) = true then (if agreeE l = 0 then (if deepM l soil force = 0 then 7 else 0) else agreeE l) else 2) := q5
      clear q1 q2 q3 q4 q5 q6 H1 H2 hok h0
      go_upto_if 72 with (first | (go_at_call 50; refine (refClash_any A c l _ hr8 hlm Hok.out).mono ?_; rintro e x1 ⟨rfl, hg1⟩; have hr9 := hr8.to hg1; have hG1 := hg1) | (have := hG1; go_at_call 31; refine (clashing_any A c l _ hr9 hlm Hok.out).mono ?_; rintro e x2 ⟨rfl, hg2⟩; have hr9 := hr9.to hg2; have hG1 := sh_next hG1 hg2))
      go_cut [17, 20, 21] (fun s17 s20 s21 wx => s17 = .int .i64 ec ∧ s20 = .int .i64 ci ∧ s21 = .int .i64 ck ∧ Below W2.heap.size W2 wx)
      case first =>
        by_cases hf : fclA l < 0
        · have P1 := G1.out
          have P2 := G2.out
          have P3 := G3.out
          rw [if_pos hf] at P1 P2 P3
          have P : Hid (7 = ec ∧ 0 = ci ∧ 0 = ck) := ⟨P1.symm, P2, P3⟩
          clear P1 P2 P3
          go_wp2
          go_meet
          case rel => obtain ⟨p1, p2, p3⟩ := P.out; exact ⟨by rw [← p1], by rw [← p2], by rw [← p3], hG1⟩
        · have P1 := G1.out
          have P2 := G2.out
          have P3 := G3.out
          rw [if_neg hf] at P1 P2 P3
          have P : Hid (0 = ec ∧ fclA l = ci ∧ fclB l = ck) := ⟨P1.symm, P2, P3⟩
          clear P1 P2 P3
          go_wp2
          go_meet
          case rel => obtain ⟨p1, p2, p3⟩ := P.out; exact ⟨by rw [← p1], by rw [← p2], by rw [← p3], hG1⟩
      case rest =>
        obtain ⟨rfl, rfl, rfl, hBy⟩ := hcut
        have hr10 := hr8.to hBy
        clear hg1 hg2 hG1 hr9
        cases h1 : inB soil 0 9 with
        | false =>
          have P4 := G4.out
          have P5 := G5.out
          simp only [h1, Bool.false_and, Bool.false_eq_true, if_false] at P4 P5
          have P : Hid (2 = eh ∧ 2 = ed) := ⟨P4.symm, P5.symm⟩
          have K1 := Lib.hid h1
          clear P4 P5 h1
          go_wp2_with (go_at_call 23; (with_reducible refine (in_val K1.out _).mono ?_); rintro e w' ⟨rfl, rfl⟩)
          go_meet
          case rel => obtain ⟨p4, p5⟩ := P.out; exact ⟨rfl, by rw [← p4], by rw [← p5], rfl, rfl, hBy⟩
        | true =>
          cases h2 : inB depth 1 3000 <;> cases h3 : inB force 0 5000
          all_goals
            have P4 := G4.out
            have P5 := G5.out
            simp only [h1, h2, h3, Bool.and_true, Bool.and_false, Bool.false_eq_true, if_true, if_false] at P4 P5
            have Q4 := Lib.hid P4
            have Q5 := Lib.hid P5
            have K1 := Lib.hid h1
            have K2 := Lib.hid h2
            have K3 := Lib.hid h3
            clear P4 P5 h1 h2 h3
            by_cases hag : agreeE l = 0
          all_goals
            first
              | (have E := (show ed = 2 from Q5.out); have Q6 := Lib.hid E; clear E
                 have HAG := Lib.hid hag
                 clear hag
                 go_wp2_with (first | (go_at_call 23; (with_reducible refine (in_val K1.out _).mono ?_); rintro e w' ⟨rfl, rfl⟩) | (go_at_call 23; (with_reducible refine (in_val K2.out _).mono ?_); rintro e w' ⟨rfl, rfl⟩) | (go_at_call 23; (with_reducible refine (in_val K3.out _).mono ?_); rintro e w' ⟨rfl, rfl⟩))
                 go_meet
                 case rel => exact ⟨rfl, by rw [Q4.out], by rw [Q6.out], rfl, rfl, hBy⟩)
              | (have e2 : (agreeE l == 0) = false := (by simpa using hag)
                 have HAG := Lib.hid hag
                 clear hag
                 go_wp2_with (first | (go_at_call 23; (with_reducible refine (in_val K1.out _).mono ?_); rintro e w' ⟨rfl, rfl⟩) | (go_at_call 23; (with_reducible refine (in_val K2.out _).mono ?_); rintro e w' ⟨rfl, rfl⟩) | (go_at_call 23; (with_reducible refine (in_val K3.out _).mono ?_); rintro e w' ⟨rfl, rfl⟩))
                 go_meet
                 case rel => exact ⟨rfl, by rw [Q4.out], by rw [Q5.out, if_neg HAG.out], rfl, rfl, hBy⟩)
              | (have e2 : (agreeE l == 0) = true := (by simpa using hag)
                 have HAG := Lib.hid hag
                 clear hag
                 by_cases hm : deepM l soil force = 0
                 · have e3 : (deepM l soil force == 0) = true := (by simpa using hm)
                   have HM := Lib.hid hm
                   clear hm
                   go_wp2_with (first | (go_at_call 23; (with_reducible refine (in_val K1.out _).mono ?_); rintro e w' ⟨rfl, rfl⟩) | (go_at_call 23; (with_reducible refine (in_val K2.out _).mono ?_); rintro e w' ⟨rfl, rfl⟩) | (go_at_call 23; (with_reducible refine (in_val K3.out _).mono ?_); rintro e w' ⟨rfl, rfl⟩) | (go_at_call 51; refine (refDeep_any A c l _ soil force hr10 hlm Hok.out).mono ?_; rintro e w11 ⟨rfl, hb11⟩; obtain ⟨hc11, hf11⟩ := bcell hb11))
                   go_meet
                   case rel => exact ⟨rfl, by rw [Q4.out], by rw [Q5.out, if_pos HAG.out, if_pos HM.out], rfl, rfl, sh_next hBy hb11⟩
                 · have e3 : (deepM l soil force == 0) = false := (by simpa using hm)
                   have HM := Lib.hid hm
                   clear hm
                   go_wp2_with (first | (go_at_call 23; (with_reducible refine (in_val K1.out _).mono ?_); rintro e w' ⟨rfl, rfl⟩) | (go_at_call 23; (with_reducible refine (in_val K2.out _).mono ?_); rintro e w' ⟨rfl, rfl⟩) | (go_at_call 23; (with_reducible refine (in_val K3.out _).mono ?_); rintro e w' ⟨rfl, rfl⟩) | (go_at_call 51; refine (refDeep_any A c l _ soil force hr10 hlm Hok.out).mono ?_; rintro e w11 ⟨rfl, hb11⟩; obtain ⟨hc11, hf11⟩ := bcell hb11))
                   go_meet
                   case rel => exact ⟨rfl, by rw [Q4.out], by rw [Q5.out, if_pos HAG.out, if_neg HM.out, HAG.out], rfl, rfl, sh_next hBy hb11⟩)
    · have e1 : (z == 0) = false := by simpa using h0
      obtain ⟨q1, q2, q3, _⟩ := N1.out h0
      have H1 := Hci.out
      have H2 := Hck.out
      rw [Hz.out, if_neg h0] at H1 H2
      have P : Hid (ec = z ∧ eh = z ∧ ed = z ∧ 0 = ci ∧ 0 = ck) := ⟨q1, q2, q3, H1, H2⟩
      clear q1 q2 q3 H1 H2 h0
      go_wp2
      go_meet
      case rel => obtain ⟨p1, p2, p3, p4, p5⟩ := P.out; exact ⟨by rw [p1], by rw [p2], by rw [p3], by rw [← p4], by rw [← p5], Below.refl _ _⟩
  case rest =>
    obtain ⟨rfl, rfl, rfl, rfl, rfl, hBx⟩ := hcut
    have hrx := hr8.to hBx
    have kRx := kR2.below hBx kR2.lt
    have hBt := hB2.trans (hBx.mono hB2.size)
    have r0 := kRx.cell 0
    have r1 := kRx.cell 1
    have rz := kRx.lt
    simp at r0 r1
    have zero_of : ∀ x : Int, (z ≠ 0 → x = z) → x = 0 → z = 0 := fun x h hx => Classical.byContradiction fun hn => hn ((h hn).symm.trans hx)
    have zh : eh = 0 → z = 0 := zero_of eh (fun h => (N1.out h).2.1)
    have zd : ed = 0 → z = 0 := zero_of ed (fun h => (N1.out h).2.2.1)
    have dvd : ed = 0 → dv = deepM l soil force := fun h => by
      have := (N2.out (zd h)).2.2.2.2.2
      rw [if_pos h] at this; exact this
    have dvz : ed ≠ 0 → dv = 0 := fun h => by
      by_cases h0 : z = 0
      · have := (N2.out h0).2.2.2.2.2
        rw [if_neg h] at this; exact this
      · exact (N1.out h0).2.2.2
    have hdep : eh = 0 → 1 ≤ depth ∧ depth ≤ 3000 := fun h => by
      have h4 := (N2.out (zh h)).2.2.2.1
      by_cases hb : (inB soil 0 9 && inB depth 1 3000) = true
      · simp only [Bool.and_eq_true] at hb
        exact inB_true.1 hb.2
      · rw [if_neg hb] at h4; omega
    have ZH := Lib.hid zh
    have ZD := Lib.hid zd
    have DVD := Lib.hid dvd
    have DVZ := Lib.hid dvz
    have HDEP := Lib.hid hdep
    clear zero_of zh zd dvd dvz hdep kRx kR2 hBx
    by_cases h1 : eh = 0
    · have e1 : (eh == 0) = true := by simpa using h1
      have hok := Hz3.out (ZH.out h1)
      have Hok := Lib.hid hok
      obtain ⟨d1, d2⟩ := HDEP.out h1
      have L1 := Hlo.out
      have L2 := Hhi.out
      rw [if_pos h1] at L1 L2
      have e2 : (lo != (holdsM l soil depth).1) = false := by rw [← L1]; simp
      have e3 : (hi != (holdsM l soil depth).2) = false := by rw [← L2]; simp
      have K1 := Lib.hid h1
      clear L1 L2 h1 hok
      by_cases h2 : ed = 0
      · have e4 : (ed == 0) = true := by simpa using h2
        have e4' : (ed != 0) = false := by simpa using h2
        have e5 : (dv == deepM l soil force) = true := by simpa using DVD.out h2
        have K2 := Lib.hid h2
        clear h2
        go_wp2_with (first | ((go_at_call 52; refine (refHolds_any A c l _ soil depth hrx hlm Hok.out d1 d2).mono ?_; rintro e w21 ⟨rfl, hb21⟩; obtain ⟨hc21, hf21⟩ := bcell hb21); have rz21 : w4.heap.size < w21.heap.size := (by have := hb21.size; omega); have hX := hb21.trans ((Below.refl _ w21).alloc (Nat.le_refl _) (.cells #[.int .i64 (holdsM l soil depth).1, .int .i64 (holdsM l soil depth).2] 98) |>.mono hb21.size); have hrz := hrx.to hX) | ((go_at_call 51; refine (refDeep_any A c l _ soil force hrz hlm Hok.out).mono ?_; rintro e w22 ⟨rfl, hb22⟩; obtain ⟨hc22, hf22⟩ := bcell hb22); have hX2 := sh_next hX hb22) | ((go_at_call 16; refine (wakes_any _).mono ?_; rintro e w23 ⟨rfl, hb23⟩; obtain ⟨hc23, hf23⟩ := bcell hb23); have hX3 := sh_next hX2 hb23))
        go_ret
        exact ⟨rfl, hBt.trans (hX3.mono hBt.size)⟩
      · have e4 : (ed == 0) = false := by simpa using h2
        have e4' : (ed != 0) = true := by simpa using h2
        have e5 : (dv == 0) = true := by simpa using DVZ.out h2
        have e5' : (dv != 0) = false := by simpa using DVZ.out h2
        have K2 := Lib.hid h2
        clear h2
        go_wp2_with (first | ((go_at_call 52; refine (refHolds_any A c l _ soil depth hrx hlm Hok.out d1 d2).mono ?_; rintro e w21 ⟨rfl, hb21⟩; obtain ⟨hc21, hf21⟩ := bcell hb21); have rz21 : w4.heap.size < w21.heap.size := (by have := hb21.size; omega); have hX := hb21.trans ((Below.refl _ w21).alloc (Nat.le_refl _) (.cells #[.int .i64 (holdsM l soil depth).1, .int .i64 (holdsM l soil depth).2] 98) |>.mono hb21.size); have hrz := hrx.to hX) | ((go_at_call 16; refine (wakes_any _).mono ?_; rintro e w23 ⟨rfl, hb23⟩; obtain ⟨hc23, hf23⟩ := bcell hb23); have hX3 := sh_next hX hb23))
        go_ret
        exact ⟨rfl, hBt.trans (hX3.mono hBt.size)⟩
    · have e1 : (eh == 0) = false := by simpa using h1
      have e1' : (eh != 0) = true := by simpa using h1
      have L1 := Hlo.out
      have L2 := Hhi.out
      rw [if_neg h1] at L1 L2
      subst L1 L2
      have K1 := Lib.hid h1
      clear h1
      by_cases h2 : ed = 0
      · have e4 : (ed == 0) = true := by simpa using h2
        have e4' : (ed != 0) = false := by simpa using h2
        have e5 : (dv == deepM l soil force) = true := by simpa using DVD.out h2
        have hok := Hz3.out (ZD.out h2)
        have Hok := Lib.hid hok
        have K2 := Lib.hid h2
        clear h2 hok
        go_wp2_with (first | (go_at_call 51; refine (refDeep_any A c l _ soil force hrx hlm Hok.out).mono ?_; rintro e w22 ⟨rfl, hb22⟩; obtain ⟨hc22, hf22⟩ := bcell hb22) | ((go_at_call 16; refine (wakes_any _).mono ?_; rintro e w23 ⟨rfl, hb23⟩; obtain ⟨hc23, hf23⟩ := bcell hb23); have hX3 := sh_next hb22 hb23))
        go_ret
        exact ⟨rfl, hBt.trans (hX3.mono hBt.size)⟩
      · have e4 : (ed == 0) = false := by simpa using h2
        have e4' : (ed != 0) = true := by simpa using h2
        have e5 : (dv == 0) = true := by simpa using DVZ.out h2
        have e5' : (dv != 0) = false := by simpa using DVZ.out h2
        have K2 := Lib.hid h2
        clear h2
        go_wp2_with ((go_at_call 16; refine (wakes_any _).mono ?_; rintro e w23 ⟨rfl, hb23⟩; obtain ⟨hc23, hf23⟩ := bcell hb23))
        go_ret
        exact ⟨rfl, hBt.trans (hb23.mono hBt.size)⟩

set_option maxRecDepth 100000 in
theorem stakes_any (A : Option Addr) (c : Nat) (l : List Tst) (soil depth force : Int) (w : World) (hr : RS encT 4 w w.heap.size A l) (hl : l.length ≤ maxLen) :
    Calls Try.prog 8 #[.slice A l.length c, .int .i64 soil, .int .i64 depth, .int .i64 force] w fun e w' => e = .returned (.bool true) ∧ Below w.heap.size w w' := by
  by_cases h : l.length ≤ 45
  · exact stakes_few A c l soil depth force w hr h
  · have h45 : 45 < l.length := by omega
    unfold maxLen at hl
    clear h
    go_enter Try.func8, Try.ntmps8
    go_wp2_with ((go_at_call 16; refine (wakes_any _).mono ?_; rintro e w23 ⟨rfl, hb23⟩; obtain ⟨hc23, hf23⟩ := bcell hb23))
    go_ret
    exact ⟨rfl, hb23⟩
end Go.Proofs.Ytlfaafhdacmgnaa
