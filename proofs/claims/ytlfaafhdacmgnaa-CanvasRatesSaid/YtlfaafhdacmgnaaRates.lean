/- The law CanvasRates answers true for every list of tests, soil, depth and rate, and leaves what came in as it was. Conditions: none. -/
import Derived.Test.YtlfaafhdacmgnaaFrame
import Derived.Test.YtlfaafhdacmgnaaLawRates
namespace Go.Proofs.Ytlfaafhdacmgnaa
open Go.RowKit

set_option linter.unusedSimpArgs false in
set_option maxRecDepth 100000 in
set_option maxHeartbeats 4000000 in
theorem rates_main (A : Option Addr) (c : Nat) (l : List Tst) (soil depth n d : Int) (w : World) (hr : RS encT 4 w w.heap.size A l) (hlc : l.length ≤ c) (hcm : c ≤ maxLen) (hn : 0 ≤ n ∧ n ≤ 65535) (hd : 0 ≤ d ∧ d ≤ 65535) (hz : testsFault l = 0) (ha : agreeE l = 0) (h1 : inB soil 0 9 = true) (h2 : inB depth 1 3000 = true) :
    Calls Try.prog 10 #[.slice A l.length c, .int .i64 soil, .int .i64 depth, .int .u16 n, .int .u16 d] w fun e w' => e = .returned (.bool true) ∧ Below w.heap.size w w' := by
  have hE := holdsE_zero hz ha h1 h2
  obtain ⟨hok, hl40⟩ := testsFault_ok hz
  obtain ⟨d1, d2⟩ := inB_true.1 h2
  obtain ⟨lo, hlo⟩ : ∃ x, (holdsM l soil depth).1 = x := ⟨_, rfl⟩
  obtain ⟨hi, hhi⟩ : ∃ x, (holdsM l soil depth).2 = x := ⟨_, rfl⟩
  have hlob := holds_lo (soil := soil) hok d1 d2
  have hmin := holds_min (soil := soil) hok (agree_zero ha) d1
  have hrate := rate_in (soil := soil) (a := n) (b := 1 + d) hok d1 (by omega) (by omega)
  rw [hlo, hhi] at hmin hrate
  rw [hlo] at hlob
  have HH : Hid (∀ W A' c', RS encT 4 W W.heap.size A' l → Calls Try.prog 38 #[.slice A' l.length c', .int .i64 soil, .int .i64 depth] W fun e W' => e = .returned (.tuple #[.agg #[.int .i64 lo, .int .i64 hi], .int .i64 0]) ∧ Below W.heap.size W W') := by
    intro W A' c' h
    exact HoldsAll A' c' l soil depth W h (by unfold maxLen; omega) hE (fun _ => by rw [← hlo, ← hhi]) (fun h0 => absurd rfl h0)
  have HLess : Hid (∀ k, l.length = k + 1 → ∃ lo2 hi2, lo2 ≤ lo ∧ hi ≤ hi2 ∧ ∀ W A' c', RS encT 4 W W.heap.size A' (l.take k) → Calls Try.prog 38 #[.slice A' k c', .int .i64 soil, .int .i64 depth] W fun e W' => e = .returned (.tuple #[.agg #[.int .i64 lo2, .int .i64 hi2], .int .i64 0]) ∧ Below W.heap.size W W') := by
    intro k hk
    have hlen : (l.take k).length = k := by rw [List.length_take]; omega
    have hm := holds_less (soil := soil) (d := depth) hk
    rw [hlo, hhi] at hm
    refine ⟨_, _, hm.1, hm.2, fun W A' c' h => ?_⟩
    have := HoldsAll A' c' (l.take k) soil depth W h (by rw [hlen]; unfold maxLen; omega) (holdsE_zero (testsFault_take hz) (agree_take ha) h1 h2) (fun _ => rfl) (fun h0 => absurd rfl h0)
    rw [hlen] at this
    exact this
  have HTest : Hid (∀ W, RS encT 4 W W.heap.size A l → Calls Try.prog 20 #[.slice A l.length c] W (CopyPost encT 4 l W)) := fun W h => Tests_any A c l W h (by omega)
  have HTake : Hid (∀ k, l.length = k + 1 → ∀ W, RS encT 4 W W.heap.size A l → Calls Try.prog 20 #[.slice A k c] W (CopyPost encT 4 (l.take k) W)) := by
    intro k hk W h
    have hlen : (l.take k).length = k := by rw [List.length_take]; omega
    have := Tests_any A c (l.take k) W (h.take k) (by omega)
    rw [hlen] at this
    exact this
  have hmin2 : (if 10000000 < lo then (10000000 : Int) else lo) ≤ hi := by split <;> omega
  have e3 : decide (hi < (if 10000000 < lo then (10000000 : Int) else lo)) = false := decide_eq_false (by omega)
  obtain ⟨hlo0, hlo1⟩ := hlob
  have e4 : decide (lo < 0) = false := decide_eq_false (by omega)
  have e1 : (testsFault l != 0) = false := by simpa using hz
  have e2 : (agreeE l != 0) = false := by simpa using ha
  have K1 := Lib.hid h1
  have K2 := Lib.hid h2
  have Hok := Lib.hid hok
  have Hrate := Lib.hid hrate
  have Hl : Hid (l.length ≤ maxLen) := by show _ ≤ _; unfold maxLen; omega
  have hlm : (l.length : Int) ≤ 40 := by omega
  have hcn := hcm
  have hll := hlc
  clear hcm hlc
  unfold maxLen at hcn
  clear hz ha h1 h2 hE hok hlo hhi hrate
  go_enter Try.func10, Try.ntmps10
  go_upto_region 3 with (first | (go_at_call 49; refine (testsFault_any A c l _ _ hr Hl.out).mono ?_; rintro e w' ⟨rfl, rfl⟩) | ((go_at_call 31; refine (clashing_any A c l _ hr Hl.out Hok.out).mono ?_; rintro e w1 ⟨rfl, hb1⟩; obtain ⟨hc1, hf1⟩ := bcell hb1)) | (go_at_call 23; (with_reducible refine (in_val K1.out _).mono ?_); rintro e w' ⟨rfl, rfl⟩) | (go_at_call 23; (with_reducible refine (in_val K2.out _).mono ?_); rintro e w' ⟨rfl, rfl⟩))
  have hr1 := hr.to hb1
  go_upto_region 4 with (first | (go_at_call 20; refine (HTest.out _ hr1).mono ?_; rintro e w3 ⟨A3, c3, rfl, hs3, _, _, hb3⟩) | (go_at_call 38; refine (HH.out _ A3 c3 hs3).mono ?_; rintro e w4 ⟨rfl, hb4⟩))
  have hX4 := hb1.trans ((sh_next hb3 hb4).mono hb1.size)
  refine name_world (motive := fun W => Code.wp _ _ _ _ W) _ ?_
  intro W1 hW1
  have hB1 := hW1.below (hX4.alloc hX4.size (.cells #[.int .i64 lo, .int .i64 hi] 76))
  have kR := hW1.blk (Blk.new w4 76 #[.int .i64 lo, .int .i64 hi])
  have hr4 := (hr.below hB1 (Nat.le_refl _)).more hB1.size
  have r0 := kR.cell 0
  have r1 := kR.cell 1
  have rz := kR.lt
  simp at r0 r1
  clear hW1 hs3 hb3 hb4 hX4 hr1 hb1 hc1 hf1
  go_cut [61] (fun s wx => s = .bool false ∧ W1 = wx)
  case first =>
    by_cases h7 : 10000000 < lo
    all_goals
      go_wp2_with fail
      go_meet
      case rel => exact ⟨by first | rfl | (simp [*] <;> omega), rfl⟩
  case rest =>
    obtain ⟨rfl, rfl⟩ := hcut
    go_wp2
    go_loopw [15, 16] (fun g i wr => ∃ k : Nat, k ≤ l.length ∧ i = .int .i64 k ∧ g = .bool ((l.take k).all (agreeStep soil n (1 + d))) ∧ Below W1.heap.size W1 wr) (fun _ i _ => l.length - (intOf i).toNat)
    case atStart => exact ⟨0, Nat.zero_le _, rfl, rfl, Below.refl _ _⟩
    case round =>
      obtain ⟨k, hk, rfl, rfl, hB⟩ := hrel
      have hBz := hB.size
      by_cases hlt : k < l.length
      · obtain ⟨x, hx⟩ := getElem?_lt hlt
        obtain ⟨⟨x1, x2⟩, ⟨x3, x4⟩, x5, x6⟩ := Tst.ok_iff.1 (Hok.out x (List.mem_of_getElem? hx))
        obtain ⟨b, off, rfl, hb, hc'⟩ := (hr4.below hB (Nat.le_refl _)).at_ hx
        have c0 := hc' 0 _ rfl
        have c1 := hc' 1 _ rfl
        have c2 := hc' 2 _ rfl
        have c3' := hc' 3 _ rfl
        simp only [Nat.add_zero] at c0
        have m1 := mulb (a := x.force) (b := 1 + d) (p := 5000) (q := 65536) (by omega) (by omega)
        have m2 := mulb (a := n) (b := x.depth) (p := 65535) (q := 3000) (by omega) (by omega)
        have HS : Hid ((l.take (k + 1)).all (agreeStep soil n (1 + d)) = ((l.take k).all (agreeStep soil n (1 + d)) && agreeStep soil n (1 + d) x)) := by
          show _ = _; rw [take_snoc' hx, List.all_append]; simp
        have HA : Hid (agreeStep soil n (1 + d) x = (decide (x.soil ≠ soil) || (decide (x.force * (1 + d) ≤ n * x.depth) == x.held))) := rfl
        clear hx hc' hr hr4 r0 r1
        cases hall : (l.take k).all (agreeStep soil n (1 + d))
        · rw [hall] at HS
          go_wp2
          refine ⟨⟨k + 1, by omega, by go_num, by rw [HS.out]; rfl, hB.alloc hBz _⟩, by simp [intOf]; omega⟩
        · rw [hall] at HS
          by_cases hs : x.soil = soil
          · have e5 : (x.soil != soil) = false := by simpa using hs
            have HSo := Lib.hid hs
            clear hs
            by_cases hle : x.force * (1 + d) ≤ n * x.depth
            all_goals
              cases hh : x.held
              all_goals
                go_wp2
                refine ⟨⟨k + 1, by omega, by go_num, by rw [HS.out, HA.out]; simp [HSo.out, hle, hh], hB.alloc hBz _⟩, by simp [intOf]; omega⟩
          · have e5 : (x.soil != soil) = true := by simpa using hs
            have HSo := Lib.hid hs
            clear hs
            go_wp2
            refine ⟨⟨k + 1, by omega, by go_num, by rw [HS.out, HA.out]; simp [HSo.out], hB.alloc hBz _⟩, by simp [intOf]; omega⟩
      · obtain rfl : k = l.length := by omega
        rw [List.take_of_length_le (Nat.le_refl _)]
        have kRw := kR.below hB kR.lt
        have s0 := kRw.cell 0
        have s1 := kRw.cell 1
        have sz := kRw.lt
        simp at s0 s1
        have hrw := hr4.to hB
        have hBw := hB1.trans (hB.mono hB1.size)
        have mm := mulb (a := n) (b := depth) (p := 65535) (q := 3000) (by omega) (by omega)
        have n1 : IntKind.i64.wrap (n * depth) = n * depth := IntWalk.i64_in _ (by omega)
        have n2 : IntKind.i64.wrap ((n * depth).tdiv (1 + d)) = n * depth / (1 + d) := by
          have h0 : 0 ≤ n * depth := Int.mul_nonneg (by omega) (by omega)
          rw [Int.tdiv_eq_ediv_of_nonneg h0]
          have h1 := Int.ediv_le_self (1 + d) h0
          have h2 := Int.ediv_nonneg h0 (show 0 ≤ 1 + d by omega)
          exact IntWalk.i64_in _ (by omega)
        have n3 : (1 + d == 0) = false := by simp; omega
        have n4 : (1 + d = 0) = False := by simp; omega
        clear hr4 r0 r1 kR hr
        go_upto_region 13 with fail
        cases hall : l.all (agreeStep soil n (1 + d))
        case' false =>
          have hx : True := trivial
          clear hx
          refine wp_region_any (by kernel_rfl) ?_
          change wpAny _ _ _ _ 22 #[false, false, false, false, false, false, false, false, false, false, false, false, false, false, false, false, false, false, false, false, false, false] _ (World.drew _)
          refine wpAny_take (i := 0) (v := _) rfl (by kernel_rfl) (by kernel_rfl) (by kernel_rfl) (fun _ _ _ h => h) (Or.inl ⟨by rfl, by intro w; go_simp; first | done | with_reducible rfl⟩) ?_
          change wpAny _ _ _ _ 21 #[true, false, false, false, false, false, false, false, false, false, false, false, false, false, false, false, false, false, false, false, false, false] _ _
          try simp only [Act.put, List.setIfInBounds_toArray, List.set_cons_zero, List.set_cons_succ, List.getElem_toArray, List.getElem_cons_zero, List.getElem_cons_succ]
          refine wpAny_take (i := 1) (v := _) rfl (by kernel_rfl) (by kernel_rfl) (by kernel_rfl) (fun _ _ _ h => h) (Or.inl ⟨by rfl, by intro w; go_simp; first | done | with_reducible rfl⟩) ?_
          change wpAny _ _ _ _ 20 #[true, true, false, false, false, false, false, false, false, false, false, false, false, false, false, false, false, false, false, false, false, false] _ _
          try simp only [Act.put, List.setIfInBounds_toArray, List.set_cons_zero, List.set_cons_succ, List.getElem_toArray, List.getElem_cons_zero, List.getElem_cons_succ]
          refine wpAny_take (i := 2) (v := undef) rfl (by kernel_rfl) (by kernel_rfl) (by kernel_rfl) (fun _ _ _ h => h) (Or.inr ⟨by rfl, rfl⟩) ?_
          change wpAny _ _ _ _ 19 #[true, true, true, false, false, false, false, false, false, false, false, false, false, false, false, false, false, false, false, false, false, false] _ _
          try simp only [Act.put, List.setIfInBounds_toArray, List.set_cons_zero, List.set_cons_succ, List.getElem_toArray, List.getElem_cons_zero, List.getElem_cons_succ]
          refine wpAny_take (i := 3) (v := undef) rfl (by kernel_rfl) (by kernel_rfl) (by kernel_rfl) (fun _ _ _ h => h) (Or.inr ⟨by rfl, rfl⟩) ?_
          change wpAny _ _ _ _ 18 #[true, true, true, true, false, false, false, false, false, false, false, false, false, false, false, false, false, false, false, false, false, false] _ _
          try simp only [Act.put, List.setIfInBounds_toArray, List.set_cons_zero, List.set_cons_succ, List.getElem_toArray, List.getElem_cons_zero, List.getElem_cons_succ]
          refine wpAny_take (i := 4) (v := undef) rfl (by kernel_rfl) (by kernel_rfl) (by kernel_rfl) (fun _ _ _ h => h) (Or.inr ⟨by rfl, rfl⟩) ?_
          change wpAny _ _ _ _ 17 #[true, true, true, true, true, false, false, false, false, false, false, false, false, false, false, false, false, false, false, false, false, false] _ _
          try simp only [Act.put, List.setIfInBounds_toArray, List.set_cons_zero, List.set_cons_succ, List.getElem_toArray, List.getElem_cons_zero, List.getElem_cons_succ]
          refine wpAny_take (i := 5) (v := undef) rfl (by kernel_rfl) (by kernel_rfl) (by kernel_rfl) (fun _ _ _ h => h) (Or.inr ⟨by rfl, rfl⟩) ?_
          change wpAny _ _ _ _ 16 #[true, true, true, true, true, true, false, false, false, false, false, false, false, false, false, false, false, false, false, false, false, false] _ _
          try simp only [Act.put, List.setIfInBounds_toArray, List.set_cons_zero, List.set_cons_succ, List.getElem_toArray, List.getElem_cons_zero, List.getElem_cons_succ]
          refine wpAny_take (i := 6) (v := undef) rfl (by kernel_rfl) (by kernel_rfl) (by kernel_rfl) (fun _ _ _ h => h) (Or.inr ⟨by rfl, rfl⟩) ?_
          change wpAny _ _ _ _ 15 #[true, true, true, true, true, true, true, false, false, false, false, false, false, false, false, false, false, false, false, false, false, false] _ _
          try simp only [Act.put, List.setIfInBounds_toArray, List.set_cons_zero, List.set_cons_succ, List.getElem_toArray, List.getElem_cons_zero, List.getElem_cons_succ]
          refine wpAny_take (i := 7) (v := undef) rfl (by kernel_rfl) (by kernel_rfl) (by kernel_rfl) (fun _ _ _ h => h) (Or.inr ⟨by rfl, rfl⟩) ?_
          change wpAny _ _ _ _ 14 #[true, true, true, true, true, true, true, true, false, false, false, false, false, false, false, false, false, false, false, false, false, false] _ _
          try simp only [Act.put, List.setIfInBounds_toArray, List.set_cons_zero, List.set_cons_succ, List.getElem_toArray, List.getElem_cons_zero, List.getElem_cons_succ]
          refine wpAny_take (i := 8) (v := undef) rfl (by kernel_rfl) (by kernel_rfl) (by kernel_rfl) (fun _ _ _ h => h) (Or.inr ⟨by rfl, rfl⟩) ?_
          change wpAny _ _ _ _ 13 #[true, true, true, true, true, true, true, true, true, false, false, false, false, false, false, false, false, false, false, false, false, false] _ _
          try simp only [Act.put, List.setIfInBounds_toArray, List.set_cons_zero, List.set_cons_succ, List.getElem_toArray, List.getElem_cons_zero, List.getElem_cons_succ]
          refine wpAny_take (i := 9) (v := undef) rfl (by kernel_rfl) (by kernel_rfl) (by kernel_rfl) (fun _ _ _ h => h) (Or.inr ⟨by rfl, rfl⟩) ?_
          change wpAny _ _ _ _ 12 #[true, true, true, true, true, true, true, true, true, true, false, false, false, false, false, false, false, false, false, false, false, false] _ _
          try simp only [Act.put, List.setIfInBounds_toArray, List.set_cons_zero, List.set_cons_succ, List.getElem_toArray, List.getElem_cons_zero, List.getElem_cons_succ]
          refine wpAny_take (i := 10) (v := undef) rfl (by kernel_rfl) (by kernel_rfl) (by kernel_rfl) (fun _ _ _ h => h) (Or.inr ⟨by rfl, rfl⟩) ?_
          change wpAny _ _ _ _ 11 #[true, true, true, true, true, true, true, true, true, true, true, false, false, false, false, false, false, false, false, false, false, false] _ _
          try simp only [Act.put, List.setIfInBounds_toArray, List.set_cons_zero, List.set_cons_succ, List.getElem_toArray, List.getElem_cons_zero, List.getElem_cons_succ]
          refine wpAny_take (i := 11) (v := undef) rfl (by kernel_rfl) (by kernel_rfl) (by kernel_rfl) (fun _ _ _ h => h) (Or.inr ⟨by rfl, rfl⟩) ?_
          change wpAny _ _ _ _ 10 #[true, true, true, true, true, true, true, true, true, true, true, true, false, false, false, false, false, false, false, false, false, false] _ _
          try simp only [Act.put, List.setIfInBounds_toArray, List.set_cons_zero, List.set_cons_succ, List.getElem_toArray, List.getElem_cons_zero, List.getElem_cons_succ]
          refine wpAny_take (i := 12) (v := undef) rfl (by kernel_rfl) (by kernel_rfl) (by kernel_rfl) (fun _ _ _ h => h) (Or.inr ⟨by rfl, rfl⟩) ?_
          change wpAny _ _ _ _ 9 #[true, true, true, true, true, true, true, true, true, true, true, true, true, false, false, false, false, false, false, false, false, false] _ _
          try simp only [Act.put, List.setIfInBounds_toArray, List.set_cons_zero, List.set_cons_succ, List.getElem_toArray, List.getElem_cons_zero, List.getElem_cons_succ]
          refine wpAny_take (i := 13) (v := undef) rfl (by kernel_rfl) (by kernel_rfl) (by kernel_rfl) (fun _ _ _ h => h) (Or.inr ⟨by rfl, rfl⟩) ?_
          change wpAny _ _ _ _ 8 #[true, true, true, true, true, true, true, true, true, true, true, true, true, true, false, false, false, false, false, false, false, false] _ _
          try simp only [Act.put, List.setIfInBounds_toArray, List.set_cons_zero, List.set_cons_succ, List.getElem_toArray, List.getElem_cons_zero, List.getElem_cons_succ]
          refine wpAny_take (i := 14) (v := undef) rfl (by kernel_rfl) (by kernel_rfl) (by kernel_rfl) (fun _ _ _ h => h) (Or.inr ⟨by rfl, rfl⟩) ?_
          change wpAny _ _ _ _ 7 #[true, true, true, true, true, true, true, true, true, true, true, true, true, true, true, false, false, false, false, false, false, false] _ _
          try simp only [Act.put, List.setIfInBounds_toArray, List.set_cons_zero, List.set_cons_succ, List.getElem_toArray, List.getElem_cons_zero, List.getElem_cons_succ]
          refine wpAny_take (i := 15) (v := undef) rfl (by kernel_rfl) (by kernel_rfl) (by kernel_rfl) (fun _ _ _ h => h) (Or.inr ⟨by rfl, rfl⟩) ?_
          change wpAny _ _ _ _ 6 #[true, true, true, true, true, true, true, true, true, true, true, true, true, true, true, true, false, false, false, false, false, false] _ _
          try simp only [Act.put, List.setIfInBounds_toArray, List.set_cons_zero, List.set_cons_succ, List.getElem_toArray, List.getElem_cons_zero, List.getElem_cons_succ]
          refine wpAny_take (i := 16) (v := undef) rfl (by kernel_rfl) (by kernel_rfl) (by kernel_rfl) (fun _ _ _ h => h) (Or.inr ⟨by rfl, rfl⟩) ?_
          change wpAny _ _ _ _ 5 #[true, true, true, true, true, true, true, true, true, true, true, true, true, true, true, true, true, false, false, false, false, false] _ _
          try simp only [Act.put, List.setIfInBounds_toArray, List.set_cons_zero, List.set_cons_succ, List.getElem_toArray, List.getElem_cons_zero, List.getElem_cons_succ]
          refine wpAny_take (i := 17) (v := undef) rfl (by kernel_rfl) (by kernel_rfl) (by kernel_rfl) (fun _ _ _ h => h) (Or.inr ⟨by rfl, rfl⟩) ?_
          change wpAny _ _ _ _ 4 #[true, true, true, true, true, true, true, true, true, true, true, true, true, true, true, true, true, true, false, false, false, false] _ _
          try simp only [Act.put, List.setIfInBounds_toArray, List.set_cons_zero, List.set_cons_succ, List.getElem_toArray, List.getElem_cons_zero, List.getElem_cons_succ]
          refine wpAny_take (i := 18) (v := undef) rfl (by kernel_rfl) (by kernel_rfl) (by kernel_rfl) (fun _ _ _ h => h) (Or.inr ⟨by rfl, rfl⟩) ?_
          change wpAny _ _ _ _ 3 #[true, true, true, true, true, true, true, true, true, true, true, true, true, true, true, true, true, true, true, false, false, false] _ _
          try simp only [Act.put, List.setIfInBounds_toArray, List.set_cons_zero, List.set_cons_succ, List.getElem_toArray, List.getElem_cons_zero, List.getElem_cons_succ]
          refine wpAny_take (i := 19) (v := undef) rfl (by kernel_rfl) (by kernel_rfl) (by kernel_rfl) (fun _ _ _ h => h) (Or.inr ⟨by rfl, rfl⟩) ?_
          change wpAny _ _ _ _ 2 #[true, true, true, true, true, true, true, true, true, true, true, true, true, true, true, true, true, true, true, true, false, false] _ _
          try simp only [Act.put, List.setIfInBounds_toArray, List.set_cons_zero, List.set_cons_succ, List.getElem_toArray, List.getElem_cons_zero, List.getElem_cons_succ]
          refine wpAny_take (i := 20) (v := undef) rfl (by kernel_rfl) (by kernel_rfl) (by kernel_rfl) (fun _ _ _ h => h) (Or.inr ⟨by rfl, rfl⟩) ?_
          change wpAny _ _ _ _ 1 #[true, true, true, true, true, true, true, true, true, true, true, true, true, true, true, true, true, true, true, true, true, false] _ _
          try simp only [Act.put, List.setIfInBounds_toArray, List.set_cons_zero, List.set_cons_succ, List.getElem_toArray, List.getElem_cons_zero, List.getElem_cons_succ]
          refine wpAny_take (i := 21) (v := _) rfl (by kernel_rfl) (by kernel_rfl) (by kernel_rfl) (fun _ _ _ h => h) (Or.inl ⟨by rfl, by intro w; go_simp; first | done | with_reducible rfl⟩) ?_
          change wpAny _ _ _ _ 0 #[true, true, true, true, true, true, true, true, true, true, true, true, true, true, true, true, true, true, true, true, true, true] _ _
          try simp only [Act.put, List.setIfInBounds_toArray, List.set_cons_zero, List.set_cons_succ, List.getElem_toArray, List.getElem_cons_zero, List.getElem_cons_succ]
          refine wpAny_done (by kernel_rfl) ?_ _
        case' true =>
          obtain ⟨q1, q2⟩ := Hrate.out hall
          have e5 : decide (n * depth / (1 + d) < lo) = false := decide_eq_false (by omega)
          have e6 : decide (hi < (if 10000000 < n * depth / (1 + d) then (10000000 : Int) else n * depth / (1 + d))) = false := decide_eq_false (by split <;> omega)
          by_cases h7 : 10000000 < n * depth / (1 + d)
          case' pos => rw [if_pos h7] at e6
          case' neg => rw [if_neg h7] at e6
          all_goals
            have hx : True := trivial
            clear hx
            refine wp_region_any (by kernel_rfl) ?_
            change wpAny _ _ _ _ 22 #[false, false, false, false, false, false, false, false, false, false, false, false, false, false, false, false, false, false, false, false, false, false] _ (World.drew _)
            refine wpAny_take (i := 0) (v := _) rfl (by kernel_rfl) (by kernel_rfl) (by kernel_rfl) (fun _ _ _ h => h) (Or.inl ⟨by rfl, by intro w; go_simp; first | done | with_reducible rfl⟩) ?_
            change wpAny _ _ _ _ 21 #[true, false, false, false, false, false, false, false, false, false, false, false, false, false, false, false, false, false, false, false, false, false] _ _
            try simp only [Act.put, List.setIfInBounds_toArray, List.set_cons_zero, List.set_cons_succ, List.getElem_toArray, List.getElem_cons_zero, List.getElem_cons_succ]
            refine wpAny_take (i := 1) (v := _) rfl (by kernel_rfl) (by kernel_rfl) (by kernel_rfl) (fun _ _ _ h => h) (Or.inl ⟨by rfl, by intro w; go_simp; first | done | with_reducible rfl⟩) ?_
            change wpAny _ _ _ _ 20 #[true, true, false, false, false, false, false, false, false, false, false, false, false, false, false, false, false, false, false, false, false, false] _ _
            try simp only [Act.put, List.setIfInBounds_toArray, List.set_cons_zero, List.set_cons_succ, List.getElem_toArray, List.getElem_cons_zero, List.getElem_cons_succ]
            refine wpAny_take (i := 2) (v := _) rfl (by kernel_rfl) (by kernel_rfl) (by kernel_rfl) (fun _ _ _ h => h) (Or.inl ⟨by rfl, by intro w; go_simp; first | done | with_reducible rfl⟩) ?_
            change wpAny _ _ _ _ 19 #[true, true, true, false, false, false, false, false, false, false, false, false, false, false, false, false, false, false, false, false, false, false] _ _
            try simp only [Act.put, List.setIfInBounds_toArray, List.set_cons_zero, List.set_cons_succ, List.getElem_toArray, List.getElem_cons_zero, List.getElem_cons_succ]
            refine wpAny_take (i := 3) (v := _) rfl (by kernel_rfl) (by kernel_rfl) (by kernel_rfl) (fun _ _ _ h => h) (Or.inl ⟨by rfl, by intro w; go_simp; first | done | with_reducible rfl⟩) ?_
            change wpAny _ _ _ _ 18 #[true, true, true, true, false, false, false, false, false, false, false, false, false, false, false, false, false, false, false, false, false, false] _ _
            try simp only [Act.put, List.setIfInBounds_toArray, List.set_cons_zero, List.set_cons_succ, List.getElem_toArray, List.getElem_cons_zero, List.getElem_cons_succ]
            refine wpAny_take (i := 4) (v := _) rfl (by kernel_rfl) (by kernel_rfl) (by kernel_rfl) (fun _ _ _ h => h) (Or.inl ⟨by rfl, by intro w; go_simp; first | done | with_reducible rfl⟩) ?_
            change wpAny _ _ _ _ 17 #[true, true, true, true, true, false, false, false, false, false, false, false, false, false, false, false, false, false, false, false, false, false] _ _
            try simp only [Act.put, List.setIfInBounds_toArray, List.set_cons_zero, List.set_cons_succ, List.getElem_toArray, List.getElem_cons_zero, List.getElem_cons_succ]
            refine wpAny_take (i := 5) (v := _) rfl (by kernel_rfl) (by kernel_rfl) (by kernel_rfl) (fun _ _ _ h => h) (Or.inl ⟨by rfl, by intro w; go_simp; first | done | with_reducible rfl⟩) ?_
            change wpAny _ _ _ _ 16 #[true, true, true, true, true, true, false, false, false, false, false, false, false, false, false, false, false, false, false, false, false, false] _ _
            try simp only [Act.put, List.setIfInBounds_toArray, List.set_cons_zero, List.set_cons_succ, List.getElem_toArray, List.getElem_cons_zero, List.getElem_cons_succ]
            refine wpAny_take (i := 6) (v := _) rfl (by kernel_rfl) (by kernel_rfl) (by kernel_rfl) (fun _ _ _ h => h) (Or.inl ⟨by rfl, by intro w; go_simp; first | done | with_reducible rfl⟩) ?_
            change wpAny _ _ _ _ 15 #[true, true, true, true, true, true, true, false, false, false, false, false, false, false, false, false, false, false, false, false, false, false] _ _
            try simp only [Act.put, List.setIfInBounds_toArray, List.set_cons_zero, List.set_cons_succ, List.getElem_toArray, List.getElem_cons_zero, List.getElem_cons_succ]
            refine wpAny_take (i := 7) (v := _) rfl (by kernel_rfl) (by kernel_rfl) (by kernel_rfl) (fun _ _ _ h => h) (Or.inl ⟨by rfl, by intro w; go_simp; first | done | with_reducible rfl⟩) ?_
            change wpAny _ _ _ _ 14 #[true, true, true, true, true, true, true, true, false, false, false, false, false, false, false, false, false, false, false, false, false, false] _ _
            try simp only [Act.put, List.setIfInBounds_toArray, List.set_cons_zero, List.set_cons_succ, List.getElem_toArray, List.getElem_cons_zero, List.getElem_cons_succ]
            refine wpAny_ready (rs := [8]) (by kernel_rfl) (by simp) ?_
            refine AllReady.cons rfl (fun K hK => ?_) AllReady.nil
            go_simp
            refine hK _ _ ?_
            clear hK K
            change wpAny _ _ _ _ 13 #[true, true, true, true, true, true, true, true, true, false, false, false, false, false, false, false, false, false, false, false, false, false] _ _
            try simp only [Act.put, List.setIfInBounds_toArray, List.set_cons_zero, List.set_cons_succ, List.getElem_toArray, List.getElem_cons_zero, List.getElem_cons_succ]
            refine wpAny_take (i := 9) (v := _) rfl (by kernel_rfl) (by kernel_rfl) (by kernel_rfl) (fun _ _ _ h => h) (Or.inl ⟨by rfl, by intro w; go_simp; first | done | with_reducible rfl⟩) ?_
            change wpAny _ _ _ _ 12 #[true, true, true, true, true, true, true, true, true, true, false, false, false, false, false, false, false, false, false, false, false, false] _ _
            try simp only [Act.put, List.setIfInBounds_toArray, List.set_cons_zero, List.set_cons_succ, List.getElem_toArray, List.getElem_cons_zero, List.getElem_cons_succ]
            refine wpAny_take (i := 10) (v := _) rfl (by kernel_rfl) (by kernel_rfl) (by kernel_rfl) (fun _ _ _ h => h) (Or.inl ⟨by rfl, by intro w; go_simp; first | done | with_reducible rfl⟩) ?_
            change wpAny _ _ _ _ 11 #[true, true, true, true, true, true, true, true, true, true, true, false, false, false, false, false, false, false, false, false, false, false] _ _
            try simp only [Act.put, List.setIfInBounds_toArray, List.set_cons_zero, List.set_cons_succ, List.getElem_toArray, List.getElem_cons_zero, List.getElem_cons_succ]
            refine wpAny_take (i := 11) (v := _) rfl (by kernel_rfl) (by kernel_rfl) (by kernel_rfl) (fun _ _ _ h => h) (Or.inl ⟨by rfl, by intro w; go_simp; first | done | with_reducible rfl⟩) ?_
            change wpAny _ _ _ _ 10 #[true, true, true, true, true, true, true, true, true, true, true, true, false, false, false, false, false, false, false, false, false, false] _ _
            try simp only [Act.put, List.setIfInBounds_toArray, List.set_cons_zero, List.set_cons_succ, List.getElem_toArray, List.getElem_cons_zero, List.getElem_cons_succ]
            refine wpAny_take (i := 12) (v := _) rfl (by kernel_rfl) (by kernel_rfl) (by kernel_rfl) (fun _ _ _ h => h) (Or.inl ⟨by rfl, by intro w; go_simp; first | done | with_reducible rfl⟩) ?_
            change wpAny _ _ _ _ 9 #[true, true, true, true, true, true, true, true, true, true, true, true, true, false, false, false, false, false, false, false, false, false] _ _
            try simp only [Act.put, List.setIfInBounds_toArray, List.set_cons_zero, List.set_cons_succ, List.getElem_toArray, List.getElem_cons_zero, List.getElem_cons_succ]
            refine wpAny_take (i := 13) (v := _) rfl (by kernel_rfl) (by kernel_rfl) (by kernel_rfl) (fun _ _ _ h => h) (Or.inl ⟨by rfl, by intro w; go_simp; first | done | with_reducible rfl⟩) ?_
            change wpAny _ _ _ _ 8 #[true, true, true, true, true, true, true, true, true, true, true, true, true, true, false, false, false, false, false, false, false, false] _ _
            try simp only [Act.put, List.setIfInBounds_toArray, List.set_cons_zero, List.set_cons_succ, List.getElem_toArray, List.getElem_cons_zero, List.getElem_cons_succ]
            refine wpAny_take (i := 14) (v := _) rfl (by kernel_rfl) (by kernel_rfl) (by kernel_rfl) (fun _ _ _ h => h) (Or.inl ⟨by rfl, by intro w; go_simp; first | done | with_reducible rfl⟩) ?_
            change wpAny _ _ _ _ 7 #[true, true, true, true, true, true, true, true, true, true, true, true, true, true, true, false, false, false, false, false, false, false] _ _
            try simp only [Act.put, List.setIfInBounds_toArray, List.set_cons_zero, List.set_cons_succ, List.getElem_toArray, List.getElem_cons_zero, List.getElem_cons_succ]
            refine wpAny_take (i := 15) (v := _) rfl (by kernel_rfl) (by kernel_rfl) (by kernel_rfl) (fun _ _ _ h => h) (Or.inl ⟨by rfl, by intro w; go_simp; first | done | with_reducible rfl⟩) ?_
            change wpAny _ _ _ _ 6 #[true, true, true, true, true, true, true, true, true, true, true, true, true, true, true, true, false, false, false, false, false, false] _ _
            try simp only [Act.put, List.setIfInBounds_toArray, List.set_cons_zero, List.set_cons_succ, List.getElem_toArray, List.getElem_cons_zero, List.getElem_cons_succ]
            refine wpAny_take (i := 16) (v := _) rfl (by kernel_rfl) (by kernel_rfl) (by kernel_rfl) (fun _ _ _ h => h) (Or.inl ⟨by rfl, by intro w; go_simp; first | done | with_reducible rfl⟩) ?_
            change wpAny _ _ _ _ 5 #[true, true, true, true, true, true, true, true, true, true, true, true, true, true, true, true, true, false, false, false, false, false] _ _
            try simp only [Act.put, List.setIfInBounds_toArray, List.set_cons_zero, List.set_cons_succ, List.getElem_toArray, List.getElem_cons_zero, List.getElem_cons_succ]
            refine wpAny_take (i := 17) (v := _) rfl (by kernel_rfl) (by kernel_rfl) (by kernel_rfl) (fun _ _ _ h => h) (Or.inl ⟨by rfl, by intro w; go_simp; first | done | with_reducible rfl⟩) ?_
            change wpAny _ _ _ _ 4 #[true, true, true, true, true, true, true, true, true, true, true, true, true, true, true, true, true, true, false, false, false, false] _ _
            try simp only [Act.put, List.setIfInBounds_toArray, List.set_cons_zero, List.set_cons_succ, List.getElem_toArray, List.getElem_cons_zero, List.getElem_cons_succ]
            refine wpAny_ready (rs := [18]) (by kernel_rfl) (by simp) ?_
            refine AllReady.cons rfl (fun K hK => ?_) AllReady.nil
            go_simp
            refine hK _ _ ?_
            clear hK K
            change wpAny _ _ _ _ 3 #[true, true, true, true, true, true, true, true, true, true, true, true, true, true, true, true, true, true, true, false, false, false] _ _
            try simp only [Act.put, List.setIfInBounds_toArray, List.set_cons_zero, List.set_cons_succ, List.getElem_toArray, List.getElem_cons_zero, List.getElem_cons_succ]
            refine wpAny_take (i := 19) (v := _) rfl (by kernel_rfl) (by kernel_rfl) (by kernel_rfl) (fun _ _ _ h => h) (Or.inl ⟨by rfl, by intro w; go_simp; first | done | with_reducible rfl⟩) ?_
            change wpAny _ _ _ _ 2 #[true, true, true, true, true, true, true, true, true, true, true, true, true, true, true, true, true, true, true, true, false, false] _ _
            try simp only [Act.put, List.setIfInBounds_toArray, List.set_cons_zero, List.set_cons_succ, List.getElem_toArray, List.getElem_cons_zero, List.getElem_cons_succ]
            refine wpAny_take (i := 20) (v := _) rfl (by kernel_rfl) (by kernel_rfl) (by kernel_rfl) (fun _ _ _ h => h) (Or.inl ⟨by rfl, by intro w; go_simp; first | done | with_reducible rfl⟩) ?_
            change wpAny _ _ _ _ 1 #[true, true, true, true, true, true, true, true, true, true, true, true, true, true, true, true, true, true, true, true, true, false] _ _
            try simp only [Act.put, List.setIfInBounds_toArray, List.set_cons_zero, List.set_cons_succ, List.getElem_toArray, List.getElem_cons_zero, List.getElem_cons_succ]
            refine wpAny_take (i := 21) (v := _) rfl (by kernel_rfl) (by kernel_rfl) (by kernel_rfl) (fun _ _ _ h => h) (Or.inl ⟨by rfl, by intro w; go_simp; first | done | with_reducible rfl⟩) ?_
            change wpAny _ _ _ _ 0 #[true, true, true, true, true, true, true, true, true, true, true, true, true, true, true, true, true, true, true, true, true, true] _ _
            try simp only [Act.put, List.setIfInBounds_toArray, List.set_cons_zero, List.set_cons_succ, List.getElem_toArray, List.getElem_cons_zero, List.getElem_cons_succ]
            refine wpAny_done (by kernel_rfl) ?_ _
        all_goals
          have hrc : RS encT 4 wr.drew wr.drew.heap.size A l := hrw
          have kRc := kRw.drew
          have t0 := kRc.cell 0
          have t1 := kRc.cell 1
          have tz := kRc.lt
          simp at t0 t1
          have hBt := hBw.drew
          clear s0 s1 kRw hrw n1 n2 n3 n4 mm
          by_cases h0 : l.length = 0
          · have e7 : ((l.length : Int) == 0) = true := by rw [h0]; rfl
            have e8 : (l.length == 0) = true := by rw [h0]; rfl
            have H0 := Lib.hid h0
            clear h0
            go_wp2_with ((go_at_call 16; refine (wakes_any _).mono ?_; rintro e w9 ⟨rfl, hb9⟩; obtain ⟨hc9, hf9⟩ := bcell hb9))
            go_ret
            exact ⟨rfl, hBt.trans (hb9.mono hBt.size)⟩
          · have e7 : ((l.length : Int) == 0) = false := by simp; exact fun h => h0 (by rw [h]; rfl)
            have e8 : (l.length == 0) = false := by simp; exact fun h => h0 (by rw [h]; rfl)
            obtain ⟨m, hm⟩ : ∃ m, l.length = m + 1 := ⟨l.length - 1, by omega⟩
            obtain ⟨lo2, hi2, g1, g2, HH2⟩ := HLess.out m hm
            have HH2' := Lib.hid HH2
            have HT2 := Lib.hid (HTake.out m hm)
            have n5 : IntKind.i64.wrap ((l.length : Int) - 1) = (m : Int) := by rw [hm]; push_cast; rw [show (m : Int) + 1 - 1 = m from by omega]; exact IntWalk.i64_in _ (by omega)
            have hlen : (l.take m).length = m := by rw [List.length_take]; omega
            clear HH2 h0
            go_wp2_with (first | (go_at_call 20; refine (HT2.out _ hrc).mono ?_; rintro e x1 ⟨A5, c5, rfl, hs5, _, _, hb5⟩; have k5 := kRc.below hb5 kRc.lt; have u0 := k5.cell 0; have u1 := k5.cell 1; have tz5 := k5.lt; simp at u0 u1) | (go_at_call 38; refine (HH2'.out _ A5 c5 hs5).mono ?_; rintro e x2 ⟨rfl, hb6⟩; have k6 := k5.below hb6 k5.lt; have u2 := k6.cell 0; have u3 := k6.cell 1; have tz6 := k6.lt; simp at u2 u3) | (go_at_call 16; refine (wakes_any _).mono ?_; rintro e w9 ⟨rfl, hb9⟩; obtain ⟨hc9, hf9⟩ := bcell hb9))
            go_ret
            have hX := hBt.trans (hb5.mono hBt.size)
            have hY := hX.trans (hb6.mono hX.size)
            have hZ := hY.alloc hY.size (.cells #[.int .i64 lo2, .int .i64 hi2] 76)
            exact ⟨rfl, hZ.trans (hb9.mono hZ.size)⟩

theorem rates_any (A : Option Addr) (c : Nat) (l : List Tst) (soil depth n d : Int) (w : World) (hr : RS encT 4 w w.heap.size A l) (hlc : l.length ≤ c) (hcm : c ≤ maxLen) (hn : 0 ≤ n ∧ n ≤ 65535) (hd : 0 ≤ d ∧ d ≤ 65535) :
    Calls Try.prog 10 #[.slice A l.length c, .int .i64 soil, .int .i64 depth, .int .u16 n, .int .u16 d] w fun e w' => e = .returned (.bool true) ∧ Below w.heap.size w w' := by
  by_cases h : testsFault l = 0 ∧ agreeE l = 0 ∧ inB soil 0 9 = true ∧ inB depth 1 3000 = true
  · exact rates_main A c l soil depth n d w hr hlc hcm hn hd h.1 h.2.1 h.2.2.1 h.2.2.2
  · exact rates_not A c l soil depth n d w hr (Nat.le_trans hlc hcm) h
theorem u16_bounds {n : Int} (h : (Lit.int .u16 n).wf = true) : 0 ≤ n ∧ n ≤ 65535 := by
  simpa [Lit.wf, IntKind.min, IntKind.max, IntKind.signed, IntKind.bits] using h
end Go.Proofs.Ytlfaafhdacmgnaa
namespace Go.Proofs.Ytlfaafhdacmgnaa.canvasRates
open Go.RowKit Go.ChangeShapes Go.WideShapes Go.ChangeAt Go.Deep

theorem isLaw : IsLaw Rows.canvasRatesSpec 5 := ⟨rfl, fun H ds hd => by
  match ds, hd with
  | [_, _, _, _, _], _ => exact ⟨rfl, rfl, rfl⟩⟩
set_option maxRecDepth 100000 in
theorem contract (H : Type) (enc : TypeId × Value → H) (W : World) (base : Nat) (args : Array Value) (ds gs : List (DataW H)) (before : List MemPlace)
    (hval : ∀ (j : Nat) t v, Try.f10.params[j]? = some t → args[j]? = some v → Value.okWide Try.prog W .any base t v)
    (hW : DataW.Whole enc Try.prog Try.f10.params.toList Rows.canvasRatesSpec.vars false W args.toList ds gs before) :
    Calls Try.prog 10 args W fun e W' => ∃ v, e = .returned v ∧ Rows.canvasRatesSpec.post enc Try.prog Try.f10 false true false false W args v W' := by
  have hW' := hW
  obtain ⟨p, q, hA0, hV, rfl, hfz, hnd⟩ := hW
  have hA : DataW.TrodAll enc Try.prog W 0 (fun _ => true) true Try.f10.params.toList args.toList ds p := hA0
  rw [Try.params10] at hA hval
  obtain ⟨v0, vs0, d0, ds0, p0, q0, hv0, rfl, rfl, h0, hA1⟩ := trodAll_cons hA
  obtain ⟨v1, vs1, d1, ds1, p1, q1, rfl, rfl, rfl, h1, hA2⟩ := trodAll_cons hA1
  obtain ⟨v2, vs2, d2, ds2, p2, q2, rfl, rfl, rfl, h2, hA3⟩ := trodAll_cons hA2
  obtain ⟨v3, vs3, d3, ds3, p3, q3, rfl, rfl, rfl, h3, hA4⟩ := trodAll_cons hA3
  obtain ⟨v4, vs4, d4, ds4, p4, q4, rfl, rfl, rfl, h4, hA5⟩ := trodAll_cons hA4
  obtain ⟨rfl, rfl, rfl⟩ := trodAll_nil hA5
  obtain rfl : args = #[v0, v1, v2, v3, v4] := by cases args; simp_all
  obtain ⟨A, c, l, rfl, hr, hl, hc⟩ := open_rows (sz := 4) encT (by decide) (fun _ => rfl) Try.underlying22 cellsRT (hval 0 _ v0 rfl rfl) h0 (fun n cs x h => dec_test n cs x h)
  obtain ⟨soil, rfl, rfl, rfl, _⟩ := open_int Try.underlying3 (hval 1 _ v1 rfl rfl) h1
  obtain ⟨depth, rfl, rfl, rfl, _⟩ := open_int Try.underlying3 (hval 2 _ v2 rfl rfl) h2
  obtain ⟨n, rfl, rfl, rfl, hn⟩ := open_int Try.underlying58 (hval 3 _ v3 rfl rfl) h3
  obtain ⟨d, rfl, rfl, rfl, hd⟩ := open_int Try.underlying58 (hval 4 _ v4 rfl rfl) h4
  refine (rates_any A c l soil depth n d W hr hl hc (u16_bounds hn) (u16_bounds hd)).mono fun e W' ⟨he, hb⟩ => ?_
  subst he
  exact ⟨_, rfl, law_post isLaw rfl (by kernel_rfl) (by kernel_rfl) hW' hb⟩

set_option maxRecDepth 100000 in
theorem lifted (os : Os) (started : os.Started) (H : Type) (enc : TypeId × Value → H) :
    ReturnsInHanded {} Try.checked os 10 .any (Rows.canvasRatesSpec.pre6 enc Try.prog Try.f10 Rows.canvasRatesRow.domain false) (Rows.canvasRatesSpec.post enc Try.prog Try.f10 false true false false) := by
  refine returnsInHanded_of_change (C := Try.checked) own started (by kernel_rfl) Try.func10
    (ChangeSpec.witness6 (enc := enc) (C := Try.checked) false ⟨#[], #[.slice none 0 0, .int .i64 0, .int .i64 0, .int .u16 0, .int .u16 0], []⟩ 8 (by kernel_rfl) (by kernel_rfl) (by kernel_rfl) (by kernel_rfl)) ?_
  intro W base args ds gs before hval hW _ _
  exact contract H enc W base args ds gs before hval hW

theorem proved : Rows.CanvasRatesSaid :=
  OpenClaim.holds_of_wide 10 Try.f10 rfl rfl rfl rfl rfl rfl rfl ⟨rfl, rfl, rfl, rfl, rfl⟩ rfl rfl rfl rfl rfl (by kernel_rfl) Try.func10 (by kernel_rfl)
    (of_decide_eq_true (by kernel_rfl)) (by unfold Func.isWrapper; first | (rw [if_pos (by decide +kernel)]; kernel_rfl) | (rw [if_neg (by decide +kernel)]; exact ⟨rfl, rfl⟩))
    (fun os started H enc _ => lifted os started H enc)
end Go.Proofs.Ytlfaafhdacmgnaa.canvasRates
