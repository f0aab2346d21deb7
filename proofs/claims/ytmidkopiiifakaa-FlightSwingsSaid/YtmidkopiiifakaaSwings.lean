import Derived.Test.YtmidkopiiifakaaRefFl

/- The law of swings. -/
namespace Go.Proofs.Ytmidkopiiifakaa
open Go.RowKit Go.Shelf
theorem eqR_same (a b : Int) (w : World) : (binOp .eql 24 (.agg #[.int .i64 a, .int .i64 b]) (.agg #[.int .i64 a, .int .i64 b])).run Try.prog w = .ok (.bool true) w := by
  rw [eqR]; simp
set_option maxRecDepth 100000 in
set_option maxHeartbeats 4000000 in
theorem swings_any (l wd : Int) (w : World) : Calls Try.prog 4 #[.int .i64 l, .int .i64 wd] w fun e w' => e = .returned (.bool true) ∧ Below w.heap.size w w' := by
  cases h1 : inB l 1 20000 <;> cases h2 : inB wd 0 100
  case true.true =>
    obtain ⟨l1, l2⟩ := inB_true.1 h1
    obtain ⟨w1, w2⟩ := inB_true.1 h2
    obtain ⟨a, ha⟩ : ∃ a, (swing l wd).lo = a := ⟨_, rfl⟩
    obtain ⟨b, hb⟩ : ∃ b, (swing l wd).hi = b := ⟨_, rfl⟩
    have S1 : Hid (∀ W : World, Calls Try.prog 15 #[.int .i64 l, .int .i64 wd] W fun e w' => e = .returned (.tuple #[.agg #[.int .i64 a, .int .i64 b], .int .i64 0]) ∧ Below W.heap.size W w') := fun W => by
      have := Swing_ok l wd W ⟨l1, l2⟩ ⟨w1, w2⟩
      rw [ha, hb] at this
      exact this
    have S2 : Hid (∀ W : World, Calls Try.prog 19 #[.int .i64 l, .int .i64 wd] W fun e w' => e = .returned (.agg #[.int .i64 a, .int .i64 b]) ∧ Below W.heap.size W w') := fun W => by
      have := refSwing_any l wd W ⟨l1, l2⟩ ⟨w1, w2⟩
      rw [ha, hb] at this
      exact this
    have K1 := Lib.hid h1
    have K2 := Lib.hid h2
    have eR := eqR_same a b
    clear ha hb h1 h2
    go_enter Try.func4, Try.ntmps4
    go_upto_region 2 with ((go_at_call 15; refine (S1.out _).mono ?_; rintro e w1 ⟨rfl, hb1⟩))
    refine name_world (motive := fun W => Code.wp _ _ _ _ W) _ ?_
    intro W1 hW1
    have hX1 := hW1.below (hb1.alloc hb1.size (.cells #[.int .i64 a, .int .i64 b] 24))
    have kR := hW1.blk (Blk.new w1 24 #[.int .i64 a, .int .i64 b])
    clear hW1 hb1
    have r0 := kR.cell 0
    have r1 := kR.cell 1
    have hz1 := kR.lt
    simp at r0 r1
    go_upto_region 4 with (first | (go_at_call 17; (with_reducible refine (in_val K1.out _).mono ?_); rintro e w' ⟨rfl, rfl⟩) | (go_at_call 17; (with_reducible refine (in_val K2.out _).mono ?_); rintro e w' ⟨rfl, rfl⟩))
    refine name_world (motive := fun W => Code.wp _ _ _ _ W) _ ?_
    intro W0 hW
    have hWc := hW.cell
    have hWz := hW.size
    have hWb := hW.below (hX1)
    (first | (go_region_held3 (fun w' => (∀ b o, b < W0.heap.size → w'.cell? ⟨b, o, none⟩ = W0.cell? ⟨b, o, none⟩) ∧ Below W0.heap.size W0 w') (first | with_reducible exact sh_refl _ | (with_reducible refine sh_of ?_; with_reducible assumption) | (with_reducible refine sh_alloc ?_ _; with_reducible assumption) | with_reducible exact sh_first _ _) (first | (go_at_call 19; go_split_ands; have hS1 : Below W0.heap.size W0 _ := (by with_reducible assumption); refine (S2.out _).mono ?_; rintro e w1 ⟨rfl, hb1⟩; have hB1 := sh_next hS1 hb1) | (go_at_call 18; go_split_ands; have hS2 : Below W0.heap.size W0 _ := (by with_reducible assumption); refine (lawRange_any a b _).mono ?_; rintro e w2 ⟨rfl, hb2⟩; have hB2 := sh_next hS2 hb2) | (go_at_call 16; go_split_ands; have hS3 : Below W0.heap.size W0 _ := (by with_reducible assumption); refine (wakes_any _).mono ?_; rintro e w3 ⟨rfl, hb3⟩; have hB3 := sh_next hS3 hb3))) | fail)
    all_goals go_wp2
    all_goals go_ret
    all_goals exact ⟨rfl, hWb.trans (hB3.mono hWb.size)⟩
  all_goals
    have S1 : Hid (∀ W : World, Calls Try.prog 15 #[.int .i64 l, .int .i64 wd] W fun e w' => e = .returned (.tuple #[.agg #[.int .i64 0, .int .i64 0], .int .i64 2]) ∧ Below W.heap.size W w') := fun W => Swing_bad l wd W (by rw [h1, h2]; rfl)
    have K1 := Lib.hid h1
    have K2 := Lib.hid h2
    have eR := eqR_same 0 0
    clear h1 h2
    go_enter Try.func4, Try.ntmps4
    go_upto_region 2 with ((go_at_call 15; refine (S1.out _).mono ?_; rintro e w1 ⟨rfl, hb1⟩))
    refine name_world (motive := fun W => Code.wp _ _ _ _ W) _ ?_
    intro W1 hW1
    have hX1 := hW1.below (hb1.alloc hb1.size (.cells #[.int .i64 0, .int .i64 0] 24))
    have kR := hW1.blk (Blk.new w1 24 #[.int .i64 0, .int .i64 0])
    clear hW1 hb1
    have r0 := kR.cell 0
    have r1 := kR.cell 1
    have hz1 := kR.lt
    simp at r0 r1
    go_wp2_with (first | (go_at_call 17; (with_reducible refine (in_val K1.out _).mono ?_); rintro e w' ⟨rfl, rfl⟩) | (go_at_call 17; (with_reducible refine (in_val K2.out _).mono ?_); rintro e w' ⟨rfl, rfl⟩) | (go_at_call 16; refine (wakes_any _).mono ?_; rintro e w4 ⟨rfl, hb4⟩))
    go_ret
    exact ⟨rfl, hX1.trans (hb4.mono hX1.size)⟩
end Go.Proofs.Ytmidkopiiifakaa
