import Derived.Test.YtbagfapalkmikaaRefG

/- The law's copies of boxes and flyers. -/
namespace Go.Proofs.Ytbagfapalkmikaa
open Go.RowKit Go.Shelf
set_option maxHeartbeats 2000000 in
theorem lawBox_any (b : Bx) (w : World) : Calls Try.prog 24 #[.agg #[.int .i64 b.x.lo, .int .i64 b.x.hi, .int .i64 b.z.lo, .int .i64 b.z.hi]] w fun e w' => e = .returned (.agg #[.int .i64 b.x.lo, .int .i64 b.x.hi, .int .i64 b.z.lo, .int .i64 b.z.hi]) ∧ Below w.heap.size w w' := by
  have hK0 := Blk.new (w.alloc (.cells #[.int .i64 b.x.lo, .int .i64 b.x.hi, .int .i64 b.z.lo, .int .i64 b.z.hi] 25)) 37 #[.int .i64 0, .int .i64 0, .int .i64 0, .int .i64 0]
  simp only [World.size_alloc] at hK0
  go_enter Try.func24, Try.ntmps24
  go_wp2
  refine name_world (motive := fun W => Code.wp _ _ _ _ W) _ ?_
  intro W0 hW
  have hWc := hW.cell
  have hWz := hW.size
  have hWb := hW.below (((Below.refl w.heap.size w).alloc (Nat.le_refl _) _).alloc (by simp) _)
  have kR := hW.blk hK0
  simp only [World.size_alloc] at hWz
  have hlt : w.heap.size < W0.heap.size := by omega
  have hle : w.heap.size ≤ W0.heap.size := by omega
  have hne0 : ¬ w.heap.size = w.heap.size + 1 := by omega
  clear hWz
  have tok1 : True := trivial
  go_region_held3 (fun w' => (∀ b o, b < W0.heap.size → b ≠ w.heap.size + 1 → w'.cell? ⟨b, o, none⟩ = W0.cell? ⟨b, o, none⟩) ∧ W0.grownBy w' (some (w.heap.size + 1))) (first | with_reducible exact gr_first _ _ | (with_reducible refine gr_cells ?_; with_reducible assumption) | (refine gr_cells ?_; repeat' (first | with_reducible assumption | with_reducible exact gr_refl _ _ | with_reducible refine gr_drew ?_ | with_reducible refine gr_alloc ?_ _ | with_reducible refine gr_set ?_ _ _)))
    (first | (go_at_call 33; have := tok1; clear this tok1; go_split_ands; have hG1 : W0.grownBy _ (some (w.heap.size + 1)) := (by with_reducible assumption); (with_reducible refine (lawRange_any b.x.lo b.x.hi _).mono ?_); rintro e w1 ⟨rfl, hb1⟩; have hF1 := gr_call hG1 hb1; obtain ⟨hc1, hf1⟩ := bcell hb1; have hy1 := hb1.size; have hz1 := hF1.size; have kR1 := Blk.below (Blk.drew kR) hb1 (Blk.lt (Blk.drew kR))) | (go_at_call 33; go_split_ands; have hG2 : W0.grownBy _ (some (w.heap.size + 1)) := (by with_reducible assumption); (with_reducible refine (lawRange_any b.z.lo b.z.hi _).mono ?_); rintro e w2 ⟨rfl, hb2⟩; have hF2 := gr_call hG2 hb2; obtain ⟨hc2, hf2⟩ := bcell hb2; have hy2 := hb2.size; have hz2 := hF2.size; have kR2 := Blk.below kR1 hb2 (Blk.lt kR1); have ckR2_0 := kR2.cell 0; have fkR2_0 := kR2.frozen 0; have ckR2_1 := kR2.cell 1; have fkR2_1 := kR2.frozen 1; have ckR2_2 := kR2.cell 2; have fkR2_2 := kR2.frozen 2; have ckR2_3 := kR2.cell 3; have fkR2_3 := kR2.frozen 3; have lkR2 := kR2.lt; simp at ckR2_0 ckR2_1 ckR2_2 ckR2_3))
  all_goals go_wp2
  rename_i hh
  have kF := ((((kR2.set_ 0 (.int .i64 b.x.lo)).set_ 1 (.int .i64 b.x.hi)).set_ 2 (.int .i64 b.z.lo)).set_ 3 (.int .i64 b.z.hi))
  have r0 := kF.cell 0
  have r1 := kF.cell 1
  have r2 := kF.cell 2
  have r3 := kF.cell 3
  simp at r0 r1 r2 r3
  refine bodyPost_ret (v := .agg #[.int .i64 b.x.lo, .int .i64 b.x.hi, .int .i64 b.z.lo, .int .i64 b.z.hi]) (by simp [results, Try.results24, go_sem, r0, r1, r2, r3]) rfl ⟨rfl, ?_⟩
  exact gr_below hh.2 hWb hle (by omega)
set_option maxHeartbeats 4000000 in
theorem lawFlyer_any (f : Fly) (w : World) : Calls Try.prog 17 #[.agg #[.int .i64 f.pos.x.lo, .int .i64 f.pos.x.hi, .int .i64 f.pos.z.lo, .int .i64 f.pos.z.hi, .int .i64 f.speed.x.lo, .int .i64 f.speed.x.hi, .int .i64 f.speed.z.lo, .int .i64 f.speed.z.hi, .int .i64 f.mass]] w fun e w' => e = .returned (.agg #[.int .i64 f.pos.x.lo, .int .i64 f.pos.x.hi, .int .i64 f.pos.z.lo, .int .i64 f.pos.z.hi, .int .i64 f.speed.x.lo, .int .i64 f.speed.x.hi, .int .i64 f.speed.z.lo, .int .i64 f.speed.z.hi, .int .i64 f.mass]) ∧ Below w.heap.size w w' := by
  have hK0 := Blk.new (w.alloc (.cells #[.int .i64 f.pos.x.lo, .int .i64 f.pos.x.hi, .int .i64 f.pos.z.lo, .int .i64 f.pos.z.hi, .int .i64 f.speed.x.lo, .int .i64 f.speed.x.hi, .int .i64 f.speed.z.lo, .int .i64 f.speed.z.hi, .int .i64 f.mass] 27)) 42 #[.int .i64 0, .int .i64 0, .int .i64 0, .int .i64 0, .int .i64 0, .int .i64 0, .int .i64 0, .int .i64 0, .int .i64 0]
  simp only [World.size_alloc] at hK0
  go_enter Try.func17, Try.ntmps17
  go_wp2
  refine name_world (motive := fun W => Code.wp _ _ _ _ W) _ ?_
  intro W0 hW
  have hWc := hW.cell
  have hWz := hW.size
  have hWb := hW.below (((Below.refl w.heap.size w).alloc (Nat.le_refl _) _).alloc (by simp) _)
  have kR := hW.blk hK0
  simp only [World.size_alloc] at hWz
  have hlt : w.heap.size < W0.heap.size := by omega
  have hle : w.heap.size ≤ W0.heap.size := by omega
  have hne0 : ¬ w.heap.size = w.heap.size + 1 := by omega
  clear hWz
  have tok1 : True := trivial
  go_region_held3 (fun w' => (∀ b o, b < W0.heap.size → b ≠ w.heap.size + 1 → w'.cell? ⟨b, o, none⟩ = W0.cell? ⟨b, o, none⟩) ∧ W0.grownBy w' (some (w.heap.size + 1))) (first | with_reducible exact gr_first _ _ | (with_reducible refine gr_cells ?_; with_reducible assumption) | (refine gr_cells ?_; repeat' (first | with_reducible assumption | with_reducible exact gr_refl _ _ | with_reducible refine gr_drew ?_ | with_reducible refine gr_alloc ?_ _ | with_reducible refine gr_set ?_ _ _)))
    (first | (go_at_call 24; have := tok1; clear this tok1; go_split_ands; have hG1 : W0.grownBy _ (some (w.heap.size + 1)) := (by with_reducible assumption); (with_reducible refine (lawBox_any f.pos _).mono ?_); rintro e w1 ⟨rfl, hb1⟩; have hF1 := gr_call hG1 hb1; obtain ⟨hc1, hf1⟩ := bcell hb1; have hy1 := hb1.size; have hz1 := hF1.size; have kR1 := Blk.below (Blk.drew kR) hb1 (Blk.lt (Blk.drew kR))) | (go_at_call 24; go_split_ands; have hG2 : W0.grownBy _ (some (w.heap.size + 1)) := (by with_reducible assumption); (with_reducible refine (lawBox_any f.speed _).mono ?_); rintro e w2 ⟨rfl, hb2⟩; have hF2 := gr_call hG2 hb2; obtain ⟨hc2, hf2⟩ := bcell hb2; have hy2 := hb2.size; have hz2 := hF2.size; have kR2 := Blk.below kR1 hb2 (Blk.lt kR1); have ckR2_0 := kR2.cell 0; have fkR2_0 := kR2.frozen 0; have ckR2_1 := kR2.cell 1; have fkR2_1 := kR2.frozen 1; have ckR2_2 := kR2.cell 2; have fkR2_2 := kR2.frozen 2; have ckR2_3 := kR2.cell 3; have fkR2_3 := kR2.frozen 3; have ckR2_4 := kR2.cell 4; have fkR2_4 := kR2.frozen 4; have ckR2_5 := kR2.cell 5; have fkR2_5 := kR2.frozen 5; have ckR2_6 := kR2.cell 6; have fkR2_6 := kR2.frozen 6; have ckR2_7 := kR2.cell 7; have fkR2_7 := kR2.frozen 7; have ckR2_8 := kR2.cell 8; have fkR2_8 := kR2.frozen 8; have lkR2 := kR2.lt; simp at ckR2_0 ckR2_1 ckR2_2 ckR2_3 ckR2_4 ckR2_5 ckR2_6 ckR2_7 ckR2_8))
  all_goals go_wp2
  rename_i hh
  have kF := (((((((((kR2.set_ 0 (.int .i64 f.pos.x.lo)).set_ 1 (.int .i64 f.pos.x.hi)).set_ 2 (.int .i64 f.pos.z.lo)).set_ 3 (.int .i64 f.pos.z.hi)).set_ 4 (.int .i64 f.speed.x.lo)).set_ 5 (.int .i64 f.speed.x.hi)).set_ 6 (.int .i64 f.speed.z.lo)).set_ 7 (.int .i64 f.speed.z.hi)).set_ 8 (.int .i64 f.mass))
  have r0 := kF.cell 0
  have r1 := kF.cell 1
  have r2 := kF.cell 2
  have r3 := kF.cell 3
  have r4 := kF.cell 4
  have r5 := kF.cell 5
  have r6 := kF.cell 6
  have r7 := kF.cell 7
  have r8 := kF.cell 8
  simp at r0 r1 r2 r3 r4 r5 r6 r7 r8
  refine bodyPost_ret (v := .agg #[.int .i64 f.pos.x.lo, .int .i64 f.pos.x.hi, .int .i64 f.pos.z.lo, .int .i64 f.pos.z.hi, .int .i64 f.speed.x.lo, .int .i64 f.speed.x.hi, .int .i64 f.speed.z.lo, .int .i64 f.speed.z.hi, .int .i64 f.mass]) (by simp [results, Try.results17, go_sem, r0, r1, r2, r3, r4, r5, r6, r7, r8]) rfl ⟨rfl, ?_⟩
  exact gr_below hh.2 hWb hle (by omega)
end Go.Proofs.Ytbagfapalkmikaa
