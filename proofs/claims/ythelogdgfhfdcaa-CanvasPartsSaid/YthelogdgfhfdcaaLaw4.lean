import Derived.Test.YthelogdgfhfdcaaLaw3
namespace Go.Proofs.Ythelogdgfhfdcaa
open Go.RowKit

set_option maxRecDepth 100000 in
set_option maxHeartbeats 2000000 in
theorem wakes_any (w : World) : Calls Try.prog 14 #[] w fun e w' => e = .returned (.bool true) ∧ Below w.heap.size w w' := by
  go_enter Try.func14, Try.ntmps14
  go_upto_region 2 with (first | (go_at_call 53; refine (soil_rs _).mono ?_; rintro e w1 ⟨A1, rfl, hs1, hb1⟩) | (go_at_call 18; refine (wk_Holds A1 2 _ hs1).mono ?_; rintro e w2 ⟨rfl, hb2⟩))
  have hB2 := sh_next hb1 hb2
  refine name_world (motive := fun W => Code.wp _ _ _ _ W) _ ?_
  intro W1 hW1
  have hX1 := hW1.below (hB2.alloc hB2.size (.cells #[.int .i64 560, .int .i64 839] 31))
  have kR := hW1.blk (Blk.new w2 31 #[.int .i64 560, .int .i64 839])
  have hz2 := hB2.size
  clear hW1 hs1 hb1 hb2 hB2
  go_upto_region 3 with (first | (go_at_call 53; refine (soil_rs _).mono ?_; rintro e w3 ⟨A3, rfl, hs3, hb3⟩) | (go_at_call 54; refine (four_any _).mono ?_; rintro e w4 ⟨A4, rfl, ht4, hb4⟩) | (go_at_call 29; refine (wk_Parts A3 2 A4 1 _ (hs3.to hb4) ht4).mono ?_; rintro e w5 ⟨A5, c5, rfl, hp5, hc5, hd5, hb5⟩))
  have hX5 := sh_next (sh_next hb3 hb4) hb5
  have kR5 := kR.below hX5 kR.lt
  have hW5 := hX1.trans (hX5.mono hX1.size)
  clear hs3 hb3 ht4 hb4 hb5 hX5 kR hX1
  go_upto_region 4 with (first | (go_at_call 53; refine (soil_rs _).mono ?_; rintro e w6 ⟨A6, rfl, hs6, hb6⟩) | (go_at_call 54; refine (four_any _).mono ?_; rintro e w7 ⟨A7, rfl, ht7, hb7⟩) | (go_at_call 51; refine (wk_Reach A6 2 A7 1 _ (hs6.to hb7) ht7).mono ?_; rintro e w8 ⟨rfl, hb8⟩))
  have hX8 := sh_next (sh_next hb6 hb7) hb8
  have kR8 := kR5.below hX8 kR5.lt
  have hp8 := hp5.to hX8
  have hW8 := hW5.trans (hX8.mono hW5.size)
  clear hs6 hb6 ht7 hb7 hb8 hX8 kR5 hp5 hW5
  go_upto_region 5 with (first | (go_at_call 53; refine (soil_rs _).mono ?_; rintro e w9 ⟨A9, rfl, hs9, hb9⟩) | (go_at_call 54; refine (four_any _).mono ?_; rintro e wa ⟨Aa, rfl, hta, hba⟩) | (go_at_call 36; refine (wk_Balanced A9 2 Aa 1 _ (hs9.to hba) hta).mono ?_; rintro e wb ⟨Ab, cb, rfl, hpb, hcb, hdb, hbb⟩))
  have hXb := sh_next (sh_next hb9 hba) hbb
  have kRb := kR8.below hXb kR8.lt
  have hp9 := hp8.to hXb
  have hWb0 := hW8.trans (hXb.mono hW8.size)
  have hzw := hWb0.size
  clear hs9 hb9 hta hba hbb hXb kR8 hp8 hW8
  refine name_world (motive := fun W => Code.wp _ _ _ _ W) _ ?_
  intro W0 hW
  have hWc := hW.cell
  have hWz := hW.size
  have hWb := hW.below (hWb0.alloc hzw (.cells #[.int .i64 3136000000, .slice Ab 4 cb] 71))
  have hBa := (Below.refl _ wb).alloc (Nat.le_refl _) (.cells #[.int .i64 3136000000, .slice Ab 4 cb] 71)
  have kR := hW.blk (kRb.alloc (.cells #[.int .i64 3136000000, .slice Ab 4 cb] 71))
  have kB := hW.blk (Blk.new wb 71 #[.int .i64 3136000000, .slice Ab 4 cb])
  have hp0 := hp9.to hBa
  have hpb0 := hpb.to hBa
  rw [← hW.eq.out] at hp0 hpb0
  have r0 := kR.cell 0
  have r1 := kR.cell 1
  have b0 := kB.cell 0
  have b1 := kB.cell 1
  have rz := kR.lt
  have bz := kB.lt
  obtain ⟨pb, po, Ap, cp, rfl, hpz, p0, hp1, hp2, hps⟩ := hp0.at_ (k := 0) rfl
  simp at r0 r1 b0 b1 p0
  clear hWc hWz hW kR kB kRb hp9 hp0 hpb hBa
  (first | (go_region_held3 (fun w' => (∀ b o, b < W0.heap.size → w'.cell? ⟨b, o, none⟩ = W0.cell? ⟨b, o, none⟩) ∧ Below W0.heap.size W0 w') (first | with_reducible exact sh_refl _ | (with_reducible refine sh_of ?_; with_reducible assumption) | (with_reducible refine sh_alloc ?_ _; with_reducible assumption) | with_reducible exact sh_first _ _) (first | (go_at_call 33; go_split_ands; have hS1 : Below W0.heap.size W0 _ := (by with_reducible assumption); refine (wk_ints Ap (some ⟨W0.heap.size, 0, none⟩) cp 4 _ (hps.to hS1) (RS.of_blk (enc := encI) (sz := 1) (l := [56, 56, 56, 56]) (fun _ => rfl) (Blk.new W0 3 #[.int .i64 56, .int .i64 56, .int .i64 56, .int .i64 56]).drew)).mono ?_; rintro e x1 ⟨rfl, hg1⟩; have hB1 := sh_next hS1 hg1) | (go_at_call 53; go_split_ands; have hS2 : Below W0.heap.size W0 _ := (by with_reducible assumption); refine (soil_rs _).mono ?_; rintro e x2 ⟨As, rfl, hsx, hg2⟩; have hB2 := sh_next hS2 hg2) | (go_at_call 54; go_split_ands; have hS3 : Below W0.heap.size W0 _ := (by with_reducible assumption); refine (four_any _).mono ?_; rintro e x3 ⟨At, rfl, htx, hg3⟩; have hB3 := sh_next hS3 hg3) | (go_at_call 45; go_split_ands; have hS4 : Below W0.heap.size W0 _ := (by with_reducible assumption); refine (wk_Prove As 2 At 1 Ab cb _ (hsx.to hg3) htx (hpb0.to hS4)).mono ?_; rintro e x4 ⟨rfl, hg4⟩; have hB4 := sh_next hS4 hg4))) | fail)
  go_wp2
  go_ret
  exact ⟨rfl, hWb.trans (hB4.mono hWb.size)⟩
end Go.Proofs.Ythelogdgfhfdcaa
