import Derived.Test.YtmhnbchfmddhcaaTakeR
import Derived.Test.YtmhnbchfmddhcaaRefE

/- When a flyer comes to a net, and whether it takes the flyer, is as the document says. -/
namespace Go.Proofs.Ytmhnbchfmddhcaa
open Go.RowKit Go.Shelf

set_option linter.unusedSimpArgs false in
set_option maxRecDepth 100000 in
set_option maxHeartbeats 16000000 in
theorem lands_0 (f : Fly) (n : Net) (w : World) (hfy : f.ok = false) :
    Calls Try.prog 4 #[.agg #[.int .i64 f.pos.x.lo, .int .i64 f.pos.x.hi, .int .i64 f.pos.z.lo, .int .i64 f.pos.z.hi, .int .i64 f.speed.x.lo, .int .i64 f.speed.x.hi, .int .i64 f.speed.z.lo, .int .i64 f.speed.z.hi, .int .i64 f.mass], .agg #[.int .i64 n.x.lo, .int .i64 n.x.hi, .int .i64 n.height]] w fun e w' => e = .returned (.bool true) ∧ Below w.heap.size w w' := by
  have hB0 := ((Below.refl w.heap.size w).alloc (Nat.le_refl _) (.cells #[.int .i64 f.pos.x.lo, .int .i64 f.pos.x.hi, .int .i64 f.pos.z.lo, .int .i64 f.pos.z.hi, .int .i64 f.speed.x.lo, .int .i64 f.speed.x.hi, .int .i64 f.speed.z.lo, .int .i64 f.speed.z.hi, .int .i64 f.mass] 27)).alloc (by simp) (.cells #[.int .i64 n.x.lo, .int .i64 n.x.hi, .int .i64 n.height] 60)
  have kY0 := (Blk.new w 27 #[.int .i64 f.pos.x.lo, .int .i64 f.pos.x.hi, .int .i64 f.pos.z.lo, .int .i64 f.pos.z.hi, .int .i64 f.speed.x.lo, .int .i64 f.speed.x.hi, .int .i64 f.speed.z.lo, .int .i64 f.speed.z.hi, .int .i64 f.mass]).alloc (.cells #[.int .i64 n.x.lo, .int .i64 n.x.hi, .int .i64 n.height] 60)
  have kN0 := Blk.new (w.alloc (.cells #[.int .i64 f.pos.x.lo, .int .i64 f.pos.x.hi, .int .i64 f.pos.z.lo, .int .i64 f.pos.z.hi, .int .i64 f.speed.x.lo, .int .i64 f.speed.x.hi, .int .i64 f.speed.z.lo, .int .i64 f.speed.z.hi, .int .i64 f.mass] 27)) 60 #[.int .i64 n.x.lo, .int .i64 n.x.hi, .int .i64 n.height]
  simp only [World.size_alloc] at kN0
  have hbad : (f.ok && n.ok) = false := by rw [hfy]; rfl
  have HL : Hid (∀ W : World, Calls Try.prog 27 #[.agg #[.int .i64 f.pos.x.lo, .int .i64 f.pos.x.hi, .int .i64 f.pos.z.lo, .int .i64 f.pos.z.hi, .int .i64 f.speed.x.lo, .int .i64 f.speed.x.hi, .int .i64 f.speed.z.lo, .int .i64 f.speed.z.hi, .int .i64 f.mass], .agg #[.int .i64 n.x.lo, .int .i64 n.x.hi, .int .i64 n.height]] W fun e w' => e = .returned (.tuple #[.agg #[.int .i64 0, .int .i64 0], .int .i64 1]) ∧ Below W.heap.size W w') := fun W => Landing_bad f n W hbad
  have HT : Hid (∀ W : World, Calls Try.prog 29 #[.agg #[.int .i64 f.pos.x.lo, .int .i64 f.pos.x.hi, .int .i64 f.pos.z.lo, .int .i64 f.pos.z.hi, .int .i64 f.speed.x.lo, .int .i64 f.speed.x.hi, .int .i64 f.speed.z.lo, .int .i64 f.speed.z.hi, .int .i64 f.mass], .agg #[.int .i64 n.x.lo, .int .i64 n.x.hi, .int .i64 n.height]] W fun e w' => e = .returned (.tuple #[.bool false, .int .i64 1]) ∧ Below W.heap.size W w') := fun W => Takes_bad f n W hbad
  clear hbad
  have hEq : ∀ W : World, (binOp .eql 35 (.agg #[.int .i64 0, .int .i64 0]) (.agg #[.int .i64 0, .int .i64 0])).run Try.prog W = .ok (.bool true) W := fun W => by rw [eqR]; simp
  have HRY : Hid (∀ W : World, Calls Try.prog 21 #[.agg #[.int .i64 f.pos.x.lo, .int .i64 f.pos.x.hi, .int .i64 f.pos.z.lo, .int .i64 f.pos.z.hi, .int .i64 f.speed.x.lo, .int .i64 f.speed.x.hi, .int .i64 f.speed.z.lo, .int .i64 f.speed.z.hi, .int .i64 f.mass]] W fun e w' => e = .returned (.bool false) ∧ Below W.heap.size W w') := fun W => by rw [← hfy]; exact rightFlyer_any f W
  clear hfy
  have hmx : Try.prog.follows .mixedOrders = true := by kernel_rfl
  go_enter Try.func4, Try.ntmps4
  go_upto_region 1 with fail
  refine name_world (motive := fun W => Code.wp _ _ _ _ W) _ ?_
  intro W0 hW
  have hWc := hW.cell
  have hWz := hW.size
  have hWb := hW.below (hB0)
  have kY := hW.blk kY0
  have kN := hW.blk kN0
  have HB0 := Lib.hid hWb
  clear hB0 kY0 kN0 hW hWc hWz hWb
  go_cut [5, 6] (fun s5 s6 wx => ∃ g : Nat, s5 = .pointer (some ⟨g, 0, none⟩) ∧ s6 = .int .i64 1 ∧ Blk wx g 35 #[.int .i64 0, .int .i64 0] ∧ Below W0.heap.size W0 wx)
  case first =>
    refine (wpIn_wide (n := 9)).1 ?_
    have hLast := trivial
    refine region_rest (S := (fun w' => Blk w' (w.heap.size) 27 #[.int .i64 f.pos.x.lo, .int .i64 f.pos.x.hi, .int .i64 f.pos.z.lo, .int .i64 f.pos.z.hi, .int .i64 f.speed.x.lo, .int .i64 f.speed.x.hi, .int .i64 f.speed.z.lo, .int .i64 f.speed.z.hi, .int .i64 f.mass] ∧ Blk w' (w.heap.size + 1) 60 #[.int .i64 n.x.lo, .int .i64 n.x.hi, .int .i64 n.height] ∧ Below W0.heap.size W0 w')) hmx ?_ (fun hHeld => ?_)
    · exact ⟨kY.drew, kN.drew, (Below.refl W0.heap.size W0).drew⟩
    change RestIn _ _ _ _ _ _ _ 11 #[false, false, false, false, false, false, false, false, false, false, false] _ (World.drew _)
    refine rest_take (i := 0) (v := _) all_wide (noDefers_of (by kernel_rfl)) rfl (by kernel_rfl) (by kernel_rfl) (by kernel_rfl) (fun _ _ _ h => h) (Or.inl ⟨by rfl, by intro w hSw; (obtain ⟨q0, q1, _⟩ := hSw; have q0x0 := q0.cell 0; have q0x1 := q0.cell 1; have q0x2 := q0.cell 2; have q0x3 := q0.cell 3; have q0x4 := q0.cell 4; have q0x5 := q0.cell 5; have q0x6 := q0.cell 6; have q0x7 := q0.cell 7; have q0x8 := q0.cell 8; have q1x0 := q1.cell 0; have q1x1 := q1.cell 1; have q1x2 := q1.cell 2; simp at q0x0 q0x1 q0x2 q0x3 q0x4 q0x5 q0x6 q0x7 q0x8 q1x0 q1x1 q1x2); go_simp; first | done | with_reducible rfl⟩) hHeld ?_
    change RestIn _ _ _ _ _ _ _ 10 #[true, false, false, false, false, false, false, false, false, false, false] _ _
    try simp only [Act.put, List.setIfInBounds_toArray, List.set_cons_zero, List.set_cons_succ, List.getElem_toArray, List.getElem_cons_zero, List.getElem_cons_succ]
    refine rest_take (i := 2) (v := _) all_wide (noDefers_of (by kernel_rfl)) rfl (by kernel_rfl) (by kernel_rfl) (by kernel_rfl) (fun _ _ _ h => h) (Or.inl ⟨by rfl, by intro w hSw; (obtain ⟨q0, q1, _⟩ := hSw; have q0x0 := q0.cell 0; have q0x1 := q0.cell 1; have q0x2 := q0.cell 2; have q0x3 := q0.cell 3; have q0x4 := q0.cell 4; have q0x5 := q0.cell 5; have q0x6 := q0.cell 6; have q0x7 := q0.cell 7; have q0x8 := q0.cell 8; have q1x0 := q1.cell 0; have q1x1 := q1.cell 1; have q1x2 := q1.cell 2; simp at q0x0 q0x1 q0x2 q0x3 q0x4 q0x5 q0x6 q0x7 q0x8 q1x0 q1x1 q1x2); go_simp; first | done | with_reducible rfl⟩) hHeld ?_
    change RestIn _ _ _ _ _ _ _ 9 #[true, false, true, false, false, false, false, false, false, false, false] _ _
    try simp only [Act.put, List.setIfInBounds_toArray, List.set_cons_zero, List.set_cons_succ, List.getElem_toArray, List.getElem_cons_zero, List.getElem_cons_succ]
    refine rest_ready (rs := [1, 8]) (by kernel_rfl) (by simp) ?_
    refine AllRest.cons rfl (fun K hK => ?_) ?_
    · have hNow := (hHeld.2.2)
      clear hLast
      have hLast := hNow
      go_simp
      gi_wp2_with ((refine ⟨trivial, ?_⟩; gi_at_call 17; (with_reducible refine (callsIn_wide.2 (lawFlyer_any _ _)).mono ?_); rintro e wn ⟨rfl, hb⟩))
      refine hK.out _ _ ?_ (fun hHeld' => ?_)
      · exact ⟨hHeld.1.below hb hHeld.1.lt, hHeld.2.1.below hb hHeld.2.1.lt, (hHeld.2.2).trans (hb.mono (hHeld.2.2).size)⟩
      clear hK K
      change RestIn _ _ _ _ _ _ _ 8 #[true, true, true, false, false, false, false, false, false, false, false] _ _
      try simp only [Act.put, List.setIfInBounds_toArray, List.set_cons_zero, List.set_cons_succ, List.getElem_toArray, List.getElem_cons_zero, List.getElem_cons_succ]
      clear hHeld
      have hHeld := hHeld'
      clear hHeld'
      have hNow := (hHeld.2.2)
      try have kG := kG.below hb kG.lt
      refine rest_ready (rs := [3, 8]) (by kernel_rfl) (by simp) ?_
      refine AllRest.cons rfl (fun K hK => ?_) ?_
      · have hNow := (hHeld.2.2)
        clear hLast
        have hLast := hNow
        go_simp
        gi_wp2_with ((refine ⟨trivial, ?_⟩; gi_at_call 28; (with_reducible refine (callsIn_wide.2 (lawNet_any _ _)).mono ?_); rintro e wn ⟨rfl, hb⟩))
        refine hK.out _ _ ?_ (fun hHeld' => ?_)
        · exact ⟨hHeld.1.below hb hHeld.1.lt, hHeld.2.1.below hb hHeld.2.1.lt, (hHeld.2.2).trans (hb.mono (hHeld.2.2).size)⟩
        clear hK K
        change RestIn _ _ _ _ _ _ _ 7 #[true, true, true, true, false, false, false, false, false, false, false] _ _
        try simp only [Act.put, List.setIfInBounds_toArray, List.set_cons_zero, List.set_cons_succ, List.getElem_toArray, List.getElem_cons_zero, List.getElem_cons_succ]
        clear hHeld
        have hHeld := hHeld'
        clear hHeld'
        have hNow := (hHeld.2.2)
        try have kG := kG.below hb kG.lt
        refine rest_ready (rs := [4, 8]) (by kernel_rfl) (by simp) ?_
        refine AllRest.cons rfl (fun K hK => ?_) ?_
        · have hNow := (hHeld.2.2)
          clear hLast
          have hLast := hNow
          go_simp
          gi_wp2_with ((refine ⟨trivial, ?_⟩; gi_at_call 27; (with_reducible refine (callsIn_wide.2 (HL.out _)).mono ?_); rintro e wn ⟨rfl, hb⟩))
          refine hK.out _ _ ?_ (fun hHeld' => ?_)
          · exact ⟨hHeld.1.below hb hHeld.1.lt, hHeld.2.1.below hb hHeld.2.1.lt, (hHeld.2.2).trans (hb.mono (hHeld.2.2).size)⟩
          clear hK K
          change RestIn _ _ _ _ _ _ _ 6 #[true, true, true, true, true, false, false, false, false, false, false] _ _
          try simp only [Act.put, List.setIfInBounds_toArray, List.set_cons_zero, List.set_cons_succ, List.getElem_toArray, List.getElem_cons_zero, List.getElem_cons_succ]
          clear hHeld
          have hHeld := hHeld'
          clear hHeld'
          have hNow := (hHeld.2.2)
          try have kG := kG.below hb kG.lt
          refine rest_take (i := 5) (v := _) all_wide (noDefers_of (by kernel_rfl)) rfl (by kernel_rfl) (by kernel_rfl) (by kernel_rfl) (fun _ _ _ h => h) (Or.inl ⟨by rfl, by intro w hSw; clear hSw; go_simp; first | done | with_reducible rfl⟩) hHeld ?_
          change RestIn _ _ _ _ _ _ _ 5 #[true, true, true, true, true, true, false, false, false, false, false] _ _
          try simp only [Act.put, List.setIfInBounds_toArray, List.set_cons_zero, List.set_cons_succ, List.getElem_toArray, List.getElem_cons_zero, List.getElem_cons_succ]
          refine rest_take (i := 6) (v := _) all_wide (noDefers_of (by kernel_rfl)) rfl (by kernel_rfl) (by kernel_rfl) (by kernel_rfl) (fun _ _ _ h => h) (Or.inl ⟨by rfl, by intro w hSw; clear hSw; go_simp; first | done | with_reducible rfl⟩) hHeld ?_
          change RestIn _ _ _ _ _ _ _ 4 #[true, true, true, true, true, true, true, false, false, false, false] _ _
          try simp only [Act.put, List.setIfInBounds_toArray, List.set_cons_zero, List.set_cons_succ, List.getElem_toArray, List.getElem_cons_zero, List.getElem_cons_succ]
          refine rest_take (i := 7) (v := _) all_wide (noDefers_of (by kernel_rfl)) rfl (by kernel_rfl) (by kernel_rfl) (by kernel_rfl) (fun _ _ _ h => h) (Or.inl ⟨by rfl, by intro w hSw; clear hSw; go_simp; first | done | with_reducible rfl⟩) hHeld ?_
          change RestIn _ _ _ _ _ _ _ 3 #[true, true, true, true, true, true, true, true, false, false, false] _ _
          try simp only [Act.put, List.setIfInBounds_toArray, List.set_cons_zero, List.set_cons_succ, List.getElem_toArray, List.getElem_cons_zero, List.getElem_cons_succ]
          refine rest_ready (rs := [8]) (by kernel_rfl) (by simp) ?_
          refine AllRest.cons rfl (fun K hK => ?_) AllRest.nil
          have kGg := (hHeld.2.2).size
          have kG := blk_new_of (hHeld.2.2) 35 #[.int .i64 0, .int .i64 0]
          have hOld := (hHeld.2.2)
          go_simp
          refine hK.out _ _ ?_ (fun hHeld' => ?_)
          · exact (fun (hbel : Below W0.heap.size W0 _) => ⟨kY.below hbel kY.lt, kN.below hbel kN.lt, hbel⟩) ((hHeld.2.2).alloc (hHeld.2.2).size _)
          clear hK K
          change RestIn _ _ _ _ _ _ _ 2 #[true, true, true, true, true, true, true, true, true, false, false] _ _
          try simp only [Act.put, List.setIfInBounds_toArray, List.set_cons_zero, List.set_cons_succ, List.getElem_toArray, List.getElem_cons_zero, List.getElem_cons_succ]
          clear hHeld
          have hHeld := hHeld'
          clear hHeld'
          have hNow := (hHeld.2.2)
          try simp at kGg
          refine rest_ready (rs := [9]) (by kernel_rfl) (by simp) ?_
          refine AllRest.cons rfl (fun K hK => ?_) AllRest.nil
          have kGc0 := kG.cell 0
          have kGc1 := kG.cell 1
          have kGf0 := kG.frozen 0
          have kGf1 := kG.frozen 1
          have kGl := kG.lt
          try simp at kGc0
          try simp at kGc1
          try simp at kGf0
          try simp at kGf1
          try simp at kGl
          have hNow := (hHeld.2.2)
          go_simp
          refine hK.out _ _ ?_ (fun hHeld' => ?_)
          · (refine (fun (hbel : Below W0.heap.size W0 _) => ⟨kY.below hbel kY.lt, kN.below hbel kN.lt, hbel⟩) ?_; repeat' (first | with_reducible exact hNow | with_reducible exact hOld | with_reducible refine Below.setCell ?_ (by (try simp) <;> omega) _ | with_reducible refine Below.alloc ?_ (by (try simp) <;> omega) _))
          clear hK K
          change RestIn _ _ _ _ _ _ _ 1 #[true, true, true, true, true, true, true, true, true, true, false] _ _
          try simp only [Act.put, List.setIfInBounds_toArray, List.set_cons_zero, List.set_cons_succ, List.getElem_toArray, List.getElem_cons_zero, List.getElem_cons_succ]
          clear hHeld
          have hHeld := hHeld'
          clear hHeld'
          have hNow := (hHeld.2.2)
          refine rest_take (i := 10) (v := _) all_wide (noDefers_of (by kernel_rfl)) rfl (by kernel_rfl) (by kernel_rfl) (by kernel_rfl) (fun _ _ _ h => h) (Or.inl ⟨by rfl, by intro w hSw; clear hSw; go_simp; first | done | with_reducible rfl⟩) hHeld ?_
          change RestIn _ _ _ _ _ _ _ 0 #[true, true, true, true, true, true, true, true, true, true, true] _ _
          try simp only [Act.put, List.setIfInBounds_toArray, List.set_cons_zero, List.set_cons_succ, List.getElem_toArray, List.getElem_cons_zero, List.getElem_cons_succ]
          refine rest_done (by kernel_rfl) ?_
          go_wp2_with fail
          go_meet
          first | exact ⟨_, rfl, rfl, (kG.set_ 0 (.int .i64 0)).set_ 1 (.int .i64 0), hNow⟩ | exact ⟨_, rfl, rfl, Blk.new _ _ _, hNow⟩
        refine AllRest.cons rfl (fun K hK => ?_) ?_
        · have kGg := (hHeld.2.2).size
          have kG := blk_new_of (hHeld.2.2) 35 #[.int .i64 0, .int .i64 0]
          have hOld := (hHeld.2.2)
          go_simp
          refine hK.out _ _ ?_ (fun hHeld' => ?_)
          · exact (fun (hbel : Below W0.heap.size W0 _) => ⟨kY.below hbel kY.lt, kN.below hbel kN.lt, hbel⟩) ((hHeld.2.2).alloc (hHeld.2.2).size _)
          clear hK K
          change RestIn _ _ _ _ _ _ _ 6 #[true, true, true, true, false, false, false, false, true, false, false] _ _
          try simp only [Act.put, List.setIfInBounds_toArray, List.set_cons_zero, List.set_cons_succ, List.getElem_toArray, List.getElem_cons_zero, List.getElem_cons_succ]
          clear hHeld
          have hHeld := hHeld'
          clear hHeld'
          have hNow := (hHeld.2.2)
          try simp at kGg
          refine rest_ready (rs := [4]) (by kernel_rfl) (by simp) ?_
          refine AllRest.cons rfl (fun K hK => ?_) AllRest.nil
          have hNow := (hHeld.2.2)
          clear hLast
          have hLast := hNow
          go_simp
          gi_wp2_with ((refine ⟨trivial, ?_⟩; gi_at_call 27; (with_reducible refine (callsIn_wide.2 (HL.out _)).mono ?_); rintro e wn ⟨rfl, hb⟩))
          refine hK.out _ _ ?_ (fun hHeld' => ?_)
          · exact ⟨hHeld.1.below hb hHeld.1.lt, hHeld.2.1.below hb hHeld.2.1.lt, (hHeld.2.2).trans (hb.mono (hHeld.2.2).size)⟩
          clear hK K
          change RestIn _ _ _ _ _ _ _ 5 #[true, true, true, true, true, false, false, false, true, false, false] _ _
          try simp only [Act.put, List.setIfInBounds_toArray, List.set_cons_zero, List.set_cons_succ, List.getElem_toArray, List.getElem_cons_zero, List.getElem_cons_succ]
          clear hHeld
          have hHeld := hHeld'
          clear hHeld'
          have hNow := (hHeld.2.2)
          try have kG := kG.below hb kG.lt
          refine rest_take (i := 5) (v := _) all_wide (noDefers_of (by kernel_rfl)) rfl (by kernel_rfl) (by kernel_rfl) (by kernel_rfl) (fun _ _ _ h => h) (Or.inl ⟨by rfl, by intro w hSw; clear hSw; go_simp; first | done | with_reducible rfl⟩) hHeld ?_
          change RestIn _ _ _ _ _ _ _ 4 #[true, true, true, true, true, true, false, false, true, false, false] _ _
          try simp only [Act.put, List.setIfInBounds_toArray, List.set_cons_zero, List.set_cons_succ, List.getElem_toArray, List.getElem_cons_zero, List.getElem_cons_succ]
          refine rest_take (i := 6) (v := _) all_wide (noDefers_of (by kernel_rfl)) rfl (by kernel_rfl) (by kernel_rfl) (by kernel_rfl) (fun _ _ _ h => h) (Or.inl ⟨by rfl, by intro w hSw; clear hSw; go_simp; first | done | with_reducible rfl⟩) hHeld ?_
          change RestIn _ _ _ _ _ _ _ 3 #[true, true, true, true, true, true, true, false, true, false, false] _ _
          try simp only [Act.put, List.setIfInBounds_toArray, List.set_cons_zero, List.set_cons_succ, List.getElem_toArray, List.getElem_cons_zero, List.getElem_cons_succ]
          refine rest_take (i := 7) (v := _) all_wide (noDefers_of (by kernel_rfl)) rfl (by kernel_rfl) (by kernel_rfl) (by kernel_rfl) (fun _ _ _ h => h) (Or.inl ⟨by rfl, by intro w hSw; clear hSw; go_simp; first | done | with_reducible rfl⟩) hHeld ?_
          change RestIn _ _ _ _ _ _ _ 2 #[true, true, true, true, true, true, true, true, true, false, false] _ _
          try simp only [Act.put, List.setIfInBounds_toArray, List.set_cons_zero, List.set_cons_succ, List.getElem_toArray, List.getElem_cons_zero, List.getElem_cons_succ]
          refine rest_ready (rs := [9]) (by kernel_rfl) (by simp) ?_
          refine AllRest.cons rfl (fun K hK => ?_) AllRest.nil
          have kGc0 := kG.cell 0
          have kGc1 := kG.cell 1
          have kGf0 := kG.frozen 0
          have kGf1 := kG.frozen 1
          have kGl := kG.lt
          try simp at kGc0
          try simp at kGc1
          try simp at kGf0
          try simp at kGf1
          try simp at kGl
          have hNow := (hHeld.2.2)
          go_simp
          refine hK.out _ _ ?_ (fun hHeld' => ?_)
          · (refine (fun (hbel : Below W0.heap.size W0 _) => ⟨kY.below hbel kY.lt, kN.below hbel kN.lt, hbel⟩) ?_; repeat' (first | with_reducible exact hNow | with_reducible exact hOld | with_reducible refine Below.setCell ?_ (by (try simp) <;> omega) _ | with_reducible refine Below.alloc ?_ (by (try simp) <;> omega) _))
          clear hK K
          change RestIn _ _ _ _ _ _ _ 1 #[true, true, true, true, true, true, true, true, true, true, false] _ _
          try simp only [Act.put, List.setIfInBounds_toArray, List.set_cons_zero, List.set_cons_succ, List.getElem_toArray, List.getElem_cons_zero, List.getElem_cons_succ]
          clear hHeld
          have hHeld := hHeld'
          clear hHeld'
          have hNow := (hHeld.2.2)
          refine rest_take (i := 10) (v := _) all_wide (noDefers_of (by kernel_rfl)) rfl (by kernel_rfl) (by kernel_rfl) (by kernel_rfl) (fun _ _ _ h => h) (Or.inl ⟨by rfl, by intro w hSw; clear hSw; go_simp; first | done | with_reducible rfl⟩) hHeld ?_
          change RestIn _ _ _ _ _ _ _ 0 #[true, true, true, true, true, true, true, true, true, true, true] _ _
          try simp only [Act.put, List.setIfInBounds_toArray, List.set_cons_zero, List.set_cons_succ, List.getElem_toArray, List.getElem_cons_zero, List.getElem_cons_succ]
          refine rest_done (by kernel_rfl) ?_
          go_wp2_with fail
          go_meet
          first | exact ⟨_, rfl, rfl, (kG.set_ 0 (.int .i64 0)).set_ 1 (.int .i64 0), hNow⟩ | exact ⟨_, rfl, rfl, Blk.new _ _ _, hNow⟩
        exact AllRest.nil
      refine AllRest.cons rfl (fun K hK => ?_) ?_
      · have kGg := (hHeld.2.2).size
        have kG := blk_new_of (hHeld.2.2) 35 #[.int .i64 0, .int .i64 0]
        have hOld := (hHeld.2.2)
        go_simp
        refine hK.out _ _ ?_ (fun hHeld' => ?_)
        · exact (fun (hbel : Below W0.heap.size W0 _) => ⟨kY.below hbel kY.lt, kN.below hbel kN.lt, hbel⟩) ((hHeld.2.2).alloc (hHeld.2.2).size _)
        clear hK K
        change RestIn _ _ _ _ _ _ _ 7 #[true, true, true, false, false, false, false, false, true, false, false] _ _
        try simp only [Act.put, List.setIfInBounds_toArray, List.set_cons_zero, List.set_cons_succ, List.getElem_toArray, List.getElem_cons_zero, List.getElem_cons_succ]
        clear hHeld
        have hHeld := hHeld'
        clear hHeld'
        have hNow := (hHeld.2.2)
        try simp at kGg
        refine rest_ready (rs := [3]) (by kernel_rfl) (by simp) ?_
        refine AllRest.cons rfl (fun K hK => ?_) AllRest.nil
        have hNow := (hHeld.2.2)
        clear hLast
        have hLast := hNow
        go_simp
        gi_wp2_with ((refine ⟨trivial, ?_⟩; gi_at_call 28; (with_reducible refine (callsIn_wide.2 (lawNet_any _ _)).mono ?_); rintro e wn ⟨rfl, hb⟩))
        refine hK.out _ _ ?_ (fun hHeld' => ?_)
        · exact ⟨hHeld.1.below hb hHeld.1.lt, hHeld.2.1.below hb hHeld.2.1.lt, (hHeld.2.2).trans (hb.mono (hHeld.2.2).size)⟩
        clear hK K
        change RestIn _ _ _ _ _ _ _ 6 #[true, true, true, true, false, false, false, false, true, false, false] _ _
        try simp only [Act.put, List.setIfInBounds_toArray, List.set_cons_zero, List.set_cons_succ, List.getElem_toArray, List.getElem_cons_zero, List.getElem_cons_succ]
        clear hHeld
        have hHeld := hHeld'
        clear hHeld'
        have hNow := (hHeld.2.2)
        try have kG := kG.below hb kG.lt
        refine rest_ready (rs := [4]) (by kernel_rfl) (by simp) ?_
        refine AllRest.cons rfl (fun K hK => ?_) AllRest.nil
        have hNow := (hHeld.2.2)
        clear hLast
        have hLast := hNow
        go_simp
        gi_wp2_with ((refine ⟨trivial, ?_⟩; gi_at_call 27; (with_reducible refine (callsIn_wide.2 (HL.out _)).mono ?_); rintro e wn ⟨rfl, hb⟩))
        refine hK.out _ _ ?_ (fun hHeld' => ?_)
        · exact ⟨hHeld.1.below hb hHeld.1.lt, hHeld.2.1.below hb hHeld.2.1.lt, (hHeld.2.2).trans (hb.mono (hHeld.2.2).size)⟩
        clear hK K
        change RestIn _ _ _ _ _ _ _ 5 #[true, true, true, true, true, false, false, false, true, false, false] _ _
        try simp only [Act.put, List.setIfInBounds_toArray, List.set_cons_zero, List.set_cons_succ, List.getElem_toArray, List.getElem_cons_zero, List.getElem_cons_succ]
        clear hHeld
        have hHeld := hHeld'
        clear hHeld'
        have hNow := (hHeld.2.2)
        try have kG := kG.below hb kG.lt
        refine rest_take (i := 5) (v := _) all_wide (noDefers_of (by kernel_rfl)) rfl (by kernel_rfl) (by kernel_rfl) (by kernel_rfl) (fun _ _ _ h => h) (Or.inl ⟨by rfl, by intro w hSw; clear hSw; go_simp; first | done | with_reducible rfl⟩) hHeld ?_
        change RestIn _ _ _ _ _ _ _ 4 #[true, true, true, true, true, true, false, false, true, false, false] _ _
        try simp only [Act.put, List.setIfInBounds_toArray, List.set_cons_zero, List.set_cons_succ, List.getElem_toArray, List.getElem_cons_zero, List.getElem_cons_succ]
        refine rest_take (i := 6) (v := _) all_wide (noDefers_of (by kernel_rfl)) rfl (by kernel_rfl) (by kernel_rfl) (by kernel_rfl) (fun _ _ _ h => h) (Or.inl ⟨by rfl, by intro w hSw; clear hSw; go_simp; first | done | with_reducible rfl⟩) hHeld ?_
        change RestIn _ _ _ _ _ _ _ 3 #[true, true, true, true, true, true, true, false, true, false, false] _ _
        try simp only [Act.put, List.setIfInBounds_toArray, List.set_cons_zero, List.set_cons_succ, List.getElem_toArray, List.getElem_cons_zero, List.getElem_cons_succ]
        refine rest_take (i := 7) (v := _) all_wide (noDefers_of (by kernel_rfl)) rfl (by kernel_rfl) (by kernel_rfl) (by kernel_rfl) (fun _ _ _ h => h) (Or.inl ⟨by rfl, by intro w hSw; clear hSw; go_simp; first | done | with_reducible rfl⟩) hHeld ?_
        change RestIn _ _ _ _ _ _ _ 2 #[true, true, true, true, true, true, true, true, true, false, false] _ _
        try simp only [Act.put, List.setIfInBounds_toArray, List.set_cons_zero, List.set_cons_succ, List.getElem_toArray, List.getElem_cons_zero, List.getElem_cons_succ]
        refine rest_ready (rs := [9]) (by kernel_rfl) (by simp) ?_
        refine AllRest.cons rfl (fun K hK => ?_) AllRest.nil
        have kGc0 := kG.cell 0
        have kGc1 := kG.cell 1
        have kGf0 := kG.frozen 0
        have kGf1 := kG.frozen 1
        have kGl := kG.lt
        try simp at kGc0
        try simp at kGc1
        try simp at kGf0
        try simp at kGf1
        try simp at kGl
        have hNow := (hHeld.2.2)
        go_simp
        refine hK.out _ _ ?_ (fun hHeld' => ?_)
        · (refine (fun (hbel : Below W0.heap.size W0 _) => ⟨kY.below hbel kY.lt, kN.below hbel kN.lt, hbel⟩) ?_; repeat' (first | with_reducible exact hNow | with_reducible exact hOld | with_reducible refine Below.setCell ?_ (by (try simp) <;> omega) _ | with_reducible refine Below.alloc ?_ (by (try simp) <;> omega) _))
        clear hK K
        change RestIn _ _ _ _ _ _ _ 1 #[true, true, true, true, true, true, true, true, true, true, false] _ _
        try simp only [Act.put, List.setIfInBounds_toArray, List.set_cons_zero, List.set_cons_succ, List.getElem_toArray, List.getElem_cons_zero, List.getElem_cons_succ]
        clear hHeld
        have hHeld := hHeld'
        clear hHeld'
        have hNow := (hHeld.2.2)
        refine rest_take (i := 10) (v := _) all_wide (noDefers_of (by kernel_rfl)) rfl (by kernel_rfl) (by kernel_rfl) (by kernel_rfl) (fun _ _ _ h => h) (Or.inl ⟨by rfl, by intro w hSw; clear hSw; go_simp; first | done | with_reducible rfl⟩) hHeld ?_
        change RestIn _ _ _ _ _ _ _ 0 #[true, true, true, true, true, true, true, true, true, true, true] _ _
        try simp only [Act.put, List.setIfInBounds_toArray, List.set_cons_zero, List.set_cons_succ, List.getElem_toArray, List.getElem_cons_zero, List.getElem_cons_succ]
        refine rest_done (by kernel_rfl) ?_
        go_wp2_with fail
        go_meet
        first | exact ⟨_, rfl, rfl, (kG.set_ 0 (.int .i64 0)).set_ 1 (.int .i64 0), hNow⟩ | exact ⟨_, rfl, rfl, Blk.new _ _ _, hNow⟩
      exact AllRest.nil
    refine AllRest.cons rfl (fun K hK => ?_) ?_
    · have kGg := (hHeld.2.2).size
      have kG := blk_new_of (hHeld.2.2) 35 #[.int .i64 0, .int .i64 0]
      have hOld := (hHeld.2.2)
      go_simp
      refine hK.out _ _ ?_ (fun hHeld' => ?_)
      · exact (fun (hbel : Below W0.heap.size W0 _) => ⟨kY.below hbel kY.lt, kN.below hbel kN.lt, hbel⟩) ((hHeld.2.2).alloc (hHeld.2.2).size _)
      clear hK K
      change RestIn _ _ _ _ _ _ _ 8 #[true, false, true, false, false, false, false, false, true, false, false] _ _
      try simp only [Act.put, List.setIfInBounds_toArray, List.set_cons_zero, List.set_cons_succ, List.getElem_toArray, List.getElem_cons_zero, List.getElem_cons_succ]
      clear hHeld
      have hHeld := hHeld'
      clear hHeld'
      have hNow := (hHeld.2.2)
      try simp at kGg
      refine rest_ready (rs := [1]) (by kernel_rfl) (by simp) ?_
      refine AllRest.cons rfl (fun K hK => ?_) AllRest.nil
      have hNow := (hHeld.2.2)
      clear hLast
      have hLast := hNow
      go_simp
      gi_wp2_with ((refine ⟨trivial, ?_⟩; gi_at_call 17; (with_reducible refine (callsIn_wide.2 (lawFlyer_any _ _)).mono ?_); rintro e wn ⟨rfl, hb⟩))
      refine hK.out _ _ ?_ (fun hHeld' => ?_)
      · exact ⟨hHeld.1.below hb hHeld.1.lt, hHeld.2.1.below hb hHeld.2.1.lt, (hHeld.2.2).trans (hb.mono (hHeld.2.2).size)⟩
      clear hK K
      change RestIn _ _ _ _ _ _ _ 7 #[true, true, true, false, false, false, false, false, true, false, false] _ _
      try simp only [Act.put, List.setIfInBounds_toArray, List.set_cons_zero, List.set_cons_succ, List.getElem_toArray, List.getElem_cons_zero, List.getElem_cons_succ]
      clear hHeld
      have hHeld := hHeld'
      clear hHeld'
      have hNow := (hHeld.2.2)
      try have kG := kG.below hb kG.lt
      refine rest_ready (rs := [3]) (by kernel_rfl) (by simp) ?_
      refine AllRest.cons rfl (fun K hK => ?_) AllRest.nil
      have hNow := (hHeld.2.2)
      clear hLast
      have hLast := hNow
      go_simp
      gi_wp2_with ((refine ⟨trivial, ?_⟩; gi_at_call 28; (with_reducible refine (callsIn_wide.2 (lawNet_any _ _)).mono ?_); rintro e wn ⟨rfl, hb⟩))
      refine hK.out _ _ ?_ (fun hHeld' => ?_)
      · exact ⟨hHeld.1.below hb hHeld.1.lt, hHeld.2.1.below hb hHeld.2.1.lt, (hHeld.2.2).trans (hb.mono (hHeld.2.2).size)⟩
      clear hK K
      change RestIn _ _ _ _ _ _ _ 6 #[true, true, true, true, false, false, false, false, true, false, false] _ _
      try simp only [Act.put, List.setIfInBounds_toArray, List.set_cons_zero, List.set_cons_succ, List.getElem_toArray, List.getElem_cons_zero, List.getElem_cons_succ]
      clear hHeld
      have hHeld := hHeld'
      clear hHeld'
      have hNow := (hHeld.2.2)
      try have kG := kG.below hb kG.lt
      refine rest_ready (rs := [4]) (by kernel_rfl) (by simp) ?_
      refine AllRest.cons rfl (fun K hK => ?_) AllRest.nil
      have hNow := (hHeld.2.2)
      clear hLast
      have hLast := hNow
      go_simp
      gi_wp2_with ((refine ⟨trivial, ?_⟩; gi_at_call 27; (with_reducible refine (callsIn_wide.2 (HL.out _)).mono ?_); rintro e wn ⟨rfl, hb⟩))
      refine hK.out _ _ ?_ (fun hHeld' => ?_)
      · exact ⟨hHeld.1.below hb hHeld.1.lt, hHeld.2.1.below hb hHeld.2.1.lt, (hHeld.2.2).trans (hb.mono (hHeld.2.2).size)⟩
      clear hK K
      change RestIn _ _ _ _ _ _ _ 5 #[true, true, true, true, true, false, false, false, true, false, false] _ _
      try simp only [Act.put, List.setIfInBounds_toArray, List.set_cons_zero, List.set_cons_succ, List.getElem_toArray, List.getElem_cons_zero, List.getElem_cons_succ]
      clear hHeld
      have hHeld := hHeld'
      clear hHeld'
      have hNow := (hHeld.2.2)
      try have kG := kG.below hb kG.lt
      refine rest_take (i := 5) (v := _) all_wide (noDefers_of (by kernel_rfl)) rfl (by kernel_rfl) (by kernel_rfl) (by kernel_rfl) (fun _ _ _ h => h) (Or.inl ⟨by rfl, by intro w hSw; clear hSw; go_simp; first | done | with_reducible rfl⟩) hHeld ?_
      change RestIn _ _ _ _ _ _ _ 4 #[true, true, true, true, true, true, false, false, true, false, false] _ _
      try simp only [Act.put, List.setIfInBounds_toArray, List.set_cons_zero, List.set_cons_succ, List.getElem_toArray, List.getElem_cons_zero, List.getElem_cons_succ]
      refine rest_take (i := 6) (v := _) all_wide (noDefers_of (by kernel_rfl)) rfl (by kernel_rfl) (by kernel_rfl) (by kernel_rfl) (fun _ _ _ h => h) (Or.inl ⟨by rfl, by intro w hSw; clear hSw; go_simp; first | done | with_reducible rfl⟩) hHeld ?_
      change RestIn _ _ _ _ _ _ _ 3 #[true, true, true, true, true, true, true, false, true, false, false] _ _
      try simp only [Act.put, List.setIfInBounds_toArray, List.set_cons_zero, List.set_cons_succ, List.getElem_toArray, List.getElem_cons_zero, List.getElem_cons_succ]
      refine rest_take (i := 7) (v := _) all_wide (noDefers_of (by kernel_rfl)) rfl (by kernel_rfl) (by kernel_rfl) (by kernel_rfl) (fun _ _ _ h => h) (Or.inl ⟨by rfl, by intro w hSw; clear hSw; go_simp; first | done | with_reducible rfl⟩) hHeld ?_
      change RestIn _ _ _ _ _ _ _ 2 #[true, true, true, true, true, true, true, true, true, false, false] _ _
      try simp only [Act.put, List.setIfInBounds_toArray, List.set_cons_zero, List.set_cons_succ, List.getElem_toArray, List.getElem_cons_zero, List.getElem_cons_succ]
      refine rest_ready (rs := [9]) (by kernel_rfl) (by simp) ?_
      refine AllRest.cons rfl (fun K hK => ?_) AllRest.nil
      have kGc0 := kG.cell 0
      have kGc1 := kG.cell 1
      have kGf0 := kG.frozen 0
      have kGf1 := kG.frozen 1
      have kGl := kG.lt
      try simp at kGc0
      try simp at kGc1
      try simp at kGf0
      try simp at kGf1
      try simp at kGl
      have hNow := (hHeld.2.2)
      go_simp
      refine hK.out _ _ ?_ (fun hHeld' => ?_)
      · (refine (fun (hbel : Below W0.heap.size W0 _) => ⟨kY.below hbel kY.lt, kN.below hbel kN.lt, hbel⟩) ?_; repeat' (first | with_reducible exact hNow | with_reducible exact hOld | with_reducible refine Below.setCell ?_ (by (try simp) <;> omega) _ | with_reducible refine Below.alloc ?_ (by (try simp) <;> omega) _))
      clear hK K
      change RestIn _ _ _ _ _ _ _ 1 #[true, true, true, true, true, true, true, true, true, true, false] _ _
      try simp only [Act.put, List.setIfInBounds_toArray, List.set_cons_zero, List.set_cons_succ, List.getElem_toArray, List.getElem_cons_zero, List.getElem_cons_succ]
      clear hHeld
      have hHeld := hHeld'
      clear hHeld'
      have hNow := (hHeld.2.2)
      refine rest_take (i := 10) (v := _) all_wide (noDefers_of (by kernel_rfl)) rfl (by kernel_rfl) (by kernel_rfl) (by kernel_rfl) (fun _ _ _ h => h) (Or.inl ⟨by rfl, by intro w hSw; clear hSw; go_simp; first | done | with_reducible rfl⟩) hHeld ?_
      change RestIn _ _ _ _ _ _ _ 0 #[true, true, true, true, true, true, true, true, true, true, true] _ _
      try simp only [Act.put, List.setIfInBounds_toArray, List.set_cons_zero, List.set_cons_succ, List.getElem_toArray, List.getElem_cons_zero, List.getElem_cons_succ]
      refine rest_done (by kernel_rfl) ?_
      go_wp2_with fail
      go_meet
      first | exact ⟨_, rfl, rfl, (kG.set_ 0 (.int .i64 0)).set_ 1 (.int .i64 0), hNow⟩ | exact ⟨_, rfl, rfl, Blk.new _ _ _, hNow⟩
    exact AllRest.nil
  case rest =>
    obtain ⟨g, rfl, rfl, kR, hX⟩ := hcut
    have kY1 := kY.below hX kY.lt
    have kN1 := kN.below hX kN.lt
    have HB1 := Lib.hid (HB0.out.trans (hX.mono HB0.out.size))
    clear kY kN HB0
    go_upto_region 2 with fail
    refine name_world (motive := fun W => Code.wp _ _ _ _ W) _ ?_
    intro W0 hW
    have hWc := hW.cell
    have hWz := hW.size
    have hWb := hW.below (hX)
    have kY := hW.blk kY1
    have kN := hW.blk kN1
    have kG := hW.blk kR
    have HB0 := Lib.hid (HB1.out.trans ((hW.below (Below.refl _ _)).mono HB1.out.size))
    clear kY1 kN1 kR HB1 hW hWc hWz hWb hX
    refine (wpIn_wide (n := 9)).1 ?_
    have hLast := trivial
    refine region_rest (S := (fun w' => Blk w' (w.heap.size) 27 #[.int .i64 f.pos.x.lo, .int .i64 f.pos.x.hi, .int .i64 f.pos.z.lo, .int .i64 f.pos.z.hi, .int .i64 f.speed.x.lo, .int .i64 f.speed.x.hi, .int .i64 f.speed.z.lo, .int .i64 f.speed.z.hi, .int .i64 f.mass] ∧ Blk w' (w.heap.size + 1) 60 #[.int .i64 n.x.lo, .int .i64 n.x.hi, .int .i64 n.height] ∧ Blk w' (g) 35 #[.int .i64 0, .int .i64 0] ∧ Below W0.heap.size W0 w')) hmx ?_ (fun hHeld => ?_)
    · exact ⟨kY.drew, kN.drew, kG.drew, (Below.refl W0.heap.size W0).drew⟩
    change RestIn _ _ _ _ _ _ _ 10 #[false, false, false, false, false, false, false, false, false, false] _ (World.drew _)
    refine rest_take (i := 0) (v := _) all_wide (noDefers_of (by kernel_rfl)) rfl (by kernel_rfl) (by kernel_rfl) (by kernel_rfl) (fun _ _ _ h => h) (Or.inl ⟨by rfl, by intro w hSw; (obtain ⟨q0, q1, q2, _⟩ := hSw; have q0x0 := q0.cell 0; have q0x1 := q0.cell 1; have q0x2 := q0.cell 2; have q0x3 := q0.cell 3; have q0x4 := q0.cell 4; have q0x5 := q0.cell 5; have q0x6 := q0.cell 6; have q0x7 := q0.cell 7; have q0x8 := q0.cell 8; have q1x0 := q1.cell 0; have q1x1 := q1.cell 1; have q1x2 := q1.cell 2; have q2x0 := q2.cell 0; have q2x1 := q2.cell 1; simp at q0x0 q0x1 q0x2 q0x3 q0x4 q0x5 q0x6 q0x7 q0x8 q1x0 q1x1 q1x2 q2x0 q2x1); go_simp; first | done | with_reducible rfl⟩) hHeld ?_
    change RestIn _ _ _ _ _ _ _ 9 #[true, false, false, false, false, false, false, false, false, false] _ _
    try simp only [Act.put, List.setIfInBounds_toArray, List.set_cons_zero, List.set_cons_succ, List.getElem_toArray, List.getElem_cons_zero, List.getElem_cons_succ]
    refine rest_take (i := 2) (v := _) all_wide (noDefers_of (by kernel_rfl)) rfl (by kernel_rfl) (by kernel_rfl) (by kernel_rfl) (fun _ _ _ h => h) (Or.inl ⟨by rfl, by intro w hSw; (obtain ⟨q0, q1, q2, _⟩ := hSw; have q0x0 := q0.cell 0; have q0x1 := q0.cell 1; have q0x2 := q0.cell 2; have q0x3 := q0.cell 3; have q0x4 := q0.cell 4; have q0x5 := q0.cell 5; have q0x6 := q0.cell 6; have q0x7 := q0.cell 7; have q0x8 := q0.cell 8; have q1x0 := q1.cell 0; have q1x1 := q1.cell 1; have q1x2 := q1.cell 2; have q2x0 := q2.cell 0; have q2x1 := q2.cell 1; simp at q0x0 q0x1 q0x2 q0x3 q0x4 q0x5 q0x6 q0x7 q0x8 q1x0 q1x1 q1x2 q2x0 q2x1); go_simp; first | done | with_reducible rfl⟩) hHeld ?_
    change RestIn _ _ _ _ _ _ _ 8 #[true, false, true, false, false, false, false, false, false, false] _ _
    try simp only [Act.put, List.setIfInBounds_toArray, List.set_cons_zero, List.set_cons_succ, List.getElem_toArray, List.getElem_cons_zero, List.getElem_cons_succ]
    refine rest_ready (rs := [1]) (by kernel_rfl) (by simp) ?_
    refine AllRest.cons rfl (fun K hK => ?_) AllRest.nil
    have hNow := (hHeld.2.2.2)
    clear hLast
    have hLast := hNow
    go_simp
    gi_wp2_with ((refine ⟨trivial, ?_⟩; gi_at_call 17; (with_reducible refine (callsIn_wide.2 (lawFlyer_any _ _)).mono ?_); rintro e wn ⟨rfl, hb⟩))
    refine hK.out _ _ ?_ (fun hHeld' => ?_)
    · exact ⟨hHeld.1.below hb hHeld.1.lt, hHeld.2.1.below hb hHeld.2.1.lt, hHeld.2.2.1.below hb hHeld.2.2.1.lt, (hHeld.2.2.2).trans (hb.mono (hHeld.2.2.2).size)⟩
    clear hK K
    change RestIn _ _ _ _ _ _ _ 7 #[true, true, true, false, false, false, false, false, false, false] _ _
    try simp only [Act.put, List.setIfInBounds_toArray, List.set_cons_zero, List.set_cons_succ, List.getElem_toArray, List.getElem_cons_zero, List.getElem_cons_succ]
    clear hHeld
    have hHeld := hHeld'
    clear hHeld'
    have hNow := (hHeld.2.2.2)
    refine rest_ready (rs := [3]) (by kernel_rfl) (by simp) ?_
    refine AllRest.cons rfl (fun K hK => ?_) AllRest.nil
    have hNow := (hHeld.2.2.2)
    clear hLast
    have hLast := hNow
    go_simp
    gi_wp2_with ((refine ⟨trivial, ?_⟩; gi_at_call 28; (with_reducible refine (callsIn_wide.2 (lawNet_any _ _)).mono ?_); rintro e wn ⟨rfl, hb⟩))
    refine hK.out _ _ ?_ (fun hHeld' => ?_)
    · exact ⟨hHeld.1.below hb hHeld.1.lt, hHeld.2.1.below hb hHeld.2.1.lt, hHeld.2.2.1.below hb hHeld.2.2.1.lt, (hHeld.2.2.2).trans (hb.mono (hHeld.2.2.2).size)⟩
    clear hK K
    change RestIn _ _ _ _ _ _ _ 6 #[true, true, true, true, false, false, false, false, false, false] _ _
    try simp only [Act.put, List.setIfInBounds_toArray, List.set_cons_zero, List.set_cons_succ, List.getElem_toArray, List.getElem_cons_zero, List.getElem_cons_succ]
    clear hHeld
    have hHeld := hHeld'
    clear hHeld'
    have hNow := (hHeld.2.2.2)
    refine rest_ready (rs := [4]) (by kernel_rfl) (by simp) ?_
    refine AllRest.cons rfl (fun K hK => ?_) AllRest.nil
    have hNow := (hHeld.2.2.2)
    clear hLast
    have hLast := hNow
    go_simp
    gi_wp2_with ((refine ⟨trivial, ?_⟩; gi_at_call 29; (with_reducible refine (callsIn_wide.2 (HT.out _)).mono ?_); rintro e wn ⟨rfl, hb⟩))
    refine hK.out _ _ ?_ (fun hHeld' => ?_)
    · exact ⟨hHeld.1.below hb hHeld.1.lt, hHeld.2.1.below hb hHeld.2.1.lt, hHeld.2.2.1.below hb hHeld.2.2.1.lt, (hHeld.2.2.2).trans (hb.mono (hHeld.2.2.2).size)⟩
    clear hK K
    change RestIn _ _ _ _ _ _ _ 5 #[true, true, true, true, true, false, false, false, false, false] _ _
    try simp only [Act.put, List.setIfInBounds_toArray, List.set_cons_zero, List.set_cons_succ, List.getElem_toArray, List.getElem_cons_zero, List.getElem_cons_succ]
    clear hHeld
    have hHeld := hHeld'
    clear hHeld'
    have hNow := (hHeld.2.2.2)
    refine rest_take (i := 5) (v := _) all_wide (noDefers_of (by kernel_rfl)) rfl (by kernel_rfl) (by kernel_rfl) (by kernel_rfl) (fun _ _ _ h => h) (Or.inl ⟨by rfl, by intro w hSw; clear hSw; go_simp; first | done | with_reducible rfl⟩) hHeld ?_
    change RestIn _ _ _ _ _ _ _ 4 #[true, true, true, true, true, true, false, false, false, false] _ _
    try simp only [Act.put, List.setIfInBounds_toArray, List.set_cons_zero, List.set_cons_succ, List.getElem_toArray, List.getElem_cons_zero, List.getElem_cons_succ]
    refine rest_take (i := 6) (v := _) all_wide (noDefers_of (by kernel_rfl)) rfl (by kernel_rfl) (by kernel_rfl) (by kernel_rfl) (fun _ _ _ h => h) (Or.inl ⟨by rfl, by intro w hSw; clear hSw; go_simp; first | done | with_reducible rfl⟩) hHeld ?_
    change RestIn _ _ _ _ _ _ _ 3 #[true, true, true, true, true, true, true, false, false, false] _ _
    try simp only [Act.put, List.setIfInBounds_toArray, List.set_cons_zero, List.set_cons_succ, List.getElem_toArray, List.getElem_cons_zero, List.getElem_cons_succ]
    refine rest_take (i := 7) (v := _) all_wide (noDefers_of (by kernel_rfl)) rfl (by kernel_rfl) (by kernel_rfl) (by kernel_rfl) (fun _ _ _ h => h) (Or.inl ⟨by rfl, by intro w hSw; clear hSw; go_simp; first | done | with_reducible rfl⟩) hHeld ?_
    change RestIn _ _ _ _ _ _ _ 2 #[true, true, true, true, true, true, true, true, false, false] _ _
    try simp only [Act.put, List.setIfInBounds_toArray, List.set_cons_zero, List.set_cons_succ, List.getElem_toArray, List.getElem_cons_zero, List.getElem_cons_succ]
    refine rest_take (i := 8) (v := _) all_wide (noDefers_of (by kernel_rfl)) rfl (by kernel_rfl) (by kernel_rfl) (by kernel_rfl) (fun _ _ _ h => h) (Or.inl ⟨by rfl, by intro w hSw; clear hSw; go_simp; first | done | with_reducible rfl⟩) hHeld ?_
    change RestIn _ _ _ _ _ _ _ 1 #[true, true, true, true, true, true, true, true, true, false] _ _
    try simp only [Act.put, List.setIfInBounds_toArray, List.set_cons_zero, List.set_cons_succ, List.getElem_toArray, List.getElem_cons_zero, List.getElem_cons_succ]
    refine rest_take (i := 9) (v := _) all_wide (noDefers_of (by kernel_rfl)) rfl (by kernel_rfl) (by kernel_rfl) (by kernel_rfl) (fun _ _ _ h => h) (Or.inl ⟨by rfl, by intro w hSw; clear hSw; go_simp; first | done | with_reducible rfl⟩) hHeld ?_
    change RestIn _ _ _ _ _ _ _ 0 #[true, true, true, true, true, true, true, true, true, true] _ _
    try simp only [Act.put, List.setIfInBounds_toArray, List.set_cons_zero, List.set_cons_succ, List.getElem_toArray, List.getElem_cons_zero, List.getElem_cons_succ]
    refine rest_done (by kernel_rfl) ?_
    clear hLast
    obtain ⟨kY1, kN1, kG1, hX⟩ := hHeld
    clear hNow
    have y0 := kY1.cell 0; have y1 := kY1.cell 1; have y2 := kY1.cell 2; have y3 := kY1.cell 3; have y4 := kY1.cell 4; have y5 := kY1.cell 5; have y6 := kY1.cell 6; have y7 := kY1.cell 7; have y8 := kY1.cell 8; simp at y0 y1 y2 y3 y4 y5 y6 y7 y8
    have r0 := kG1.cell 0; have r1 := kG1.cell 1; simp at r0 r1
    go_wp2_with (first | (go_at_call 21; (with_reducible refine (HRY.out _).mono ?_); rintro e w1 ⟨rfl, hb1⟩; have kY2 := kY1.below hb1 kY1.lt; have kN2 := kN1.below hb1 kN1.lt; have kG2 := kG1.below hb1 kG1.lt; have hX2 := sh_next hX hb1; have n0 := kN2.cell 0; have n1 := kN2.cell 1; have n2 := kN2.cell 2; simp at n0 n1 n2; have s0 := kG2.cell 0; have s1 := kG2.cell 1; simp at s0 s1) | (go_at_call 15; refine (wakes_any _).mono ?_; rintro e w2 ⟨rfl, hb2⟩))
    go_ret
    exact ⟨rfl, HB0.out.trans ((sh_next hX2 hb2).mono HB0.out.size)⟩
set_option linter.unusedSimpArgs false in
set_option maxRecDepth 100000 in
set_option maxHeartbeats 16000000 in
theorem lands_1 (f : Fly) (n : Net) (w : World) (hfy : f.ok = true) (hnk : n.ok = false) :
    Calls Try.prog 4 #[.agg #[.int .i64 f.pos.x.lo, .int .i64 f.pos.x.hi, .int .i64 f.pos.z.lo, .int .i64 f.pos.z.hi, .int .i64 f.speed.x.lo, .int .i64 f.speed.x.hi, .int .i64 f.speed.z.lo, .int .i64 f.speed.z.hi, .int .i64 f.mass], .agg #[.int .i64 n.x.lo, .int .i64 n.x.hi, .int .i64 n.height]] w fun e w' => e = .returned (.bool true) ∧ Below w.heap.size w w' := by
  have hB0 := ((Below.refl w.heap.size w).alloc (Nat.le_refl _) (.cells #[.int .i64 f.pos.x.lo, .int .i64 f.pos.x.hi, .int .i64 f.pos.z.lo, .int .i64 f.pos.z.hi, .int .i64 f.speed.x.lo, .int .i64 f.speed.x.hi, .int .i64 f.speed.z.lo, .int .i64 f.speed.z.hi, .int .i64 f.mass] 27)).alloc (by simp) (.cells #[.int .i64 n.x.lo, .int .i64 n.x.hi, .int .i64 n.height] 60)
  have kY0 := (Blk.new w 27 #[.int .i64 f.pos.x.lo, .int .i64 f.pos.x.hi, .int .i64 f.pos.z.lo, .int .i64 f.pos.z.hi, .int .i64 f.speed.x.lo, .int .i64 f.speed.x.hi, .int .i64 f.speed.z.lo, .int .i64 f.speed.z.hi, .int .i64 f.mass]).alloc (.cells #[.int .i64 n.x.lo, .int .i64 n.x.hi, .int .i64 n.height] 60)
  have kN0 := Blk.new (w.alloc (.cells #[.int .i64 f.pos.x.lo, .int .i64 f.pos.x.hi, .int .i64 f.pos.z.lo, .int .i64 f.pos.z.hi, .int .i64 f.speed.x.lo, .int .i64 f.speed.x.hi, .int .i64 f.speed.z.lo, .int .i64 f.speed.z.hi, .int .i64 f.mass] 27)) 60 #[.int .i64 n.x.lo, .int .i64 n.x.hi, .int .i64 n.height]
  simp only [World.size_alloc] at kN0
  have hbad : (f.ok && n.ok) = false := by rw [hfy, hnk]; rfl
  have HL : Hid (∀ W : World, Calls Try.prog 27 #[.agg #[.int .i64 f.pos.x.lo, .int .i64 f.pos.x.hi, .int .i64 f.pos.z.lo, .int .i64 f.pos.z.hi, .int .i64 f.speed.x.lo, .int .i64 f.speed.x.hi, .int .i64 f.speed.z.lo, .int .i64 f.speed.z.hi, .int .i64 f.mass], .agg #[.int .i64 n.x.lo, .int .i64 n.x.hi, .int .i64 n.height]] W fun e w' => e = .returned (.tuple #[.agg #[.int .i64 0, .int .i64 0], .int .i64 1]) ∧ Below W.heap.size W w') := fun W => Landing_bad f n W hbad
  have HT : Hid (∀ W : World, Calls Try.prog 29 #[.agg #[.int .i64 f.pos.x.lo, .int .i64 f.pos.x.hi, .int .i64 f.pos.z.lo, .int .i64 f.pos.z.hi, .int .i64 f.speed.x.lo, .int .i64 f.speed.x.hi, .int .i64 f.speed.z.lo, .int .i64 f.speed.z.hi, .int .i64 f.mass], .agg #[.int .i64 n.x.lo, .int .i64 n.x.hi, .int .i64 n.height]] W fun e w' => e = .returned (.tuple #[.bool false, .int .i64 1]) ∧ Below W.heap.size W w') := fun W => Takes_bad f n W hbad
  clear hbad
  have hEq : ∀ W : World, (binOp .eql 35 (.agg #[.int .i64 0, .int .i64 0]) (.agg #[.int .i64 0, .int .i64 0])).run Try.prog W = .ok (.bool true) W := fun W => by rw [eqR]; simp
  have HRY : Hid (∀ W : World, Calls Try.prog 21 #[.agg #[.int .i64 f.pos.x.lo, .int .i64 f.pos.x.hi, .int .i64 f.pos.z.lo, .int .i64 f.pos.z.hi, .int .i64 f.speed.x.lo, .int .i64 f.speed.x.hi, .int .i64 f.speed.z.lo, .int .i64 f.speed.z.hi, .int .i64 f.mass]] W fun e w' => e = .returned (.bool true) ∧ Below W.heap.size W w') := fun W => by rw [← hfy]; exact rightFlyer_any f W
  have HRN : Hid (∀ W : World, Calls Try.prog 30 #[.agg #[.int .i64 n.x.lo, .int .i64 n.x.hi, .int .i64 n.height]] W fun e w' => e = .returned (.bool false) ∧ Below W.heap.size W w') := fun W => by rw [← hnk]; exact rightNet_any n W
  clear hfy hnk
  have hmx : Try.prog.follows .mixedOrders = true := by kernel_rfl
  go_enter Try.func4, Try.ntmps4
  go_upto_region 1 with fail
  refine name_world (motive := fun W => Code.wp _ _ _ _ W) _ ?_
  intro W0 hW
  have hWc := hW.cell
  have hWz := hW.size
  have hWb := hW.below (hB0)
  have kY := hW.blk kY0
  have kN := hW.blk kN0
  have HB0 := Lib.hid hWb
  clear hB0 kY0 kN0 hW hWc hWz hWb
  go_cut [5, 6] (fun s5 s6 wx => ∃ g : Nat, s5 = .pointer (some ⟨g, 0, none⟩) ∧ s6 = .int .i64 1 ∧ Blk wx g 35 #[.int .i64 0, .int .i64 0] ∧ Below W0.heap.size W0 wx)
  case first =>
    refine (wpIn_wide (n := 9)).1 ?_
    have hLast := trivial
    refine region_rest (S := (fun w' => Blk w' (w.heap.size) 27 #[.int .i64 f.pos.x.lo, .int .i64 f.pos.x.hi, .int .i64 f.pos.z.lo, .int .i64 f.pos.z.hi, .int .i64 f.speed.x.lo, .int .i64 f.speed.x.hi, .int .i64 f.speed.z.lo, .int .i64 f.speed.z.hi, .int .i64 f.mass] ∧ Blk w' (w.heap.size + 1) 60 #[.int .i64 n.x.lo, .int .i64 n.x.hi, .int .i64 n.height] ∧ Below W0.heap.size W0 w')) hmx ?_ (fun hHeld => ?_)
    · exact ⟨kY.drew, kN.drew, (Below.refl W0.heap.size W0).drew⟩
    change RestIn _ _ _ _ _ _ _ 11 #[false, false, false, false, false, false, false, false, false, false, false] _ (World.drew _)
    refine rest_take (i := 0) (v := _) all_wide (noDefers_of (by kernel_rfl)) rfl (by kernel_rfl) (by kernel_rfl) (by kernel_rfl) (fun _ _ _ h => h) (Or.inl ⟨by rfl, by intro w hSw; (obtain ⟨q0, q1, _⟩ := hSw; have q0x0 := q0.cell 0; have q0x1 := q0.cell 1; have q0x2 := q0.cell 2; have q0x3 := q0.cell 3; have q0x4 := q0.cell 4; have q0x5 := q0.cell 5; have q0x6 := q0.cell 6; have q0x7 := q0.cell 7; have q0x8 := q0.cell 8; have q1x0 := q1.cell 0; have q1x1 := q1.cell 1; have q1x2 := q1.cell 2; simp at q0x0 q0x1 q0x2 q0x3 q0x4 q0x5 q0x6 q0x7 q0x8 q1x0 q1x1 q1x2); go_simp; first | done | with_reducible rfl⟩) hHeld ?_
    change RestIn _ _ _ _ _ _ _ 10 #[true, false, false, false, false, false, false, false, false, false, false] _ _
    try simp only [Act.put, List.setIfInBounds_toArray, List.set_cons_zero, List.set_cons_succ, List.getElem_toArray, List.getElem_cons_zero, List.getElem_cons_succ]
    refine rest_take (i := 2) (v := _) all_wide (noDefers_of (by kernel_rfl)) rfl (by kernel_rfl) (by kernel_rfl) (by kernel_rfl) (fun _ _ _ h => h) (Or.inl ⟨by rfl, by intro w hSw; (obtain ⟨q0, q1, _⟩ := hSw; have q0x0 := q0.cell 0; have q0x1 := q0.cell 1; have q0x2 := q0.cell 2; have q0x3 := q0.cell 3; have q0x4 := q0.cell 4; have q0x5 := q0.cell 5; have q0x6 := q0.cell 6; have q0x7 := q0.cell 7; have q0x8 := q0.cell 8; have q1x0 := q1.cell 0; have q1x1 := q1.cell 1; have q1x2 := q1.cell 2; simp at q0x0 q0x1 q0x2 q0x3 q0x4 q0x5 q0x6 q0x7 q0x8 q1x0 q1x1 q1x2); go_simp; first | done | with_reducible rfl⟩) hHeld ?_
    change RestIn _ _ _ _ _ _ _ 9 #[true, false, true, false, false, false, false, false, false, false, false] _ _
    try simp only [Act.put, List.setIfInBounds_toArray, List.set_cons_zero, List.set_cons_succ, List.getElem_toArray, List.getElem_cons_zero, List.getElem_cons_succ]
    refine rest_ready (rs := [1, 8]) (by kernel_rfl) (by simp) ?_
    refine AllRest.cons rfl (fun K hK => ?_) ?_
    · have hNow := (hHeld.2.2)
      clear hLast
      have hLast := hNow
      go_simp
      gi_wp2_with ((refine ⟨trivial, ?_⟩; gi_at_call 17; (with_reducible refine (callsIn_wide.2 (lawFlyer_any _ _)).mono ?_); rintro e wn ⟨rfl, hb⟩))
      refine hK.out _ _ ?_ (fun hHeld' => ?_)
      · exact ⟨hHeld.1.below hb hHeld.1.lt, hHeld.2.1.below hb hHeld.2.1.lt, (hHeld.2.2).trans (hb.mono (hHeld.2.2).size)⟩
      clear hK K
      change RestIn _ _ _ _ _ _ _ 8 #[true, true, true, false, false, false, false, false, false, false, false] _ _
      try simp only [Act.put, List.setIfInBounds_toArray, List.set_cons_zero, List.set_cons_succ, List.getElem_toArray, List.getElem_cons_zero, List.getElem_cons_succ]
      clear hHeld
      have hHeld := hHeld'
      clear hHeld'
      have hNow := (hHeld.2.2)
      try have kG := kG.below hb kG.lt
      refine rest_ready (rs := [3, 8]) (by kernel_rfl) (by simp) ?_
      refine AllRest.cons rfl (fun K hK => ?_) ?_
      · have hNow := (hHeld.2.2)
        clear hLast
        have hLast := hNow
        go_simp
        gi_wp2_with ((refine ⟨trivial, ?_⟩; gi_at_call 28; (with_reducible refine (callsIn_wide.2 (lawNet_any _ _)).mono ?_); rintro e wn ⟨rfl, hb⟩))
        refine hK.out _ _ ?_ (fun hHeld' => ?_)
        · exact ⟨hHeld.1.below hb hHeld.1.lt, hHeld.2.1.below hb hHeld.2.1.lt, (hHeld.2.2).trans (hb.mono (hHeld.2.2).size)⟩
        clear hK K
        change RestIn _ _ _ _ _ _ _ 7 #[true, true, true, true, false, false, false, false, false, false, false] _ _
        try simp only [Act.put, List.setIfInBounds_toArray, List.set_cons_zero, List.set_cons_succ, List.getElem_toArray, List.getElem_cons_zero, List.getElem_cons_succ]
        clear hHeld
        have hHeld := hHeld'
        clear hHeld'
        have hNow := (hHeld.2.2)
        try have kG := kG.below hb kG.lt
        refine rest_ready (rs := [4, 8]) (by kernel_rfl) (by simp) ?_
        refine AllRest.cons rfl (fun K hK => ?_) ?_
        · have hNow := (hHeld.2.2)
          clear hLast
          have hLast := hNow
          go_simp
          gi_wp2_with ((refine ⟨trivial, ?_⟩; gi_at_call 27; (with_reducible refine (callsIn_wide.2 (HL.out _)).mono ?_); rintro e wn ⟨rfl, hb⟩))
          refine hK.out _ _ ?_ (fun hHeld' => ?_)
          · exact ⟨hHeld.1.below hb hHeld.1.lt, hHeld.2.1.below hb hHeld.2.1.lt, (hHeld.2.2).trans (hb.mono (hHeld.2.2).size)⟩
          clear hK K
          change RestIn _ _ _ _ _ _ _ 6 #[true, true, true, true, true, false, false, false, false, false, false] _ _
          try simp only [Act.put, List.setIfInBounds_toArray, List.set_cons_zero, List.set_cons_succ, List.getElem_toArray, List.getElem_cons_zero, List.getElem_cons_succ]
          clear hHeld
          have hHeld := hHeld'
          clear hHeld'
          have hNow := (hHeld.2.2)
          try have kG := kG.below hb kG.lt
          refine rest_take (i := 5) (v := _) all_wide (noDefers_of (by kernel_rfl)) rfl (by kernel_rfl) (by kernel_rfl) (by kernel_rfl) (fun _ _ _ h => h) (Or.inl ⟨by rfl, by intro w hSw; clear hSw; go_simp; first | done | with_reducible rfl⟩) hHeld ?_
          change RestIn _ _ _ _ _ _ _ 5 #[true, true, true, true, true, true, false, false, false, false, false] _ _
          try simp only [Act.put, List.setIfInBounds_toArray, List.set_cons_zero, List.set_cons_succ, List.getElem_toArray, List.getElem_cons_zero, List.getElem_cons_succ]
          refine rest_take (i := 6) (v := _) all_wide (noDefers_of (by kernel_rfl)) rfl (by kernel_rfl) (by kernel_rfl) (by kernel_rfl) (fun _ _ _ h => h) (Or.inl ⟨by rfl, by intro w hSw; clear hSw; go_simp; first | done | with_reducible rfl⟩) hHeld ?_
          change RestIn _ _ _ _ _ _ _ 4 #[true, true, true, true, true, true, true, false, false, false, false] _ _
          try simp only [Act.put, List.setIfInBounds_toArray, List.set_cons_zero, List.set_cons_succ, List.getElem_toArray, List.getElem_cons_zero, List.getElem_cons_succ]
          refine rest_take (i := 7) (v := _) all_wide (noDefers_of (by kernel_rfl)) rfl (by kernel_rfl) (by kernel_rfl) (by kernel_rfl) (fun _ _ _ h => h) (Or.inl ⟨by rfl, by intro w hSw; clear hSw; go_simp; first | done | with_reducible rfl⟩) hHeld ?_
          change RestIn _ _ _ _ _ _ _ 3 #[true, true, true, true, true, true, true, true, false, false, false] _ _
          try simp only [Act.put, List.setIfInBounds_toArray, List.set_cons_zero, List.set_cons_succ, List.getElem_toArray, List.getElem_cons_zero, List.getElem_cons_succ]
          refine rest_ready (rs := [8]) (by kernel_rfl) (by simp) ?_
          refine AllRest.cons rfl (fun K hK => ?_) AllRest.nil
          have kGg := (hHeld.2.2).size
          have kG := blk_new_of (hHeld.2.2) 35 #[.int .i64 0, .int .i64 0]
          have hOld := (hHeld.2.2)
          go_simp
          refine hK.out _ _ ?_ (fun hHeld' => ?_)
          · exact (fun (hbel : Below W0.heap.size W0 _) => ⟨kY.below hbel kY.lt, kN.below hbel kN.lt, hbel⟩) ((hHeld.2.2).alloc (hHeld.2.2).size _)
          clear hK K
          change RestIn _ _ _ _ _ _ _ 2 #[true, true, true, true, true, true, true, true, true, false, false] _ _
          try simp only [Act.put, List.setIfInBounds_toArray, List.set_cons_zero, List.set_cons_succ, List.getElem_toArray, List.getElem_cons_zero, List.getElem_cons_succ]
          clear hHeld
          have hHeld := hHeld'
          clear hHeld'
          have hNow := (hHeld.2.2)
          try simp at kGg
          refine rest_ready (rs := [9]) (by kernel_rfl) (by simp) ?_
          refine AllRest.cons rfl (fun K hK => ?_) AllRest.nil
          have kGc0 := kG.cell 0
          have kGc1 := kG.cell 1
          have kGf0 := kG.frozen 0
          have kGf1 := kG.frozen 1
          have kGl := kG.lt
          try simp at kGc0
          try simp at kGc1
          try simp at kGf0
          try simp at kGf1
          try simp at kGl
          have hNow := (hHeld.2.2)
          go_simp
          refine hK.out _ _ ?_ (fun hHeld' => ?_)
          · (refine (fun (hbel : Below W0.heap.size W0 _) => ⟨kY.below hbel kY.lt, kN.below hbel kN.lt, hbel⟩) ?_; repeat' (first | with_reducible exact hNow | with_reducible exact hOld | with_reducible refine Below.setCell ?_ (by (try simp) <;> omega) _ | with_reducible refine Below.alloc ?_ (by (try simp) <;> omega) _))
          clear hK K
          change RestIn _ _ _ _ _ _ _ 1 #[true, true, true, true, true, true, true, true, true, true, false] _ _
          try simp only [Act.put, List.setIfInBounds_toArray, List.set_cons_zero, List.set_cons_succ, List.getElem_toArray, List.getElem_cons_zero, List.getElem_cons_succ]
          clear hHeld
          have hHeld := hHeld'
          clear hHeld'
          have hNow := (hHeld.2.2)
          refine rest_take (i := 10) (v := _) all_wide (noDefers_of (by kernel_rfl)) rfl (by kernel_rfl) (by kernel_rfl) (by kernel_rfl) (fun _ _ _ h => h) (Or.inl ⟨by rfl, by intro w hSw; clear hSw; go_simp; first | done | with_reducible rfl⟩) hHeld ?_
          change RestIn _ _ _ _ _ _ _ 0 #[true, true, true, true, true, true, true, true, true, true, true] _ _
          try simp only [Act.put, List.setIfInBounds_toArray, List.set_cons_zero, List.set_cons_succ, List.getElem_toArray, List.getElem_cons_zero, List.getElem_cons_succ]
          refine rest_done (by kernel_rfl) ?_
          go_wp2_with fail
          go_meet
          first | exact ⟨_, rfl, rfl, (kG.set_ 0 (.int .i64 0)).set_ 1 (.int .i64 0), hNow⟩ | exact ⟨_, rfl, rfl, Blk.new _ _ _, hNow⟩
        refine AllRest.cons rfl (fun K hK => ?_) ?_
        · have kGg := (hHeld.2.2).size
          have kG := blk_new_of (hHeld.2.2) 35 #[.int .i64 0, .int .i64 0]
          have hOld := (hHeld.2.2)
          go_simp
          refine hK.out _ _ ?_ (fun hHeld' => ?_)
          · exact (fun (hbel : Below W0.heap.size W0 _) => ⟨kY.below hbel kY.lt, kN.below hbel kN.lt, hbel⟩) ((hHeld.2.2).alloc (hHeld.2.2).size _)
          clear hK K
          change RestIn _ _ _ _ _ _ _ 6 #[true, true, true, true, false, false, false, false, true, false, false] _ _
          try simp only [Act.put, List.setIfInBounds_toArray, List.set_cons_zero, List.set_cons_succ, List.getElem_toArray, List.getElem_cons_zero, List.getElem_cons_succ]
          clear hHeld
          have hHeld := hHeld'
          clear hHeld'
          have hNow := (hHeld.2.2)
          try simp at kGg
          refine rest_ready (rs := [4]) (by kernel_rfl) (by simp) ?_
          refine AllRest.cons rfl (fun K hK => ?_) AllRest.nil
          have hNow := (hHeld.2.2)
          clear hLast
          have hLast := hNow
          go_simp
          gi_wp2_with ((refine ⟨trivial, ?_⟩; gi_at_call 27; (with_reducible refine (callsIn_wide.2 (HL.out _)).mono ?_); rintro e wn ⟨rfl, hb⟩))
          refine hK.out _ _ ?_ (fun hHeld' => ?_)
          · exact ⟨hHeld.1.below hb hHeld.1.lt, hHeld.2.1.below hb hHeld.2.1.lt, (hHeld.2.2).trans (hb.mono (hHeld.2.2).size)⟩
          clear hK K
          change RestIn _ _ _ _ _ _ _ 5 #[true, true, true, true, true, false, false, false, true, false, false] _ _
          try simp only [Act.put, List.setIfInBounds_toArray, List.set_cons_zero, List.set_cons_succ, List.getElem_toArray, List.getElem_cons_zero, List.getElem_cons_succ]
          clear hHeld
          have hHeld := hHeld'
          clear hHeld'
          have hNow := (hHeld.2.2)
          try have kG := kG.below hb kG.lt
          refine rest_take (i := 5) (v := _) all_wide (noDefers_of (by kernel_rfl)) rfl (by kernel_rfl) (by kernel_rfl) (by kernel_rfl) (fun _ _ _ h => h) (Or.inl ⟨by rfl, by intro w hSw; clear hSw; go_simp; first | done | with_reducible rfl⟩) hHeld ?_
          change RestIn _ _ _ _ _ _ _ 4 #[true, true, true, true, true, true, false, false, true, false, false] _ _
          try simp only [Act.put, List.setIfInBounds_toArray, List.set_cons_zero, List.set_cons_succ, List.getElem_toArray, List.getElem_cons_zero, List.getElem_cons_succ]
          refine rest_take (i := 6) (v := _) all_wide (noDefers_of (by kernel_rfl)) rfl (by kernel_rfl) (by kernel_rfl) (by kernel_rfl) (fun _ _ _ h => h) (Or.inl ⟨by rfl, by intro w hSw; clear hSw; go_simp; first | done | with_reducible rfl⟩) hHeld ?_
          change RestIn _ _ _ _ _ _ _ 3 #[true, true, true, true, true, true, true, false, true, false, false] _ _
          try simp only [Act.put, List.setIfInBounds_toArray, List.set_cons_zero, List.set_cons_succ, List.getElem_toArray, List.getElem_cons_zero, List.getElem_cons_succ]
          refine rest_take (i := 7) (v := _) all_wide (noDefers_of (by kernel_rfl)) rfl (by kernel_rfl) (by kernel_rfl) (by kernel_rfl) (fun _ _ _ h => h) (Or.inl ⟨by rfl, by intro w hSw; clear hSw; go_simp; first | done | with_reducible rfl⟩) hHeld ?_
          change RestIn _ _ _ _ _ _ _ 2 #[true, true, true, true, true, true, true, true, true, false, false] _ _
          try simp only [Act.put, List.setIfInBounds_toArray, List.set_cons_zero, List.set_cons_succ, List.getElem_toArray, List.getElem_cons_zero, List.getElem_cons_succ]
          refine rest_ready (rs := [9]) (by kernel_rfl) (by simp) ?_
          refine AllRest.cons rfl (fun K hK => ?_) AllRest.nil
          have kGc0 := kG.cell 0
          have kGc1 := kG.cell 1
          have kGf0 := kG.frozen 0
          have kGf1 := kG.frozen 1
          have kGl := kG.lt
          try simp at kGc0
          try simp at kGc1
          try simp at kGf0
          try simp at kGf1
          try simp at kGl
          have hNow := (hHeld.2.2)
          go_simp
          refine hK.out _ _ ?_ (fun hHeld' => ?_)
          · (refine (fun (hbel : Below W0.heap.size W0 _) => ⟨kY.below hbel kY.lt, kN.below hbel kN.lt, hbel⟩) ?_; repeat' (first | with_reducible exact hNow | with_reducible exact hOld | with_reducible refine Below.setCell ?_ (by (try simp) <;> omega) _ | with_reducible refine Below.alloc ?_ (by (try simp) <;> omega) _))
          clear hK K
          change RestIn _ _ _ _ _ _ _ 1 #[true, true, true, true, true, true, true, true, true, true, false] _ _
          try simp only [Act.put, List.setIfInBounds_toArray, List.set_cons_zero, List.set_cons_succ, List.getElem_toArray, List.getElem_cons_zero, List.getElem_cons_succ]
          clear hHeld
          have hHeld := hHeld'
          clear hHeld'
          have hNow := (hHeld.2.2)
          refine rest_take (i := 10) (v := _) all_wide (noDefers_of (by kernel_rfl)) rfl (by kernel_rfl) (by kernel_rfl) (by kernel_rfl) (fun _ _ _ h => h) (Or.inl ⟨by rfl, by intro w hSw; clear hSw; go_simp; first | done | with_reducible rfl⟩) hHeld ?_
          change RestIn _ _ _ _ _ _ _ 0 #[true, true, true, true, true, true, true, true, true, true, true] _ _
          try simp only [Act.put, List.setIfInBounds_toArray, List.set_cons_zero, List.set_cons_succ, List.getElem_toArray, List.getElem_cons_zero, List.getElem_cons_succ]
          refine rest_done (by kernel_rfl) ?_
          go_wp2_with fail
          go_meet
          first | exact ⟨_, rfl, rfl, (kG.set_ 0 (.int .i64 0)).set_ 1 (.int .i64 0), hNow⟩ | exact ⟨_, rfl, rfl, Blk.new _ _ _, hNow⟩
        exact AllRest.nil
      refine AllRest.cons rfl (fun K hK => ?_) ?_
      · have kGg := (hHeld.2.2).size
        have kG := blk_new_of (hHeld.2.2) 35 #[.int .i64 0, .int .i64 0]
        have hOld := (hHeld.2.2)
        go_simp
        refine hK.out _ _ ?_ (fun hHeld' => ?_)
        · exact (fun (hbel : Below W0.heap.size W0 _) => ⟨kY.below hbel kY.lt, kN.below hbel kN.lt, hbel⟩) ((hHeld.2.2).alloc (hHeld.2.2).size _)
        clear hK K
        change RestIn _ _ _ _ _ _ _ 7 #[true, true, true, false, false, false, false, false, true, false, false] _ _
        try simp only [Act.put, List.setIfInBounds_toArray, List.set_cons_zero, List.set_cons_succ, List.getElem_toArray, List.getElem_cons_zero, List.getElem_cons_succ]
        clear hHeld
        have hHeld := hHeld'
        clear hHeld'
        have hNow := (hHeld.2.2)
        try simp at kGg
        refine rest_ready (rs := [3]) (by kernel_rfl) (by simp) ?_
        refine AllRest.cons rfl (fun K hK => ?_) AllRest.nil
        have hNow := (hHeld.2.2)
        clear hLast
        have hLast := hNow
        go_simp
        gi_wp2_with ((refine ⟨trivial, ?_⟩; gi_at_call 28; (with_reducible refine (callsIn_wide.2 (lawNet_any _ _)).mono ?_); rintro e wn ⟨rfl, hb⟩))
        refine hK.out _ _ ?_ (fun hHeld' => ?_)
        · exact ⟨hHeld.1.below hb hHeld.1.lt, hHeld.2.1.below hb hHeld.2.1.lt, (hHeld.2.2).trans (hb.mono (hHeld.2.2).size)⟩
        clear hK K
        change RestIn _ _ _ _ _ _ _ 6 #[true, true, true, true, false, false, false, false, true, false, false] _ _
        try simp only [Act.put, List.setIfInBounds_toArray, List.set_cons_zero, List.set_cons_succ, List.getElem_toArray, List.getElem_cons_zero, List.getElem_cons_succ]
        clear hHeld
        have hHeld := hHeld'
        clear hHeld'
        have hNow := (hHeld.2.2)
        try have kG := kG.below hb kG.lt
        refine rest_ready (rs := [4]) (by kernel_rfl) (by simp) ?_
        refine AllRest.cons rfl (fun K hK => ?_) AllRest.nil
        have hNow := (hHeld.2.2)
        clear hLast
        have hLast := hNow
        go_simp
        gi_wp2_with ((refine ⟨trivial, ?_⟩; gi_at_call 27; (with_reducible refine (callsIn_wide.2 (HL.out _)).mono ?_); rintro e wn ⟨rfl, hb⟩))
        refine hK.out _ _ ?_ (fun hHeld' => ?_)
        · exact ⟨hHeld.1.below hb hHeld.1.lt, hHeld.2.1.below hb hHeld.2.1.lt, (hHeld.2.2).trans (hb.mono (hHeld.2.2).size)⟩
        clear hK K
        change RestIn _ _ _ _ _ _ _ 5 #[true, true, true, true, true, false, false, false, true, false, false] _ _
        try simp only [Act.put, List.setIfInBounds_toArray, List.set_cons_zero, List.set_cons_succ, List.getElem_toArray, List.getElem_cons_zero, List.getElem_cons_succ]
        clear hHeld
        have hHeld := hHeld'
        clear hHeld'
        have hNow := (hHeld.2.2)
        try have kG := kG.below hb kG.lt
        refine rest_take (i := 5) (v := _) all_wide (noDefers_of (by kernel_rfl)) rfl (by kernel_rfl) (by kernel_rfl) (by kernel_rfl) (fun _ _ _ h => h) (Or.inl ⟨by rfl, by intro w hSw; clear hSw; go_simp; first | done | with_reducible rfl⟩) hHeld ?_
        change RestIn _ _ _ _ _ _ _ 4 #[true, true, true, true, true, true, false, false, true, false, false] _ _
        try simp only [Act.put, List.setIfInBounds_toArray, List.set_cons_zero, List.set_cons_succ, List.getElem_toArray, List.getElem_cons_zero, List.getElem_cons_succ]
        refine rest_take (i := 6) (v := _) all_wide (noDefers_of (by kernel_rfl)) rfl (by kernel_rfl) (by kernel_rfl) (by kernel_rfl) (fun _ _ _ h => h) (Or.inl ⟨by rfl, by intro w hSw; clear hSw; go_simp; first | done | with_reducible rfl⟩) hHeld ?_
        change RestIn _ _ _ _ _ _ _ 3 #[true, true, true, true, true, true, true, false, true, false, false] _ _
        try simp only [Act.put, List.setIfInBounds_toArray, List.set_cons_zero, List.set_cons_succ, List.getElem_toArray, List.getElem_cons_zero, List.getElem_cons_succ]
        refine rest_take (i := 7) (v := _) all_wide (noDefers_of (by kernel_rfl)) rfl (by kernel_rfl) (by kernel_rfl) (by kernel_rfl) (fun _ _ _ h => h) (Or.inl ⟨by rfl, by intro w hSw; clear hSw; go_simp; first | done | with_reducible rfl⟩) hHeld ?_
        change RestIn _ _ _ _ _ _ _ 2 #[true, true, true, true, true, true, true, true, true, false, false] _ _
        try simp only [Act.put, List.setIfInBounds_toArray, List.set_cons_zero, List.set_cons_succ, List.getElem_toArray, List.getElem_cons_zero, List.getElem_cons_succ]
        refine rest_ready (rs := [9]) (by kernel_rfl) (by simp) ?_
        refine AllRest.cons rfl (fun K hK => ?_) AllRest.nil
        have kGc0 := kG.cell 0
        have kGc1 := kG.cell 1
        have kGf0 := kG.frozen 0
        have kGf1 := kG.frozen 1
        have kGl := kG.lt
        try simp at kGc0
        try simp at kGc1
        try simp at kGf0
        try simp at kGf1
        try simp at kGl
        have hNow := (hHeld.2.2)
        go_simp
        refine hK.out _ _ ?_ (fun hHeld' => ?_)
        · (refine (fun (hbel : Below W0.heap.size W0 _) => ⟨kY.below hbel kY.lt, kN.below hbel kN.lt, hbel⟩) ?_; repeat' (first | with_reducible exact hNow | with_reducible exact hOld | with_reducible refine Below.setCell ?_ (by (try simp) <;> omega) _ | with_reducible refine Below.alloc ?_ (by (try simp) <;> omega) _))
        clear hK K
        change RestIn _ _ _ _ _ _ _ 1 #[true, true, true, true, true, true, true, true, true, true, false] _ _
        try simp only [Act.put, List.setIfInBounds_toArray, List.set_cons_zero, List.set_cons_succ, List.getElem_toArray, List.getElem_cons_zero, List.getElem_cons_succ]
        clear hHeld
        have hHeld := hHeld'
        clear hHeld'
        have hNow := (hHeld.2.2)
        refine rest_take (i := 10) (v := _) all_wide (noDefers_of (by kernel_rfl)) rfl (by kernel_rfl) (by kernel_rfl) (by kernel_rfl) (fun _ _ _ h => h) (Or.inl ⟨by rfl, by intro w hSw; clear hSw; go_simp; first | done | with_reducible rfl⟩) hHeld ?_
        change RestIn _ _ _ _ _ _ _ 0 #[true, true, true, true, true, true, true, true, true, true, true] _ _
        try simp only [Act.put, List.setIfInBounds_toArray, List.set_cons_zero, List.set_cons_succ, List.getElem_toArray, List.getElem_cons_zero, List.getElem_cons_succ]
        refine rest_done (by kernel_rfl) ?_
        go_wp2_with fail
        go_meet
        first | exact ⟨_, rfl, rfl, (kG.set_ 0 (.int .i64 0)).set_ 1 (.int .i64 0), hNow⟩ | exact ⟨_, rfl, rfl, Blk.new _ _ _, hNow⟩
      exact AllRest.nil
    refine AllRest.cons rfl (fun K hK => ?_) ?_
    · have kGg := (hHeld.2.2).size
      have kG := blk_new_of (hHeld.2.2) 35 #[.int .i64 0, .int .i64 0]
      have hOld := (hHeld.2.2)
      go_simp
      refine hK.out _ _ ?_ (fun hHeld' => ?_)
      · exact (fun (hbel : Below W0.heap.size W0 _) => ⟨kY.below hbel kY.lt, kN.below hbel kN.lt, hbel⟩) ((hHeld.2.2).alloc (hHeld.2.2).size _)
      clear hK K
      change RestIn _ _ _ _ _ _ _ 8 #[true, false, true, false, false, false, false, false, true, false, false] _ _
      try simp only [Act.put, List.setIfInBounds_toArray, List.set_cons_zero, List.set_cons_succ, List.getElem_toArray, List.getElem_cons_zero, List.getElem_cons_succ]
      clear hHeld
      have hHeld := hHeld'
      clear hHeld'
      have hNow := (hHeld.2.2)
      try simp at kGg
      refine rest_ready (rs := [1]) (by kernel_rfl) (by simp) ?_
      refine AllRest.cons rfl (fun K hK => ?_) AllRest.nil
      have hNow := (hHeld.2.2)
      clear hLast
      have hLast := hNow
      go_simp
      gi_wp2_with ((refine ⟨trivial, ?_⟩; gi_at_call 17; (with_reducible refine (callsIn_wide.2 (lawFlyer_any _ _)).mono ?_); rintro e wn ⟨rfl, hb⟩))
      refine hK.out _ _ ?_ (fun hHeld' => ?_)
      · exact ⟨hHeld.1.below hb hHeld.1.lt, hHeld.2.1.below hb hHeld.2.1.lt, (hHeld.2.2).trans (hb.mono (hHeld.2.2).size)⟩
      clear hK K
      change RestIn _ _ _ _ _ _ _ 7 #[true, true, true, false, false, false, false, false, true, false, false] _ _
      try simp only [Act.put, List.setIfInBounds_toArray, List.set_cons_zero, List.set_cons_succ, List.getElem_toArray, List.getElem_cons_zero, List.getElem_cons_succ]
      clear hHeld
      have hHeld := hHeld'
      clear hHeld'
      have hNow := (hHeld.2.2)
      try have kG := kG.below hb kG.lt
      refine rest_ready (rs := [3]) (by kernel_rfl) (by simp) ?_
      refine AllRest.cons rfl (fun K hK => ?_) AllRest.nil
      have hNow := (hHeld.2.2)
      clear hLast
      have hLast := hNow
      go_simp
      gi_wp2_with ((refine ⟨trivial, ?_⟩; gi_at_call 28; (with_reducible refine (callsIn_wide.2 (lawNet_any _ _)).mono ?_); rintro e wn ⟨rfl, hb⟩))
      refine hK.out _ _ ?_ (fun hHeld' => ?_)
      · exact ⟨hHeld.1.below hb hHeld.1.lt, hHeld.2.1.below hb hHeld.2.1.lt, (hHeld.2.2).trans (hb.mono (hHeld.2.2).size)⟩
      clear hK K
      change RestIn _ _ _ _ _ _ _ 6 #[true, true, true, true, false, false, false, false, true, false, false] _ _
      try simp only [Act.put, List.setIfInBounds_toArray, List.set_cons_zero, List.set_cons_succ, List.getElem_toArray, List.getElem_cons_zero, List.getElem_cons_succ]
      clear hHeld
      have hHeld := hHeld'
      clear hHeld'
      have hNow := (hHeld.2.2)
      try have kG := kG.below hb kG.lt
      refine rest_ready (rs := [4]) (by kernel_rfl) (by simp) ?_
      refine AllRest.cons rfl (fun K hK => ?_) AllRest.nil
      have hNow := (hHeld.2.2)
      clear hLast
      have hLast := hNow
      go_simp
      gi_wp2_with ((refine ⟨trivial, ?_⟩; gi_at_call 27; (with_reducible refine (callsIn_wide.2 (HL.out _)).mono ?_); rintro e wn ⟨rfl, hb⟩))
      refine hK.out _ _ ?_ (fun hHeld' => ?_)
      · exact ⟨hHeld.1.below hb hHeld.1.lt, hHeld.2.1.below hb hHeld.2.1.lt, (hHeld.2.2).trans (hb.mono (hHeld.2.2).size)⟩
      clear hK K
      change RestIn _ _ _ _ _ _ _ 5 #[true, true, true, true, true, false, false, false, true, false, false] _ _
      try simp only [Act.put, List.setIfInBounds_toArray, List.set_cons_zero, List.set_cons_succ, List.getElem_toArray, List.getElem_cons_zero, List.getElem_cons_succ]
      clear hHeld
      have hHeld := hHeld'
      clear hHeld'
      have hNow := (hHeld.2.2)
      try have kG := kG.below hb kG.lt
      refine rest_take (i := 5) (v := _) all_wide (noDefers_of (by kernel_rfl)) rfl (by kernel_rfl) (by kernel_rfl) (by kernel_rfl) (fun _ _ _ h => h) (Or.inl ⟨by rfl, by intro w hSw; clear hSw; go_simp; first | done | with_reducible rfl⟩) hHeld ?_
      change RestIn _ _ _ _ _ _ _ 4 #[true, true, true, true, true, true, false, false, true, false, false] _ _
      try simp only [Act.put, List.setIfInBounds_toArray, List.set_cons_zero, List.set_cons_succ, List.getElem_toArray, List.getElem_cons_zero, List.getElem_cons_succ]
      refine rest_take (i := 6) (v := _) all_wide (noDefers_of (by kernel_rfl)) rfl (by kernel_rfl) (by kernel_rfl) (by kernel_rfl) (fun _ _ _ h => h) (Or.inl ⟨by rfl, by intro w hSw; clear hSw; go_simp; first | done | with_reducible rfl⟩) hHeld ?_
      change RestIn _ _ _ _ _ _ _ 3 #[true, true, true, true, true, true, true, false, true, false, false] _ _
      try simp only [Act.put, List.setIfInBounds_toArray, List.set_cons_zero, List.set_cons_succ, List.getElem_toArray, List.getElem_cons_zero, List.getElem_cons_succ]
      refine rest_take (i := 7) (v := _) all_wide (noDefers_of (by kernel_rfl)) rfl (by kernel_rfl) (by kernel_rfl) (by kernel_rfl) (fun _ _ _ h => h) (Or.inl ⟨by rfl, by intro w hSw; clear hSw; go_simp; first | done | with_reducible rfl⟩) hHeld ?_
      change RestIn _ _ _ _ _ _ _ 2 #[true, true, true, true, true, true, true, true, true, false, false] _ _
      try simp only [Act.put, List.setIfInBounds_toArray, List.set_cons_zero, List.set_cons_succ, List.getElem_toArray, List.getElem_cons_zero, List.getElem_cons_succ]
      refine rest_ready (rs := [9]) (by kernel_rfl) (by simp) ?_
      refine AllRest.cons rfl (fun K hK => ?_) AllRest.nil
      have kGc0 := kG.cell 0
      have kGc1 := kG.cell 1
      have kGf0 := kG.frozen 0
      have kGf1 := kG.frozen 1
      have kGl := kG.lt
      try simp at kGc0
      try simp at kGc1
      try simp at kGf0
      try simp at kGf1
      try simp at kGl
      have hNow := (hHeld.2.2)
      go_simp
      refine hK.out _ _ ?_ (fun hHeld' => ?_)
      · (refine (fun (hbel : Below W0.heap.size W0 _) => ⟨kY.below hbel kY.lt, kN.below hbel kN.lt, hbel⟩) ?_; repeat' (first | with_reducible exact hNow | with_reducible exact hOld | with_reducible refine Below.setCell ?_ (by (try simp) <;> omega) _ | with_reducible refine Below.alloc ?_ (by (try simp) <;> omega) _))
      clear hK K
      change RestIn _ _ _ _ _ _ _ 1 #[true, true, true, true, true, true, true, true, true, true, false] _ _
      try simp only [Act.put, List.setIfInBounds_toArray, List.set_cons_zero, List.set_cons_succ, List.getElem_toArray, List.getElem_cons_zero, List.getElem_cons_succ]
      clear hHeld
      have hHeld := hHeld'
      clear hHeld'
      have hNow := (hHeld.2.2)
      refine rest_take (i := 10) (v := _) all_wide (noDefers_of (by kernel_rfl)) rfl (by kernel_rfl) (by kernel_rfl) (by kernel_rfl) (fun _ _ _ h => h) (Or.inl ⟨by rfl, by intro w hSw; clear hSw; go_simp; first | done | with_reducible rfl⟩) hHeld ?_
      change RestIn _ _ _ _ _ _ _ 0 #[true, true, true, true, true, true, true, true, true, true, true] _ _
      try simp only [Act.put, List.setIfInBounds_toArray, List.set_cons_zero, List.set_cons_succ, List.getElem_toArray, List.getElem_cons_zero, List.getElem_cons_succ]
      refine rest_done (by kernel_rfl) ?_
      go_wp2_with fail
      go_meet
      first | exact ⟨_, rfl, rfl, (kG.set_ 0 (.int .i64 0)).set_ 1 (.int .i64 0), hNow⟩ | exact ⟨_, rfl, rfl, Blk.new _ _ _, hNow⟩
    exact AllRest.nil
  case rest =>
    obtain ⟨g, rfl, rfl, kR, hX⟩ := hcut
    have kY1 := kY.below hX kY.lt
    have kN1 := kN.below hX kN.lt
    have HB1 := Lib.hid (HB0.out.trans (hX.mono HB0.out.size))
    clear kY kN HB0
    go_upto_region 2 with fail
    refine name_world (motive := fun W => Code.wp _ _ _ _ W) _ ?_
    intro W0 hW
    have hWc := hW.cell
    have hWz := hW.size
    have hWb := hW.below (hX)
    have kY := hW.blk kY1
    have kN := hW.blk kN1
    have kG := hW.blk kR
    have HB0 := Lib.hid (HB1.out.trans ((hW.below (Below.refl _ _)).mono HB1.out.size))
    clear kY1 kN1 kR HB1 hW hWc hWz hWb hX
    refine (wpIn_wide (n := 9)).1 ?_
    have hLast := trivial
    refine region_rest (S := (fun w' => Blk w' (w.heap.size) 27 #[.int .i64 f.pos.x.lo, .int .i64 f.pos.x.hi, .int .i64 f.pos.z.lo, .int .i64 f.pos.z.hi, .int .i64 f.speed.x.lo, .int .i64 f.speed.x.hi, .int .i64 f.speed.z.lo, .int .i64 f.speed.z.hi, .int .i64 f.mass] ∧ Blk w' (w.heap.size + 1) 60 #[.int .i64 n.x.lo, .int .i64 n.x.hi, .int .i64 n.height] ∧ Blk w' (g) 35 #[.int .i64 0, .int .i64 0] ∧ Below W0.heap.size W0 w')) hmx ?_ (fun hHeld => ?_)
    · exact ⟨kY.drew, kN.drew, kG.drew, (Below.refl W0.heap.size W0).drew⟩
    change RestIn _ _ _ _ _ _ _ 10 #[false, false, false, false, false, false, false, false, false, false] _ (World.drew _)
    refine rest_take (i := 0) (v := _) all_wide (noDefers_of (by kernel_rfl)) rfl (by kernel_rfl) (by kernel_rfl) (by kernel_rfl) (fun _ _ _ h => h) (Or.inl ⟨by rfl, by intro w hSw; (obtain ⟨q0, q1, q2, _⟩ := hSw; have q0x0 := q0.cell 0; have q0x1 := q0.cell 1; have q0x2 := q0.cell 2; have q0x3 := q0.cell 3; have q0x4 := q0.cell 4; have q0x5 := q0.cell 5; have q0x6 := q0.cell 6; have q0x7 := q0.cell 7; have q0x8 := q0.cell 8; have q1x0 := q1.cell 0; have q1x1 := q1.cell 1; have q1x2 := q1.cell 2; have q2x0 := q2.cell 0; have q2x1 := q2.cell 1; simp at q0x0 q0x1 q0x2 q0x3 q0x4 q0x5 q0x6 q0x7 q0x8 q1x0 q1x1 q1x2 q2x0 q2x1); go_simp; first | done | with_reducible rfl⟩) hHeld ?_
    change RestIn _ _ _ _ _ _ _ 9 #[true, false, false, false, false, false, false, false, false, false] _ _
    try simp only [Act.put, List.setIfInBounds_toArray, List.set_cons_zero, List.set_cons_succ, List.getElem_toArray, List.getElem_cons_zero, List.getElem_cons_succ]
    refine rest_take (i := 2) (v := _) all_wide (noDefers_of (by kernel_rfl)) rfl (by kernel_rfl) (by kernel_rfl) (by kernel_rfl) (fun _ _ _ h => h) (Or.inl ⟨by rfl, by intro w hSw; (obtain ⟨q0, q1, q2, _⟩ := hSw; have q0x0 := q0.cell 0; have q0x1 := q0.cell 1; have q0x2 := q0.cell 2; have q0x3 := q0.cell 3; have q0x4 := q0.cell 4; have q0x5 := q0.cell 5; have q0x6 := q0.cell 6; have q0x7 := q0.cell 7; have q0x8 := q0.cell 8; have q1x0 := q1.cell 0; have q1x1 := q1.cell 1; have q1x2 := q1.cell 2; have q2x0 := q2.cell 0; have q2x1 := q2.cell 1; simp at q0x0 q0x1 q0x2 q0x3 q0x4 q0x5 q0x6 q0x7 q0x8 q1x0 q1x1 q1x2 q2x0 q2x1); go_simp; first | done | with_reducible rfl⟩) hHeld ?_
    change RestIn _ _ _ _ _ _ _ 8 #[true, false, true, false, false, false, false, false, false, false] _ _
    try simp only [Act.put, List.setIfInBounds_toArray, List.set_cons_zero, List.set_cons_succ, List.getElem_toArray, List.getElem_cons_zero, List.getElem_cons_succ]
    refine rest_ready (rs := [1]) (by kernel_rfl) (by simp) ?_
    refine AllRest.cons rfl (fun K hK => ?_) AllRest.nil
    have hNow := (hHeld.2.2.2)
    clear hLast
    have hLast := hNow
    go_simp
    gi_wp2_with ((refine ⟨trivial, ?_⟩; gi_at_call 17; (with_reducible refine (callsIn_wide.2 (lawFlyer_any _ _)).mono ?_); rintro e wn ⟨rfl, hb⟩))
    refine hK.out _ _ ?_ (fun hHeld' => ?_)
    · exact ⟨hHeld.1.below hb hHeld.1.lt, hHeld.2.1.below hb hHeld.2.1.lt, hHeld.2.2.1.below hb hHeld.2.2.1.lt, (hHeld.2.2.2).trans (hb.mono (hHeld.2.2.2).size)⟩
    clear hK K
    change RestIn _ _ _ _ _ _ _ 7 #[true, true, true, false, false, false, false, false, false, false] _ _
    try simp only [Act.put, List.setIfInBounds_toArray, List.set_cons_zero, List.set_cons_succ, List.getElem_toArray, List.getElem_cons_zero, List.getElem_cons_succ]
    clear hHeld
    have hHeld := hHeld'
    clear hHeld'
    have hNow := (hHeld.2.2.2)
    refine rest_ready (rs := [3]) (by kernel_rfl) (by simp) ?_
    refine AllRest.cons rfl (fun K hK => ?_) AllRest.nil
    have hNow := (hHeld.2.2.2)
    clear hLast
    have hLast := hNow
    go_simp
    gi_wp2_with ((refine ⟨trivial, ?_⟩; gi_at_call 28; (with_reducible refine (callsIn_wide.2 (lawNet_any _ _)).mono ?_); rintro e wn ⟨rfl, hb⟩))
    refine hK.out _ _ ?_ (fun hHeld' => ?_)
    · exact ⟨hHeld.1.below hb hHeld.1.lt, hHeld.2.1.below hb hHeld.2.1.lt, hHeld.2.2.1.below hb hHeld.2.2.1.lt, (hHeld.2.2.2).trans (hb.mono (hHeld.2.2.2).size)⟩
    clear hK K
    change RestIn _ _ _ _ _ _ _ 6 #[true, true, true, true, false, false, false, false, false, false] _ _
    try simp only [Act.put, List.setIfInBounds_toArray, List.set_cons_zero, List.set_cons_succ, List.getElem_toArray, List.getElem_cons_zero, List.getElem_cons_succ]
    clear hHeld
    have hHeld := hHeld'
    clear hHeld'
    have hNow := (hHeld.2.2.2)
    refine rest_ready (rs := [4]) (by kernel_rfl) (by simp) ?_
    refine AllRest.cons rfl (fun K hK => ?_) AllRest.nil
    have hNow := (hHeld.2.2.2)
    clear hLast
    have hLast := hNow
    go_simp
    gi_wp2_with ((refine ⟨trivial, ?_⟩; gi_at_call 29; (with_reducible refine (callsIn_wide.2 (HT.out _)).mono ?_); rintro e wn ⟨rfl, hb⟩))
    refine hK.out _ _ ?_ (fun hHeld' => ?_)
    · exact ⟨hHeld.1.below hb hHeld.1.lt, hHeld.2.1.below hb hHeld.2.1.lt, hHeld.2.2.1.below hb hHeld.2.2.1.lt, (hHeld.2.2.2).trans (hb.mono (hHeld.2.2.2).size)⟩
    clear hK K
    change RestIn _ _ _ _ _ _ _ 5 #[true, true, true, true, true, false, false, false, false, false] _ _
    try simp only [Act.put, List.setIfInBounds_toArray, List.set_cons_zero, List.set_cons_succ, List.getElem_toArray, List.getElem_cons_zero, List.getElem_cons_succ]
    clear hHeld
    have hHeld := hHeld'
    clear hHeld'
    have hNow := (hHeld.2.2.2)
    refine rest_take (i := 5) (v := _) all_wide (noDefers_of (by kernel_rfl)) rfl (by kernel_rfl) (by kernel_rfl) (by kernel_rfl) (fun _ _ _ h => h) (Or.inl ⟨by rfl, by intro w hSw; clear hSw; go_simp; first | done | with_reducible rfl⟩) hHeld ?_
    change RestIn _ _ _ _ _ _ _ 4 #[true, true, true, true, true, true, false, false, false, false] _ _
    try simp only [Act.put, List.setIfInBounds_toArray, List.set_cons_zero, List.set_cons_succ, List.getElem_toArray, List.getElem_cons_zero, List.getElem_cons_succ]
    refine rest_take (i := 6) (v := _) all_wide (noDefers_of (by kernel_rfl)) rfl (by kernel_rfl) (by kernel_rfl) (by kernel_rfl) (fun _ _ _ h => h) (Or.inl ⟨by rfl, by intro w hSw; clear hSw; go_simp; first | done | with_reducible rfl⟩) hHeld ?_
    change RestIn _ _ _ _ _ _ _ 3 #[true, true, true, true, true, true, true, false, false, false] _ _
    try simp only [Act.put, List.setIfInBounds_toArray, List.set_cons_zero, List.set_cons_succ, List.getElem_toArray, List.getElem_cons_zero, List.getElem_cons_succ]
    refine rest_take (i := 7) (v := _) all_wide (noDefers_of (by kernel_rfl)) rfl (by kernel_rfl) (by kernel_rfl) (by kernel_rfl) (fun _ _ _ h => h) (Or.inl ⟨by rfl, by intro w hSw; clear hSw; go_simp; first | done | with_reducible rfl⟩) hHeld ?_
    change RestIn _ _ _ _ _ _ _ 2 #[true, true, true, true, true, true, true, true, false, false] _ _
    try simp only [Act.put, List.setIfInBounds_toArray, List.set_cons_zero, List.set_cons_succ, List.getElem_toArray, List.getElem_cons_zero, List.getElem_cons_succ]
    refine rest_take (i := 8) (v := _) all_wide (noDefers_of (by kernel_rfl)) rfl (by kernel_rfl) (by kernel_rfl) (by kernel_rfl) (fun _ _ _ h => h) (Or.inl ⟨by rfl, by intro w hSw; clear hSw; go_simp; first | done | with_reducible rfl⟩) hHeld ?_
    change RestIn _ _ _ _ _ _ _ 1 #[true, true, true, true, true, true, true, true, true, false] _ _
    try simp only [Act.put, List.setIfInBounds_toArray, List.set_cons_zero, List.set_cons_succ, List.getElem_toArray, List.getElem_cons_zero, List.getElem_cons_succ]
    refine rest_take (i := 9) (v := _) all_wide (noDefers_of (by kernel_rfl)) rfl (by kernel_rfl) (by kernel_rfl) (by kernel_rfl) (fun _ _ _ h => h) (Or.inl ⟨by rfl, by intro w hSw; clear hSw; go_simp; first | done | with_reducible rfl⟩) hHeld ?_
    change RestIn _ _ _ _ _ _ _ 0 #[true, true, true, true, true, true, true, true, true, true] _ _
    try simp only [Act.put, List.setIfInBounds_toArray, List.set_cons_zero, List.set_cons_succ, List.getElem_toArray, List.getElem_cons_zero, List.getElem_cons_succ]
    refine rest_done (by kernel_rfl) ?_
    clear hLast
    obtain ⟨kY1, kN1, kG1, hX⟩ := hHeld
    clear hNow
    have y0 := kY1.cell 0; have y1 := kY1.cell 1; have y2 := kY1.cell 2; have y3 := kY1.cell 3; have y4 := kY1.cell 4; have y5 := kY1.cell 5; have y6 := kY1.cell 6; have y7 := kY1.cell 7; have y8 := kY1.cell 8; simp at y0 y1 y2 y3 y4 y5 y6 y7 y8
    have r0 := kG1.cell 0; have r1 := kG1.cell 1; simp at r0 r1
    go_wp2_with (first | (go_at_call 21; (with_reducible refine (HRY.out _).mono ?_); rintro e w1 ⟨rfl, hb1⟩; have kY2 := kY1.below hb1 kY1.lt; have kN2 := kN1.below hb1 kN1.lt; have kG2 := kG1.below hb1 kG1.lt; have hX2 := sh_next hX hb1; have n0 := kN2.cell 0; have n1 := kN2.cell 1; have n2 := kN2.cell 2; simp at n0 n1 n2; have s0 := kG2.cell 0; have s1 := kG2.cell 1; simp at s0 s1) | (go_at_call 30; (with_reducible refine (HRN.out _).mono ?_); rintro e w2 ⟨rfl, hb2⟩; have kY3 := kY2.below hb2 kY2.lt; have kN3 := kN2.below hb2 kN2.lt; have kG3 := kG2.below hb2 kG2.lt; have hX3 := sh_next hX2 hb2; have z0 := kY3.cell 0; have z1 := kY3.cell 1; have z2 := kY3.cell 2; have z3 := kY3.cell 3; have z4 := kY3.cell 4; have z5 := kY3.cell 5; have z6 := kY3.cell 6; have z7 := kY3.cell 7; have z8 := kY3.cell 8; simp at z0 z1 z2 z3 z4 z5 z6 z7 z8; have m0 := kN3.cell 0; have m1 := kN3.cell 1; have m2 := kN3.cell 2; simp at m0 m1 m2; have t0 := kG3.cell 0; have t1 := kG3.cell 1; simp at t0 t1) | (go_at_call 15; refine (wakes_any _).mono ?_; rintro e w3 ⟨rfl, hb3⟩))
    go_ret
    exact ⟨rfl, HB0.out.trans ((sh_next hX3 hb3).mono HB0.out.size)⟩
set_option linter.unusedSimpArgs false in
set_option maxRecDepth 100000 in
set_option maxHeartbeats 16000000 in
theorem lands_2 (f : Fly) (n : Net) (w : World) (hfy : f.ok = true) (hnk : n.ok = true) (hc : comesB f n = false) :
    Calls Try.prog 4 #[.agg #[.int .i64 f.pos.x.lo, .int .i64 f.pos.x.hi, .int .i64 f.pos.z.lo, .int .i64 f.pos.z.hi, .int .i64 f.speed.x.lo, .int .i64 f.speed.x.hi, .int .i64 f.speed.z.lo, .int .i64 f.speed.z.hi, .int .i64 f.mass], .agg #[.int .i64 n.x.lo, .int .i64 n.x.hi, .int .i64 n.height]] w fun e w' => e = .returned (.bool true) ∧ Below w.heap.size w w' := by
  have hB0 := ((Below.refl w.heap.size w).alloc (Nat.le_refl _) (.cells #[.int .i64 f.pos.x.lo, .int .i64 f.pos.x.hi, .int .i64 f.pos.z.lo, .int .i64 f.pos.z.hi, .int .i64 f.speed.x.lo, .int .i64 f.speed.x.hi, .int .i64 f.speed.z.lo, .int .i64 f.speed.z.hi, .int .i64 f.mass] 27)).alloc (by simp) (.cells #[.int .i64 n.x.lo, .int .i64 n.x.hi, .int .i64 n.height] 60)
  have kY0 := (Blk.new w 27 #[.int .i64 f.pos.x.lo, .int .i64 f.pos.x.hi, .int .i64 f.pos.z.lo, .int .i64 f.pos.z.hi, .int .i64 f.speed.x.lo, .int .i64 f.speed.x.hi, .int .i64 f.speed.z.lo, .int .i64 f.speed.z.hi, .int .i64 f.mass]).alloc (.cells #[.int .i64 n.x.lo, .int .i64 n.x.hi, .int .i64 n.height] 60)
  have kN0 := Blk.new (w.alloc (.cells #[.int .i64 f.pos.x.lo, .int .i64 f.pos.x.hi, .int .i64 f.pos.z.lo, .int .i64 f.pos.z.hi, .int .i64 f.speed.x.lo, .int .i64 f.speed.x.hi, .int .i64 f.speed.z.lo, .int .i64 f.speed.z.hi, .int .i64 f.mass] 27)) 60 #[.int .i64 n.x.lo, .int .i64 n.x.hi, .int .i64 n.height]
  simp only [World.size_alloc] at kN0
  have HL : Hid (∀ W : World, Calls Try.prog 27 #[.agg #[.int .i64 f.pos.x.lo, .int .i64 f.pos.x.hi, .int .i64 f.pos.z.lo, .int .i64 f.pos.z.hi, .int .i64 f.speed.x.lo, .int .i64 f.speed.x.hi, .int .i64 f.speed.z.lo, .int .i64 f.speed.z.hi, .int .i64 f.mass], .agg #[.int .i64 n.x.lo, .int .i64 n.x.hi, .int .i64 n.height]] W fun e w' => e = .returned (.tuple #[.agg #[.int .i64 0, .int .i64 0], .int .i64 7]) ∧ Below W.heap.size W w') := fun W => by
    have := Landing_ok f n W hfy hnk
    rw [hc, show landR f n = ⟨0, 0⟩ by unfold landR; rw [hc]; rfl] at this
    exact this
  have htk : takesB f n = false := by unfold takesB; rw [hc]; rfl
  have HT : Hid (∀ W : World, Calls Try.prog 29 #[.agg #[.int .i64 f.pos.x.lo, .int .i64 f.pos.x.hi, .int .i64 f.pos.z.lo, .int .i64 f.pos.z.hi, .int .i64 f.speed.x.lo, .int .i64 f.speed.x.hi, .int .i64 f.speed.z.lo, .int .i64 f.speed.z.hi, .int .i64 f.mass], .agg #[.int .i64 n.x.lo, .int .i64 n.x.hi, .int .i64 n.height]] W fun e w' => e = .returned (.tuple #[.bool false, .int .i64 0]) ∧ Below W.heap.size W w') := fun W => by rw [← htk]; exact Takes_ok f n W hfy hnk
  have HRT : Hid (∀ W : World, Calls Try.prog 32 #[.agg #[.int .i64 f.pos.x.lo, .int .i64 f.pos.x.hi, .int .i64 f.pos.z.lo, .int .i64 f.pos.z.hi, .int .i64 f.speed.x.lo, .int .i64 f.speed.x.hi, .int .i64 f.speed.z.lo, .int .i64 f.speed.z.hi, .int .i64 f.mass], .agg #[.int .i64 n.x.lo, .int .i64 n.x.hi, .int .i64 n.height]] W fun e w' => e = .returned (.bool false) ∧ Below W.heap.size W w') := fun W => by rw [← htk]; exact refTakes_any f n W hfy
  obtain ⟨lo, hlo⟩ : ∃ lo, tickI (lowO f n) = lo := ⟨_, rfl⟩
  have HRL : Hid (∀ W : World, Calls Try.prog 31 #[.agg #[.int .i64 f.pos.x.lo, .int .i64 f.pos.x.hi, .int .i64 f.pos.z.lo, .int .i64 f.pos.z.hi, .int .i64 f.speed.x.lo, .int .i64 f.speed.x.hi, .int .i64 f.speed.z.lo, .int .i64 f.speed.z.hi, .int .i64 f.mass], .agg #[.int .i64 n.x.lo, .int .i64 n.x.hi, .int .i64 n.height]] W fun e w' => e = .returned (.tuple #[.agg #[.int .i64 lo, .int .i64 (-1)], .bool false]) ∧ Below W.heap.size W w') := fun W => by
    have := refLanding_any f n W hfy
    rw [none_of_not hc, hlo] at this
    exact this
  clear htk hlo
  have hEq : ∀ W : World, (binOp .eql 35 (.agg #[.int .i64 0, .int .i64 0]) (.agg #[.int .i64 0, .int .i64 0])).run Try.prog W = .ok (.bool true) W := fun W => by rw [eqR]; simp
  have HRY : Hid (∀ W : World, Calls Try.prog 21 #[.agg #[.int .i64 f.pos.x.lo, .int .i64 f.pos.x.hi, .int .i64 f.pos.z.lo, .int .i64 f.pos.z.hi, .int .i64 f.speed.x.lo, .int .i64 f.speed.x.hi, .int .i64 f.speed.z.lo, .int .i64 f.speed.z.hi, .int .i64 f.mass]] W fun e w' => e = .returned (.bool true) ∧ Below W.heap.size W w') := fun W => by rw [← hfy]; exact rightFlyer_any f W
  have HRN : Hid (∀ W : World, Calls Try.prog 30 #[.agg #[.int .i64 n.x.lo, .int .i64 n.x.hi, .int .i64 n.height]] W fun e w' => e = .returned (.bool true) ∧ Below W.heap.size W w') := fun W => by rw [← hnk]; exact rightNet_any n W
  clear hfy hnk hc
  have hmx : Try.prog.follows .mixedOrders = true := by kernel_rfl
  go_enter Try.func4, Try.ntmps4
  go_upto_region 1 with fail
  refine name_world (motive := fun W => Code.wp _ _ _ _ W) _ ?_
  intro W0 hW
  have hWc := hW.cell
  have hWz := hW.size
  have hWb := hW.below (hB0)
  have kY := hW.blk kY0
  have kN := hW.blk kN0
  have HB0 := Lib.hid hWb
  clear hB0 kY0 kN0 hW hWc hWz hWb
  go_cut [5, 6] (fun s5 s6 wx => ∃ g : Nat, s5 = .pointer (some ⟨g, 0, none⟩) ∧ s6 = .int .i64 7 ∧ Blk wx g 35 #[.int .i64 0, .int .i64 0] ∧ Below W0.heap.size W0 wx)
  case first =>
    refine (wpIn_wide (n := 9)).1 ?_
    have hLast := trivial
    refine region_rest (S := (fun w' => Blk w' (w.heap.size) 27 #[.int .i64 f.pos.x.lo, .int .i64 f.pos.x.hi, .int .i64 f.pos.z.lo, .int .i64 f.pos.z.hi, .int .i64 f.speed.x.lo, .int .i64 f.speed.x.hi, .int .i64 f.speed.z.lo, .int .i64 f.speed.z.hi, .int .i64 f.mass] ∧ Blk w' (w.heap.size + 1) 60 #[.int .i64 n.x.lo, .int .i64 n.x.hi, .int .i64 n.height] ∧ Below W0.heap.size W0 w')) hmx ?_ (fun hHeld => ?_)
    · exact ⟨kY.drew, kN.drew, (Below.refl W0.heap.size W0).drew⟩
    change RestIn _ _ _ _ _ _ _ 11 #[false, false, false, false, false, false, false, false, false, false, false] _ (World.drew _)
    refine rest_take (i := 0) (v := _) all_wide (noDefers_of (by kernel_rfl)) rfl (by kernel_rfl) (by kernel_rfl) (by kernel_rfl) (fun _ _ _ h => h) (Or.inl ⟨by rfl, by intro w hSw; (obtain ⟨q0, q1, _⟩ := hSw; have q0x0 := q0.cell 0; have q0x1 := q0.cell 1; have q0x2 := q0.cell 2; have q0x3 := q0.cell 3; have q0x4 := q0.cell 4; have q0x5 := q0.cell 5; have q0x6 := q0.cell 6; have q0x7 := q0.cell 7; have q0x8 := q0.cell 8; have q1x0 := q1.cell 0; have q1x1 := q1.cell 1; have q1x2 := q1.cell 2; simp at q0x0 q0x1 q0x2 q0x3 q0x4 q0x5 q0x6 q0x7 q0x8 q1x0 q1x1 q1x2); go_simp; first | done | with_reducible rfl⟩) hHeld ?_
    change RestIn _ _ _ _ _ _ _ 10 #[true, false, false, false, false, false, false, false, false, false, false] _ _
    try simp only [Act.put, List.setIfInBounds_toArray, List.set_cons_zero, List.set_cons_succ, List.getElem_toArray, List.getElem_cons_zero, List.getElem_cons_succ]
    refine rest_take (i := 2) (v := _) all_wide (noDefers_of (by kernel_rfl)) rfl (by kernel_rfl) (by kernel_rfl) (by kernel_rfl) (fun _ _ _ h => h) (Or.inl ⟨by rfl, by intro w hSw; (obtain ⟨q0, q1, _⟩ := hSw; have q0x0 := q0.cell 0; have q0x1 := q0.cell 1; have q0x2 := q0.cell 2; have q0x3 := q0.cell 3; have q0x4 := q0.cell 4; have q0x5 := q0.cell 5; have q0x6 := q0.cell 6; have q0x7 := q0.cell 7; have q0x8 := q0.cell 8; have q1x0 := q1.cell 0; have q1x1 := q1.cell 1; have q1x2 := q1.cell 2; simp at q0x0 q0x1 q0x2 q0x3 q0x4 q0x5 q0x6 q0x7 q0x8 q1x0 q1x1 q1x2); go_simp; first | done | with_reducible rfl⟩) hHeld ?_
    change RestIn _ _ _ _ _ _ _ 9 #[true, false, true, false, false, false, false, false, false, false, false] _ _
    try simp only [Act.put, List.setIfInBounds_toArray, List.set_cons_zero, List.set_cons_succ, List.getElem_toArray, List.getElem_cons_zero, List.getElem_cons_succ]
    refine rest_ready (rs := [1, 8]) (by kernel_rfl) (by simp) ?_
    refine AllRest.cons rfl (fun K hK => ?_) ?_
    · have hNow := (hHeld.2.2)
      clear hLast
      have hLast := hNow
      go_simp
      gi_wp2_with ((refine ⟨trivial, ?_⟩; gi_at_call 17; (with_reducible refine (callsIn_wide.2 (lawFlyer_any _ _)).mono ?_); rintro e wn ⟨rfl, hb⟩))
      refine hK.out _ _ ?_ (fun hHeld' => ?_)
      · exact ⟨hHeld.1.below hb hHeld.1.lt, hHeld.2.1.below hb hHeld.2.1.lt, (hHeld.2.2).trans (hb.mono (hHeld.2.2).size)⟩
      clear hK K
      change RestIn _ _ _ _ _ _ _ 8 #[true, true, true, false, false, false, false, false, false, false, false] _ _
      try simp only [Act.put, List.setIfInBounds_toArray, List.set_cons_zero, List.set_cons_succ, List.getElem_toArray, List.getElem_cons_zero, List.getElem_cons_succ]
      clear hHeld
      have hHeld := hHeld'
      clear hHeld'
      have hNow := (hHeld.2.2)
      try have kG := kG.below hb kG.lt
      refine rest_ready (rs := [3, 8]) (by kernel_rfl) (by simp) ?_
      refine AllRest.cons rfl (fun K hK => ?_) ?_
      · have hNow := (hHeld.2.2)
        clear hLast
        have hLast := hNow
        go_simp
        gi_wp2_with ((refine ⟨trivial, ?_⟩; gi_at_call 28; (with_reducible refine (callsIn_wide.2 (lawNet_any _ _)).mono ?_); rintro e wn ⟨rfl, hb⟩))
        refine hK.out _ _ ?_ (fun hHeld' => ?_)
        · exact ⟨hHeld.1.below hb hHeld.1.lt, hHeld.2.1.below hb hHeld.2.1.lt, (hHeld.2.2).trans (hb.mono (hHeld.2.2).size)⟩
        clear hK K
        change RestIn _ _ _ _ _ _ _ 7 #[true, true, true, true, false, false, false, false, false, false, false] _ _
        try simp only [Act.put, List.setIfInBounds_toArray, List.set_cons_zero, List.set_cons_succ, List.getElem_toArray, List.getElem_cons_zero, List.getElem_cons_succ]
        clear hHeld
        have hHeld := hHeld'
        clear hHeld'
        have hNow := (hHeld.2.2)
        try have kG := kG.below hb kG.lt
        refine rest_ready (rs := [4, 8]) (by kernel_rfl) (by simp) ?_
        refine AllRest.cons rfl (fun K hK => ?_) ?_
        · have hNow := (hHeld.2.2)
          clear hLast
          have hLast := hNow
          go_simp
          gi_wp2_with ((refine ⟨trivial, ?_⟩; gi_at_call 27; (with_reducible refine (callsIn_wide.2 (HL.out _)).mono ?_); rintro e wn ⟨rfl, hb⟩))
          refine hK.out _ _ ?_ (fun hHeld' => ?_)
          · exact ⟨hHeld.1.below hb hHeld.1.lt, hHeld.2.1.below hb hHeld.2.1.lt, (hHeld.2.2).trans (hb.mono (hHeld.2.2).size)⟩
          clear hK K
          change RestIn _ _ _ _ _ _ _ 6 #[true, true, true, true, true, false, false, false, false, false, false] _ _
          try simp only [Act.put, List.setIfInBounds_toArray, List.set_cons_zero, List.set_cons_succ, List.getElem_toArray, List.getElem_cons_zero, List.getElem_cons_succ]
          clear hHeld
          have hHeld := hHeld'
          clear hHeld'
          have hNow := (hHeld.2.2)
          try have kG := kG.below hb kG.lt
          refine rest_take (i := 5) (v := _) all_wide (noDefers_of (by kernel_rfl)) rfl (by kernel_rfl) (by kernel_rfl) (by kernel_rfl) (fun _ _ _ h => h) (Or.inl ⟨by rfl, by intro w hSw; clear hSw; go_simp; first | done | with_reducible rfl⟩) hHeld ?_
          change RestIn _ _ _ _ _ _ _ 5 #[true, true, true, true, true, true, false, false, false, false, false] _ _
          try simp only [Act.put, List.setIfInBounds_toArray, List.set_cons_zero, List.set_cons_succ, List.getElem_toArray, List.getElem_cons_zero, List.getElem_cons_succ]
          refine rest_take (i := 6) (v := _) all_wide (noDefers_of (by kernel_rfl)) rfl (by kernel_rfl) (by kernel_rfl) (by kernel_rfl) (fun _ _ _ h => h) (Or.inl ⟨by rfl, by intro w hSw; clear hSw; go_simp; first | done | with_reducible rfl⟩) hHeld ?_
          change RestIn _ _ _ _ _ _ _ 4 #[true, true, true, true, true, true, true, false, false, false, false] _ _
          try simp only [Act.put, List.setIfInBounds_toArray, List.set_cons_zero, List.set_cons_succ, List.getElem_toArray, List.getElem_cons_zero, List.getElem_cons_succ]
          refine rest_take (i := 7) (v := _) all_wide (noDefers_of (by kernel_rfl)) rfl (by kernel_rfl) (by kernel_rfl) (by kernel_rfl) (fun _ _ _ h => h) (Or.inl ⟨by rfl, by intro w hSw; clear hSw; go_simp; first | done | with_reducible rfl⟩) hHeld ?_
          change RestIn _ _ _ _ _ _ _ 3 #[true, true, true, true, true, true, true, true, false, false, false] _ _
          try simp only [Act.put, List.setIfInBounds_toArray, List.set_cons_zero, List.set_cons_succ, List.getElem_toArray, List.getElem_cons_zero, List.getElem_cons_succ]
          refine rest_ready (rs := [8]) (by kernel_rfl) (by simp) ?_
          refine AllRest.cons rfl (fun K hK => ?_) AllRest.nil
          have kGg := (hHeld.2.2).size
          have kG := blk_new_of (hHeld.2.2) 35 #[.int .i64 0, .int .i64 0]
          have hOld := (hHeld.2.2)
          go_simp
          refine hK.out _ _ ?_ (fun hHeld' => ?_)
          · exact (fun (hbel : Below W0.heap.size W0 _) => ⟨kY.below hbel kY.lt, kN.below hbel kN.lt, hbel⟩) ((hHeld.2.2).alloc (hHeld.2.2).size _)
          clear hK K
          change RestIn _ _ _ _ _ _ _ 2 #[true, true, true, true, true, true, true, true, true, false, false] _ _
          try simp only [Act.put, List.setIfInBounds_toArray, List.set_cons_zero, List.set_cons_succ, List.getElem_toArray, List.getElem_cons_zero, List.getElem_cons_succ]
          clear hHeld
          have hHeld := hHeld'
          clear hHeld'
          have hNow := (hHeld.2.2)
          try simp at kGg
          refine rest_ready (rs := [9]) (by kernel_rfl) (by simp) ?_
          refine AllRest.cons rfl (fun K hK => ?_) AllRest.nil
          have kGc0 := kG.cell 0
          have kGc1 := kG.cell 1
          have kGf0 := kG.frozen 0
          have kGf1 := kG.frozen 1
          have kGl := kG.lt
          try simp at kGc0
          try simp at kGc1
          try simp at kGf0
          try simp at kGf1
          try simp at kGl
          have hNow := (hHeld.2.2)
          go_simp
          refine hK.out _ _ ?_ (fun hHeld' => ?_)
          · (refine (fun (hbel : Below W0.heap.size W0 _) => ⟨kY.below hbel kY.lt, kN.below hbel kN.lt, hbel⟩) ?_; repeat' (first | with_reducible exact hNow | with_reducible exact hOld | with_reducible refine Below.setCell ?_ (by (try simp) <;> omega) _ | with_reducible refine Below.alloc ?_ (by (try simp) <;> omega) _))
          clear hK K
          change RestIn _ _ _ _ _ _ _ 1 #[true, true, true, true, true, true, true, true, true, true, false] _ _
          try simp only [Act.put, List.setIfInBounds_toArray, List.set_cons_zero, List.set_cons_succ, List.getElem_toArray, List.getElem_cons_zero, List.getElem_cons_succ]
          clear hHeld
          have hHeld := hHeld'
          clear hHeld'
          have hNow := (hHeld.2.2)
          refine rest_take (i := 10) (v := _) all_wide (noDefers_of (by kernel_rfl)) rfl (by kernel_rfl) (by kernel_rfl) (by kernel_rfl) (fun _ _ _ h => h) (Or.inl ⟨by rfl, by intro w hSw; clear hSw; go_simp; first | done | with_reducible rfl⟩) hHeld ?_
          change RestIn _ _ _ _ _ _ _ 0 #[true, true, true, true, true, true, true, true, true, true, true] _ _
          try simp only [Act.put, List.setIfInBounds_toArray, List.set_cons_zero, List.set_cons_succ, List.getElem_toArray, List.getElem_cons_zero, List.getElem_cons_succ]
          refine rest_done (by kernel_rfl) ?_
          go_wp2_with fail
          go_meet
          first | exact ⟨_, rfl, rfl, (kG.set_ 0 (.int .i64 0)).set_ 1 (.int .i64 0), hNow⟩ | exact ⟨_, rfl, rfl, Blk.new _ _ _, hNow⟩
        refine AllRest.cons rfl (fun K hK => ?_) ?_
        · have kGg := (hHeld.2.2).size
          have kG := blk_new_of (hHeld.2.2) 35 #[.int .i64 0, .int .i64 0]
          have hOld := (hHeld.2.2)
          go_simp
          refine hK.out _ _ ?_ (fun hHeld' => ?_)
          · exact (fun (hbel : Below W0.heap.size W0 _) => ⟨kY.below hbel kY.lt, kN.below hbel kN.lt, hbel⟩) ((hHeld.2.2).alloc (hHeld.2.2).size _)
          clear hK K
          change RestIn _ _ _ _ _ _ _ 6 #[true, true, true, true, false, false, false, false, true, false, false] _ _
          try simp only [Act.put, List.setIfInBounds_toArray, List.set_cons_zero, List.set_cons_succ, List.getElem_toArray, List.getElem_cons_zero, List.getElem_cons_succ]
          clear hHeld
          have hHeld := hHeld'
          clear hHeld'
          have hNow := (hHeld.2.2)
          try simp at kGg
          refine rest_ready (rs := [4]) (by kernel_rfl) (by simp) ?_
          refine AllRest.cons rfl (fun K hK => ?_) AllRest.nil
          have hNow := (hHeld.2.2)
          clear hLast
          have hLast := hNow
          go_simp
          gi_wp2_with ((refine ⟨trivial, ?_⟩; gi_at_call 27; (with_reducible refine (callsIn_wide.2 (HL.out _)).mono ?_); rintro e wn ⟨rfl, hb⟩))
          refine hK.out _ _ ?_ (fun hHeld' => ?_)
          · exact ⟨hHeld.1.below hb hHeld.1.lt, hHeld.2.1.below hb hHeld.2.1.lt, (hHeld.2.2).trans (hb.mono (hHeld.2.2).size)⟩
          clear hK K
          change RestIn _ _ _ _ _ _ _ 5 #[true, true, true, true, true, false, false, false, true, false, false] _ _
          try simp only [Act.put, List.setIfInBounds_toArray, List.set_cons_zero, List.set_cons_succ, List.getElem_toArray, List.getElem_cons_zero, List.getElem_cons_succ]
          clear hHeld
          have hHeld := hHeld'
          clear hHeld'
          have hNow := (hHeld.2.2)
          try have kG := kG.below hb kG.lt
          refine rest_take (i := 5) (v := _) all_wide (noDefers_of (by kernel_rfl)) rfl (by kernel_rfl) (by kernel_rfl) (by kernel_rfl) (fun _ _ _ h => h) (Or.inl ⟨by rfl, by intro w hSw; clear hSw; go_simp; first | done | with_reducible rfl⟩) hHeld ?_
          change RestIn _ _ _ _ _ _ _ 4 #[true, true, true, true, true, true, false, false, true, false, false] _ _
          try simp only [Act.put, List.setIfInBounds_toArray, List.set_cons_zero, List.set_cons_succ, List.getElem_toArray, List.getElem_cons_zero, List.getElem_cons_succ]
          refine rest_take (i := 6) (v := _) all_wide (noDefers_of (by kernel_rfl)) rfl (by kernel_rfl) (by kernel_rfl) (by kernel_rfl) (fun _ _ _ h => h) (Or.inl ⟨by rfl, by intro w hSw; clear hSw; go_simp; first | done | with_reducible rfl⟩) hHeld ?_
          change RestIn _ _ _ _ _ _ _ 3 #[true, true, true, true, true, true, true, false, true, false, false] _ _
          try simp only [Act.put, List.setIfInBounds_toArray, List.set_cons_zero, List.set_cons_succ, List.getElem_toArray, List.getElem_cons_zero, List.getElem_cons_succ]
          refine rest_take (i := 7) (v := _) all_wide (noDefers_of (by kernel_rfl)) rfl (by kernel_rfl) (by kernel_rfl) (by kernel_rfl) (fun _ _ _ h => h) (Or.inl ⟨by rfl, by intro w hSw; clear hSw; go_simp; first | done | with_reducible rfl⟩) hHeld ?_
          change RestIn _ _ _ _ _ _ _ 2 #[true, true, true, true, true, true, true, true, true, false, false] _ _
          try simp only [Act.put, List.setIfInBounds_toArray, List.set_cons_zero, List.set_cons_succ, List.getElem_toArray, List.getElem_cons_zero, List.getElem_cons_succ]
          refine rest_ready (rs := [9]) (by kernel_rfl) (by simp) ?_
          refine AllRest.cons rfl (fun K hK => ?_) AllRest.nil
          have kGc0 := kG.cell 0
          have kGc1 := kG.cell 1
          have kGf0 := kG.frozen 0
          have kGf1 := kG.frozen 1
          have kGl := kG.lt
          try simp at kGc0
          try simp at kGc1
          try simp at kGf0
          try simp at kGf1
          try simp at kGl
          have hNow := (hHeld.2.2)
          go_simp
          refine hK.out _ _ ?_ (fun hHeld' => ?_)
          · (refine (fun (hbel : Below W0.heap.size W0 _) => ⟨kY.below hbel kY.lt, kN.below hbel kN.lt, hbel⟩) ?_; repeat' (first | with_reducible exact hNow | with_reducible exact hOld | with_reducible refine Below.setCell ?_ (by (try simp) <;> omega) _ | with_reducible refine Below.alloc ?_ (by (try simp) <;> omega) _))
          clear hK K
          change RestIn _ _ _ _ _ _ _ 1 #[true, true, true, true, true, true, true, true, true, true, false] _ _
          try simp only [Act.put, List.setIfInBounds_toArray, List.set_cons_zero, List.set_cons_succ, List.getElem_toArray, List.getElem_cons_zero, List.getElem_cons_succ]
          clear hHeld
          have hHeld := hHeld'
          clear hHeld'
          have hNow := (hHeld.2.2)
          refine rest_take (i := 10) (v := _) all_wide (noDefers_of (by kernel_rfl)) rfl (by kernel_rfl) (by kernel_rfl) (by kernel_rfl) (fun _ _ _ h => h) (Or.inl ⟨by rfl, by intro w hSw; clear hSw; go_simp; first | done | with_reducible rfl⟩) hHeld ?_
          change RestIn _ _ _ _ _ _ _ 0 #[true, true, true, true, true, true, true, true, true, true, true] _ _
          try simp only [Act.put, List.setIfInBounds_toArray, List.set_cons_zero, List.set_cons_succ, List.getElem_toArray, List.getElem_cons_zero, List.getElem_cons_succ]
          refine rest_done (by kernel_rfl) ?_
          go_wp2_with fail
          go_meet
          first | exact ⟨_, rfl, rfl, (kG.set_ 0 (.int .i64 0)).set_ 1 (.int .i64 0), hNow⟩ | exact ⟨_, rfl, rfl, Blk.new _ _ _, hNow⟩
        exact AllRest.nil
      refine AllRest.cons rfl (fun K hK => ?_) ?_
      · have kGg := (hHeld.2.2).size
        have kG := blk_new_of (hHeld.2.2) 35 #[.int .i64 0, .int .i64 0]
        have hOld := (hHeld.2.2)
        go_simp
        refine hK.out _ _ ?_ (fun hHeld' => ?_)
        · exact (fun (hbel : Below W0.heap.size W0 _) => ⟨kY.below hbel kY.lt, kN.below hbel kN.lt, hbel⟩) ((hHeld.2.2).alloc (hHeld.2.2).size _)
        clear hK K
        change RestIn _ _ _ _ _ _ _ 7 #[true, true, true, false, false, false, false, false, true, false, false] _ _
        try simp only [Act.put, List.setIfInBounds_toArray, List.set_cons_zero, List.set_cons_succ, List.getElem_toArray, List.getElem_cons_zero, List.getElem_cons_succ]
        clear hHeld
        have hHeld := hHeld'
        clear hHeld'
        have hNow := (hHeld.2.2)
        try simp at kGg
        refine rest_ready (rs := [3]) (by kernel_rfl) (by simp) ?_
        refine AllRest.cons rfl (fun K hK => ?_) AllRest.nil
        have hNow := (hHeld.2.2)
        clear hLast
        have hLast := hNow
        go_simp
        gi_wp2_with ((refine ⟨trivial, ?_⟩; gi_at_call 28; (with_reducible refine (callsIn_wide.2 (lawNet_any _ _)).mono ?_); rintro e wn ⟨rfl, hb⟩))
        refine hK.out _ _ ?_ (fun hHeld' => ?_)
        · exact ⟨hHeld.1.below hb hHeld.1.lt, hHeld.2.1.below hb hHeld.2.1.lt, (hHeld.2.2).trans (hb.mono (hHeld.2.2).size)⟩
        clear hK K
        change RestIn _ _ _ _ _ _ _ 6 #[true, true, true, true, false, false, false, false, true, false, false] _ _
        try simp only [Act.put, List.setIfInBounds_toArray, List.set_cons_zero, List.set_cons_succ, List.getElem_toArray, List.getElem_cons_zero, List.getElem_cons_succ]
        clear hHeld
        have hHeld := hHeld'
        clear hHeld'
        have hNow := (hHeld.2.2)
        try have kG := kG.below hb kG.lt
        refine rest_ready (rs := [4]) (by kernel_rfl) (by simp) ?_
        refine AllRest.cons rfl (fun K hK => ?_) AllRest.nil
        have hNow := (hHeld.2.2)
        clear hLast
        have hLast := hNow
        go_simp
        gi_wp2_with ((refine ⟨trivial, ?_⟩; gi_at_call 27; (with_reducible refine (callsIn_wide.2 (HL.out _)).mono ?_); rintro e wn ⟨rfl, hb⟩))
        refine hK.out _ _ ?_ (fun hHeld' => ?_)
        · exact ⟨hHeld.1.below hb hHeld.1.lt, hHeld.2.1.below hb hHeld.2.1.lt, (hHeld.2.2).trans (hb.mono (hHeld.2.2).size)⟩
        clear hK K
        change RestIn _ _ _ _ _ _ _ 5 #[true, true, true, true, true, false, false, false, true, false, false] _ _
        try simp only [Act.put, List.setIfInBounds_toArray, List.set_cons_zero, List.set_cons_succ, List.getElem_toArray, List.getElem_cons_zero, List.getElem_cons_succ]
        clear hHeld
        have hHeld := hHeld'
        clear hHeld'
        have hNow := (hHeld.2.2)
        try have kG := kG.below hb kG.lt
        refine rest_take (i := 5) (v := _) all_wide (noDefers_of (by kernel_rfl)) rfl (by kernel_rfl) (by kernel_rfl) (by kernel_rfl) (fun _ _ _ h => h) (Or.inl ⟨by rfl, by intro w hSw; clear hSw; go_simp; first | done | with_reducible rfl⟩) hHeld ?_
        change RestIn _ _ _ _ _ _ _ 4 #[true, true, true, true, true, true, false, false, true, false, false] _ _
        try simp only [Act.put, List.setIfInBounds_toArray, List.set_cons_zero, List.set_cons_succ, List.getElem_toArray, List.getElem_cons_zero, List.getElem_cons_succ]
        refine rest_take (i := 6) (v := _) all_wide (noDefers_of (by kernel_rfl)) rfl (by kernel_rfl) (by kernel_rfl) (by kernel_rfl) (fun _ _ _ h => h) (Or.inl ⟨by rfl, by intro w hSw; clear hSw; go_simp; first | done | with_reducible rfl⟩) hHeld ?_
        change RestIn _ _ _ _ _ _ _ 3 #[true, true, true, true, true, true, true, false, true, false, false] _ _
        try simp only [Act.put, List.setIfInBounds_toArray, List.set_cons_zero, List.set_cons_succ, List.getElem_toArray, List.getElem_cons_zero, List.getElem_cons_succ]
        refine rest_take (i := 7) (v := _) all_wide (noDefers_of (by kernel_rfl)) rfl (by kernel_rfl) (by kernel_rfl) (by kernel_rfl) (fun _ _ _ h => h) (Or.inl ⟨by rfl, by intro w hSw; clear hSw; go_simp; first | done | with_reducible rfl⟩) hHeld ?_
        change RestIn _ _ _ _ _ _ _ 2 #[true, true, true, true, true, true, true, true, true, false, false] _ _
        try simp only [Act.put, List.setIfInBounds_toArray, List.set_cons_zero, List.set_cons_succ, List.getElem_toArray, List.getElem_cons_zero, List.getElem_cons_succ]
        refine rest_ready (rs := [9]) (by kernel_rfl) (by simp) ?_
        refine AllRest.cons rfl (fun K hK => ?_) AllRest.nil
        have kGc0 := kG.cell 0
        have kGc1 := kG.cell 1
        have kGf0 := kG.frozen 0
        have kGf1 := kG.frozen 1
        have kGl := kG.lt
        try simp at kGc0
        try simp at kGc1
        try simp at kGf0
        try simp at kGf1
        try simp at kGl
        have hNow := (hHeld.2.2)
        go_simp
        refine hK.out _ _ ?_ (fun hHeld' => ?_)
        · (refine (fun (hbel : Below W0.heap.size W0 _) => ⟨kY.below hbel kY.lt, kN.below hbel kN.lt, hbel⟩) ?_; repeat' (first | with_reducible exact hNow | with_reducible exact hOld | with_reducible refine Below.setCell ?_ (by (try simp) <;> omega) _ | with_reducible refine Below.alloc ?_ (by (try simp) <;> omega) _))
        clear hK K
        change RestIn _ _ _ _ _ _ _ 1 #[true, true, true, true, true, true, true, true, true, true, false] _ _
        try simp only [Act.put, List.setIfInBounds_toArray, List.set_cons_zero, List.set_cons_succ, List.getElem_toArray, List.getElem_cons_zero, List.getElem_cons_succ]
        clear hHeld
        have hHeld := hHeld'
        clear hHeld'
        have hNow := (hHeld.2.2)
        refine rest_take (i := 10) (v := _) all_wide (noDefers_of (by kernel_rfl)) rfl (by kernel_rfl) (by kernel_rfl) (by kernel_rfl) (fun _ _ _ h => h) (Or.inl ⟨by rfl, by intro w hSw; clear hSw; go_simp; first | done | with_reducible rfl⟩) hHeld ?_
        change RestIn _ _ _ _ _ _ _ 0 #[true, true, true, true, true, true, true, true, true, true, true] _ _
        try simp only [Act.put, List.setIfInBounds_toArray, List.set_cons_zero, List.set_cons_succ, List.getElem_toArray, List.getElem_cons_zero, List.getElem_cons_succ]
        refine rest_done (by kernel_rfl) ?_
        go_wp2_with fail
        go_meet
        first | exact ⟨_, rfl, rfl, (kG.set_ 0 (.int .i64 0)).set_ 1 (.int .i64 0), hNow⟩ | exact ⟨_, rfl, rfl, Blk.new _ _ _, hNow⟩
      exact AllRest.nil
    refine AllRest.cons rfl (fun K hK => ?_) ?_
    · have kGg := (hHeld.2.2).size
      have kG := blk_new_of (hHeld.2.2) 35 #[.int .i64 0, .int .i64 0]
      have hOld := (hHeld.2.2)
      go_simp
      refine hK.out _ _ ?_ (fun hHeld' => ?_)
      · exact (fun (hbel : Below W0.heap.size W0 _) => ⟨kY.below hbel kY.lt, kN.below hbel kN.lt, hbel⟩) ((hHeld.2.2).alloc (hHeld.2.2).size _)
      clear hK K
      change RestIn _ _ _ _ _ _ _ 8 #[true, false, true, false, false, false, false, false, true, false, false] _ _
      try simp only [Act.put, List.setIfInBounds_toArray, List.set_cons_zero, List.set_cons_succ, List.getElem_toArray, List.getElem_cons_zero, List.getElem_cons_succ]
      clear hHeld
      have hHeld := hHeld'
      clear hHeld'
      have hNow := (hHeld.2.2)
      try simp at kGg
      refine rest_ready (rs := [1]) (by kernel_rfl) (by simp) ?_
      refine AllRest.cons rfl (fun K hK => ?_) AllRest.nil
      have hNow := (hHeld.2.2)
      clear hLast
      have hLast := hNow
      go_simp
      gi_wp2_with ((refine ⟨trivial, ?_⟩; gi_at_call 17; (with_reducible refine (callsIn_wide.2 (lawFlyer_any _ _)).mono ?_); rintro e wn ⟨rfl, hb⟩))
      refine hK.out _ _ ?_ (fun hHeld' => ?_)
      · exact ⟨hHeld.1.below hb hHeld.1.lt, hHeld.2.1.below hb hHeld.2.1.lt, (hHeld.2.2).trans (hb.mono (hHeld.2.2).size)⟩
      clear hK K
      change RestIn _ _ _ _ _ _ _ 7 #[true, true, true, false, false, false, false, false, true, false, false] _ _
      try simp only [Act.put, List.setIfInBounds_toArray, List.set_cons_zero, List.set_cons_succ, List.getElem_toArray, List.getElem_cons_zero, List.getElem_cons_succ]
      clear hHeld
      have hHeld := hHeld'
      clear hHeld'
      have hNow := (hHeld.2.2)
      try have kG := kG.below hb kG.lt
      refine rest_ready (rs := [3]) (by kernel_rfl) (by simp) ?_
      refine AllRest.cons rfl (fun K hK => ?_) AllRest.nil
      have hNow := (hHeld.2.2)
      clear hLast
      have hLast := hNow
      go_simp
      gi_wp2_with ((refine ⟨trivial, ?_⟩; gi_at_call 28; (with_reducible refine (callsIn_wide.2 (lawNet_any _ _)).mono ?_); rintro e wn ⟨rfl, hb⟩))
      refine hK.out _ _ ?_ (fun hHeld' => ?_)
      · exact ⟨hHeld.1.below hb hHeld.1.lt, hHeld.2.1.below hb hHeld.2.1.lt, (hHeld.2.2).trans (hb.mono (hHeld.2.2).size)⟩
      clear hK K
      change RestIn _ _ _ _ _ _ _ 6 #[true, true, true, true, false, false, false, false, true, false, false] _ _
      try simp only [Act.put, List.setIfInBounds_toArray, List.set_cons_zero, List.set_cons_succ, List.getElem_toArray, List.getElem_cons_zero, List.getElem_cons_succ]
      clear hHeld
      have hHeld := hHeld'
      clear hHeld'
      have hNow := (hHeld.2.2)
      try have kG := kG.below hb kG.lt
      refine rest_ready (rs := [4]) (by kernel_rfl) (by simp) ?_
      refine AllRest.cons rfl (fun K hK => ?_) AllRest.nil
      have hNow := (hHeld.2.2)
      clear hLast
      have hLast := hNow
      go_simp
      gi_wp2_with ((refine ⟨trivial, ?_⟩; gi_at_call 27; (with_reducible refine (callsIn_wide.2 (HL.out _)).mono ?_); rintro e wn ⟨rfl, hb⟩))
      refine hK.out _ _ ?_ (fun hHeld' => ?_)
      · exact ⟨hHeld.1.below hb hHeld.1.lt, hHeld.2.1.below hb hHeld.2.1.lt, (hHeld.2.2).trans (hb.mono (hHeld.2.2).size)⟩
      clear hK K
      change RestIn _ _ _ _ _ _ _ 5 #[true, true, true, true, true, false, false, false, true, false, false] _ _
      try simp only [Act.put, List.setIfInBounds_toArray, List.set_cons_zero, List.set_cons_succ, List.getElem_toArray, List.getElem_cons_zero, List.getElem_cons_succ]
      clear hHeld
      have hHeld := hHeld'
      clear hHeld'
      have hNow := (hHeld.2.2)
      try have kG := kG.below hb kG.lt
      refine rest_take (i := 5) (v := _) all_wide (noDefers_of (by kernel_rfl)) rfl (by kernel_rfl) (by kernel_rfl) (by kernel_rfl) (fun _ _ _ h => h) (Or.inl ⟨by rfl, by intro w hSw; clear hSw; go_simp; first | done | with_reducible rfl⟩) hHeld ?_
      change RestIn _ _ _ _ _ _ _ 4 #[true, true, true, true, true, true, false, false, true, false, false] _ _
      try simp only [Act.put, List.setIfInBounds_toArray, List.set_cons_zero, List.set_cons_succ, List.getElem_toArray, List.getElem_cons_zero, List.getElem_cons_succ]
      refine rest_take (i := 6) (v := _) all_wide (noDefers_of (by kernel_rfl)) rfl (by kernel_rfl) (by kernel_rfl) (by kernel_rfl) (fun _ _ _ h => h) (Or.inl ⟨by rfl, by intro w hSw; clear hSw; go_simp; first | done | with_reducible rfl⟩) hHeld ?_
      change RestIn _ _ _ _ _ _ _ 3 #[true, true, true, true, true, true, true, false, true, false, false] _ _
      try simp only [Act.put, List.setIfInBounds_toArray, List.set_cons_zero, List.set_cons_succ, List.getElem_toArray, List.getElem_cons_zero, List.getElem_cons_succ]
      refine rest_take (i := 7) (v := _) all_wide (noDefers_of (by kernel_rfl)) rfl (by kernel_rfl) (by kernel_rfl) (by kernel_rfl) (fun _ _ _ h => h) (Or.inl ⟨by rfl, by intro w hSw; clear hSw; go_simp; first | done | with_reducible rfl⟩) hHeld ?_
      change RestIn _ _ _ _ _ _ _ 2 #[true, true, true, true, true, true, true, true, true, false, false] _ _
      try simp only [Act.put, List.setIfInBounds_toArray, List.set_cons_zero, List.set_cons_succ, List.getElem_toArray, List.getElem_cons_zero, List.getElem_cons_succ]
      refine rest_ready (rs := [9]) (by kernel_rfl) (by simp) ?_
      refine AllRest.cons rfl (fun K hK => ?_) AllRest.nil
      have kGc0 := kG.cell 0
      have kGc1 := kG.cell 1
      have kGf0 := kG.frozen 0
      have kGf1 := kG.frozen 1
      have kGl := kG.lt
      try simp at kGc0
      try simp at kGc1
      try simp at kGf0
      try simp at kGf1
      try simp at kGl
      have hNow := (hHeld.2.2)
      go_simp
      refine hK.out _ _ ?_ (fun hHeld' => ?_)
      · (refine (fun (hbel : Below W0.heap.size W0 _) => ⟨kY.below hbel kY.lt, kN.below hbel kN.lt, hbel⟩) ?_; repeat' (first | with_reducible exact hNow | with_reducible exact hOld | with_reducible refine Below.setCell ?_ (by (try simp) <;> omega) _ | with_reducible refine Below.alloc ?_ (by (try simp) <;> omega) _))
      clear hK K
      change RestIn _ _ _ _ _ _ _ 1 #[true, true, true, true, true, true, true, true, true, true, false] _ _
      try simp only [Act.put, List.setIfInBounds_toArray, List.set_cons_zero, List.set_cons_succ, List.getElem_toArray, List.getElem_cons_zero, List.getElem_cons_succ]
      clear hHeld
      have hHeld := hHeld'
      clear hHeld'
      have hNow := (hHeld.2.2)
      refine rest_take (i := 10) (v := _) all_wide (noDefers_of (by kernel_rfl)) rfl (by kernel_rfl) (by kernel_rfl) (by kernel_rfl) (fun _ _ _ h => h) (Or.inl ⟨by rfl, by intro w hSw; clear hSw; go_simp; first | done | with_reducible rfl⟩) hHeld ?_
      change RestIn _ _ _ _ _ _ _ 0 #[true, true, true, true, true, true, true, true, true, true, true] _ _
      try simp only [Act.put, List.setIfInBounds_toArray, List.set_cons_zero, List.set_cons_succ, List.getElem_toArray, List.getElem_cons_zero, List.getElem_cons_succ]
      refine rest_done (by kernel_rfl) ?_
      go_wp2_with fail
      go_meet
      first | exact ⟨_, rfl, rfl, (kG.set_ 0 (.int .i64 0)).set_ 1 (.int .i64 0), hNow⟩ | exact ⟨_, rfl, rfl, Blk.new _ _ _, hNow⟩
    exact AllRest.nil
  case rest =>
    obtain ⟨g, rfl, rfl, kR, hX⟩ := hcut
    have kY1 := kY.below hX kY.lt
    have kN1 := kN.below hX kN.lt
    have HB1 := Lib.hid (HB0.out.trans (hX.mono HB0.out.size))
    clear kY kN HB0
    go_upto_region 2 with fail
    refine name_world (motive := fun W => Code.wp _ _ _ _ W) _ ?_
    intro W0 hW
    have hWc := hW.cell
    have hWz := hW.size
    have hWb := hW.below (hX)
    have kY := hW.blk kY1
    have kN := hW.blk kN1
    have kG := hW.blk kR
    have HB0 := Lib.hid (HB1.out.trans ((hW.below (Below.refl _ _)).mono HB1.out.size))
    clear kY1 kN1 kR HB1 hW hWc hWz hWb hX
    refine (wpIn_wide (n := 9)).1 ?_
    have hLast := trivial
    refine region_rest (S := (fun w' => Blk w' (w.heap.size) 27 #[.int .i64 f.pos.x.lo, .int .i64 f.pos.x.hi, .int .i64 f.pos.z.lo, .int .i64 f.pos.z.hi, .int .i64 f.speed.x.lo, .int .i64 f.speed.x.hi, .int .i64 f.speed.z.lo, .int .i64 f.speed.z.hi, .int .i64 f.mass] ∧ Blk w' (w.heap.size + 1) 60 #[.int .i64 n.x.lo, .int .i64 n.x.hi, .int .i64 n.height] ∧ Blk w' (g) 35 #[.int .i64 0, .int .i64 0] ∧ Below W0.heap.size W0 w')) hmx ?_ (fun hHeld => ?_)
    · exact ⟨kY.drew, kN.drew, kG.drew, (Below.refl W0.heap.size W0).drew⟩
    change RestIn _ _ _ _ _ _ _ 10 #[false, false, false, false, false, false, false, false, false, false] _ (World.drew _)
    refine rest_take (i := 0) (v := _) all_wide (noDefers_of (by kernel_rfl)) rfl (by kernel_rfl) (by kernel_rfl) (by kernel_rfl) (fun _ _ _ h => h) (Or.inl ⟨by rfl, by intro w hSw; (obtain ⟨q0, q1, q2, _⟩ := hSw; have q0x0 := q0.cell 0; have q0x1 := q0.cell 1; have q0x2 := q0.cell 2; have q0x3 := q0.cell 3; have q0x4 := q0.cell 4; have q0x5 := q0.cell 5; have q0x6 := q0.cell 6; have q0x7 := q0.cell 7; have q0x8 := q0.cell 8; have q1x0 := q1.cell 0; have q1x1 := q1.cell 1; have q1x2 := q1.cell 2; have q2x0 := q2.cell 0; have q2x1 := q2.cell 1; simp at q0x0 q0x1 q0x2 q0x3 q0x4 q0x5 q0x6 q0x7 q0x8 q1x0 q1x1 q1x2 q2x0 q2x1); go_simp; first | done | with_reducible rfl⟩) hHeld ?_
    change RestIn _ _ _ _ _ _ _ 9 #[true, false, false, false, false, false, false, false, false, false] _ _
    try simp only [Act.put, List.setIfInBounds_toArray, List.set_cons_zero, List.set_cons_succ, List.getElem_toArray, List.getElem_cons_zero, List.getElem_cons_succ]
    refine rest_take (i := 2) (v := _) all_wide (noDefers_of (by kernel_rfl)) rfl (by kernel_rfl) (by kernel_rfl) (by kernel_rfl) (fun _ _ _ h => h) (Or.inl ⟨by rfl, by intro w hSw; (obtain ⟨q0, q1, q2, _⟩ := hSw; have q0x0 := q0.cell 0; have q0x1 := q0.cell 1; have q0x2 := q0.cell 2; have q0x3 := q0.cell 3; have q0x4 := q0.cell 4; have q0x5 := q0.cell 5; have q0x6 := q0.cell 6; have q0x7 := q0.cell 7; have q0x8 := q0.cell 8; have q1x0 := q1.cell 0; have q1x1 := q1.cell 1; have q1x2 := q1.cell 2; have q2x0 := q2.cell 0; have q2x1 := q2.cell 1; simp at q0x0 q0x1 q0x2 q0x3 q0x4 q0x5 q0x6 q0x7 q0x8 q1x0 q1x1 q1x2 q2x0 q2x1); go_simp; first | done | with_reducible rfl⟩) hHeld ?_
    change RestIn _ _ _ _ _ _ _ 8 #[true, false, true, false, false, false, false, false, false, false] _ _
    try simp only [Act.put, List.setIfInBounds_toArray, List.set_cons_zero, List.set_cons_succ, List.getElem_toArray, List.getElem_cons_zero, List.getElem_cons_succ]
    refine rest_ready (rs := [1]) (by kernel_rfl) (by simp) ?_
    refine AllRest.cons rfl (fun K hK => ?_) AllRest.nil
    have hNow := (hHeld.2.2.2)
    clear hLast
    have hLast := hNow
    go_simp
    gi_wp2_with ((refine ⟨trivial, ?_⟩; gi_at_call 17; (with_reducible refine (callsIn_wide.2 (lawFlyer_any _ _)).mono ?_); rintro e wn ⟨rfl, hb⟩))
    refine hK.out _ _ ?_ (fun hHeld' => ?_)
    · exact ⟨hHeld.1.below hb hHeld.1.lt, hHeld.2.1.below hb hHeld.2.1.lt, hHeld.2.2.1.below hb hHeld.2.2.1.lt, (hHeld.2.2.2).trans (hb.mono (hHeld.2.2.2).size)⟩
    clear hK K
    change RestIn _ _ _ _ _ _ _ 7 #[true, true, true, false, false, false, false, false, false, false] _ _
    try simp only [Act.put, List.setIfInBounds_toArray, List.set_cons_zero, List.set_cons_succ, List.getElem_toArray, List.getElem_cons_zero, List.getElem_cons_succ]
    clear hHeld
    have hHeld := hHeld'
    clear hHeld'
    have hNow := (hHeld.2.2.2)
    refine rest_ready (rs := [3]) (by kernel_rfl) (by simp) ?_
    refine AllRest.cons rfl (fun K hK => ?_) AllRest.nil
    have hNow := (hHeld.2.2.2)
    clear hLast
    have hLast := hNow
    go_simp
    gi_wp2_with ((refine ⟨trivial, ?_⟩; gi_at_call 28; (with_reducible refine (callsIn_wide.2 (lawNet_any _ _)).mono ?_); rintro e wn ⟨rfl, hb⟩))
    refine hK.out _ _ ?_ (fun hHeld' => ?_)
    · exact ⟨hHeld.1.below hb hHeld.1.lt, hHeld.2.1.below hb hHeld.2.1.lt, hHeld.2.2.1.below hb hHeld.2.2.1.lt, (hHeld.2.2.2).trans (hb.mono (hHeld.2.2.2).size)⟩
    clear hK K
    change RestIn _ _ _ _ _ _ _ 6 #[true, true, true, true, false, false, false, false, false, false] _ _
    try simp only [Act.put, List.setIfInBounds_toArray, List.set_cons_zero, List.set_cons_succ, List.getElem_toArray, List.getElem_cons_zero, List.getElem_cons_succ]
    clear hHeld
    have hHeld := hHeld'
    clear hHeld'
    have hNow := (hHeld.2.2.2)
    refine rest_ready (rs := [4]) (by kernel_rfl) (by simp) ?_
    refine AllRest.cons rfl (fun K hK => ?_) AllRest.nil
    have hNow := (hHeld.2.2.2)
    clear hLast
    have hLast := hNow
    go_simp
    gi_wp2_with ((refine ⟨trivial, ?_⟩; gi_at_call 29; (with_reducible refine (callsIn_wide.2 (HT.out _)).mono ?_); rintro e wn ⟨rfl, hb⟩))
    refine hK.out _ _ ?_ (fun hHeld' => ?_)
    · exact ⟨hHeld.1.below hb hHeld.1.lt, hHeld.2.1.below hb hHeld.2.1.lt, hHeld.2.2.1.below hb hHeld.2.2.1.lt, (hHeld.2.2.2).trans (hb.mono (hHeld.2.2.2).size)⟩
    clear hK K
    change RestIn _ _ _ _ _ _ _ 5 #[true, true, true, true, true, false, false, false, false, false] _ _
    try simp only [Act.put, List.setIfInBounds_toArray, List.set_cons_zero, List.set_cons_succ, List.getElem_toArray, List.getElem_cons_zero, List.getElem_cons_succ]
    clear hHeld
    have hHeld := hHeld'
    clear hHeld'
    have hNow := (hHeld.2.2.2)
    refine rest_take (i := 5) (v := _) all_wide (noDefers_of (by kernel_rfl)) rfl (by kernel_rfl) (by kernel_rfl) (by kernel_rfl) (fun _ _ _ h => h) (Or.inl ⟨by rfl, by intro w hSw; clear hSw; go_simp; first | done | with_reducible rfl⟩) hHeld ?_
    change RestIn _ _ _ _ _ _ _ 4 #[true, true, true, true, true, true, false, false, false, false] _ _
    try simp only [Act.put, List.setIfInBounds_toArray, List.set_cons_zero, List.set_cons_succ, List.getElem_toArray, List.getElem_cons_zero, List.getElem_cons_succ]
    refine rest_take (i := 6) (v := _) all_wide (noDefers_of (by kernel_rfl)) rfl (by kernel_rfl) (by kernel_rfl) (by kernel_rfl) (fun _ _ _ h => h) (Or.inl ⟨by rfl, by intro w hSw; clear hSw; go_simp; first | done | with_reducible rfl⟩) hHeld ?_
    change RestIn _ _ _ _ _ _ _ 3 #[true, true, true, true, true, true, true, false, false, false] _ _
    try simp only [Act.put, List.setIfInBounds_toArray, List.set_cons_zero, List.set_cons_succ, List.getElem_toArray, List.getElem_cons_zero, List.getElem_cons_succ]
    refine rest_take (i := 7) (v := _) all_wide (noDefers_of (by kernel_rfl)) rfl (by kernel_rfl) (by kernel_rfl) (by kernel_rfl) (fun _ _ _ h => h) (Or.inl ⟨by rfl, by intro w hSw; clear hSw; go_simp; first | done | with_reducible rfl⟩) hHeld ?_
    change RestIn _ _ _ _ _ _ _ 2 #[true, true, true, true, true, true, true, true, false, false] _ _
    try simp only [Act.put, List.setIfInBounds_toArray, List.set_cons_zero, List.set_cons_succ, List.getElem_toArray, List.getElem_cons_zero, List.getElem_cons_succ]
    refine rest_take (i := 8) (v := _) all_wide (noDefers_of (by kernel_rfl)) rfl (by kernel_rfl) (by kernel_rfl) (by kernel_rfl) (fun _ _ _ h => h) (Or.inl ⟨by rfl, by intro w hSw; clear hSw; go_simp; first | done | with_reducible rfl⟩) hHeld ?_
    change RestIn _ _ _ _ _ _ _ 1 #[true, true, true, true, true, true, true, true, true, false] _ _
    try simp only [Act.put, List.setIfInBounds_toArray, List.set_cons_zero, List.set_cons_succ, List.getElem_toArray, List.getElem_cons_zero, List.getElem_cons_succ]
    refine rest_take (i := 9) (v := _) all_wide (noDefers_of (by kernel_rfl)) rfl (by kernel_rfl) (by kernel_rfl) (by kernel_rfl) (fun _ _ _ h => h) (Or.inl ⟨by rfl, by intro w hSw; clear hSw; go_simp; first | done | with_reducible rfl⟩) hHeld ?_
    change RestIn _ _ _ _ _ _ _ 0 #[true, true, true, true, true, true, true, true, true, true] _ _
    try simp only [Act.put, List.setIfInBounds_toArray, List.set_cons_zero, List.set_cons_succ, List.getElem_toArray, List.getElem_cons_zero, List.getElem_cons_succ]
    refine rest_done (by kernel_rfl) ?_
    clear hLast
    obtain ⟨kY1, kN1, kG1, hX⟩ := hHeld
    clear hNow
    have y0 := kY1.cell 0; have y1 := kY1.cell 1; have y2 := kY1.cell 2; have y3 := kY1.cell 3; have y4 := kY1.cell 4; have y5 := kY1.cell 5; have y6 := kY1.cell 6; have y7 := kY1.cell 7; have y8 := kY1.cell 8; simp at y0 y1 y2 y3 y4 y5 y6 y7 y8
    have r0 := kG1.cell 0; have r1 := kG1.cell 1; simp at r0 r1
    go_upto_region 6 with (first | (go_at_call 21; (with_reducible refine (HRY.out _).mono ?_); rintro e w1 ⟨rfl, hb1⟩; have kY2 := kY1.below hb1 kY1.lt; have kN2 := kN1.below hb1 kN1.lt; have kG2 := kG1.below hb1 kG1.lt; have hX2 := sh_next hX hb1; have n0 := kN2.cell 0; have n1 := kN2.cell 1; have n2 := kN2.cell 2; simp at n0 n1 n2; have s0 := kG2.cell 0; have s1 := kG2.cell 1; simp at s0 s1) | (go_at_call 30; (with_reducible refine (HRN.out _).mono ?_); rintro e w2 ⟨rfl, hb2⟩; have kY3 := kY2.below hb2 kY2.lt; have kN3 := kN2.below hb2 kN2.lt; have kG3 := kG2.below hb2 kG2.lt; have hX3 := sh_next hX2 hb2; have z0 := kY3.cell 0; have z1 := kY3.cell 1; have z2 := kY3.cell 2; have z3 := kY3.cell 3; have z4 := kY3.cell 4; have z5 := kY3.cell 5; have z6 := kY3.cell 6; have z7 := kY3.cell 7; have z8 := kY3.cell 8; simp at z0 z1 z2 z3 z4 z5 z6 z7 z8; have m0 := kN3.cell 0; have m1 := kN3.cell 1; have m2 := kN3.cell 2; simp at m0 m1 m2; have t0 := kG3.cell 0; have t1 := kG3.cell 1; simp at t0 t1) | (go_at_call 31; (with_reducible refine (HRL.out _).mono ?_); rintro e w3 ⟨rfl, hb3⟩))
    have hX4 := sh_next hX3 hb3
    have kW0 := Blk.new w3 23 #[.int .i64 lo, .int .i64 (-1)]
    have hX5 := hX4.alloc hX4.size (.cells #[.int .i64 lo, .int .i64 (-1)] 23)
    have kY4 := (kY3.below hb3 kY3.lt).alloc (.cells #[.int .i64 lo, .int .i64 (-1)] 23)
    have kN4 := (kN3.below hb3 kN3.lt).alloc (.cells #[.int .i64 lo, .int .i64 (-1)] 23)
    have kG4 := (kG3.below hb3 kG3.lt).alloc (.cells #[.int .i64 lo, .int .i64 (-1)] 23)
    obtain ⟨gw, hgw⟩ : ∃ gw, w3.heap.size = gw := ⟨_, rfl⟩
    rw [hgw] at kW0
    simp only [hgw]
    refine name_world (motive := fun W => Code.wp _ _ _ _ W) _ ?_
    intro W0 hW
    have hWc := hW.cell
    have hWz := hW.size
    have hWb := hW.below (hX5)
    have kY := hW.blk kY4
    have kN := hW.blk kN4
    have kG := hW.blk kG4
    have kW := hW.blk kW0
    have HB2 := Lib.hid (HB0.out.trans (hWb.mono HB0.out.size))
    clear hW hWc hWz hWb hX5 hX4 hX3 hX2 hX kY4 kN4 kG4 kW0 kY3 kN3 kG3 kY2 kN2 kG2 kY1 kN1 kG1 y0 y1 y2 y3 y4 y5 y6 y7 y8 r0 r1 n0 n1 n2 s0 s1 z0 z1 z2 z3 z4 z5 z6 z7 z8 m0 m1 m2 t0 t1 hb1 hb2 hb3 hgw
    have y0 := kY.cell 0; have y1 := kY.cell 1; have y2 := kY.cell 2; have y3 := kY.cell 3; have y4 := kY.cell 4; have y5 := kY.cell 5; have y6 := kY.cell 6; have y7 := kY.cell 7; have y8 := kY.cell 8; simp at y0 y1 y2 y3 y4 y5 y6 y7 y8
    have n0 := kN.cell 0; have n1 := kN.cell 1; have n2 := kN.cell 2; simp at n0 n1 n2
    go_wp2_with (first | (go_at_call 32; (with_reducible refine (HRT.out _).mono ?_); rintro e w4 ⟨rfl, hb4⟩; have kG5 := kG.below hb4 kG.lt; have kW5 := kW.below hb4 kW.lt; have s0 := kG5.cell 0; have s1 := kG5.cell 1; simp at s0 s1; have p0 := kW5.cell 0; have p1 := kW5.cell 1; simp at p0 p1) | (go_at_call 15; refine (wakes_any _).mono ?_; rintro e w5 ⟨rfl, hb5⟩))
    go_ret
    exact ⟨rfl, HB2.out.trans ((sh_next hb4 hb5).mono HB2.out.size)⟩
set_option linter.unusedSimpArgs false in
set_option maxRecDepth 100000 in
set_option maxHeartbeats 16000000 in
theorem lands_3 (f : Fly) (n : Net) (w : World) (hfy : f.ok = true) (hnk : n.ok = true) (hc : comesB f n = true) :
    Calls Try.prog 4 #[.agg #[.int .i64 f.pos.x.lo, .int .i64 f.pos.x.hi, .int .i64 f.pos.z.lo, .int .i64 f.pos.z.hi, .int .i64 f.speed.x.lo, .int .i64 f.speed.x.hi, .int .i64 f.speed.z.lo, .int .i64 f.speed.z.hi, .int .i64 f.mass], .agg #[.int .i64 n.x.lo, .int .i64 n.x.hi, .int .i64 n.height]] w fun e w' => e = .returned (.bool true) ∧ Below w.heap.size w w' := by
  have hB0 := ((Below.refl w.heap.size w).alloc (Nat.le_refl _) (.cells #[.int .i64 f.pos.x.lo, .int .i64 f.pos.x.hi, .int .i64 f.pos.z.lo, .int .i64 f.pos.z.hi, .int .i64 f.speed.x.lo, .int .i64 f.speed.x.hi, .int .i64 f.speed.z.lo, .int .i64 f.speed.z.hi, .int .i64 f.mass] 27)).alloc (by simp) (.cells #[.int .i64 n.x.lo, .int .i64 n.x.hi, .int .i64 n.height] 60)
  have kY0 := (Blk.new w 27 #[.int .i64 f.pos.x.lo, .int .i64 f.pos.x.hi, .int .i64 f.pos.z.lo, .int .i64 f.pos.z.hi, .int .i64 f.speed.x.lo, .int .i64 f.speed.x.hi, .int .i64 f.speed.z.lo, .int .i64 f.speed.z.hi, .int .i64 f.mass]).alloc (.cells #[.int .i64 n.x.lo, .int .i64 n.x.hi, .int .i64 n.height] 60)
  have kN0 := Blk.new (w.alloc (.cells #[.int .i64 f.pos.x.lo, .int .i64 f.pos.x.hi, .int .i64 f.pos.z.lo, .int .i64 f.pos.z.hi, .int .i64 f.speed.x.lo, .int .i64 f.speed.x.hi, .int .i64 f.speed.z.lo, .int .i64 f.speed.z.hi, .int .i64 f.mass] 27)) 60 #[.int .i64 n.x.lo, .int .i64 n.x.hi, .int .i64 n.height]
  simp only [World.size_alloc] at kN0
  obtain ⟨hl1, hl2⟩ := land_ref hfy hc
  obtain ⟨lo, hlo⟩ : ∃ lo, (landR f n).lo = lo := ⟨_, rfl⟩
  obtain ⟨hi, hhi⟩ : ∃ hi, (landR f n).hi = hi := ⟨_, rfl⟩
  obtain ⟨x, hx⟩ : ∃ x, takesB f n = x := ⟨_, rfl⟩
  have HL : Hid (∀ W : World, Calls Try.prog 27 #[.agg #[.int .i64 f.pos.x.lo, .int .i64 f.pos.x.hi, .int .i64 f.pos.z.lo, .int .i64 f.pos.z.hi, .int .i64 f.speed.x.lo, .int .i64 f.speed.x.hi, .int .i64 f.speed.z.lo, .int .i64 f.speed.z.hi, .int .i64 f.mass], .agg #[.int .i64 n.x.lo, .int .i64 n.x.hi, .int .i64 n.height]] W fun e w' => e = .returned (.tuple #[.agg #[.int .i64 lo, .int .i64 hi], .int .i64 0]) ∧ Below W.heap.size W w') := fun W => by
    have := Landing_ok f n W hfy hnk
    rw [hc, hlo, hhi] at this
    exact this
  have HT : Hid (∀ W : World, Calls Try.prog 29 #[.agg #[.int .i64 f.pos.x.lo, .int .i64 f.pos.x.hi, .int .i64 f.pos.z.lo, .int .i64 f.pos.z.hi, .int .i64 f.speed.x.lo, .int .i64 f.speed.x.hi, .int .i64 f.speed.z.lo, .int .i64 f.speed.z.hi, .int .i64 f.mass], .agg #[.int .i64 n.x.lo, .int .i64 n.x.hi, .int .i64 n.height]] W fun e w' => e = .returned (.tuple #[.bool x, .int .i64 0]) ∧ Below W.heap.size W w') := fun W => by rw [← hx]; exact Takes_ok f n W hfy hnk
  have HRT : Hid (∀ W : World, Calls Try.prog 32 #[.agg #[.int .i64 f.pos.x.lo, .int .i64 f.pos.x.hi, .int .i64 f.pos.z.lo, .int .i64 f.pos.z.hi, .int .i64 f.speed.x.lo, .int .i64 f.speed.x.hi, .int .i64 f.speed.z.lo, .int .i64 f.speed.z.hi, .int .i64 f.mass], .agg #[.int .i64 n.x.lo, .int .i64 n.x.hi, .int .i64 n.height]] W fun e w' => e = .returned (.bool x) ∧ Below W.heap.size W w') := fun W => by rw [← hx]; exact refTakes_any f n W hfy
  have HRL : Hid (∀ W : World, Calls Try.prog 31 #[.agg #[.int .i64 f.pos.x.lo, .int .i64 f.pos.x.hi, .int .i64 f.pos.z.lo, .int .i64 f.pos.z.hi, .int .i64 f.speed.x.lo, .int .i64 f.speed.x.hi, .int .i64 f.speed.z.lo, .int .i64 f.speed.z.hi, .int .i64 f.mass], .agg #[.int .i64 n.x.lo, .int .i64 n.x.hi, .int .i64 n.height]] W fun e w' => e = .returned (.tuple #[.agg #[.int .i64 lo, .int .i64 hi], .bool true]) ∧ Below W.heap.size W w') := fun W => by
    have := refLanding_any f n W hfy
    rw [hl1, hl2, hlo, hhi] at this
    have h0 : (0 : Int) ≤ hi := by rw [← hhi, ← hl2, tickI_some (show (highO f n).isSome = true from hc)]; omega
    rw [show decide (0 ≤ hi) = true by simpa using h0] at this
    exact this
  have hxx : (x != x) = false := by simp
  clear hl1 hl2 hlo hhi hx
  have hEq : ∀ W : World, (binOp .eql 35 (.agg #[.int .i64 lo, .int .i64 hi]) (.agg #[.int .i64 lo, .int .i64 hi])).run Try.prog W = .ok (.bool true) W := fun W => by rw [eqR]; simp
  have HRY : Hid (∀ W : World, Calls Try.prog 21 #[.agg #[.int .i64 f.pos.x.lo, .int .i64 f.pos.x.hi, .int .i64 f.pos.z.lo, .int .i64 f.pos.z.hi, .int .i64 f.speed.x.lo, .int .i64 f.speed.x.hi, .int .i64 f.speed.z.lo, .int .i64 f.speed.z.hi, .int .i64 f.mass]] W fun e w' => e = .returned (.bool true) ∧ Below W.heap.size W w') := fun W => by rw [← hfy]; exact rightFlyer_any f W
  have HRN : Hid (∀ W : World, Calls Try.prog 30 #[.agg #[.int .i64 n.x.lo, .int .i64 n.x.hi, .int .i64 n.height]] W fun e w' => e = .returned (.bool true) ∧ Below W.heap.size W w') := fun W => by rw [← hnk]; exact rightNet_any n W
  clear hfy hnk hc
  have hmx : Try.prog.follows .mixedOrders = true := by kernel_rfl
  go_enter Try.func4, Try.ntmps4
  go_upto_region 1 with fail
  refine name_world (motive := fun W => Code.wp _ _ _ _ W) _ ?_
  intro W0 hW
  have hWc := hW.cell
  have hWz := hW.size
  have hWb := hW.below (hB0)
  have kY := hW.blk kY0
  have kN := hW.blk kN0
  have HB0 := Lib.hid hWb
  clear hB0 kY0 kN0 hW hWc hWz hWb
  go_cut [5, 6] (fun s5 s6 wx => ∃ g : Nat, s5 = .pointer (some ⟨g, 0, none⟩) ∧ s6 = .int .i64 0 ∧ Blk wx g 35 #[.int .i64 lo, .int .i64 hi] ∧ Below W0.heap.size W0 wx)
  case first =>
    refine (wpIn_wide (n := 9)).1 ?_
    have hLast := trivial
    refine region_rest (S := (fun w' => Blk w' (w.heap.size) 27 #[.int .i64 f.pos.x.lo, .int .i64 f.pos.x.hi, .int .i64 f.pos.z.lo, .int .i64 f.pos.z.hi, .int .i64 f.speed.x.lo, .int .i64 f.speed.x.hi, .int .i64 f.speed.z.lo, .int .i64 f.speed.z.hi, .int .i64 f.mass] ∧ Blk w' (w.heap.size + 1) 60 #[.int .i64 n.x.lo, .int .i64 n.x.hi, .int .i64 n.height] ∧ Below W0.heap.size W0 w')) hmx ?_ (fun hHeld => ?_)
    · exact ⟨kY.drew, kN.drew, (Below.refl W0.heap.size W0).drew⟩
    change RestIn _ _ _ _ _ _ _ 11 #[false, false, false, false, false, false, false, false, false, false, false] _ (World.drew _)
    refine rest_take (i := 0) (v := _) all_wide (noDefers_of (by kernel_rfl)) rfl (by kernel_rfl) (by kernel_rfl) (by kernel_rfl) (fun _ _ _ h => h) (Or.inl ⟨by rfl, by intro w hSw; (obtain ⟨q0, q1, _⟩ := hSw; have q0x0 := q0.cell 0; have q0x1 := q0.cell 1; have q0x2 := q0.cell 2; have q0x3 := q0.cell 3; have q0x4 := q0.cell 4; have q0x5 := q0.cell 5; have q0x6 := q0.cell 6; have q0x7 := q0.cell 7; have q0x8 := q0.cell 8; have q1x0 := q1.cell 0; have q1x1 := q1.cell 1; have q1x2 := q1.cell 2; simp at q0x0 q0x1 q0x2 q0x3 q0x4 q0x5 q0x6 q0x7 q0x8 q1x0 q1x1 q1x2); go_simp; first | done | with_reducible rfl⟩) hHeld ?_
    change RestIn _ _ _ _ _ _ _ 10 #[true, false, false, false, false, false, false, false, false, false, false] _ _
    try simp only [Act.put, List.setIfInBounds_toArray, List.set_cons_zero, List.set_cons_succ, List.getElem_toArray, List.getElem_cons_zero, List.getElem_cons_succ]
    refine rest_take (i := 2) (v := _) all_wide (noDefers_of (by kernel_rfl)) rfl (by kernel_rfl) (by kernel_rfl) (by kernel_rfl) (fun _ _ _ h => h) (Or.inl ⟨by rfl, by intro w hSw; (obtain ⟨q0, q1, _⟩ := hSw; have q0x0 := q0.cell 0; have q0x1 := q0.cell 1; have q0x2 := q0.cell 2; have q0x3 := q0.cell 3; have q0x4 := q0.cell 4; have q0x5 := q0.cell 5; have q0x6 := q0.cell 6; have q0x7 := q0.cell 7; have q0x8 := q0.cell 8; have q1x0 := q1.cell 0; have q1x1 := q1.cell 1; have q1x2 := q1.cell 2; simp at q0x0 q0x1 q0x2 q0x3 q0x4 q0x5 q0x6 q0x7 q0x8 q1x0 q1x1 q1x2); go_simp; first | done | with_reducible rfl⟩) hHeld ?_
    change RestIn _ _ _ _ _ _ _ 9 #[true, false, true, false, false, false, false, false, false, false, false] _ _
    try simp only [Act.put, List.setIfInBounds_toArray, List.set_cons_zero, List.set_cons_succ, List.getElem_toArray, List.getElem_cons_zero, List.getElem_cons_succ]
    refine rest_ready (rs := [1, 8]) (by kernel_rfl) (by simp) ?_
    refine AllRest.cons rfl (fun K hK => ?_) ?_
    · have hNow := (hHeld.2.2)
      clear hLast
      have hLast := hNow
      go_simp
      gi_wp2_with ((refine ⟨trivial, ?_⟩; gi_at_call 17; (with_reducible refine (callsIn_wide.2 (lawFlyer_any _ _)).mono ?_); rintro e wn ⟨rfl, hb⟩))
      refine hK.out _ _ ?_ (fun hHeld' => ?_)
      · exact ⟨hHeld.1.below hb hHeld.1.lt, hHeld.2.1.below hb hHeld.2.1.lt, (hHeld.2.2).trans (hb.mono (hHeld.2.2).size)⟩
      clear hK K
      change RestIn _ _ _ _ _ _ _ 8 #[true, true, true, false, false, false, false, false, false, false, false] _ _
      try simp only [Act.put, List.setIfInBounds_toArray, List.set_cons_zero, List.set_cons_succ, List.getElem_toArray, List.getElem_cons_zero, List.getElem_cons_succ]
      clear hHeld
      have hHeld := hHeld'
      clear hHeld'
      have hNow := (hHeld.2.2)
      try have kG := kG.below hb kG.lt
      refine rest_ready (rs := [3, 8]) (by kernel_rfl) (by simp) ?_
      refine AllRest.cons rfl (fun K hK => ?_) ?_
      · have hNow := (hHeld.2.2)
        clear hLast
        have hLast := hNow
        go_simp
        gi_wp2_with ((refine ⟨trivial, ?_⟩; gi_at_call 28; (with_reducible refine (callsIn_wide.2 (lawNet_any _ _)).mono ?_); rintro e wn ⟨rfl, hb⟩))
        refine hK.out _ _ ?_ (fun hHeld' => ?_)
        · exact ⟨hHeld.1.below hb hHeld.1.lt, hHeld.2.1.below hb hHeld.2.1.lt, (hHeld.2.2).trans (hb.mono (hHeld.2.2).size)⟩
        clear hK K
        change RestIn _ _ _ _ _ _ _ 7 #[true, true, true, true, false, false, false, false, false, false, false] _ _
        try simp only [Act.put, List.setIfInBounds_toArray, List.set_cons_zero, List.set_cons_succ, List.getElem_toArray, List.getElem_cons_zero, List.getElem_cons_succ]
        clear hHeld
        have hHeld := hHeld'
        clear hHeld'
        have hNow := (hHeld.2.2)
        try have kG := kG.below hb kG.lt
        refine rest_ready (rs := [4, 8]) (by kernel_rfl) (by simp) ?_
        refine AllRest.cons rfl (fun K hK => ?_) ?_
        · have hNow := (hHeld.2.2)
          clear hLast
          have hLast := hNow
          go_simp
          gi_wp2_with ((refine ⟨trivial, ?_⟩; gi_at_call 27; (with_reducible refine (callsIn_wide.2 (HL.out _)).mono ?_); rintro e wn ⟨rfl, hb⟩))
          refine hK.out _ _ ?_ (fun hHeld' => ?_)
          · exact ⟨hHeld.1.below hb hHeld.1.lt, hHeld.2.1.below hb hHeld.2.1.lt, (hHeld.2.2).trans (hb.mono (hHeld.2.2).size)⟩
          clear hK K
          change RestIn _ _ _ _ _ _ _ 6 #[true, true, true, true, true, false, false, false, false, false, false] _ _
          try simp only [Act.put, List.setIfInBounds_toArray, List.set_cons_zero, List.set_cons_succ, List.getElem_toArray, List.getElem_cons_zero, List.getElem_cons_succ]
          clear hHeld
          have hHeld := hHeld'
          clear hHeld'
          have hNow := (hHeld.2.2)
          try have kG := kG.below hb kG.lt
          refine rest_take (i := 5) (v := _) all_wide (noDefers_of (by kernel_rfl)) rfl (by kernel_rfl) (by kernel_rfl) (by kernel_rfl) (fun _ _ _ h => h) (Or.inl ⟨by rfl, by intro w hSw; clear hSw; go_simp; first | done | with_reducible rfl⟩) hHeld ?_
          change RestIn _ _ _ _ _ _ _ 5 #[true, true, true, true, true, true, false, false, false, false, false] _ _
          try simp only [Act.put, List.setIfInBounds_toArray, List.set_cons_zero, List.set_cons_succ, List.getElem_toArray, List.getElem_cons_zero, List.getElem_cons_succ]
          refine rest_take (i := 6) (v := _) all_wide (noDefers_of (by kernel_rfl)) rfl (by kernel_rfl) (by kernel_rfl) (by kernel_rfl) (fun _ _ _ h => h) (Or.inl ⟨by rfl, by intro w hSw; clear hSw; go_simp; first | done | with_reducible rfl⟩) hHeld ?_
          change RestIn _ _ _ _ _ _ _ 4 #[true, true, true, true, true, true, true, false, false, false, false] _ _
          try simp only [Act.put, List.setIfInBounds_toArray, List.set_cons_zero, List.set_cons_succ, List.getElem_toArray, List.getElem_cons_zero, List.getElem_cons_succ]
          refine rest_take (i := 7) (v := _) all_wide (noDefers_of (by kernel_rfl)) rfl (by kernel_rfl) (by kernel_rfl) (by kernel_rfl) (fun _ _ _ h => h) (Or.inl ⟨by rfl, by intro w hSw; clear hSw; go_simp; first | done | with_reducible rfl⟩) hHeld ?_
          change RestIn _ _ _ _ _ _ _ 3 #[true, true, true, true, true, true, true, true, false, false, false] _ _
          try simp only [Act.put, List.setIfInBounds_toArray, List.set_cons_zero, List.set_cons_succ, List.getElem_toArray, List.getElem_cons_zero, List.getElem_cons_succ]
          refine rest_ready (rs := [8]) (by kernel_rfl) (by simp) ?_
          refine AllRest.cons rfl (fun K hK => ?_) AllRest.nil
          have kGg := (hHeld.2.2).size
          have kG := blk_new_of (hHeld.2.2) 35 #[.int .i64 0, .int .i64 0]
          have hOld := (hHeld.2.2)
          go_simp
          refine hK.out _ _ ?_ (fun hHeld' => ?_)
          · exact (fun (hbel : Below W0.heap.size W0 _) => ⟨kY.below hbel kY.lt, kN.below hbel kN.lt, hbel⟩) ((hHeld.2.2).alloc (hHeld.2.2).size _)
          clear hK K
          change RestIn _ _ _ _ _ _ _ 2 #[true, true, true, true, true, true, true, true, true, false, false] _ _
          try simp only [Act.put, List.setIfInBounds_toArray, List.set_cons_zero, List.set_cons_succ, List.getElem_toArray, List.getElem_cons_zero, List.getElem_cons_succ]
          clear hHeld
          have hHeld := hHeld'
          clear hHeld'
          have hNow := (hHeld.2.2)
          try simp at kGg
          refine rest_ready (rs := [9]) (by kernel_rfl) (by simp) ?_
          refine AllRest.cons rfl (fun K hK => ?_) AllRest.nil
          have kGc0 := kG.cell 0
          have kGc1 := kG.cell 1
          have kGf0 := kG.frozen 0
          have kGf1 := kG.frozen 1
          have kGl := kG.lt
          try simp at kGc0
          try simp at kGc1
          try simp at kGf0
          try simp at kGf1
          try simp at kGl
          have hNow := (hHeld.2.2)
          go_simp
          refine hK.out _ _ ?_ (fun hHeld' => ?_)
          · (refine (fun (hbel : Below W0.heap.size W0 _) => ⟨kY.below hbel kY.lt, kN.below hbel kN.lt, hbel⟩) ?_; repeat' (first | with_reducible exact hNow | with_reducible exact hOld | with_reducible refine Below.setCell ?_ (by (try simp) <;> omega) _ | with_reducible refine Below.alloc ?_ (by (try simp) <;> omega) _))
          clear hK K
          change RestIn _ _ _ _ _ _ _ 1 #[true, true, true, true, true, true, true, true, true, true, false] _ _
          try simp only [Act.put, List.setIfInBounds_toArray, List.set_cons_zero, List.set_cons_succ, List.getElem_toArray, List.getElem_cons_zero, List.getElem_cons_succ]
          clear hHeld
          have hHeld := hHeld'
          clear hHeld'
          have hNow := (hHeld.2.2)
          refine rest_take (i := 10) (v := _) all_wide (noDefers_of (by kernel_rfl)) rfl (by kernel_rfl) (by kernel_rfl) (by kernel_rfl) (fun _ _ _ h => h) (Or.inl ⟨by rfl, by intro w hSw; clear hSw; go_simp; first | done | with_reducible rfl⟩) hHeld ?_
          change RestIn _ _ _ _ _ _ _ 0 #[true, true, true, true, true, true, true, true, true, true, true] _ _
          try simp only [Act.put, List.setIfInBounds_toArray, List.set_cons_zero, List.set_cons_succ, List.getElem_toArray, List.getElem_cons_zero, List.getElem_cons_succ]
          refine rest_done (by kernel_rfl) ?_
          go_wp2_with fail
          go_meet
          first | exact ⟨_, rfl, rfl, (kG.set_ 0 (.int .i64 lo)).set_ 1 (.int .i64 hi), hNow⟩ | exact ⟨_, rfl, rfl, Blk.new _ _ _, hNow⟩
        refine AllRest.cons rfl (fun K hK => ?_) ?_
        · have kGg := (hHeld.2.2).size
          have kG := blk_new_of (hHeld.2.2) 35 #[.int .i64 0, .int .i64 0]
          have hOld := (hHeld.2.2)
          go_simp
          refine hK.out _ _ ?_ (fun hHeld' => ?_)
          · exact (fun (hbel : Below W0.heap.size W0 _) => ⟨kY.below hbel kY.lt, kN.below hbel kN.lt, hbel⟩) ((hHeld.2.2).alloc (hHeld.2.2).size _)
          clear hK K
          change RestIn _ _ _ _ _ _ _ 6 #[true, true, true, true, false, false, false, false, true, false, false] _ _
          try simp only [Act.put, List.setIfInBounds_toArray, List.set_cons_zero, List.set_cons_succ, List.getElem_toArray, List.getElem_cons_zero, List.getElem_cons_succ]
          clear hHeld
          have hHeld := hHeld'
          clear hHeld'
          have hNow := (hHeld.2.2)
          try simp at kGg
          refine rest_ready (rs := [4]) (by kernel_rfl) (by simp) ?_
          refine AllRest.cons rfl (fun K hK => ?_) AllRest.nil
          have hNow := (hHeld.2.2)
          clear hLast
          have hLast := hNow
          go_simp
          gi_wp2_with ((refine ⟨trivial, ?_⟩; gi_at_call 27; (with_reducible refine (callsIn_wide.2 (HL.out _)).mono ?_); rintro e wn ⟨rfl, hb⟩))
          refine hK.out _ _ ?_ (fun hHeld' => ?_)
          · exact ⟨hHeld.1.below hb hHeld.1.lt, hHeld.2.1.below hb hHeld.2.1.lt, (hHeld.2.2).trans (hb.mono (hHeld.2.2).size)⟩
          clear hK K
          change RestIn _ _ _ _ _ _ _ 5 #[true, true, true, true, true, false, false, false, true, false, false] _ _
          try simp only [Act.put, List.setIfInBounds_toArray, List.set_cons_zero, List.set_cons_succ, List.getElem_toArray, List.getElem_cons_zero, List.getElem_cons_succ]
          clear hHeld
          have hHeld := hHeld'
          clear hHeld'
          have hNow := (hHeld.2.2)
          try have kG := kG.below hb kG.lt
          refine rest_take (i := 5) (v := _) all_wide (noDefers_of (by kernel_rfl)) rfl (by kernel_rfl) (by kernel_rfl) (by kernel_rfl) (fun _ _ _ h => h) (Or.inl ⟨by rfl, by intro w hSw; clear hSw; go_simp; first | done | with_reducible rfl⟩) hHeld ?_
          change RestIn _ _ _ _ _ _ _ 4 #[true, true, true, true, true, true, false, false, true, false, false] _ _
          try simp only [Act.put, List.setIfInBounds_toArray, List.set_cons_zero, List.set_cons_succ, List.getElem_toArray, List.getElem_cons_zero, List.getElem_cons_succ]
          refine rest_take (i := 6) (v := _) all_wide (noDefers_of (by kernel_rfl)) rfl (by kernel_rfl) (by kernel_rfl) (by kernel_rfl) (fun _ _ _ h => h) (Or.inl ⟨by rfl, by intro w hSw; clear hSw; go_simp; first | done | with_reducible rfl⟩) hHeld ?_
          change RestIn _ _ _ _ _ _ _ 3 #[true, true, true, true, true, true, true, false, true, false, false] _ _
          try simp only [Act.put, List.setIfInBounds_toArray, List.set_cons_zero, List.set_cons_succ, List.getElem_toArray, List.getElem_cons_zero, List.getElem_cons_succ]
          refine rest_take (i := 7) (v := _) all_wide (noDefers_of (by kernel_rfl)) rfl (by kernel_rfl) (by kernel_rfl) (by kernel_rfl) (fun _ _ _ h => h) (Or.inl ⟨by rfl, by intro w hSw; clear hSw; go_simp; first | done | with_reducible rfl⟩) hHeld ?_
          change RestIn _ _ _ _ _ _ _ 2 #[true, true, true, true, true, true, true, true, true, false, false] _ _
          try simp only [Act.put, List.setIfInBounds_toArray, List.set_cons_zero, List.set_cons_succ, List.getElem_toArray, List.getElem_cons_zero, List.getElem_cons_succ]
          refine rest_ready (rs := [9]) (by kernel_rfl) (by simp) ?_
          refine AllRest.cons rfl (fun K hK => ?_) AllRest.nil
          have kGc0 := kG.cell 0
          have kGc1 := kG.cell 1
          have kGf0 := kG.frozen 0
          have kGf1 := kG.frozen 1
          have kGl := kG.lt
          try simp at kGc0
          try simp at kGc1
          try simp at kGf0
          try simp at kGf1
          try simp at kGl
          have hNow := (hHeld.2.2)
          go_simp
          refine hK.out _ _ ?_ (fun hHeld' => ?_)
          · (refine (fun (hbel : Below W0.heap.size W0 _) => ⟨kY.below hbel kY.lt, kN.below hbel kN.lt, hbel⟩) ?_; repeat' (first | with_reducible exact hNow | with_reducible exact hOld | with_reducible refine Below.setCell ?_ (by (try simp) <;> omega) _ | with_reducible refine Below.alloc ?_ (by (try simp) <;> omega) _))
          clear hK K
          change RestIn _ _ _ _ _ _ _ 1 #[true, true, true, true, true, true, true, true, true, true, false] _ _
          try simp only [Act.put, List.setIfInBounds_toArray, List.set_cons_zero, List.set_cons_succ, List.getElem_toArray, List.getElem_cons_zero, List.getElem_cons_succ]
          clear hHeld
          have hHeld := hHeld'
          clear hHeld'
          have hNow := (hHeld.2.2)
          refine rest_take (i := 10) (v := _) all_wide (noDefers_of (by kernel_rfl)) rfl (by kernel_rfl) (by kernel_rfl) (by kernel_rfl) (fun _ _ _ h => h) (Or.inl ⟨by rfl, by intro w hSw; clear hSw; go_simp; first | done | with_reducible rfl⟩) hHeld ?_
          change RestIn _ _ _ _ _ _ _ 0 #[true, true, true, true, true, true, true, true, true, true, true] _ _
          try simp only [Act.put, List.setIfInBounds_toArray, List.set_cons_zero, List.set_cons_succ, List.getElem_toArray, List.getElem_cons_zero, List.getElem_cons_succ]
          refine rest_done (by kernel_rfl) ?_
          go_wp2_with fail
          go_meet
          first | exact ⟨_, rfl, rfl, (kG.set_ 0 (.int .i64 lo)).set_ 1 (.int .i64 hi), hNow⟩ | exact ⟨_, rfl, rfl, Blk.new _ _ _, hNow⟩
        exact AllRest.nil
      refine AllRest.cons rfl (fun K hK => ?_) ?_
      · have kGg := (hHeld.2.2).size
        have kG := blk_new_of (hHeld.2.2) 35 #[.int .i64 0, .int .i64 0]
        have hOld := (hHeld.2.2)
        go_simp
        refine hK.out _ _ ?_ (fun hHeld' => ?_)
        · exact (fun (hbel : Below W0.heap.size W0 _) => ⟨kY.below hbel kY.lt, kN.below hbel kN.lt, hbel⟩) ((hHeld.2.2).alloc (hHeld.2.2).size _)
        clear hK K
        change RestIn _ _ _ _ _ _ _ 7 #[true, true, true, false, false, false, false, false, true, false, false] _ _
        try simp only [Act.put, List.setIfInBounds_toArray, List.set_cons_zero, List.set_cons_succ, List.getElem_toArray, List.getElem_cons_zero, List.getElem_cons_succ]
        clear hHeld
        have hHeld := hHeld'
        clear hHeld'
        have hNow := (hHeld.2.2)
        try simp at kGg
        refine rest_ready (rs := [3]) (by kernel_rfl) (by simp) ?_
        refine AllRest.cons rfl (fun K hK => ?_) AllRest.nil
        have hNow := (hHeld.2.2)
        clear hLast
        have hLast := hNow
        go_simp
        gi_wp2_with ((refine ⟨trivial, ?_⟩; gi_at_call 28; (with_reducible refine (callsIn_wide.2 (lawNet_any _ _)).mono ?_); rintro e wn ⟨rfl, hb⟩))
        refine hK.out _ _ ?_ (fun hHeld' => ?_)
        · exact ⟨hHeld.1.below hb hHeld.1.lt, hHeld.2.1.below hb hHeld.2.1.lt, (hHeld.2.2).trans (hb.mono (hHeld.2.2).size)⟩
        clear hK K
        change RestIn _ _ _ _ _ _ _ 6 #[true, true, true, true, false, false, false, false, true, false, false] _ _
        try simp only [Act.put, List.setIfInBounds_toArray, List.set_cons_zero, List.set_cons_succ, List.getElem_toArray, List.getElem_cons_zero, List.getElem_cons_succ]
        clear hHeld
        have hHeld := hHeld'
        clear hHeld'
        have hNow := (hHeld.2.2)
        try have kG := kG.below hb kG.lt
        refine rest_ready (rs := [4]) (by kernel_rfl) (by simp) ?_
        refine AllRest.cons rfl (fun K hK => ?_) AllRest.nil
        have hNow := (hHeld.2.2)
        clear hLast
        have hLast := hNow
        go_simp
        gi_wp2_with ((refine ⟨trivial, ?_⟩; gi_at_call 27; (with_reducible refine (callsIn_wide.2 (HL.out _)).mono ?_); rintro e wn ⟨rfl, hb⟩))
        refine hK.out _ _ ?_ (fun hHeld' => ?_)
        · exact ⟨hHeld.1.below hb hHeld.1.lt, hHeld.2.1.below hb hHeld.2.1.lt, (hHeld.2.2).trans (hb.mono (hHeld.2.2).size)⟩
        clear hK K
        change RestIn _ _ _ _ _ _ _ 5 #[true, true, true, true, true, false, false, false, true, false, false] _ _
        try simp only [Act.put, List.setIfInBounds_toArray, List.set_cons_zero, List.set_cons_succ, List.getElem_toArray, List.getElem_cons_zero, List.getElem_cons_succ]
        clear hHeld
        have hHeld := hHeld'
        clear hHeld'
        have hNow := (hHeld.2.2)
        try have kG := kG.below hb kG.lt
        refine rest_take (i := 5) (v := _) all_wide (noDefers_of (by kernel_rfl)) rfl (by kernel_rfl) (by kernel_rfl) (by kernel_rfl) (fun _ _ _ h => h) (Or.inl ⟨by rfl, by intro w hSw; clear hSw; go_simp; first | done | with_reducible rfl⟩) hHeld ?_
        change RestIn _ _ _ _ _ _ _ 4 #[true, true, true, true, true, true, false, false, true, false, false] _ _
        try simp only [Act.put, List.setIfInBounds_toArray, List.set_cons_zero, List.set_cons_succ, List.getElem_toArray, List.getElem_cons_zero, List.getElem_cons_succ]
        refine rest_take (i := 6) (v := _) all_wide (noDefers_of (by kernel_rfl)) rfl (by kernel_rfl) (by kernel_rfl) (by kernel_rfl) (fun _ _ _ h => h) (Or.inl ⟨by rfl, by intro w hSw; clear hSw; go_simp; first | done | with_reducible rfl⟩) hHeld ?_
        change RestIn _ _ _ _ _ _ _ 3 #[true, true, true, true, true, true, true, false, true, false, false] _ _
        try simp only [Act.put, List.setIfInBounds_toArray, List.set_cons_zero, List.set_cons_succ, List.getElem_toArray, List.getElem_cons_zero, List.getElem_cons_succ]
        refine rest_take (i := 7) (v := _) all_wide (noDefers_of (by kernel_rfl)) rfl (by kernel_rfl) (by kernel_rfl) (by kernel_rfl) (fun _ _ _ h => h) (Or.inl ⟨by rfl, by intro w hSw; clear hSw; go_simp; first | done | with_reducible rfl⟩) hHeld ?_
        change RestIn _ _ _ _ _ _ _ 2 #[true, true, true, true, true, true, true, true, true, false, false] _ _
        try simp only [Act.put, List.setIfInBounds_toArray, List.set_cons_zero, List.set_cons_succ, List.getElem_toArray, List.getElem_cons_zero, List.getElem_cons_succ]
        refine rest_ready (rs := [9]) (by kernel_rfl) (by simp) ?_
        refine AllRest.cons rfl (fun K hK => ?_) AllRest.nil
        have kGc0 := kG.cell 0
        have kGc1 := kG.cell 1
        have kGf0 := kG.frozen 0
        have kGf1 := kG.frozen 1
        have kGl := kG.lt
        try simp at kGc0
        try simp at kGc1
        try simp at kGf0
        try simp at kGf1
        try simp at kGl
        have hNow := (hHeld.2.2)
        go_simp
        refine hK.out _ _ ?_ (fun hHeld' => ?_)
        · (refine (fun (hbel : Below W0.heap.size W0 _) => ⟨kY.below hbel kY.lt, kN.below hbel kN.lt, hbel⟩) ?_; repeat' (first | with_reducible exact hNow | with_reducible exact hOld | with_reducible refine Below.setCell ?_ (by (try simp) <;> omega) _ | with_reducible refine Below.alloc ?_ (by (try simp) <;> omega) _))
        clear hK K
        change RestIn _ _ _ _ _ _ _ 1 #[true, true, true, true, true, true, true, true, true, true, false] _ _
        try simp only [Act.put, List.setIfInBounds_toArray, List.set_cons_zero, List.set_cons_succ, List.getElem_toArray, List.getElem_cons_zero, List.getElem_cons_succ]
        clear hHeld
        have hHeld := hHeld'
        clear hHeld'
        have hNow := (hHeld.2.2)
        refine rest_take (i := 10) (v := _) all_wide (noDefers_of (by kernel_rfl)) rfl (by kernel_rfl) (by kernel_rfl) (by kernel_rfl) (fun _ _ _ h => h) (Or.inl ⟨by rfl, by intro w hSw; clear hSw; go_simp; first | done | with_reducible rfl⟩) hHeld ?_
        change RestIn _ _ _ _ _ _ _ 0 #[true, true, true, true, true, true, true, true, true, true, true] _ _
        try simp only [Act.put, List.setIfInBounds_toArray, List.set_cons_zero, List.set_cons_succ, List.getElem_toArray, List.getElem_cons_zero, List.getElem_cons_succ]
        refine rest_done (by kernel_rfl) ?_
        go_wp2_with fail
        go_meet
        first | exact ⟨_, rfl, rfl, (kG.set_ 0 (.int .i64 lo)).set_ 1 (.int .i64 hi), hNow⟩ | exact ⟨_, rfl, rfl, Blk.new _ _ _, hNow⟩
      exact AllRest.nil
    refine AllRest.cons rfl (fun K hK => ?_) ?_
    · have kGg := (hHeld.2.2).size
      have kG := blk_new_of (hHeld.2.2) 35 #[.int .i64 0, .int .i64 0]
      have hOld := (hHeld.2.2)
      go_simp
      refine hK.out _ _ ?_ (fun hHeld' => ?_)
      · exact (fun (hbel : Below W0.heap.size W0 _) => ⟨kY.below hbel kY.lt, kN.below hbel kN.lt, hbel⟩) ((hHeld.2.2).alloc (hHeld.2.2).size _)
      clear hK K
      change RestIn _ _ _ _ _ _ _ 8 #[true, false, true, false, false, false, false, false, true, false, false] _ _
      try simp only [Act.put, List.setIfInBounds_toArray, List.set_cons_zero, List.set_cons_succ, List.getElem_toArray, List.getElem_cons_zero, List.getElem_cons_succ]
      clear hHeld
      have hHeld := hHeld'
      clear hHeld'
      have hNow := (hHeld.2.2)
      try simp at kGg
      refine rest_ready (rs := [1]) (by kernel_rfl) (by simp) ?_
      refine AllRest.cons rfl (fun K hK => ?_) AllRest.nil
      have hNow := (hHeld.2.2)
      clear hLast
      have hLast := hNow
      go_simp
      gi_wp2_with ((refine ⟨trivial, ?_⟩; gi_at_call 17; (with_reducible refine (callsIn_wide.2 (lawFlyer_any _ _)).mono ?_); rintro e wn ⟨rfl, hb⟩))
      refine hK.out _ _ ?_ (fun hHeld' => ?_)
      · exact ⟨hHeld.1.below hb hHeld.1.lt, hHeld.2.1.below hb hHeld.2.1.lt, (hHeld.2.2).trans (hb.mono (hHeld.2.2).size)⟩
      clear hK K
      change RestIn _ _ _ _ _ _ _ 7 #[true, true, true, false, false, false, false, false, true, false, false] _ _
      try simp only [Act.put, List.setIfInBounds_toArray, List.set_cons_zero, List.set_cons_succ, List.getElem_toArray, List.getElem_cons_zero, List.getElem_cons_succ]
      clear hHeld
      have hHeld := hHeld'
      clear hHeld'
      have hNow := (hHeld.2.2)
      try have kG := kG.below hb kG.lt
      refine rest_ready (rs := [3]) (by kernel_rfl) (by simp) ?_
      refine AllRest.cons rfl (fun K hK => ?_) AllRest.nil
      have hNow := (hHeld.2.2)
      clear hLast
      have hLast := hNow
      go_simp
      gi_wp2_with ((refine ⟨trivial, ?_⟩; gi_at_call 28; (with_reducible refine (callsIn_wide.2 (lawNet_any _ _)).mono ?_); rintro e wn ⟨rfl, hb⟩))
      refine hK.out _ _ ?_ (fun hHeld' => ?_)
      · exact ⟨hHeld.1.below hb hHeld.1.lt, hHeld.2.1.below hb hHeld.2.1.lt, (hHeld.2.2).trans (hb.mono (hHeld.2.2).size)⟩
      clear hK K
      change RestIn _ _ _ _ _ _ _ 6 #[true, true, true, true, false, false, false, false, true, false, false] _ _
      try simp only [Act.put, List.setIfInBounds_toArray, List.set_cons_zero, List.set_cons_succ, List.getElem_toArray, List.getElem_cons_zero, List.getElem_cons_succ]
      clear hHeld
      have hHeld := hHeld'
      clear hHeld'
      have hNow := (hHeld.2.2)
      try have kG := kG.below hb kG.lt
      refine rest_ready (rs := [4]) (by kernel_rfl) (by simp) ?_
      refine AllRest.cons rfl (fun K hK => ?_) AllRest.nil
      have hNow := (hHeld.2.2)
      clear hLast
      have hLast := hNow
      go_simp
      gi_wp2_with ((refine ⟨trivial, ?_⟩; gi_at_call 27; (with_reducible refine (callsIn_wide.2 (HL.out _)).mono ?_); rintro e wn ⟨rfl, hb⟩))
      refine hK.out _ _ ?_ (fun hHeld' => ?_)
      · exact ⟨hHeld.1.below hb hHeld.1.lt, hHeld.2.1.below hb hHeld.2.1.lt, (hHeld.2.2).trans (hb.mono (hHeld.2.2).size)⟩
      clear hK K
      change RestIn _ _ _ _ _ _ _ 5 #[true, true, true, true, true, false, false, false, true, false, false] _ _
      try simp only [Act.put, List.setIfInBounds_toArray, List.set_cons_zero, List.set_cons_succ, List.getElem_toArray, List.getElem_cons_zero, List.getElem_cons_succ]
      clear hHeld
      have hHeld := hHeld'
      clear hHeld'
      have hNow := (hHeld.2.2)
      try have kG := kG.below hb kG.lt
      refine rest_take (i := 5) (v := _) all_wide (noDefers_of (by kernel_rfl)) rfl (by kernel_rfl) (by kernel_rfl) (by kernel_rfl) (fun _ _ _ h => h) (Or.inl ⟨by rfl, by intro w hSw; clear hSw; go_simp; first | done | with_reducible rfl⟩) hHeld ?_
      change RestIn _ _ _ _ _ _ _ 4 #[true, true, true, true, true, true, false, false, true, false, false] _ _
      try simp only [Act.put, List.setIfInBounds_toArray, List.set_cons_zero, List.set_cons_succ, List.getElem_toArray, List.getElem_cons_zero, List.getElem_cons_succ]
      refine rest_take (i := 6) (v := _) all_wide (noDefers_of (by kernel_rfl)) rfl (by kernel_rfl) (by kernel_rfl) (by kernel_rfl) (fun _ _ _ h => h) (Or.inl ⟨by rfl, by intro w hSw; clear hSw; go_simp; first | done | with_reducible rfl⟩) hHeld ?_
      change RestIn _ _ _ _ _ _ _ 3 #[true, true, true, true, true, true, true, false, true, false, false] _ _
      try simp only [Act.put, List.setIfInBounds_toArray, List.set_cons_zero, List.set_cons_succ, List.getElem_toArray, List.getElem_cons_zero, List.getElem_cons_succ]
      refine rest_take (i := 7) (v := _) all_wide (noDefers_of (by kernel_rfl)) rfl (by kernel_rfl) (by kernel_rfl) (by kernel_rfl) (fun _ _ _ h => h) (Or.inl ⟨by rfl, by intro w hSw; clear hSw; go_simp; first | done | with_reducible rfl⟩) hHeld ?_
      change RestIn _ _ _ _ _ _ _ 2 #[true, true, true, true, true, true, true, true, true, false, false] _ _
      try simp only [Act.put, List.setIfInBounds_toArray, List.set_cons_zero, List.set_cons_succ, List.getElem_toArray, List.getElem_cons_zero, List.getElem_cons_succ]
      refine rest_ready (rs := [9]) (by kernel_rfl) (by simp) ?_
      refine AllRest.cons rfl (fun K hK => ?_) AllRest.nil
      have kGc0 := kG.cell 0
      have kGc1 := kG.cell 1
      have kGf0 := kG.frozen 0
      have kGf1 := kG.frozen 1
      have kGl := kG.lt
      try simp at kGc0
      try simp at kGc1
      try simp at kGf0
      try simp at kGf1
      try simp at kGl
      have hNow := (hHeld.2.2)
      go_simp
      refine hK.out _ _ ?_ (fun hHeld' => ?_)
      · (refine (fun (hbel : Below W0.heap.size W0 _) => ⟨kY.below hbel kY.lt, kN.below hbel kN.lt, hbel⟩) ?_; repeat' (first | with_reducible exact hNow | with_reducible exact hOld | with_reducible refine Below.setCell ?_ (by (try simp) <;> omega) _ | with_reducible refine Below.alloc ?_ (by (try simp) <;> omega) _))
      clear hK K
      change RestIn _ _ _ _ _ _ _ 1 #[true, true, true, true, true, true, true, true, true, true, false] _ _
      try simp only [Act.put, List.setIfInBounds_toArray, List.set_cons_zero, List.set_cons_succ, List.getElem_toArray, List.getElem_cons_zero, List.getElem_cons_succ]
      clear hHeld
      have hHeld := hHeld'
      clear hHeld'
      have hNow := (hHeld.2.2)
      refine rest_take (i := 10) (v := _) all_wide (noDefers_of (by kernel_rfl)) rfl (by kernel_rfl) (by kernel_rfl) (by kernel_rfl) (fun _ _ _ h => h) (Or.inl ⟨by rfl, by intro w hSw; clear hSw; go_simp; first | done | with_reducible rfl⟩) hHeld ?_
      change RestIn _ _ _ _ _ _ _ 0 #[true, true, true, true, true, true, true, true, true, true, true] _ _
      try simp only [Act.put, List.setIfInBounds_toArray, List.set_cons_zero, List.set_cons_succ, List.getElem_toArray, List.getElem_cons_zero, List.getElem_cons_succ]
      refine rest_done (by kernel_rfl) ?_
      go_wp2_with fail
      go_meet
      first | exact ⟨_, rfl, rfl, (kG.set_ 0 (.int .i64 lo)).set_ 1 (.int .i64 hi), hNow⟩ | exact ⟨_, rfl, rfl, Blk.new _ _ _, hNow⟩
    exact AllRest.nil
  case rest =>
    obtain ⟨g, rfl, rfl, kR, hX⟩ := hcut
    have kY1 := kY.below hX kY.lt
    have kN1 := kN.below hX kN.lt
    have HB1 := Lib.hid (HB0.out.trans (hX.mono HB0.out.size))
    clear kY kN HB0
    go_upto_region 2 with fail
    refine name_world (motive := fun W => Code.wp _ _ _ _ W) _ ?_
    intro W0 hW
    have hWc := hW.cell
    have hWz := hW.size
    have hWb := hW.below (hX)
    have kY := hW.blk kY1
    have kN := hW.blk kN1
    have kG := hW.blk kR
    have HB0 := Lib.hid (HB1.out.trans ((hW.below (Below.refl _ _)).mono HB1.out.size))
    clear kY1 kN1 kR HB1 hW hWc hWz hWb hX
    refine (wpIn_wide (n := 9)).1 ?_
    have hLast := trivial
    refine region_rest (S := (fun w' => Blk w' (w.heap.size) 27 #[.int .i64 f.pos.x.lo, .int .i64 f.pos.x.hi, .int .i64 f.pos.z.lo, .int .i64 f.pos.z.hi, .int .i64 f.speed.x.lo, .int .i64 f.speed.x.hi, .int .i64 f.speed.z.lo, .int .i64 f.speed.z.hi, .int .i64 f.mass] ∧ Blk w' (w.heap.size + 1) 60 #[.int .i64 n.x.lo, .int .i64 n.x.hi, .int .i64 n.height] ∧ Blk w' (g) 35 #[.int .i64 lo, .int .i64 hi] ∧ Below W0.heap.size W0 w')) hmx ?_ (fun hHeld => ?_)
    · exact ⟨kY.drew, kN.drew, kG.drew, (Below.refl W0.heap.size W0).drew⟩
    change RestIn _ _ _ _ _ _ _ 10 #[false, false, false, false, false, false, false, false, false, false] _ (World.drew _)
    refine rest_take (i := 0) (v := _) all_wide (noDefers_of (by kernel_rfl)) rfl (by kernel_rfl) (by kernel_rfl) (by kernel_rfl) (fun _ _ _ h => h) (Or.inl ⟨by rfl, by intro w hSw; (obtain ⟨q0, q1, q2, _⟩ := hSw; have q0x0 := q0.cell 0; have q0x1 := q0.cell 1; have q0x2 := q0.cell 2; have q0x3 := q0.cell 3; have q0x4 := q0.cell 4; have q0x5 := q0.cell 5; have q0x6 := q0.cell 6; have q0x7 := q0.cell 7; have q0x8 := q0.cell 8; have q1x0 := q1.cell 0; have q1x1 := q1.cell 1; have q1x2 := q1.cell 2; have q2x0 := q2.cell 0; have q2x1 := q2.cell 1; simp at q0x0 q0x1 q0x2 q0x3 q0x4 q0x5 q0x6 q0x7 q0x8 q1x0 q1x1 q1x2 q2x0 q2x1); go_simp; first | done | with_reducible rfl⟩) hHeld ?_
    change RestIn _ _ _ _ _ _ _ 9 #[true, false, false, false, false, false, false, false, false, false] _ _
    try simp only [Act.put, List.setIfInBounds_toArray, List.set_cons_zero, List.set_cons_succ, List.getElem_toArray, List.getElem_cons_zero, List.getElem_cons_succ]
    refine rest_take (i := 2) (v := _) all_wide (noDefers_of (by kernel_rfl)) rfl (by kernel_rfl) (by kernel_rfl) (by kernel_rfl) (fun _ _ _ h => h) (Or.inl ⟨by rfl, by intro w hSw; (obtain ⟨q0, q1, q2, _⟩ := hSw; have q0x0 := q0.cell 0; have q0x1 := q0.cell 1; have q0x2 := q0.cell 2; have q0x3 := q0.cell 3; have q0x4 := q0.cell 4; have q0x5 := q0.cell 5; have q0x6 := q0.cell 6; have q0x7 := q0.cell 7; have q0x8 := q0.cell 8; have q1x0 := q1.cell 0; have q1x1 := q1.cell 1; have q1x2 := q1.cell 2; have q2x0 := q2.cell 0; have q2x1 := q2.cell 1; simp at q0x0 q0x1 q0x2 q0x3 q0x4 q0x5 q0x6 q0x7 q0x8 q1x0 q1x1 q1x2 q2x0 q2x1); go_simp; first | done | with_reducible rfl⟩) hHeld ?_
    change RestIn _ _ _ _ _ _ _ 8 #[true, false, true, false, false, false, false, false, false, false] _ _
    try simp only [Act.put, List.setIfInBounds_toArray, List.set_cons_zero, List.set_cons_succ, List.getElem_toArray, List.getElem_cons_zero, List.getElem_cons_succ]
    refine rest_ready (rs := [1]) (by kernel_rfl) (by simp) ?_
    refine AllRest.cons rfl (fun K hK => ?_) AllRest.nil
    have hNow := (hHeld.2.2.2)
    clear hLast
    have hLast := hNow
    go_simp
    gi_wp2_with ((refine ⟨trivial, ?_⟩; gi_at_call 17; (with_reducible refine (callsIn_wide.2 (lawFlyer_any _ _)).mono ?_); rintro e wn ⟨rfl, hb⟩))
    refine hK.out _ _ ?_ (fun hHeld' => ?_)
    · exact ⟨hHeld.1.below hb hHeld.1.lt, hHeld.2.1.below hb hHeld.2.1.lt, hHeld.2.2.1.below hb hHeld.2.2.1.lt, (hHeld.2.2.2).trans (hb.mono (hHeld.2.2.2).size)⟩
    clear hK K
    change RestIn _ _ _ _ _ _ _ 7 #[true, true, true, false, false, false, false, false, false, false] _ _
    try simp only [Act.put, List.setIfInBounds_toArray, List.set_cons_zero, List.set_cons_succ, List.getElem_toArray, List.getElem_cons_zero, List.getElem_cons_succ]
    clear hHeld
    have hHeld := hHeld'
    clear hHeld'
    have hNow := (hHeld.2.2.2)
    refine rest_ready (rs := [3]) (by kernel_rfl) (by simp) ?_
    refine AllRest.cons rfl (fun K hK => ?_) AllRest.nil
    have hNow := (hHeld.2.2.2)
    clear hLast
    have hLast := hNow
    go_simp
    gi_wp2_with ((refine ⟨trivial, ?_⟩; gi_at_call 28; (with_reducible refine (callsIn_wide.2 (lawNet_any _ _)).mono ?_); rintro e wn ⟨rfl, hb⟩))
    refine hK.out _ _ ?_ (fun hHeld' => ?_)
    · exact ⟨hHeld.1.below hb hHeld.1.lt, hHeld.2.1.below hb hHeld.2.1.lt, hHeld.2.2.1.below hb hHeld.2.2.1.lt, (hHeld.2.2.2).trans (hb.mono (hHeld.2.2.2).size)⟩
    clear hK K
    change RestIn _ _ _ _ _ _ _ 6 #[true, true, true, true, false, false, false, false, false, false] _ _
    try simp only [Act.put, List.setIfInBounds_toArray, List.set_cons_zero, List.set_cons_succ, List.getElem_toArray, List.getElem_cons_zero, List.getElem_cons_succ]
    clear hHeld
    have hHeld := hHeld'
    clear hHeld'
    have hNow := (hHeld.2.2.2)
    refine rest_ready (rs := [4]) (by kernel_rfl) (by simp) ?_
    refine AllRest.cons rfl (fun K hK => ?_) AllRest.nil
    have hNow := (hHeld.2.2.2)
    clear hLast
    have hLast := hNow
    go_simp
    gi_wp2_with ((refine ⟨trivial, ?_⟩; gi_at_call 29; (with_reducible refine (callsIn_wide.2 (HT.out _)).mono ?_); rintro e wn ⟨rfl, hb⟩))
    refine hK.out _ _ ?_ (fun hHeld' => ?_)
    · exact ⟨hHeld.1.below hb hHeld.1.lt, hHeld.2.1.below hb hHeld.2.1.lt, hHeld.2.2.1.below hb hHeld.2.2.1.lt, (hHeld.2.2.2).trans (hb.mono (hHeld.2.2.2).size)⟩
    clear hK K
    change RestIn _ _ _ _ _ _ _ 5 #[true, true, true, true, true, false, false, false, false, false] _ _
    try simp only [Act.put, List.setIfInBounds_toArray, List.set_cons_zero, List.set_cons_succ, List.getElem_toArray, List.getElem_cons_zero, List.getElem_cons_succ]
    clear hHeld
    have hHeld := hHeld'
    clear hHeld'
    have hNow := (hHeld.2.2.2)
    refine rest_take (i := 5) (v := _) all_wide (noDefers_of (by kernel_rfl)) rfl (by kernel_rfl) (by kernel_rfl) (by kernel_rfl) (fun _ _ _ h => h) (Or.inl ⟨by rfl, by intro w hSw; clear hSw; go_simp; first | done | with_reducible rfl⟩) hHeld ?_
    change RestIn _ _ _ _ _ _ _ 4 #[true, true, true, true, true, true, false, false, false, false] _ _
    try simp only [Act.put, List.setIfInBounds_toArray, List.set_cons_zero, List.set_cons_succ, List.getElem_toArray, List.getElem_cons_zero, List.getElem_cons_succ]
    refine rest_take (i := 6) (v := _) all_wide (noDefers_of (by kernel_rfl)) rfl (by kernel_rfl) (by kernel_rfl) (by kernel_rfl) (fun _ _ _ h => h) (Or.inl ⟨by rfl, by intro w hSw; clear hSw; go_simp; first | done | with_reducible rfl⟩) hHeld ?_
    change RestIn _ _ _ _ _ _ _ 3 #[true, true, true, true, true, true, true, false, false, false] _ _
    try simp only [Act.put, List.setIfInBounds_toArray, List.set_cons_zero, List.set_cons_succ, List.getElem_toArray, List.getElem_cons_zero, List.getElem_cons_succ]
    refine rest_take (i := 7) (v := _) all_wide (noDefers_of (by kernel_rfl)) rfl (by kernel_rfl) (by kernel_rfl) (by kernel_rfl) (fun _ _ _ h => h) (Or.inl ⟨by rfl, by intro w hSw; clear hSw; go_simp; first | done | with_reducible rfl⟩) hHeld ?_
    change RestIn _ _ _ _ _ _ _ 2 #[true, true, true, true, true, true, true, true, false, false] _ _
    try simp only [Act.put, List.setIfInBounds_toArray, List.set_cons_zero, List.set_cons_succ, List.getElem_toArray, List.getElem_cons_zero, List.getElem_cons_succ]
    refine rest_take (i := 8) (v := _) all_wide (noDefers_of (by kernel_rfl)) rfl (by kernel_rfl) (by kernel_rfl) (by kernel_rfl) (fun _ _ _ h => h) (Or.inl ⟨by rfl, by intro w hSw; clear hSw; go_simp; first | done | with_reducible rfl⟩) hHeld ?_
    change RestIn _ _ _ _ _ _ _ 1 #[true, true, true, true, true, true, true, true, true, false] _ _
    try simp only [Act.put, List.setIfInBounds_toArray, List.set_cons_zero, List.set_cons_succ, List.getElem_toArray, List.getElem_cons_zero, List.getElem_cons_succ]
    refine rest_take (i := 9) (v := _) all_wide (noDefers_of (by kernel_rfl)) rfl (by kernel_rfl) (by kernel_rfl) (by kernel_rfl) (fun _ _ _ h => h) (Or.inl ⟨by rfl, by intro w hSw; clear hSw; go_simp; first | done | with_reducible rfl⟩) hHeld ?_
    change RestIn _ _ _ _ _ _ _ 0 #[true, true, true, true, true, true, true, true, true, true] _ _
    try simp only [Act.put, List.setIfInBounds_toArray, List.set_cons_zero, List.set_cons_succ, List.getElem_toArray, List.getElem_cons_zero, List.getElem_cons_succ]
    refine rest_done (by kernel_rfl) ?_
    clear hLast
    obtain ⟨kY1, kN1, kG1, hX⟩ := hHeld
    clear hNow
    have y0 := kY1.cell 0; have y1 := kY1.cell 1; have y2 := kY1.cell 2; have y3 := kY1.cell 3; have y4 := kY1.cell 4; have y5 := kY1.cell 5; have y6 := kY1.cell 6; have y7 := kY1.cell 7; have y8 := kY1.cell 8; simp at y0 y1 y2 y3 y4 y5 y6 y7 y8
    have r0 := kG1.cell 0; have r1 := kG1.cell 1; simp at r0 r1
    go_upto_region 6 with (first | (go_at_call 21; (with_reducible refine (HRY.out _).mono ?_); rintro e w1 ⟨rfl, hb1⟩; have kY2 := kY1.below hb1 kY1.lt; have kN2 := kN1.below hb1 kN1.lt; have kG2 := kG1.below hb1 kG1.lt; have hX2 := sh_next hX hb1; have n0 := kN2.cell 0; have n1 := kN2.cell 1; have n2 := kN2.cell 2; simp at n0 n1 n2; have s0 := kG2.cell 0; have s1 := kG2.cell 1; simp at s0 s1) | (go_at_call 30; (with_reducible refine (HRN.out _).mono ?_); rintro e w2 ⟨rfl, hb2⟩; have kY3 := kY2.below hb2 kY2.lt; have kN3 := kN2.below hb2 kN2.lt; have kG3 := kG2.below hb2 kG2.lt; have hX3 := sh_next hX2 hb2; have z0 := kY3.cell 0; have z1 := kY3.cell 1; have z2 := kY3.cell 2; have z3 := kY3.cell 3; have z4 := kY3.cell 4; have z5 := kY3.cell 5; have z6 := kY3.cell 6; have z7 := kY3.cell 7; have z8 := kY3.cell 8; simp at z0 z1 z2 z3 z4 z5 z6 z7 z8; have m0 := kN3.cell 0; have m1 := kN3.cell 1; have m2 := kN3.cell 2; simp at m0 m1 m2; have t0 := kG3.cell 0; have t1 := kG3.cell 1; simp at t0 t1) | (go_at_call 31; (with_reducible refine (HRL.out _).mono ?_); rintro e w3 ⟨rfl, hb3⟩))
    have hX4 := sh_next hX3 hb3
    have kW0 := Blk.new w3 23 #[.int .i64 lo, .int .i64 hi]
    have hX5 := hX4.alloc hX4.size (.cells #[.int .i64 lo, .int .i64 hi] 23)
    have kY4 := (kY3.below hb3 kY3.lt).alloc (.cells #[.int .i64 lo, .int .i64 hi] 23)
    have kN4 := (kN3.below hb3 kN3.lt).alloc (.cells #[.int .i64 lo, .int .i64 hi] 23)
    have kG4 := (kG3.below hb3 kG3.lt).alloc (.cells #[.int .i64 lo, .int .i64 hi] 23)
    obtain ⟨gw, hgw⟩ : ∃ gw, w3.heap.size = gw := ⟨_, rfl⟩
    rw [hgw] at kW0
    simp only [hgw]
    refine name_world (motive := fun W => Code.wp _ _ _ _ W) _ ?_
    intro W0 hW
    have hWc := hW.cell
    have hWz := hW.size
    have hWb := hW.below (hX5)
    have kY := hW.blk kY4
    have kN := hW.blk kN4
    have kG := hW.blk kG4
    have kW := hW.blk kW0
    have HB2 := Lib.hid (HB0.out.trans (hWb.mono HB0.out.size))
    clear hW hWc hWz hWb hX5 hX4 hX3 hX2 hX kY4 kN4 kG4 kW0 kY3 kN3 kG3 kY2 kN2 kG2 kY1 kN1 kG1 y0 y1 y2 y3 y4 y5 y6 y7 y8 r0 r1 n0 n1 n2 s0 s1 z0 z1 z2 z3 z4 z5 z6 z7 z8 m0 m1 m2 t0 t1 hb1 hb2 hb3 hgw
    have y0 := kY.cell 0; have y1 := kY.cell 1; have y2 := kY.cell 2; have y3 := kY.cell 3; have y4 := kY.cell 4; have y5 := kY.cell 5; have y6 := kY.cell 6; have y7 := kY.cell 7; have y8 := kY.cell 8; simp at y0 y1 y2 y3 y4 y5 y6 y7 y8
    have n0 := kN.cell 0; have n1 := kN.cell 1; have n2 := kN.cell 2; simp at n0 n1 n2
    go_upto_region 10 with (go_at_call 32; (with_reducible refine (HRT.out _).mono ?_); rintro e w4 ⟨rfl, hb4⟩; have kG5 := kG.below hb4 kG.lt; have kW5 := kW.below hb4 kW.lt; have s0 := kG5.cell 0; have s1 := kG5.cell 1; simp at s0 s1; have p0 := kW5.cell 0; have p1 := kW5.cell 1; simp at p0 p1)
    clear s0 s1 p0 p1 y0 y1 y2 y3 y4 y5 y6 y7 y8 n0 n1 n2
    refine name_world (motive := fun W => Code.wp _ _ _ _ W) _ ?_
    intro W0 hW
    have hWc := hW.cell
    have hWz := hW.size
    have hWb := hW.below (hb4)
    have kG := hW.blk kG5
    have kW := hW.blk kW5
    have HB3 := Lib.hid (HB2.out.trans (hWb.mono HB2.out.size))
    clear hW hWc hWz hWb kG5 kW5 hb4
    refine (wpIn_wide (n := 9)).1 ?_
    have hLast := trivial
    refine region_rest (S := (fun w' => Blk w' (g) 35 #[.int .i64 lo, .int .i64 hi] ∧ Blk w' (gw) 23 #[.int .i64 lo, .int .i64 hi] ∧ Below W0.heap.size W0 w')) hmx ?_ (fun hHeld => ?_)
    · exact ⟨kG.drew, kW.drew, (Below.refl W0.heap.size W0).drew⟩
    change RestIn _ _ _ _ _ _ _ 12 #[false, false, false, false, false, false, false, false, false, false, false, false] _ (World.drew _)
    refine rest_take (i := 0) (v := _) all_wide (noDefers_of (by kernel_rfl)) rfl (by kernel_rfl) (by kernel_rfl) (by kernel_rfl) (fun _ _ _ h => h) (Or.inl ⟨by rfl, by intro w hSw; clear hSw; go_simp; first | done | with_reducible rfl⟩) hHeld ?_
    change RestIn _ _ _ _ _ _ _ 11 #[true, false, false, false, false, false, false, false, false, false, false, false] _ _
    try simp only [Act.put, List.setIfInBounds_toArray, List.set_cons_zero, List.set_cons_succ, List.getElem_toArray, List.getElem_cons_zero, List.getElem_cons_succ]
    refine rest_take (i := 1) (v := _) all_wide (noDefers_of (by kernel_rfl)) rfl (by kernel_rfl) (by kernel_rfl) (by kernel_rfl) (fun _ _ _ h => h) (Or.inl ⟨by rfl, by intro w hSw; clear hSw; go_simp; first | done | with_reducible rfl⟩) hHeld ?_
    change RestIn _ _ _ _ _ _ _ 10 #[true, true, false, false, false, false, false, false, false, false, false, false] _ _
    try simp only [Act.put, List.setIfInBounds_toArray, List.set_cons_zero, List.set_cons_succ, List.getElem_toArray, List.getElem_cons_zero, List.getElem_cons_succ]
    refine rest_take (i := 2) (v := _) all_wide (noDefers_of (by kernel_rfl)) rfl (by kernel_rfl) (by kernel_rfl) (by kernel_rfl) (fun _ _ _ h => h) (Or.inl ⟨by rfl, by intro w hSw; clear hSw; go_simp; first | done | with_reducible rfl⟩) hHeld ?_
    change RestIn _ _ _ _ _ _ _ 9 #[true, true, true, false, false, false, false, false, false, false, false, false] _ _
    try simp only [Act.put, List.setIfInBounds_toArray, List.set_cons_zero, List.set_cons_succ, List.getElem_toArray, List.getElem_cons_zero, List.getElem_cons_succ]
    refine rest_take (i := 3) (v := _) all_wide (noDefers_of (by kernel_rfl)) rfl (by kernel_rfl) (by kernel_rfl) (by kernel_rfl) (fun _ _ _ h => h) (Or.inl ⟨by rfl, by intro w hSw; (obtain ⟨q0, q1, _⟩ := hSw; have q0x0 := q0.cell 0; have q0x1 := q0.cell 1; have q1x0 := q1.cell 0; have q1x1 := q1.cell 1; simp at q0x0 q0x1 q1x0 q1x1); go_simp; first | done | with_reducible rfl⟩) hHeld ?_
    change RestIn _ _ _ _ _ _ _ 8 #[true, true, true, true, false, false, false, false, false, false, false, false] _ _
    try simp only [Act.put, List.setIfInBounds_toArray, List.set_cons_zero, List.set_cons_succ, List.getElem_toArray, List.getElem_cons_zero, List.getElem_cons_succ]
    refine rest_take (i := 4) (v := _) all_wide (noDefers_of (by kernel_rfl)) rfl (by kernel_rfl) (by kernel_rfl) (by kernel_rfl) (fun _ _ _ h => h) (Or.inl ⟨by rfl, by intro w hSw; (obtain ⟨q0, q1, _⟩ := hSw; have q0x0 := q0.cell 0; have q0x1 := q0.cell 1; have q1x0 := q1.cell 0; have q1x1 := q1.cell 1; simp at q0x0 q0x1 q1x0 q1x1); go_simp; first | done | with_reducible rfl⟩) hHeld ?_
    change RestIn _ _ _ _ _ _ _ 7 #[true, true, true, true, true, false, false, false, false, false, false, false] _ _
    try simp only [Act.put, List.setIfInBounds_toArray, List.set_cons_zero, List.set_cons_succ, List.getElem_toArray, List.getElem_cons_zero, List.getElem_cons_succ]
    refine rest_ready (rs := [5]) (by kernel_rfl) (by simp) ?_
    refine AllRest.cons rfl (fun K hK => ?_) AllRest.nil
    have hNow := (hHeld.2.2)
    clear hLast
    have hLast := hNow
    go_simp
    gi_wp2_with ((refine ⟨trivial, ?_⟩; gi_at_call 33; (with_reducible refine (callsIn_wide.2 (lawRange_any _ _ _)).mono ?_); rintro e wn ⟨rfl, hb⟩))
    refine hK.out _ _ ?_ (fun hHeld' => ?_)
    · exact ⟨hHeld.1.below hb hHeld.1.lt, hHeld.2.1.below hb hHeld.2.1.lt, (hHeld.2.2).trans (hb.mono (hHeld.2.2).size)⟩
    clear hK K
    change RestIn _ _ _ _ _ _ _ 6 #[true, true, true, true, true, true, false, false, false, false, false, false] _ _
    try simp only [Act.put, List.setIfInBounds_toArray, List.set_cons_zero, List.set_cons_succ, List.getElem_toArray, List.getElem_cons_zero, List.getElem_cons_succ]
    clear hHeld
    have hHeld := hHeld'
    clear hHeld'
    have hNow := (hHeld.2.2)
    refine rest_take (i := 6) (v := _) all_wide (noDefers_of (by kernel_rfl)) rfl (by kernel_rfl) (by kernel_rfl) (by kernel_rfl) (fun _ _ _ h => h) (Or.inl ⟨by rfl, by intro w hSw; clear hSw; go_simp; first | done | with_reducible rfl⟩) hHeld ?_
    change RestIn _ _ _ _ _ _ _ 5 #[true, true, true, true, true, true, true, false, false, false, false, false] _ _
    try simp only [Act.put, List.setIfInBounds_toArray, List.set_cons_zero, List.set_cons_succ, List.getElem_toArray, List.getElem_cons_zero, List.getElem_cons_succ]
    refine rest_take (i := 7) (v := _) all_wide (noDefers_of (by kernel_rfl)) rfl (by kernel_rfl) (by kernel_rfl) (by kernel_rfl) (fun _ _ _ h => h) (Or.inl ⟨by rfl, by intro w hSw; clear hSw; go_simp; first | done | with_reducible rfl⟩) hHeld ?_
    change RestIn _ _ _ _ _ _ _ 4 #[true, true, true, true, true, true, true, true, false, false, false, false] _ _
    try simp only [Act.put, List.setIfInBounds_toArray, List.set_cons_zero, List.set_cons_succ, List.getElem_toArray, List.getElem_cons_zero, List.getElem_cons_succ]
    refine rest_take (i := 8) (v := _) all_wide (noDefers_of (by kernel_rfl)) rfl (by kernel_rfl) (by kernel_rfl) (by kernel_rfl) (fun _ _ _ h => h) (Or.inl ⟨by rfl, by intro w hSw; clear hSw; go_simp; first | done | with_reducible rfl⟩) hHeld ?_
    change RestIn _ _ _ _ _ _ _ 3 #[true, true, true, true, true, true, true, true, true, false, false, false] _ _
    try simp only [Act.put, List.setIfInBounds_toArray, List.set_cons_zero, List.set_cons_succ, List.getElem_toArray, List.getElem_cons_zero, List.getElem_cons_succ]
    refine rest_ready (rs := [9]) (by kernel_rfl) (by simp) ?_
    refine AllRest.cons rfl (fun K hK => ?_) AllRest.nil
    have hNow := (hHeld.2.2)
    clear hLast
    have hLast := hNow
    go_simp
    gi_wp2_with ((refine ⟨trivial, ?_⟩; gi_at_call 15; (with_reducible refine (callsIn_wide.2 (wakes_any _)).mono ?_); rintro e wn ⟨rfl, hb⟩))
    refine hK.out _ _ ?_ (fun hHeld' => ?_)
    · exact ⟨hHeld.1.below hb hHeld.1.lt, hHeld.2.1.below hb hHeld.2.1.lt, (hHeld.2.2).trans (hb.mono (hHeld.2.2).size)⟩
    clear hK K
    change RestIn _ _ _ _ _ _ _ 2 #[true, true, true, true, true, true, true, true, true, true, false, false] _ _
    try simp only [Act.put, List.setIfInBounds_toArray, List.set_cons_zero, List.set_cons_succ, List.getElem_toArray, List.getElem_cons_zero, List.getElem_cons_succ]
    clear hHeld
    have hHeld := hHeld'
    clear hHeld'
    have hNow := (hHeld.2.2)
    refine rest_take (i := 10) (v := _) all_wide (noDefers_of (by kernel_rfl)) rfl (by kernel_rfl) (by kernel_rfl) (by kernel_rfl) (fun _ _ _ h => h) (Or.inl ⟨by rfl, by intro w hSw; clear hSw; go_simp; first | done | with_reducible rfl⟩) hHeld ?_
    change RestIn _ _ _ _ _ _ _ 1 #[true, true, true, true, true, true, true, true, true, true, true, false] _ _
    try simp only [Act.put, List.setIfInBounds_toArray, List.set_cons_zero, List.set_cons_succ, List.getElem_toArray, List.getElem_cons_zero, List.getElem_cons_succ]
    refine rest_take (i := 11) (v := _) all_wide (noDefers_of (by kernel_rfl)) rfl (by kernel_rfl) (by kernel_rfl) (by kernel_rfl) (fun _ _ _ h => h) (Or.inl ⟨by rfl, by intro w hSw; clear hSw; go_simp; first | done | with_reducible rfl⟩) hHeld ?_
    change RestIn _ _ _ _ _ _ _ 0 #[true, true, true, true, true, true, true, true, true, true, true, true] _ _
    try simp only [Act.put, List.setIfInBounds_toArray, List.set_cons_zero, List.set_cons_succ, List.getElem_toArray, List.getElem_cons_zero, List.getElem_cons_succ]
    refine rest_done (by kernel_rfl) ?_
    go_wp2
    go_ret
    exact ⟨rfl, HB3.out.trans (hNow.mono HB3.out.size)⟩
end Go.Proofs.Ytmhnbchfmddhcaa
