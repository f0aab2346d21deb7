import Derived.Test.YtbagfapalkmikaaWidest

/- The widest window. -/
namespace Go.Proofs.Ytbagfapalkmikaa
open Go.RowKit Go.Shelf
set_option linter.unusedSimpArgs false in
set_option maxHeartbeats 4000000 in
theorem cmp_any (a b c d : Int) (w : World) (h1 : winB a b = true) (h2 : winB c d = true) :
    Calls Try.prog 74 #[.agg #[.int .i64 a, .int .i64 b], .agg #[.int .i64 c, .int .i64 d]] w fun e w' => e = .returned (.int .i64 (b - a + 1 - (d - c + 1))) ∧ Below w.heap.size w w' := by
  obtain ⟨⟨a1, a2⟩, ⟨b1, b2⟩, hab⟩ := winB_iff.1 h1
  obtain ⟨⟨c1, c2⟩, ⟨d1, d2⟩, hcd⟩ := winB_iff.1 h2
  have HT1 : Hid (∀ W : World, Calls Try.prog 70 #[.agg #[.int .i64 a, .int .i64 b]] W fun e w' => e = .returned (.int .i64 (b - a + 1)) ∧ Below W.heap.size W w') := fun W => winTicks_any a b W h1
  have HT2 : Hid (∀ W : World, Calls Try.prog 70 #[.agg #[.int .i64 c, .int .i64 d]] W fun e w' => e = .returned (.int .i64 (d - c + 1)) ∧ Below W.heap.size W w') := fun W => winTicks_any c d W h2
  have hB0 := ((Below.refl w.heap.size w).alloc (Nat.le_refl _) (.cells #[.int .i64 a, .int .i64 b] 92)).alloc (by simp) (.cells #[.int .i64 c, .int .i64 d] 92)
  have kA0 := (Blk.new w 92 #[.int .i64 a, .int .i64 b]).alloc (.cells #[.int .i64 c, .int .i64 d] 92)
  have kB0 := Blk.new (w.alloc (.cells #[.int .i64 a, .int .i64 b] 92)) 92 #[.int .i64 c, .int .i64 d]
  simp only [World.size_alloc] at kB0
  have ww : IntKind.i64.wrap (b - a + 1 - (d - c + 1)) = b - a + 1 - (d - c + 1) := IntWalk.i64_in _ (by omega)
  have hmx : Try.prog.follows .mixedOrders = true := by kernel_rfl
  clear h1 h2
  go_enter Try.func74, Try.ntmps74
  go_upto_region 1 with fail
  refine name_world (motive := fun W => Code.wp _ _ _ _ W) _ ?_
  intro W0 hW
  have hWc := hW.cell
  have hWz := hW.size
  have hWb := hW.below (hB0)
  have kA := hW.blk kA0
  have kB := hW.blk kB0
  have HB0 := Lib.hid hWb
  clear hB0 kA0 kB0 hW hWc hWz hWb
  refine (wpIn_wide (n := 9)).1 ?_
  have hLast := trivial
  refine region_rest (S := (fun w' => Blk w' (w.heap.size) 92 #[.int .i64 a, .int .i64 b] ∧ Blk w' (w.heap.size + 1) 92 #[.int .i64 c, .int .i64 d] ∧ Below W0.heap.size W0 w')) hmx ?_ (fun hHeld => ?_)
  · exact ⟨kA.drew, kB.drew, (Below.refl W0.heap.size W0).drew⟩
  change RestIn _ _ _ _ _ _ _ 6 #[false, false, false, false, false, false] _ (World.drew _)
  refine rest_take (i := 0) (v := _) all_wide (noDefers_of (by kernel_rfl)) rfl (by kernel_rfl) (by kernel_rfl) (by kernel_rfl) (fun _ _ _ h => h) (Or.inl ⟨by rfl, by intro w hSw; (obtain ⟨q0, q1, _⟩ := hSw; have q0x0 := q0.cell 0; have q0x1 := q0.cell 1; have q1x0 := q1.cell 0; have q1x1 := q1.cell 1; simp at q0x0 q0x1 q1x0 q1x1); go_simp; first | done | with_reducible rfl⟩) hHeld ?_
  change RestIn _ _ _ _ _ _ _ 5 #[true, false, false, false, false, false] _ _
  try simp only [Act.put, List.setIfInBounds_toArray, List.set_cons_zero, List.set_cons_succ, List.getElem_toArray, List.getElem_cons_zero, List.getElem_cons_succ]
  refine rest_take (i := 2) (v := _) all_wide (noDefers_of (by kernel_rfl)) rfl (by kernel_rfl) (by kernel_rfl) (by kernel_rfl) (fun _ _ _ h => h) (Or.inl ⟨by rfl, by intro w hSw; (obtain ⟨q0, q1, _⟩ := hSw; have q0x0 := q0.cell 0; have q0x1 := q0.cell 1; have q1x0 := q1.cell 0; have q1x1 := q1.cell 1; simp at q0x0 q0x1 q1x0 q1x1); go_simp; first | done | with_reducible rfl⟩) hHeld ?_
  change RestIn _ _ _ _ _ _ _ 4 #[true, false, true, false, false, false] _ _
  try simp only [Act.put, List.setIfInBounds_toArray, List.set_cons_zero, List.set_cons_succ, List.getElem_toArray, List.getElem_cons_zero, List.getElem_cons_succ]
  refine rest_ready (rs := [1]) (by kernel_rfl) (by simp) ?_
  refine AllRest.cons rfl (fun K hK => ?_) AllRest.nil
  have hNow := (hHeld.2.2)
  clear hLast
  have hLast := hNow
  go_simp
  gi_wp2_with ((refine ⟨trivial, ?_⟩; gi_at_call 70; (with_reducible refine (callsIn_wide.2 (HT1.out _)).mono ?_); rintro e wn ⟨rfl, hb⟩))
  refine hK.out _ _ ?_ (fun hHeld' => ?_)
  · exact ⟨hHeld.1.below hb hHeld.1.lt, hHeld.2.1.below hb hHeld.2.1.lt, (hHeld.2.2).trans (hb.mono (hHeld.2.2).size)⟩
  clear hK K
  change RestIn _ _ _ _ _ _ _ 3 #[true, true, true, false, false, false] _ _
  try simp only [Act.put, List.setIfInBounds_toArray, List.set_cons_zero, List.set_cons_succ, List.getElem_toArray, List.getElem_cons_zero, List.getElem_cons_succ]
  clear hHeld
  have hHeld := hHeld'
  clear hHeld'
  have hNow := (hHeld.2.2)
  refine rest_ready (rs := [3]) (by kernel_rfl) (by simp) ?_
  refine AllRest.cons rfl (fun K hK => ?_) AllRest.nil
  have hNow := (hHeld.2.2)
  clear hLast
  have hLast := hNow
  go_simp
  gi_wp2_with ((refine ⟨trivial, ?_⟩; gi_at_call 70; (with_reducible refine (callsIn_wide.2 (HT2.out _)).mono ?_); rintro e wn ⟨rfl, hb⟩))
  refine hK.out _ _ ?_ (fun hHeld' => ?_)
  · exact ⟨hHeld.1.below hb hHeld.1.lt, hHeld.2.1.below hb hHeld.2.1.lt, (hHeld.2.2).trans (hb.mono (hHeld.2.2).size)⟩
  clear hK K
  change RestIn _ _ _ _ _ _ _ 2 #[true, true, true, true, false, false] _ _
  try simp only [Act.put, List.setIfInBounds_toArray, List.set_cons_zero, List.set_cons_succ, List.getElem_toArray, List.getElem_cons_zero, List.getElem_cons_succ]
  clear hHeld
  have hHeld := hHeld'
  clear hHeld'
  have hNow := (hHeld.2.2)
  refine rest_take (i := 4) (v := _) all_wide (noDefers_of (by kernel_rfl)) rfl (by kernel_rfl) (by kernel_rfl) (by kernel_rfl) (fun _ _ _ h => h) (Or.inl ⟨by rfl, by intro w hSw; clear hSw; go_simp; first | done | with_reducible rfl⟩) hHeld ?_
  change RestIn _ _ _ _ _ _ _ 1 #[true, true, true, true, true, false] _ _
  try simp only [Act.put, List.setIfInBounds_toArray, List.set_cons_zero, List.set_cons_succ, List.getElem_toArray, List.getElem_cons_zero, List.getElem_cons_succ]
  refine rest_take (i := 5) (v := _) all_wide (noDefers_of (by kernel_rfl)) rfl (by kernel_rfl) (by kernel_rfl) (by kernel_rfl) (fun _ _ _ h => h) (Or.inl ⟨by rfl, by intro w hSw; clear hSw; go_simp; first | done | with_reducible rfl⟩) hHeld ?_
  change RestIn _ _ _ _ _ _ _ 0 #[true, true, true, true, true, true] _ _
  try simp only [Act.put, List.setIfInBounds_toArray, List.set_cons_zero, List.set_cons_succ, List.getElem_toArray, List.getElem_cons_zero, List.getElem_cons_succ]
  refine rest_done (by kernel_rfl) ?_
  go_wp2
  go_ret
  exact ⟨rfl, HB0.out.trans (hNow.mono HB0.out.size)⟩

set_option linter.unusedSimpArgs false in
set_option maxRecDepth 100000 in
set_option maxHeartbeats 8000000 in
theorem maxFunc_any (A : Option Addr) (c : Nat) (x : Int × Int) (l : List (Int × Int)) (w : World) (hrs : RS encW 2 w w.heap.size A (x :: l)) (hl : l.length ≤ 7000) (hx : ∀ p ∈ x :: l, winB p.1 p.2 = true) :
    Calls Try.prog 73 #[.slice A (x :: l).length c, .func (.func 74) #[] #[]] w fun e w' => e = .returned (.agg #[.int .i64 (widest (x :: l)).1, .int .i64 (widest (x :: l)).2]) ∧ Below w.heap.size w w' := by
  have HX := Lib.hid hx
  have hmx : Try.prog.follows .mixedOrders = true := by kernel_rfl
  have hB0 := ((Below.refl w.heap.size w).alloc (Nat.le_refl _) (.cells #[.int .i64 0, .int .i64 0] 92)).alloc (by simp) (.cells #[.int .i64 x.1, .int .i64 x.2] 92)
  have kT0 := (Blk.new w 92 #[.int .i64 0, .int .i64 0]).alloc (.cells #[.int .i64 x.1, .int .i64 x.2] 92)
  have kM0 := Blk.new (w.alloc (.cells #[.int .i64 0, .int .i64 0] 92)) 92 #[.int .i64 x.1, .int .i64 x.2]
  simp only [World.size_alloc] at kM0
  obtain ⟨qb, off, hA, hqb, hc0⟩ := hrs.at_ (k := 0) (x := x) rfl
  subst hA
  have z0 := hc0 0 _ rfl
  have z1 := hc0 1 _ rfl
  simp only [Nat.zero_mul, Nat.add_zero] at z0 z1
  have hRS := Lib.hid hrs
  have hlen : (x :: l).length = l.length + 1 := rfl
  obtain ⟨n, hn⟩ : ∃ n, (x :: l).length = n := ⟨_, rfl⟩
  have hnl : n = l.length + 1 := by rw [← hn]; rfl
  rw [hn]
  have hI0 : (0 : Int) < (n : Int) := by omega
  have hI1 : ¬ (n : Int) < 1 := by omega
  clear hx hrs hc0 hn hlen
  go_enter Try.func73, Try.ntmps73
  go_wp2
  go_loopw [6] (fun i wr => ∃ j : Nat, 1 ≤ j ∧ j ≤ n ∧ i = .int .i64 j ∧ Below w.heap.size w wr ∧ Blk wr w.heap.size 92 #[.int .i64 0, .int .i64 0] ∧ Blk wr (w.heap.size + 1) 92 #[.int .i64 ((l.take (j - 1)).foldl stepW x).1, .int .i64 ((l.take (j - 1)).foldl stepW x).2] ∧ winB ((l.take (j - 1)).foldl stepW x).1 ((l.take (j - 1)).foldl stepW x).2 = true) (fun i _ => n - (intOf i).toNat)
  case atStart => exact ⟨1, Nat.le_refl _, by omega, rfl, hB0, kT0, kM0, HX.out x (by simp)⟩
  case round =>
    obtain ⟨j, hj1, hj2, rfl, hB, kT, kM, hwm⟩ := hrel
    clear hB0 kT0 kM0 z0 z1
    by_cases hlt : j < n
    case neg =>
      obtain rfl : j = n := by omega
      have hfin : (l.take (j - 1)).foldl stepW x = widest (x :: l) := by rw [List.take_of_length_le (by omega)]; rfl
      rw [hfin] at kM
      obtain ⟨m, hm⟩ : ∃ m, widest (x :: l) = m := ⟨_, rfl⟩
      rw [hm] at kM
      have HM := Lib.hid hm
      clear hfin hm hwm
      have m0 := kM.cell 0; have m1 := kM.cell 1; simp at m0 m1
      have t0 := kT.cell 0; have tf0 := kT.frozen 0; have t1 := kT.cell 1; have tf1 := kT.frozen 1; have tl := kT.lt; simp at t0 t1
      go_wp2
      have v0 := (kT.set_ 0 (.int .i64 m.1)).cell 0
      have v1 := ((kT.set_ 0 (.int .i64 m.1)).set_ 1 (.int .i64 m.2)).cell 1
      have v2 := ((kT.set_ 0 (.int .i64 m.1)).set_ 1 (.int .i64 m.2)).cell 0
      simp at v0 v1 v2
      rw [HM.out]
      refine bodyPost_ret (v := .agg #[.int .i64 m.1, .int .i64 m.2]) (by simp [results, Try.results73, go_sem, v0, v1, v2]) rfl ⟨rfl, ?_⟩
      exact (hB.setCell (p := ⟨w.heap.size, 0, none⟩) (Nat.le_refl _) _).setCell (p := ⟨w.heap.size, 1, none⟩) (Nat.le_refl _) _
    case pos =>
      have hjI : (j : Int) < (n : Int) := by omega
      obtain ⟨p, hp⟩ : ∃ p, l[j - 1]? = some p := getElem?_lt (by omega)
      have hxp : (x :: l)[j]? = some p := by rw [show j = (j - 1) + 1 by omega, List.getElem?_cons_succ]; exact hp
      have hwp := HX.out p (List.mem_of_getElem? hxp)
      obtain ⟨q2, o2, hA2, hq2, hc2⟩ := (hRS.out.below hB (Nat.le_refl _)).at_ hxp
      cases hA2
      have e0 := hc2 0 _ rfl
      have e1 := hc2 1 _ rfl
      simp only [Nat.add_zero] at e0
      have HT : Hid ((l.take j).foldl stepW x = stepW ((l.take (j - 1)).foldl stepW x) p) := by
        show _ = _
        rw [show j = (j - 1) + 1 by omega, take_snoc' hp, List.foldl_append, Nat.add_sub_cancel]
        rfl
      obtain ⟨m, hm⟩ : ∃ m, (l.take (j - 1)).foldl stepW x = m := ⟨_, rfl⟩
      rw [hm] at HT kM hwm
      have HCM : Hid (∀ W : World, Calls Try.prog 74 #[.agg #[.int .i64 p.1, .int .i64 p.2], .agg #[.int .i64 m.1, .int .i64 m.2]] W fun e w' => e = .returned (.int .i64 (p.2 - p.1 + 1 - (m.2 - m.1 + 1))) ∧ Below W.heap.size W w') := fun W => cmp_any p.1 p.2 m.1 m.2 W hwp hwm
      have HWP := Lib.hid hwp
      have HWM := Lib.hid hwm
      clear hm hp hxp hc2 hwp hwm
      go_upto_region 7 with fail
      refine name_world (motive := fun W => Code.wp _ _ _ _ W) _ ?_
      intro W0 hW
      have hWc := hW.cell
      have hWz := hW.size
      have hWb := hW.below (hB)
      have kT2 := hW.blk kT
      have kM2 := hW.blk kM
      have f0 := cell_after (hW.below (Below.refl _ _)) e0
      have f1 := cell_after (hW.below (Below.refl _ _)) e1
      clear hW hWc hWz kT kM e0 e1
      refine (wpIn_wide (n := 9)).1 ?_
      have hLast := trivial
      refine region_rest (S := (fun w' => Blk w' (w.heap.size) 92 #[.int .i64 0, .int .i64 0] ∧ Blk w' (w.heap.size + 1) 92 #[.int .i64 m.1, .int .i64 m.2] ∧ w'.cell? ⟨qb, off + j * 2, none⟩ = some (.int .i64 p.1) ∧ w'.cell? ⟨qb, off + j * 2 + 1, none⟩ = some (.int .i64 p.2) ∧ Below W0.heap.size W0 w')) hmx ?_ (fun hHeld => ?_)
      · exact ⟨kT2.drew, kM2.drew, f0, f1, (Below.refl W0.heap.size W0).drew⟩
      change RestIn _ _ _ _ _ _ _ 8 #[false, false, false, false, false, false, false, false] _ (World.drew _)
      refine rest_take (i := 0) (v := _) all_wide (noDefers_of (by kernel_rfl)) rfl (by kernel_rfl) (by kernel_rfl) (by kernel_rfl) (fun _ _ _ h => h) (Or.inl ⟨by rfl, by intro w hSw; clear hSw; go_simp; first | done | with_reducible rfl⟩) hHeld ?_
      change RestIn _ _ _ _ _ _ _ 7 #[true, false, false, false, false, false, false, false] _ _
      try simp only [Act.put, List.setIfInBounds_toArray, List.set_cons_zero, List.set_cons_succ, List.getElem_toArray, List.getElem_cons_zero, List.getElem_cons_succ]
      refine rest_take (i := 1) (v := _) all_wide (noDefers_of (by kernel_rfl)) rfl (by kernel_rfl) (by kernel_rfl) (by kernel_rfl) (fun _ _ _ h => h) (Or.inl ⟨by rfl, by intro w hSw; clear hSw; go_simp; first | done | with_reducible rfl⟩) hHeld ?_
      change RestIn _ _ _ _ _ _ _ 6 #[true, true, false, false, false, false, false, false] _ _
      try simp only [Act.put, List.setIfInBounds_toArray, List.set_cons_zero, List.set_cons_succ, List.getElem_toArray, List.getElem_cons_zero, List.getElem_cons_succ]
      refine rest_take (i := 2) (v := _) all_wide (noDefers_of (by kernel_rfl)) rfl (by kernel_rfl) (by kernel_rfl) (by kernel_rfl) (fun _ _ _ h => h) (Or.inl ⟨by rfl, by intro w hSw; clear hSw; go_simp; first | done | with_reducible rfl⟩) hHeld ?_
      change RestIn _ _ _ _ _ _ _ 5 #[true, true, true, false, false, false, false, false] _ _
      try simp only [Act.put, List.setIfInBounds_toArray, List.set_cons_zero, List.set_cons_succ, List.getElem_toArray, List.getElem_cons_zero, List.getElem_cons_succ]
      refine rest_take (i := 3) (v := _) all_wide (noDefers_of (by kernel_rfl)) rfl (by kernel_rfl) (by kernel_rfl) (by kernel_rfl) (fun _ _ _ h => h) (Or.inl ⟨by rfl, by intro w hSw; clear hSw; go_simp; first | done | with_reducible rfl⟩) hHeld ?_
      change RestIn _ _ _ _ _ _ _ 4 #[true, true, true, true, false, false, false, false] _ _
      try simp only [Act.put, List.setIfInBounds_toArray, List.set_cons_zero, List.set_cons_succ, List.getElem_toArray, List.getElem_cons_zero, List.getElem_cons_succ]
      refine rest_take (i := 4) (v := _) all_wide (noDefers_of (by kernel_rfl)) rfl (by kernel_rfl) (by kernel_rfl) (by kernel_rfl) (fun _ _ _ h => h) (Or.inl ⟨by rfl, by intro w hSw; (obtain ⟨q0, q1, q2, q3, _⟩ := hSw; have q0x0 := q0.cell 0; have q0x1 := q0.cell 1; have q1x0 := q1.cell 0; have q1x1 := q1.cell 1; simp at q0x0 q0x1 q1x0 q1x1); go_simp; first | done | with_reducible rfl⟩) hHeld ?_
      change RestIn _ _ _ _ _ _ _ 3 #[true, true, true, true, true, false, false, false] _ _
      try simp only [Act.put, List.setIfInBounds_toArray, List.set_cons_zero, List.set_cons_succ, List.getElem_toArray, List.getElem_cons_zero, List.getElem_cons_succ]
      refine rest_take (i := 5) (v := _) all_wide (noDefers_of (by kernel_rfl)) rfl (by kernel_rfl) (by kernel_rfl) (by kernel_rfl) (fun _ _ _ h => h) (Or.inl ⟨by rfl, by intro w hSw; (obtain ⟨q0, q1, q2, q3, _⟩ := hSw; have q0x0 := q0.cell 0; have q0x1 := q0.cell 1; have q1x0 := q1.cell 0; have q1x1 := q1.cell 1; simp at q0x0 q0x1 q1x0 q1x1); go_simp; first | done | with_reducible rfl⟩) hHeld ?_
      change RestIn _ _ _ _ _ _ _ 2 #[true, true, true, true, true, true, false, false] _ _
      try simp only [Act.put, List.setIfInBounds_toArray, List.set_cons_zero, List.set_cons_succ, List.getElem_toArray, List.getElem_cons_zero, List.getElem_cons_succ]
      refine rest_ready (rs := [6]) (by kernel_rfl) (by simp) ?_
      refine AllRest.cons rfl (fun K hK => ?_) AllRest.nil
      have hNow := (hHeld.2.2.2.2)
      clear hLast
      have hLast := hNow
      go_simp
      gi_wp2_with ((refine ⟨trivial, ?_⟩; gi_at_call 74; (with_reducible refine (callsIn_wide.2 (HCM.out _)).mono ?_); rintro e wn ⟨rfl, hb⟩))
      refine hK.out _ _ ?_ (fun hHeld' => ?_)
      · exact ⟨hHeld.1.below hb hHeld.1.lt, hHeld.2.1.below hb hHeld.2.1.lt, cell_after hb hHeld.2.2.1, cell_after hb hHeld.2.2.2.1, (hHeld.2.2.2.2).trans (hb.mono (hHeld.2.2.2.2).size)⟩
      clear hK K
      change RestIn _ _ _ _ _ _ _ 1 #[true, true, true, true, true, true, true, false] _ _
      try simp only [Act.put, List.setIfInBounds_toArray, List.set_cons_zero, List.set_cons_succ, List.getElem_toArray, List.getElem_cons_zero, List.getElem_cons_succ]
      clear hHeld
      have hHeld := hHeld'
      clear hHeld'
      have hNow := (hHeld.2.2.2.2)
      refine rest_take (i := 7) (v := _) all_wide (noDefers_of (by kernel_rfl)) rfl (by kernel_rfl) (by kernel_rfl) (by kernel_rfl) (fun _ _ _ h => h) (Or.inl ⟨by rfl, by intro w hSw; clear hSw; go_simp; first | done | with_reducible rfl⟩) hHeld ?_
      change RestIn _ _ _ _ _ _ _ 0 #[true, true, true, true, true, true, true, true] _ _
      try simp only [Act.put, List.setIfInBounds_toArray, List.set_cons_zero, List.set_cons_succ, List.getElem_toArray, List.getElem_cons_zero, List.getElem_cons_succ]
      refine rest_done (by kernel_rfl) ?_
      obtain ⟨kT3, kM3, g0, g1, hNow2⟩ := hHeld
      have hB3 := hWb.trans (hNow2.mono hWb.size)
      have m0 := kM3.cell 0; have mf0 := kM3.frozen 0; have m1 := kM3.cell 1; have mf1 := kM3.frozen 1; have ml := kM3.lt; simp at m0 m1
      by_cases hgt : m.2 - m.1 < p.2 - p.1
      · have hd : decide (0 < p.2 - p.1 + 1 - (m.2 - m.1 + 1)) = true := decide_eq_true (by omega)
        have hd2 : 0 < p.2 - p.1 + 1 - (m.2 - m.1 + 1) := by omega
        have hs : stepW m p = p := if_pos hgt
        have HS := Lib.hid hs
        clear hs
        go_wp2
        go_roundw
        case rel =>
          refine ⟨j + 1, by omega, by omega, by go_num, (hB3.setCell (p := ⟨w.heap.size + 1, 0, none⟩) (by simp) _).setCell (p := ⟨w.heap.size + 1, 1, none⟩) (by simp) _, (kT3.far (p := ⟨w.heap.size + 1, 0, none⟩) (by simp) _).far (p := ⟨w.heap.size + 1, 1, none⟩) (by simp) _, ?_, ?_⟩
          · rw [Nat.add_sub_cancel, HT.out, HS.out]; exact (kM3.set_ 0 (.int .i64 p.1)).set_ 1 (.int .i64 p.2)
          · rw [Nat.add_sub_cancel, HT.out, HS.out]; exact HWP.out
        case measure => simp [intOf]; omega
      · have hd : decide (0 < p.2 - p.1 + 1 - (m.2 - m.1 + 1)) = false := decide_eq_false (by omega)
        have hd2 : ¬ 0 < p.2 - p.1 + 1 - (m.2 - m.1 + 1) := by omega
        have hs : stepW m p = m := if_neg hgt
        have HS := Lib.hid hs
        clear hs
        go_wp2
        go_roundw
        case rel => exact ⟨j + 1, by omega, by omega, by go_num, hB3, kT3, by rw [Nat.add_sub_cancel, HT.out, HS.out]; exact kM3, by rw [Nat.add_sub_cancel, HT.out, HS.out]; exact HWM.out⟩
        case measure => simp [intOf]; omega
end Go.Proofs.Ytbagfapalkmikaa
