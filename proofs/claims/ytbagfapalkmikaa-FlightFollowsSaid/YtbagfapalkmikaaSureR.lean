import Derived.Test.YtbagfapalkmikaaRefD

/- Whether a catch is sure, by the document's words. -/
namespace Go.Proofs.Ytbagfapalkmikaa
open Go.RowKit Go.Shelf
theorem Below.alloc2 {W0 w1 : World} (h : Below W0.heap.size W0 w1) (o o' : Obj) : Below W0.heap.size W0 ((w1.alloc o).alloc o') := (h.alloc h.size o).alloc (by have := h.size; simp; omega) o'
theorem cell_after {W W' : World} {a : Addr} {v : Value} (hb : Below W.heap.size W W') (h : W.cell? a = some v) : W'.cell? a = some v := (hb.cell (World.block_lt_of_cell? W a h)).trans h
theorem cell_alloc {W : World} {a : Addr} {v : Value} (o : Obj) (h : W.cell? a = some v) : (W.alloc o).cell? a = some v := cell_after ((Below.refl _ W).alloc (Nat.le_refl _) o) h
theorem blk_new_of {B : Nat} {w W : World} (_h : Below B w W) (t : TypeId) (cs : Array Value) : Blk (W.alloc (.cells cs t)) W.heap.size t cs := Blk.new W t cs
theorem s_of {W0 W' : World} {g q o : Nat} {t : TypeId} {cs : Array Value} {v0 v1 v2 v3 : Value} (k : Blk W0 g t cs) (e0 : W0.cell? ⟨q, o, none⟩ = some v0) (e1 : W0.cell? ⟨q, o + 1, none⟩ = some v1) (e2 : W0.cell? ⟨q, o + 2, none⟩ = some v2) (e3 : W0.cell? ⟨q, o + 3, none⟩ = some v3) (hB : Below W0.heap.size W0 W') :
    Blk W' g t cs ∧ W'.cell? ⟨q, o, none⟩ = some v0 ∧ W'.cell? ⟨q, o + 1, none⟩ = some v1 ∧ W'.cell? ⟨q, o + 2, none⟩ = some v2 ∧ W'.cell? ⟨q, o + 3, none⟩ = some v3 :=
  ⟨k.below hB k.lt, (hB.cell (World.block_lt_of_cell? _ _ e0)).trans e0, (hB.cell (World.block_lt_of_cell? _ _ e1)).trans e1, (hB.cell (World.block_lt_of_cell? _ _ e2)).trans e2, (hB.cell (World.block_lt_of_cell? _ _ e3)).trans e3⟩
theorem near_hasB {b h : Rng} {m : Int} (hb : b.lo ≤ b.hi) (hh : h.lo ≤ h.hi) : (decide (sizeI (b.hi - h.lo) ≤ m) && decide (sizeI (h.hi - b.lo) ≤ m)) = (Rng.hasB ⟨h.hi - m, h.lo + m⟩ b) := by
  unfold Rng.hasB sizeI
  rw [Bool.eq_iff_iff]
  simp only [Bool.and_eq_true, decide_eq_true_eq]
  omega
theorem after_flat {f : Fly} {t : Int} (hf : f.ok = true) (ht : 0 ≤ t ∧ t ≤ 300) : ((f.after t).x.lo ≤ (f.after t).x.hi ∧ (f.after t).z.lo ≤ (f.after t).z.hi) ∧ (-20000000 ≤ (f.after t).x.lo ∧ (f.after t).x.hi ≤ 20000000) ∧ (-20000000 ≤ (f.after t).z.lo ∧ (f.after t).z.hi ≤ 20000000) := by
  obtain ⟨hp, hs, _, _⟩ := Fly.ok_iff.1 hf
  obtain ⟨⟨p1, p2, p3⟩, p4, p5, p6⟩ := Bx.inside_iff.1 hp
  obtain ⟨⟨s1, s2, s3⟩, s4, s5, s6⟩ := Bx.inside_iff.1 hs
  obtain ⟨t1, t2⟩ := tickb ht ⟨s1, show f.speed.x.lo ≤ 10000 by omega⟩
  obtain ⟨t3, t4⟩ := tickb ht ⟨show -10000 ≤ f.speed.x.hi by omega, s3⟩
  obtain ⟨t5, t6⟩ := tickb ht ⟨s4, show f.speed.z.lo ≤ 10000 by omega⟩
  obtain ⟨t7, t8⟩ := tickb ht ⟨show -10000 ≤ f.speed.z.hi by omega, s6⟩
  obtain ⟨g1, g2⟩ := sqb ht
  have m1 := Int.mul_le_mul_of_nonneg_left s2 ht.1
  have m2 := Int.mul_le_mul_of_nonneg_left s5 ht.1
  show (f.pos.x.lo + t * f.speed.x.lo ≤ f.pos.x.hi + t * f.speed.x.hi ∧ f.pos.z.lo + t * f.speed.z.lo - 49 * t * t ≤ f.pos.z.hi + t * f.speed.z.hi - 49 * t * t) ∧ (-20000000 ≤ f.pos.x.lo + t * f.speed.x.lo ∧ f.pos.x.hi + t * f.speed.x.hi ≤ 20000000) ∧ (-20000000 ≤ f.pos.z.lo + t * f.speed.z.lo - 49 * t * t ∧ f.pos.z.hi + t * f.speed.z.hi - 49 * t * t ≤ 20000000)
  omega

set_option linter.unusedSimpArgs false in
set_option maxRecDepth 100000 in
set_option maxHeartbeats 8000000 in
theorem refSure_any (f : Flt) (A : Option Addr) (c r t : Nat) (w : World) (hf : f.ok = true) (hl : f.least ≤ t) (hm : (t : Int) ≤ f.most) (hr : r ≤ 6000) (hrs : RS encB 4 w w.heap.size A f.cycle) :
    Calls Try.prog 40 #[.agg #[.int .i64 f.fly.pos.x.lo, .int .i64 f.fly.pos.x.hi, .int .i64 f.fly.pos.z.lo, .int .i64 f.fly.pos.z.hi, .int .i64 f.fly.speed.x.lo, .int .i64 f.fly.speed.x.hi, .int .i64 f.fly.speed.z.lo, .int .i64 f.fly.speed.z.hi, .int .i64 f.fly.mass, .slice A f.cycle.length c, .int .i64 f.reach, .int .i64 f.soft, .int .i64 f.bears, .int .i64 f.least, .int .i64 f.most], .int .i64 r, .int .i64 ((r : Int) + (t : Int))] w fun e w' => e = .returned (.bool (f.sure r t)) ∧ Below w.heap.size w w' := by
  obtain ⟨hfl, ⟨hc1, hc2⟩, hcb, ⟨re1, re2⟩, _, _, ⟨le1, le2⟩, ⟨mo1, mo2⟩, _⟩ := Flt.ok_iff.1 hf
  have ht : (0 : Int) ≤ (t : Int) ∧ (t : Int) ≤ 300 := by omega
  obtain ⟨idx, hidx⟩ : ∃ x, (r + t) % f.cycle.length = x := ⟨_, rfl⟩
  have hil : idx < f.cycle.length := by rw [← hidx]; exact Nat.mod_lt _ (by omega)
  obtain ⟨h, hh⟩ : ∃ x, f.cycle[idx]? = some x := getElem?_lt hil
  obtain ⟨⟨q1, q2, q3⟩, q4, q5, q6⟩ := Bx.inside_iff.1 (hcb h (List.mem_of_getElem? hh))
  obtain ⟨⟨v1, v2⟩, ⟨v3, v4⟩, v5, v6⟩ := after_flat hfl ht
  have HAFT : Hid (∀ W : World, Calls Try.prog 25 #[.agg #[.int .i64 f.fly.pos.x.lo, .int .i64 f.fly.pos.x.hi, .int .i64 f.fly.pos.z.lo, .int .i64 f.fly.pos.z.hi, .int .i64 f.fly.speed.x.lo, .int .i64 f.fly.speed.x.hi, .int .i64 f.fly.speed.z.lo, .int .i64 f.fly.speed.z.hi, .int .i64 f.fly.mass], .int .i64 t] W fun e w' => e = .returned (.agg #[.int .i64 (f.fly.after t).x.lo, .int .i64 (f.fly.after t).x.hi, .int .i64 (f.fly.after t).z.lo, .int .i64 (f.fly.after t).z.hi]) ∧ Below W.heap.size W w') := fun W => refAfter_any f.fly t W hfl ht
  have HLOAD : Hid (∀ W : World, Calls Try.prog 26 #[.agg #[.int .i64 f.fly.pos.x.lo, .int .i64 f.fly.pos.x.hi, .int .i64 f.fly.pos.z.lo, .int .i64 f.fly.pos.z.hi, .int .i64 f.fly.speed.x.lo, .int .i64 f.fly.speed.x.hi, .int .i64 f.fly.speed.z.lo, .int .i64 f.fly.speed.z.hi, .int .i64 f.fly.mass, .slice A f.cycle.length c, .int .i64 f.reach, .int .i64 f.soft, .int .i64 f.bears, .int .i64 f.least, .int .i64 f.most], .int .i64 t] W fun e w' => e = .returned (.int .i64 (f.load t)) ∧ Below W.heap.size W w') := fun W => refLoad_any f A c t W hf ht
  obtain ⟨b, hb⟩ : ∃ b, f.fly.after t = b := ⟨_, rfl⟩
  have HS : Hid (f.sure r t = ((Rng.hasB ⟨h.x.hi - f.reach, h.x.lo + f.reach⟩ b.x && Rng.hasB ⟨h.z.hi - f.reach, h.z.lo + f.reach⟩ b.z) && decide (f.load t ≤ f.bears))) := by
    show _ = _
    unfold Flt.sure Flt.hands
    rw [hidx, hh, hb, Bool.and_comm]
    rfl
  rw [hb] at HAFT v1 v2 v3 v4 v5 v6
  have HN1 : Hid (∀ W : World, Calls Try.prog 68 #[.agg #[.int .i64 b.x.lo, .int .i64 b.x.hi], .agg #[.int .i64 h.x.lo, .int .i64 h.x.hi], .int .i64 f.reach] W fun e w' => e = .returned (.bool (Rng.hasB ⟨h.x.hi - f.reach, h.x.lo + f.reach⟩ b.x)) ∧ Below W.heap.size W w') := fun W => by
    rw [← near_hasB v1 q2]; exact refNear_any b.x h.x f.reach W ⟨by omega, by omega⟩ ⟨by omega, by omega⟩ ⟨by omega, by omega⟩ ⟨by omega, by omega⟩
  have HN2 : Hid (∀ W : World, Calls Try.prog 68 #[.agg #[.int .i64 b.z.lo, .int .i64 b.z.hi], .agg #[.int .i64 h.z.lo, .int .i64 h.z.hi], .int .i64 f.reach] W fun e w' => e = .returned (.bool (Rng.hasB ⟨h.z.hi - f.reach, h.z.lo + f.reach⟩ b.z)) ∧ Below W.heap.size W w') := fun W => by
    rw [← near_hasB v2 q5]; exact refNear_any b.z h.z f.reach W ⟨by omega, by omega⟩ ⟨by omega, by omega⟩ ⟨by omega, by omega⟩ ⟨by omega, by omega⟩
  have K1 := Lib.hid (inB_true.2 ⟨hl, hm⟩ : inB (t : Int) f.least f.most = true)
  have hme : ((r : Int) + (t : Int)) % (f.cycle.length : Int) = (idx : Int) := by rw [← hidx]; norm_cast
  have hrem : ((r : Int) + (t : Int)).tmod (f.cycle.length : Int) = (idx : Int) := by
    rw [Int.tmod_eq_emod_of_nonneg (by omega), hme]
  have hz0 : ((f.cycle.length : Int) == 0) = false := by rw [beq_eq_false_iff_ne]; omega
  have hrt : (r : Int) + (t : Int) - (r : Int) = (t : Int) := by omega
  have hz1 : ¬ (f.cycle.length : Int) = 0 := by omega
  have hcy : ¬ f.cycle = [] := by intro h; rw [h] at hc1; simp at hc1
  have hi0 : (0 : Int) ≤ (idx : Int) := by omega
  have hi1 : (idx : Int) < (f.cycle.length : Int) := by omega
  have hB0 := (Below.refl w.heap.size w).alloc (Nat.le_refl _) (.cells #[.int .i64 f.fly.pos.x.lo, .int .i64 f.fly.pos.x.hi, .int .i64 f.fly.pos.z.lo, .int .i64 f.fly.pos.z.hi, .int .i64 f.fly.speed.x.lo, .int .i64 f.fly.speed.x.hi, .int .i64 f.fly.speed.z.lo, .int .i64 f.fly.speed.z.hi, .int .i64 f.fly.mass, .slice A f.cycle.length c, .int .i64 f.reach, .int .i64 f.soft, .int .i64 f.bears, .int .i64 f.least, .int .i64 f.most] 32)
  have kF := Blk.new w 32 #[.int .i64 f.fly.pos.x.lo, .int .i64 f.fly.pos.x.hi, .int .i64 f.fly.pos.z.lo, .int .i64 f.fly.pos.z.hi, .int .i64 f.fly.speed.x.lo, .int .i64 f.fly.speed.x.hi, .int .i64 f.fly.speed.z.lo, .int .i64 f.fly.speed.z.hi, .int .i64 f.fly.mass, .slice A f.cycle.length c, .int .i64 f.reach, .int .i64 f.soft, .int .i64 f.bears, .int .i64 f.least, .int .i64 f.most]
  obtain ⟨qb, off, rfl, hqb, hcc⟩ := hrs.at_ hh
  have HCC := Lib.hid hcc
  have HI := Lib.hid hidx
  have HH := Lib.hid hh
  have HB := Lib.hid hb
  have HTT := Lib.hid ht
  have hbt := ht.2
  clear hf hcb hidx hh hb hme hrs hcc ht v1 v2 v3 v4 v5 v6 q1 q2 q3 q4 q5 q6 hfl
  go_enter Try.func40, Try.ntmps40
  go_upto_region 4 with (go_at_call 20; (with_reducible refine (in_val K1.out _).mono ?_); rintro e w' ⟨rfl, rfl⟩)
  go_cut [8, 9] (fun s8 s9 wx => ∃ g h2 : Nat, s8 = .pointer (some ⟨g, 0, none⟩) ∧ s9 = .pointer (some ⟨h2, 0, none⟩) ∧ wx.cell? ⟨g, 0, none⟩ = some (.int .i64 b.x.lo) ∧ wx.cell? ⟨g, 1, none⟩ = some (.int .i64 b.x.hi) ∧ wx.cell? ⟨g, 2, none⟩ = some (.int .i64 b.z.lo) ∧ wx.cell? ⟨g, 3, none⟩ = some (.int .i64 b.z.hi) ∧ wx.cell? ⟨h2, 0, none⟩ = some (.int .i64 h.x.lo) ∧ wx.cell? ⟨h2, 1, none⟩ = some (.int .i64 h.x.hi) ∧ wx.cell? ⟨h2, 2, none⟩ = some (.int .i64 h.z.lo) ∧ wx.cell? ⟨h2, 3, none⟩ = some (.int .i64 h.z.hi) ∧ Blk wx w.heap.size 32 #[.int .i64 f.fly.pos.x.lo, .int .i64 f.fly.pos.x.hi, .int .i64 f.fly.pos.z.lo, .int .i64 f.fly.pos.z.hi, .int .i64 f.fly.speed.x.lo, .int .i64 f.fly.speed.x.hi, .int .i64 f.fly.speed.z.lo, .int .i64 f.fly.speed.z.hi, .int .i64 f.fly.mass, .slice (some ⟨qb, off, none⟩) f.cycle.length c, .int .i64 f.reach, .int .i64 f.soft, .int .i64 f.bears, .int .i64 f.least, .int .i64 f.most] ∧ Below w.heap.size w wx)
  case first =>
    refine name_world (motive := fun W => Code.wp _ _ _ _ W) _ ?_
    intro W0 hW
    have hWc := hW.cell
    have hWz := hW.size
    have hWb := hW.below (hB0)
    simp only [World.size_alloc] at hWz
    have zlt : w.heap.size < W0.heap.size := by omega
    have hKf := hW.blk kF
    have e0 := (hWb.cell (p := ⟨qb, off + idx * 4 + 0, none⟩) hqb).trans (HCC.out 0 _ rfl)
    have e1 := (hWb.cell (p := ⟨qb, off + idx * 4 + 1, none⟩) hqb).trans (HCC.out 1 _ rfl)
    have e2 := (hWb.cell (p := ⟨qb, off + idx * 4 + 2, none⟩) hqb).trans (HCC.out 2 _ rfl)
    have e3 := (hWb.cell (p := ⟨qb, off + idx * 4 + 3, none⟩) hqb).trans (HCC.out 3 _ rfl)
    have c0 := HCC.out 0 _ rfl
    have c1 := HCC.out 1 _ rfl
    have c2 := HCC.out 2 _ rfl
    have c3 := HCC.out 3 _ rfl
    simp only [Nat.add_zero] at e0 c0
    have hqz : qb < W0.heap.size := by omega
    clear hWz
    refine (wpIn_wide (n := 9)).1 ?_
    have hCur := hWb.drew
    have hC2 := (Below.refl W0.heap.size W0).drew
    have hmx : Try.prog.follows .mixedOrders = true := by kernel_rfl
    refine region_rest (S := (fun w' => Blk w' w.heap.size 32 #[.int .i64 f.fly.pos.x.lo, .int .i64 f.fly.pos.x.hi, .int .i64 f.fly.pos.z.lo, .int .i64 f.fly.pos.z.hi, .int .i64 f.fly.speed.x.lo, .int .i64 f.fly.speed.x.hi, .int .i64 f.fly.speed.z.lo, .int .i64 f.fly.speed.z.hi, .int .i64 f.fly.mass, .slice (some ⟨qb, off, none⟩) f.cycle.length c, .int .i64 f.reach, .int .i64 f.soft, .int .i64 f.bears, .int .i64 f.least, .int .i64 f.most] ∧ w'.cell? ⟨qb, off + idx * 4, none⟩ = some (.int .i64 h.x.lo) ∧ w'.cell? ⟨qb, off + idx * 4 + 1, none⟩ = some (.int .i64 h.x.hi) ∧ w'.cell? ⟨qb, off + idx * 4 + 2, none⟩ = some (.int .i64 h.z.lo) ∧ w'.cell? ⟨qb, off + idx * 4 + 3, none⟩ = some (.int .i64 h.z.hi))) hmx ?_ (fun hHeld => ?_)
    · exact ⟨hKf.drew, e0, e1, e2, e3⟩
    change RestIn _ _ _ _ _ _ _ 19 #[false, false, false, false, false, false, false, false, false, false, false, false, false, false, false, false, false, false, false] _ (World.drew _)
    refine rest_take (i := 0) (v := _) all_wide (noDefers_of (by kernel_rfl)) rfl (by kernel_rfl) (by kernel_rfl) (by kernel_rfl) (fun _ _ _ h => h) (Or.inl ⟨by rfl, by intro w hSw; (obtain ⟨kf, m0, m1, m2, m3⟩ := hSw; have x0 := kf.cell 0; have x1 := kf.cell 1; have x2 := kf.cell 2; have x3 := kf.cell 3; have x4 := kf.cell 4; have x5 := kf.cell 5; have x6 := kf.cell 6; have x7 := kf.cell 7; have x8 := kf.cell 8; have x9 := kf.cell 9; have x10 := kf.cell 10; have x11 := kf.cell 11; have x12 := kf.cell 12; have x13 := kf.cell 13; have x14 := kf.cell 14; simp at x0 x1 x2 x3 x4 x5 x6 x7 x8 x9 x10 x11 x12 x13 x14); go_simp; first | done | with_reducible rfl⟩) hHeld ?_
    change RestIn _ _ _ _ _ _ _ 18 #[true, false, false, false, false, false, false, false, false, false, false, false, false, false, false, false, false, false, false] _ _
    try simp only [Act.put, List.setIfInBounds_toArray, List.set_cons_zero, List.set_cons_succ, List.getElem_toArray, List.getElem_cons_zero, List.getElem_cons_succ]
    refine rest_take (i := 1) (v := _) all_wide (noDefers_of (by kernel_rfl)) rfl (by kernel_rfl) (by kernel_rfl) (by kernel_rfl) (fun _ _ _ h => h) (Or.inl ⟨by rfl, by intro w hSw; (obtain ⟨kf, m0, m1, m2, m3⟩ := hSw; have x0 := kf.cell 0; have x1 := kf.cell 1; have x2 := kf.cell 2; have x3 := kf.cell 3; have x4 := kf.cell 4; have x5 := kf.cell 5; have x6 := kf.cell 6; have x7 := kf.cell 7; have x8 := kf.cell 8; have x9 := kf.cell 9; have x10 := kf.cell 10; have x11 := kf.cell 11; have x12 := kf.cell 12; have x13 := kf.cell 13; have x14 := kf.cell 14; simp at x0 x1 x2 x3 x4 x5 x6 x7 x8 x9 x10 x11 x12 x13 x14); go_simp; first | done | with_reducible rfl⟩) hHeld ?_
    change RestIn _ _ _ _ _ _ _ 17 #[true, true, false, false, false, false, false, false, false, false, false, false, false, false, false, false, false, false, false] _ _
    try simp only [Act.put, List.setIfInBounds_toArray, List.set_cons_zero, List.set_cons_succ, List.getElem_toArray, List.getElem_cons_zero, List.getElem_cons_succ]
    refine rest_take (i := 2) (v := _) all_wide (noDefers_of (by kernel_rfl)) rfl (by kernel_rfl) (by kernel_rfl) (by kernel_rfl) (fun _ _ _ h => h) (Or.inl ⟨by rfl, by intro w hSw; (obtain ⟨kf, m0, m1, m2, m3⟩ := hSw; have x0 := kf.cell 0; have x1 := kf.cell 1; have x2 := kf.cell 2; have x3 := kf.cell 3; have x4 := kf.cell 4; have x5 := kf.cell 5; have x6 := kf.cell 6; have x7 := kf.cell 7; have x8 := kf.cell 8; have x9 := kf.cell 9; have x10 := kf.cell 10; have x11 := kf.cell 11; have x12 := kf.cell 12; have x13 := kf.cell 13; have x14 := kf.cell 14; simp at x0 x1 x2 x3 x4 x5 x6 x7 x8 x9 x10 x11 x12 x13 x14); go_simp; first | done | with_reducible rfl⟩) hHeld ?_
    change RestIn _ _ _ _ _ _ _ 16 #[true, true, true, false, false, false, false, false, false, false, false, false, false, false, false, false, false, false, false] _ _
    try simp only [Act.put, List.setIfInBounds_toArray, List.set_cons_zero, List.set_cons_succ, List.getElem_toArray, List.getElem_cons_zero, List.getElem_cons_succ]
    refine rest_take (i := 4) (v := _) all_wide (noDefers_of (by kernel_rfl)) rfl (by kernel_rfl) (by kernel_rfl) (by kernel_rfl) (fun _ _ _ h => h) (Or.inl ⟨by rfl, by intro w hSw; (obtain ⟨kf, m0, m1, m2, m3⟩ := hSw; have x0 := kf.cell 0; have x1 := kf.cell 1; have x2 := kf.cell 2; have x3 := kf.cell 3; have x4 := kf.cell 4; have x5 := kf.cell 5; have x6 := kf.cell 6; have x7 := kf.cell 7; have x8 := kf.cell 8; have x9 := kf.cell 9; have x10 := kf.cell 10; have x11 := kf.cell 11; have x12 := kf.cell 12; have x13 := kf.cell 13; have x14 := kf.cell 14; simp at x0 x1 x2 x3 x4 x5 x6 x7 x8 x9 x10 x11 x12 x13 x14); go_simp; first | done | with_reducible rfl⟩) hHeld ?_
    change RestIn _ _ _ _ _ _ _ 15 #[true, true, true, false, true, false, false, false, false, false, false, false, false, false, false, false, false, false, false] _ _
    try simp only [Act.put, List.setIfInBounds_toArray, List.set_cons_zero, List.set_cons_succ, List.getElem_toArray, List.getElem_cons_zero, List.getElem_cons_succ]
    refine rest_take (i := 5) (v := _) all_wide (noDefers_of (by kernel_rfl)) rfl (by kernel_rfl) (by kernel_rfl) (by kernel_rfl) (fun _ _ _ h => h) (Or.inl ⟨by rfl, by intro w hSw; (obtain ⟨kf, m0, m1, m2, m3⟩ := hSw; have x0 := kf.cell 0; have x1 := kf.cell 1; have x2 := kf.cell 2; have x3 := kf.cell 3; have x4 := kf.cell 4; have x5 := kf.cell 5; have x6 := kf.cell 6; have x7 := kf.cell 7; have x8 := kf.cell 8; have x9 := kf.cell 9; have x10 := kf.cell 10; have x11 := kf.cell 11; have x12 := kf.cell 12; have x13 := kf.cell 13; have x14 := kf.cell 14; simp at x0 x1 x2 x3 x4 x5 x6 x7 x8 x9 x10 x11 x12 x13 x14); go_simp; first | done | with_reducible rfl⟩) hHeld ?_
    change RestIn _ _ _ _ _ _ _ 14 #[true, true, true, false, true, true, false, false, false, false, false, false, false, false, false, false, false, false, false] _ _
    try simp only [Act.put, List.setIfInBounds_toArray, List.set_cons_zero, List.set_cons_succ, List.getElem_toArray, List.getElem_cons_zero, List.getElem_cons_succ]
    refine rest_take (i := 6) (v := _) all_wide (noDefers_of (by kernel_rfl)) rfl (by kernel_rfl) (by kernel_rfl) (by kernel_rfl) (fun _ _ _ h => h) (Or.inl ⟨by rfl, by intro w hSw; (obtain ⟨kf, m0, m1, m2, m3⟩ := hSw; have x0 := kf.cell 0; have x1 := kf.cell 1; have x2 := kf.cell 2; have x3 := kf.cell 3; have x4 := kf.cell 4; have x5 := kf.cell 5; have x6 := kf.cell 6; have x7 := kf.cell 7; have x8 := kf.cell 8; have x9 := kf.cell 9; have x10 := kf.cell 10; have x11 := kf.cell 11; have x12 := kf.cell 12; have x13 := kf.cell 13; have x14 := kf.cell 14; simp at x0 x1 x2 x3 x4 x5 x6 x7 x8 x9 x10 x11 x12 x13 x14); go_simp; first | done | with_reducible rfl⟩) hHeld ?_
    change RestIn _ _ _ _ _ _ _ 13 #[true, true, true, false, true, true, true, false, false, false, false, false, false, false, false, false, false, false, false] _ _
    try simp only [Act.put, List.setIfInBounds_toArray, List.set_cons_zero, List.set_cons_succ, List.getElem_toArray, List.getElem_cons_zero, List.getElem_cons_succ]
    refine rest_take (i := 7) (v := _) all_wide (noDefers_of (by kernel_rfl)) rfl (by kernel_rfl) (by kernel_rfl) (by kernel_rfl) (fun _ _ _ h => h) (Or.inl ⟨by rfl, by intro w hSw; (obtain ⟨kf, m0, m1, m2, m3⟩ := hSw; have x0 := kf.cell 0; have x1 := kf.cell 1; have x2 := kf.cell 2; have x3 := kf.cell 3; have x4 := kf.cell 4; have x5 := kf.cell 5; have x6 := kf.cell 6; have x7 := kf.cell 7; have x8 := kf.cell 8; have x9 := kf.cell 9; have x10 := kf.cell 10; have x11 := kf.cell 11; have x12 := kf.cell 12; have x13 := kf.cell 13; have x14 := kf.cell 14; simp at x0 x1 x2 x3 x4 x5 x6 x7 x8 x9 x10 x11 x12 x13 x14); go_simp; first | done | with_reducible rfl⟩) hHeld ?_
    change RestIn _ _ _ _ _ _ _ 12 #[true, true, true, false, true, true, true, true, false, false, false, false, false, false, false, false, false, false, false] _ _
    try simp only [Act.put, List.setIfInBounds_toArray, List.set_cons_zero, List.set_cons_succ, List.getElem_toArray, List.getElem_cons_zero, List.getElem_cons_succ]
    refine rest_take (i := 8) (v := _) all_wide (noDefers_of (by kernel_rfl)) rfl (by kernel_rfl) (by kernel_rfl) (by kernel_rfl) (fun _ _ _ h => h) (Or.inl ⟨by rfl, by intro w hSw; (obtain ⟨kf, m0, m1, m2, m3⟩ := hSw; have x0 := kf.cell 0; have x1 := kf.cell 1; have x2 := kf.cell 2; have x3 := kf.cell 3; have x4 := kf.cell 4; have x5 := kf.cell 5; have x6 := kf.cell 6; have x7 := kf.cell 7; have x8 := kf.cell 8; have x9 := kf.cell 9; have x10 := kf.cell 10; have x11 := kf.cell 11; have x12 := kf.cell 12; have x13 := kf.cell 13; have x14 := kf.cell 14; simp at x0 x1 x2 x3 x4 x5 x6 x7 x8 x9 x10 x11 x12 x13 x14); go_simp; first | done | with_reducible rfl⟩) hHeld ?_
    change RestIn _ _ _ _ _ _ _ 11 #[true, true, true, false, true, true, true, true, true, false, false, false, false, false, false, false, false, false, false] _ _
    try simp only [Act.put, List.setIfInBounds_toArray, List.set_cons_zero, List.set_cons_succ, List.getElem_toArray, List.getElem_cons_zero, List.getElem_cons_succ]
    refine rest_take (i := 9) (v := _) all_wide (noDefers_of (by kernel_rfl)) rfl (by kernel_rfl) (by kernel_rfl) (by kernel_rfl) (fun _ _ _ h => h) (Or.inl ⟨by rfl, by intro w hSw; (obtain ⟨kf, m0, m1, m2, m3⟩ := hSw; have x0 := kf.cell 0; have x1 := kf.cell 1; have x2 := kf.cell 2; have x3 := kf.cell 3; have x4 := kf.cell 4; have x5 := kf.cell 5; have x6 := kf.cell 6; have x7 := kf.cell 7; have x8 := kf.cell 8; have x9 := kf.cell 9; have x10 := kf.cell 10; have x11 := kf.cell 11; have x12 := kf.cell 12; have x13 := kf.cell 13; have x14 := kf.cell 14; simp at x0 x1 x2 x3 x4 x5 x6 x7 x8 x9 x10 x11 x12 x13 x14); go_simp; first | done | with_reducible rfl⟩) hHeld ?_
    change RestIn _ _ _ _ _ _ _ 10 #[true, true, true, false, true, true, true, true, true, true, false, false, false, false, false, false, false, false, false] _ _
    try simp only [Act.put, List.setIfInBounds_toArray, List.set_cons_zero, List.set_cons_succ, List.getElem_toArray, List.getElem_cons_zero, List.getElem_cons_succ]
    refine rest_take (i := 10) (v := _) all_wide (noDefers_of (by kernel_rfl)) rfl (by kernel_rfl) (by kernel_rfl) (by kernel_rfl) (fun _ _ _ h => h) (Or.inl ⟨by rfl, by intro w hSw; (obtain ⟨kf, m0, m1, m2, m3⟩ := hSw; have x0 := kf.cell 0; have x1 := kf.cell 1; have x2 := kf.cell 2; have x3 := kf.cell 3; have x4 := kf.cell 4; have x5 := kf.cell 5; have x6 := kf.cell 6; have x7 := kf.cell 7; have x8 := kf.cell 8; have x9 := kf.cell 9; have x10 := kf.cell 10; have x11 := kf.cell 11; have x12 := kf.cell 12; have x13 := kf.cell 13; have x14 := kf.cell 14; simp at x0 x1 x2 x3 x4 x5 x6 x7 x8 x9 x10 x11 x12 x13 x14); go_simp; first | done | with_reducible rfl⟩) hHeld ?_
    change RestIn _ _ _ _ _ _ _ 9 #[true, true, true, false, true, true, true, true, true, true, true, false, false, false, false, false, false, false, false] _ _
    try simp only [Act.put, List.setIfInBounds_toArray, List.set_cons_zero, List.set_cons_succ, List.getElem_toArray, List.getElem_cons_zero, List.getElem_cons_succ]
    refine rest_take (i := 11) (v := _) all_wide (noDefers_of (by kernel_rfl)) rfl (by kernel_rfl) (by kernel_rfl) (by kernel_rfl) (fun _ _ _ h => h) (Or.inl ⟨by rfl, by intro w hSw; (obtain ⟨kf, m0, m1, m2, m3⟩ := hSw; have x0 := kf.cell 0; have x1 := kf.cell 1; have x2 := kf.cell 2; have x3 := kf.cell 3; have x4 := kf.cell 4; have x5 := kf.cell 5; have x6 := kf.cell 6; have x7 := kf.cell 7; have x8 := kf.cell 8; have x9 := kf.cell 9; have x10 := kf.cell 10; have x11 := kf.cell 11; have x12 := kf.cell 12; have x13 := kf.cell 13; have x14 := kf.cell 14; simp at x0 x1 x2 x3 x4 x5 x6 x7 x8 x9 x10 x11 x12 x13 x14); go_simp; first | done | with_reducible rfl⟩) hHeld ?_
    change RestIn _ _ _ _ _ _ _ 8 #[true, true, true, false, true, true, true, true, true, true, true, true, false, false, false, false, false, false, false] _ _
    try simp only [Act.put, List.setIfInBounds_toArray, List.set_cons_zero, List.set_cons_succ, List.getElem_toArray, List.getElem_cons_zero, List.getElem_cons_succ]
    refine rest_take (i := 12) (v := _) all_wide (noDefers_of (by kernel_rfl)) rfl (by kernel_rfl) (by kernel_rfl) (by kernel_rfl) (fun _ _ _ h => h) (Or.inl ⟨by rfl, by intro w hSw; (obtain ⟨kf, m0, m1, m2, m3⟩ := hSw; have x0 := kf.cell 0; have x1 := kf.cell 1; have x2 := kf.cell 2; have x3 := kf.cell 3; have x4 := kf.cell 4; have x5 := kf.cell 5; have x6 := kf.cell 6; have x7 := kf.cell 7; have x8 := kf.cell 8; have x9 := kf.cell 9; have x10 := kf.cell 10; have x11 := kf.cell 11; have x12 := kf.cell 12; have x13 := kf.cell 13; have x14 := kf.cell 14; simp at x0 x1 x2 x3 x4 x5 x6 x7 x8 x9 x10 x11 x12 x13 x14); go_simp; first | done | with_reducible rfl⟩) hHeld ?_
    change RestIn _ _ _ _ _ _ _ 7 #[true, true, true, false, true, true, true, true, true, true, true, true, true, false, false, false, false, false, false] _ _
    try simp only [Act.put, List.setIfInBounds_toArray, List.set_cons_zero, List.set_cons_succ, List.getElem_toArray, List.getElem_cons_zero, List.getElem_cons_succ]
    refine rest_take (i := 13) (v := _) all_wide (noDefers_of (by kernel_rfl)) rfl (by kernel_rfl) (by kernel_rfl) (by kernel_rfl) (fun _ _ _ h => h) (Or.inl ⟨by rfl, by intro w hSw; (obtain ⟨kf, m0, m1, m2, m3⟩ := hSw; have x0 := kf.cell 0; have x1 := kf.cell 1; have x2 := kf.cell 2; have x3 := kf.cell 3; have x4 := kf.cell 4; have x5 := kf.cell 5; have x6 := kf.cell 6; have x7 := kf.cell 7; have x8 := kf.cell 8; have x9 := kf.cell 9; have x10 := kf.cell 10; have x11 := kf.cell 11; have x12 := kf.cell 12; have x13 := kf.cell 13; have x14 := kf.cell 14; simp at x0 x1 x2 x3 x4 x5 x6 x7 x8 x9 x10 x11 x12 x13 x14); go_simp; first | done | with_reducible rfl⟩) hHeld ?_
    change RestIn _ _ _ _ _ _ _ 6 #[true, true, true, false, true, true, true, true, true, true, true, true, true, true, false, false, false, false, false] _ _
    try simp only [Act.put, List.setIfInBounds_toArray, List.set_cons_zero, List.set_cons_succ, List.getElem_toArray, List.getElem_cons_zero, List.getElem_cons_succ]
    refine rest_take (i := 14) (v := _) all_wide (noDefers_of (by kernel_rfl)) rfl (by kernel_rfl) (by kernel_rfl) (by kernel_rfl) (fun _ _ _ h => h) (Or.inl ⟨by rfl, by intro w hSw; (obtain ⟨kf, m0, m1, m2, m3⟩ := hSw; have x0 := kf.cell 0; have x1 := kf.cell 1; have x2 := kf.cell 2; have x3 := kf.cell 3; have x4 := kf.cell 4; have x5 := kf.cell 5; have x6 := kf.cell 6; have x7 := kf.cell 7; have x8 := kf.cell 8; have x9 := kf.cell 9; have x10 := kf.cell 10; have x11 := kf.cell 11; have x12 := kf.cell 12; have x13 := kf.cell 13; have x14 := kf.cell 14; simp at x0 x1 x2 x3 x4 x5 x6 x7 x8 x9 x10 x11 x12 x13 x14); go_simp; first | done | with_reducible rfl⟩) hHeld ?_
    change RestIn _ _ _ _ _ _ _ 5 #[true, true, true, false, true, true, true, true, true, true, true, true, true, true, true, false, false, false, false] _ _
    try simp only [Act.put, List.setIfInBounds_toArray, List.set_cons_zero, List.set_cons_succ, List.getElem_toArray, List.getElem_cons_zero, List.getElem_cons_succ]
    refine rest_ready (rs := [3, 15, 16]) (by kernel_rfl) (by simp) ?_
    refine AllRest.cons rfl (fun K hK => ?_) ?_
    · go_simp
      gi_wp2_with ((refine ⟨trivial, ?_⟩; gi_at_call 25; (with_reducible refine (callsIn_wide.2 (HAFT.out _)).mono ?_); rintro e w1 ⟨rfl, hb1⟩))
      refine hK.out _ _ ?_ (fun hHeld' => ?_)
      · exact ⟨hHeld.1.below hb1 hHeld.1.lt, cell_after hb1 hHeld.2.1, cell_after hb1 hHeld.2.2.1, cell_after hb1 hHeld.2.2.2.1, cell_after hb1 hHeld.2.2.2.2⟩
      clear hK K
      change RestIn _ _ _ _ _ _ _ 4 #[true, true, true, true, true, true, true, true, true, true, true, true, true, true, true, false, false, false, false] _ _
      try simp only [Act.put, List.setIfInBounds_toArray, List.set_cons_zero, List.set_cons_succ, List.getElem_toArray, List.getElem_cons_zero, List.getElem_cons_succ]
      have hCur := hCur.trans (hb1.mono hCur.size)
      have hC2 := hC2.trans (hb1.mono hC2.size)
      have hq3 := hC2
      have hq3z := hC2.size
      try have kG := kG.below hb1 kG.lt
      try have kH := kH.below hb1 kH.lt
      try (have a0 := kG.cell 0; have a1 := kG.cell 1; have a2 := kG.cell 2; have a3 := kG.cell 3; have b0 := kG.frozen 0; have b1 := kG.frozen 1; have b2 := kG.frozen 2; have b3 := kG.frozen 3; have ak := kG.lt; simp at a0 a1 a2 a3 b0 b1 b2 b3 ak)
      try (have a4 := kH.cell 0; have a5 := kH.cell 1; have a6 := kH.cell 2; have a7 := kH.cell 3; have b4 := kH.frozen 0; have b5 := kH.frozen 1; have b6 := kH.frozen 2; have b7 := kH.frozen 3; have ck := kH.lt; simp at a4 a5 a6 a7 b4 b5 b6 b7 ck)
      clear hHeld
      have hHeld := hHeld'
      clear hHeld'
      refine rest_ready (rs := [15, 16]) (by kernel_rfl) (by simp) ?_
      refine AllRest.cons rfl (fun K hK => ?_) ?_
      · go_simp
        refine hK.out _ _ ?_ (fun hHeld' => ?_)
        · exact ⟨hHeld.1.alloc _, cell_alloc _ hHeld.2.1, cell_alloc _ hHeld.2.2.1, cell_alloc _ hHeld.2.2.2.1, cell_alloc _ hHeld.2.2.2.2⟩
        clear hK K
        change RestIn _ _ _ _ _ _ _ 3 #[true, true, true, true, true, true, true, true, true, true, true, true, true, true, true, true, false, false, false] _ _
        try simp only [Act.put, List.setIfInBounds_toArray, List.set_cons_zero, List.set_cons_succ, List.getElem_toArray, List.getElem_cons_zero, List.getElem_cons_succ]
        have gG := hHeld.1.lt
        try have gHG := Blk.lt kH
        try have kH := kH.alloc (.cells #[.int .i64 0, .int .i64 0, .int .i64 0, .int .i64 0] 25)
        have kG := blk_new_of hCur 25 #[.int .i64 0, .int .i64 0, .int .i64 0, .int .i64 0]
        have hC2 := hC2.alloc hC2.size (.cells #[.int .i64 0, .int .i64 0, .int .i64 0, .int .i64 0] 25)
        have hCur := hCur.alloc hCur.size (.cells #[.int .i64 0, .int .i64 0, .int .i64 0, .int .i64 0] 25)
        clear hHeld
        have hHeld := hHeld'
        clear hHeld'
        refine rest_ready (rs := [16]) (by kernel_rfl) (by simp) ?_
        refine AllRest.cons rfl (fun K hK => ?_) AllRest.nil
        go_simp
        refine hK.out _ _ ?_ (fun hHeld' => ?_)
        · exact ⟨hHeld.1.alloc _, cell_alloc _ hHeld.2.1, cell_alloc _ hHeld.2.2.1, cell_alloc _ hHeld.2.2.2.1, cell_alloc _ hHeld.2.2.2.2⟩
        clear hK K
        change RestIn _ _ _ _ _ _ _ 2 #[true, true, true, true, true, true, true, true, true, true, true, true, true, true, true, true, true, false, false] _ _
        try simp only [Act.put, List.setIfInBounds_toArray, List.set_cons_zero, List.set_cons_succ, List.getElem_toArray, List.getElem_cons_zero, List.getElem_cons_succ]
        have gH := hHeld.1.lt
        try have gGH := Blk.lt kG
        try have kG := kG.alloc (.cells #[.int .i64 0, .int .i64 0, .int .i64 0, .int .i64 0] 25)
        have kH := blk_new_of hCur 25 #[.int .i64 0, .int .i64 0, .int .i64 0, .int .i64 0]
        have hC2 := hC2.alloc hC2.size (.cells #[.int .i64 0, .int .i64 0, .int .i64 0, .int .i64 0] 25)
        have hCur := hCur.alloc hCur.size (.cells #[.int .i64 0, .int .i64 0, .int .i64 0, .int .i64 0] 25)
        clear hHeld
        have hHeld := hHeld'
        clear hHeld'
        refine rest_ready (rs := [17]) (by kernel_rfl) (by simp) ?_
        refine AllRest.cons rfl (fun K hK => ?_) AllRest.nil
        have y0 := kG.cell 0
        have y1 := kG.cell 1
        have y2 := kG.cell 2
        have y3 := kG.cell 3
        simp at y0 y1 y2 y3
        have z0 := kG.frozen 0
        have z1 := kG.frozen 1
        have z2 := kG.frozen 2
        have z3 := kG.frozen 3
        have h0 := kH.cell 0
        have h1 := kH.cell 1
        have h2 := kH.cell 2
        have h3 := kH.cell 3
        simp at h0 h1 h2 h3
        have j0 := kH.frozen 0
        have j1 := kH.frozen 1
        have j2 := kH.frozen 2
        have j3 := kH.frozen 3
        try simp at z0 z1 z2 z3
        try simp at j0 j1 j2 j3
        try simp at gG gH
        try simp at gGH
        try simp at gHG
        go_simp
        refine hK.out _ _ ?_ (fun hHeld' => ?_)
        · (with_reducible refine s_of hKf e0 e1 e2 e3 ?_; repeat' (first | with_reducible exact hq3 | with_reducible refine Below.setCell ?_ (by (try simp) <;> omega) _ | with_reducible refine Below.alloc ?_ (by (try simp) <;> omega) _))
        clear hK K
        change RestIn _ _ _ _ _ _ _ 1 #[true, true, true, true, true, true, true, true, true, true, true, true, true, true, true, true, true, true, false] _ _
        try simp only [Act.put, List.setIfInBounds_toArray, List.set_cons_zero, List.set_cons_succ, List.getElem_toArray, List.getElem_cons_zero, List.getElem_cons_succ]
        clear hHeld
        have hHeld := hHeld'
        clear hHeld'
        refine rest_ready (rs := [18]) (by kernel_rfl) (by simp) ?_
        refine AllRest.cons rfl (fun K hK => ?_) AllRest.nil
        go_simp
        refine hK.out _ _ ?_ (fun hHeld' => ?_)
        · (with_reducible refine s_of hKf e0 e1 e2 e3 ?_; repeat' (first | with_reducible exact hq3 | with_reducible refine Below.setCell ?_ (by (try simp) <;> omega) _ | with_reducible refine Below.alloc ?_ (by (try simp) <;> omega) _))
        clear hK K
        change RestIn _ _ _ _ _ _ _ 0 #[true, true, true, true, true, true, true, true, true, true, true, true, true, true, true, true, true, true, true] _ _
        try simp only [Act.put, List.setIfInBounds_toArray, List.set_cons_zero, List.set_cons_succ, List.getElem_toArray, List.getElem_cons_zero, List.getElem_cons_succ]
        clear hHeld
        have hHeld := hHeld'
        clear hHeld'
        refine rest_done (by kernel_rfl) ?_
        go_wp2_with fail
        go_meet
        refine ⟨_, _, rfl, rfl, ?_, ?_, ?_, ?_, ?_, ?_, ?_, ?_, hHeld.1, ?_⟩
        (all_goals first | (go_simp; done) | (with_reducible refine hWb.trans (Below.mono ?_ hWb.size); repeat' (first | with_reducible exact hq3 | with_reducible refine Below.setCell ?_ (by (try simp) <;> omega) _ | with_reducible refine Below.alloc ?_ (by (try simp) <;> omega) _)))
      refine AllRest.cons rfl (fun K hK => ?_) ?_
      · go_simp
        refine hK.out _ _ ?_ (fun hHeld' => ?_)
        · exact ⟨hHeld.1.alloc _, cell_alloc _ hHeld.2.1, cell_alloc _ hHeld.2.2.1, cell_alloc _ hHeld.2.2.2.1, cell_alloc _ hHeld.2.2.2.2⟩
        clear hK K
        change RestIn _ _ _ _ _ _ _ 3 #[true, true, true, true, true, true, true, true, true, true, true, true, true, true, true, false, true, false, false] _ _
        try simp only [Act.put, List.setIfInBounds_toArray, List.set_cons_zero, List.set_cons_succ, List.getElem_toArray, List.getElem_cons_zero, List.getElem_cons_succ]
        have gH := hHeld.1.lt
        try have gGH := Blk.lt kG
        try have kG := kG.alloc (.cells #[.int .i64 0, .int .i64 0, .int .i64 0, .int .i64 0] 25)
        have kH := blk_new_of hCur 25 #[.int .i64 0, .int .i64 0, .int .i64 0, .int .i64 0]
        have hC2 := hC2.alloc hC2.size (.cells #[.int .i64 0, .int .i64 0, .int .i64 0, .int .i64 0] 25)
        have hCur := hCur.alloc hCur.size (.cells #[.int .i64 0, .int .i64 0, .int .i64 0, .int .i64 0] 25)
        clear hHeld
        have hHeld := hHeld'
        clear hHeld'
        refine rest_ready (rs := [15]) (by kernel_rfl) (by simp) ?_
        refine AllRest.cons rfl (fun K hK => ?_) AllRest.nil
        go_simp
        refine hK.out _ _ ?_ (fun hHeld' => ?_)
        · exact ⟨hHeld.1.alloc _, cell_alloc _ hHeld.2.1, cell_alloc _ hHeld.2.2.1, cell_alloc _ hHeld.2.2.2.1, cell_alloc _ hHeld.2.2.2.2⟩
        clear hK K
        change RestIn _ _ _ _ _ _ _ 2 #[true, true, true, true, true, true, true, true, true, true, true, true, true, true, true, true, true, false, false] _ _
        try simp only [Act.put, List.setIfInBounds_toArray, List.set_cons_zero, List.set_cons_succ, List.getElem_toArray, List.getElem_cons_zero, List.getElem_cons_succ]
        have gG := hHeld.1.lt
        try have gHG := Blk.lt kH
        try have kH := kH.alloc (.cells #[.int .i64 0, .int .i64 0, .int .i64 0, .int .i64 0] 25)
        have kG := blk_new_of hCur 25 #[.int .i64 0, .int .i64 0, .int .i64 0, .int .i64 0]
        have hC2 := hC2.alloc hC2.size (.cells #[.int .i64 0, .int .i64 0, .int .i64 0, .int .i64 0] 25)
        have hCur := hCur.alloc hCur.size (.cells #[.int .i64 0, .int .i64 0, .int .i64 0, .int .i64 0] 25)
        clear hHeld
        have hHeld := hHeld'
        clear hHeld'
        refine rest_ready (rs := [17]) (by kernel_rfl) (by simp) ?_
        refine AllRest.cons rfl (fun K hK => ?_) AllRest.nil
        have y0 := kG.cell 0
        have y1 := kG.cell 1
        have y2 := kG.cell 2
        have y3 := kG.cell 3
        simp at y0 y1 y2 y3
        have z0 := kG.frozen 0
        have z1 := kG.frozen 1
        have z2 := kG.frozen 2
        have z3 := kG.frozen 3
        have h0 := kH.cell 0
        have h1 := kH.cell 1
        have h2 := kH.cell 2
        have h3 := kH.cell 3
        simp at h0 h1 h2 h3
        have j0 := kH.frozen 0
        have j1 := kH.frozen 1
        have j2 := kH.frozen 2
        have j3 := kH.frozen 3
        try simp at z0 z1 z2 z3
        try simp at j0 j1 j2 j3
        try simp at gG gH
        try simp at gGH
        try simp at gHG
        go_simp
        refine hK.out _ _ ?_ (fun hHeld' => ?_)
        · (with_reducible refine s_of hKf e0 e1 e2 e3 ?_; repeat' (first | with_reducible exact hq3 | with_reducible refine Below.setCell ?_ (by (try simp) <;> omega) _ | with_reducible refine Below.alloc ?_ (by (try simp) <;> omega) _))
        clear hK K
        change RestIn _ _ _ _ _ _ _ 1 #[true, true, true, true, true, true, true, true, true, true, true, true, true, true, true, true, true, true, false] _ _
        try simp only [Act.put, List.setIfInBounds_toArray, List.set_cons_zero, List.set_cons_succ, List.getElem_toArray, List.getElem_cons_zero, List.getElem_cons_succ]
        clear hHeld
        have hHeld := hHeld'
        clear hHeld'
        refine rest_ready (rs := [18]) (by kernel_rfl) (by simp) ?_
        refine AllRest.cons rfl (fun K hK => ?_) AllRest.nil
        go_simp
        refine hK.out _ _ ?_ (fun hHeld' => ?_)
        · (with_reducible refine s_of hKf e0 e1 e2 e3 ?_; repeat' (first | with_reducible exact hq3 | with_reducible refine Below.setCell ?_ (by (try simp) <;> omega) _ | with_reducible refine Below.alloc ?_ (by (try simp) <;> omega) _))
        clear hK K
        change RestIn _ _ _ _ _ _ _ 0 #[true, true, true, true, true, true, true, true, true, true, true, true, true, true, true, true, true, true, true] _ _
        try simp only [Act.put, List.setIfInBounds_toArray, List.set_cons_zero, List.set_cons_succ, List.getElem_toArray, List.getElem_cons_zero, List.getElem_cons_succ]
        clear hHeld
        have hHeld := hHeld'
        clear hHeld'
        refine rest_done (by kernel_rfl) ?_
        go_wp2_with fail
        go_meet
        refine ⟨_, _, rfl, rfl, ?_, ?_, ?_, ?_, ?_, ?_, ?_, ?_, hHeld.1, ?_⟩
        (all_goals first | (go_simp; done) | (with_reducible refine hWb.trans (Below.mono ?_ hWb.size); repeat' (first | with_reducible exact hq3 | with_reducible refine Below.setCell ?_ (by (try simp) <;> omega) _ | with_reducible refine Below.alloc ?_ (by (try simp) <;> omega) _)))
      exact AllRest.nil
    refine AllRest.cons rfl (fun K hK => ?_) ?_
    · go_simp
      refine hK.out _ _ ?_ (fun hHeld' => ?_)
      · exact ⟨hHeld.1.alloc _, cell_alloc _ hHeld.2.1, cell_alloc _ hHeld.2.2.1, cell_alloc _ hHeld.2.2.2.1, cell_alloc _ hHeld.2.2.2.2⟩
      clear hK K
      change RestIn _ _ _ _ _ _ _ 4 #[true, true, true, false, true, true, true, true, true, true, true, true, true, true, true, true, false, false, false] _ _
      try simp only [Act.put, List.setIfInBounds_toArray, List.set_cons_zero, List.set_cons_succ, List.getElem_toArray, List.getElem_cons_zero, List.getElem_cons_succ]
      have gG := hHeld.1.lt
      try have gHG := Blk.lt kH
      try have kH := kH.alloc (.cells #[.int .i64 0, .int .i64 0, .int .i64 0, .int .i64 0] 25)
      have kG := blk_new_of hCur 25 #[.int .i64 0, .int .i64 0, .int .i64 0, .int .i64 0]
      have hC2 := hC2.alloc hC2.size (.cells #[.int .i64 0, .int .i64 0, .int .i64 0, .int .i64 0] 25)
      have hCur := hCur.alloc hCur.size (.cells #[.int .i64 0, .int .i64 0, .int .i64 0, .int .i64 0] 25)
      clear hHeld
      have hHeld := hHeld'
      clear hHeld'
      refine rest_ready (rs := [3, 16]) (by kernel_rfl) (by simp) ?_
      refine AllRest.cons rfl (fun K hK => ?_) ?_
      · go_simp
        gi_wp2_with ((refine ⟨trivial, ?_⟩; gi_at_call 25; (with_reducible refine (callsIn_wide.2 (HAFT.out _)).mono ?_); rintro e w1 ⟨rfl, hb1⟩))
        refine hK.out _ _ ?_ (fun hHeld' => ?_)
        · exact ⟨hHeld.1.below hb1 hHeld.1.lt, cell_after hb1 hHeld.2.1, cell_after hb1 hHeld.2.2.1, cell_after hb1 hHeld.2.2.2.1, cell_after hb1 hHeld.2.2.2.2⟩
        clear hK K
        change RestIn _ _ _ _ _ _ _ 3 #[true, true, true, true, true, true, true, true, true, true, true, true, true, true, true, true, false, false, false] _ _
        try simp only [Act.put, List.setIfInBounds_toArray, List.set_cons_zero, List.set_cons_succ, List.getElem_toArray, List.getElem_cons_zero, List.getElem_cons_succ]
        have hCur := hCur.trans (hb1.mono hCur.size)
        have hC2 := hC2.trans (hb1.mono hC2.size)
        have hq3 := hC2
        have hq3z := hC2.size
        try have kG := kG.below hb1 kG.lt
        try have kH := kH.below hb1 kH.lt
        try (have a0 := kG.cell 0; have a1 := kG.cell 1; have a2 := kG.cell 2; have a3 := kG.cell 3; have b0 := kG.frozen 0; have b1 := kG.frozen 1; have b2 := kG.frozen 2; have b3 := kG.frozen 3; have ak := kG.lt; simp at a0 a1 a2 a3 b0 b1 b2 b3 ak)
        try (have a4 := kH.cell 0; have a5 := kH.cell 1; have a6 := kH.cell 2; have a7 := kH.cell 3; have b4 := kH.frozen 0; have b5 := kH.frozen 1; have b6 := kH.frozen 2; have b7 := kH.frozen 3; have ck := kH.lt; simp at a4 a5 a6 a7 b4 b5 b6 b7 ck)
        clear hHeld
        have hHeld := hHeld'
        clear hHeld'
        refine rest_ready (rs := [16]) (by kernel_rfl) (by simp) ?_
        refine AllRest.cons rfl (fun K hK => ?_) AllRest.nil
        go_simp
        refine hK.out _ _ ?_ (fun hHeld' => ?_)
        · exact ⟨hHeld.1.alloc _, cell_alloc _ hHeld.2.1, cell_alloc _ hHeld.2.2.1, cell_alloc _ hHeld.2.2.2.1, cell_alloc _ hHeld.2.2.2.2⟩
        clear hK K
        change RestIn _ _ _ _ _ _ _ 2 #[true, true, true, true, true, true, true, true, true, true, true, true, true, true, true, true, true, false, false] _ _
        try simp only [Act.put, List.setIfInBounds_toArray, List.set_cons_zero, List.set_cons_succ, List.getElem_toArray, List.getElem_cons_zero, List.getElem_cons_succ]
        have gH := hHeld.1.lt
        try have gGH := Blk.lt kG
        try have kG := kG.alloc (.cells #[.int .i64 0, .int .i64 0, .int .i64 0, .int .i64 0] 25)
        have kH := blk_new_of hCur 25 #[.int .i64 0, .int .i64 0, .int .i64 0, .int .i64 0]
        have hC2 := hC2.alloc hC2.size (.cells #[.int .i64 0, .int .i64 0, .int .i64 0, .int .i64 0] 25)
        have hCur := hCur.alloc hCur.size (.cells #[.int .i64 0, .int .i64 0, .int .i64 0, .int .i64 0] 25)
        clear hHeld
        have hHeld := hHeld'
        clear hHeld'
        refine rest_ready (rs := [17]) (by kernel_rfl) (by simp) ?_
        refine AllRest.cons rfl (fun K hK => ?_) AllRest.nil
        have y0 := kG.cell 0
        have y1 := kG.cell 1
        have y2 := kG.cell 2
        have y3 := kG.cell 3
        simp at y0 y1 y2 y3
        have z0 := kG.frozen 0
        have z1 := kG.frozen 1
        have z2 := kG.frozen 2
        have z3 := kG.frozen 3
        have h0 := kH.cell 0
        have h1 := kH.cell 1
        have h2 := kH.cell 2
        have h3 := kH.cell 3
        simp at h0 h1 h2 h3
        have j0 := kH.frozen 0
        have j1 := kH.frozen 1
        have j2 := kH.frozen 2
        have j3 := kH.frozen 3
        try simp at z0 z1 z2 z3
        try simp at j0 j1 j2 j3
        try simp at gG gH
        try simp at gGH
        try simp at gHG
        go_simp
        refine hK.out _ _ ?_ (fun hHeld' => ?_)
        · (with_reducible refine s_of hKf e0 e1 e2 e3 ?_; repeat' (first | with_reducible exact hq3 | with_reducible refine Below.setCell ?_ (by (try simp) <;> omega) _ | with_reducible refine Below.alloc ?_ (by (try simp) <;> omega) _))
        clear hK K
        change RestIn _ _ _ _ _ _ _ 1 #[true, true, true, true, true, true, true, true, true, true, true, true, true, true, true, true, true, true, false] _ _
        try simp only [Act.put, List.setIfInBounds_toArray, List.set_cons_zero, List.set_cons_succ, List.getElem_toArray, List.getElem_cons_zero, List.getElem_cons_succ]
        clear hHeld
        have hHeld := hHeld'
        clear hHeld'
        refine rest_ready (rs := [18]) (by kernel_rfl) (by simp) ?_
        refine AllRest.cons rfl (fun K hK => ?_) AllRest.nil
        go_simp
        refine hK.out _ _ ?_ (fun hHeld' => ?_)
        · (with_reducible refine s_of hKf e0 e1 e2 e3 ?_; repeat' (first | with_reducible exact hq3 | with_reducible refine Below.setCell ?_ (by (try simp) <;> omega) _ | with_reducible refine Below.alloc ?_ (by (try simp) <;> omega) _))
        clear hK K
        change RestIn _ _ _ _ _ _ _ 0 #[true, true, true, true, true, true, true, true, true, true, true, true, true, true, true, true, true, true, true] _ _
        try simp only [Act.put, List.setIfInBounds_toArray, List.set_cons_zero, List.set_cons_succ, List.getElem_toArray, List.getElem_cons_zero, List.getElem_cons_succ]
        clear hHeld
        have hHeld := hHeld'
        clear hHeld'
        refine rest_done (by kernel_rfl) ?_
        go_wp2_with fail
        go_meet
        refine ⟨_, _, rfl, rfl, ?_, ?_, ?_, ?_, ?_, ?_, ?_, ?_, hHeld.1, ?_⟩
        (all_goals first | (go_simp; done) | (with_reducible refine hWb.trans (Below.mono ?_ hWb.size); repeat' (first | with_reducible exact hq3 | with_reducible refine Below.setCell ?_ (by (try simp) <;> omega) _ | with_reducible refine Below.alloc ?_ (by (try simp) <;> omega) _)))
      refine AllRest.cons rfl (fun K hK => ?_) ?_
      · go_simp
        refine hK.out _ _ ?_ (fun hHeld' => ?_)
        · exact ⟨hHeld.1.alloc _, cell_alloc _ hHeld.2.1, cell_alloc _ hHeld.2.2.1, cell_alloc _ hHeld.2.2.2.1, cell_alloc _ hHeld.2.2.2.2⟩
        clear hK K
        change RestIn _ _ _ _ _ _ _ 3 #[true, true, true, false, true, true, true, true, true, true, true, true, true, true, true, true, true, false, false] _ _
        try simp only [Act.put, List.setIfInBounds_toArray, List.set_cons_zero, List.set_cons_succ, List.getElem_toArray, List.getElem_cons_zero, List.getElem_cons_succ]
        have gH := hHeld.1.lt
        try have gGH := Blk.lt kG
        try have kG := kG.alloc (.cells #[.int .i64 0, .int .i64 0, .int .i64 0, .int .i64 0] 25)
        have kH := blk_new_of hCur 25 #[.int .i64 0, .int .i64 0, .int .i64 0, .int .i64 0]
        have hC2 := hC2.alloc hC2.size (.cells #[.int .i64 0, .int .i64 0, .int .i64 0, .int .i64 0] 25)
        have hCur := hCur.alloc hCur.size (.cells #[.int .i64 0, .int .i64 0, .int .i64 0, .int .i64 0] 25)
        clear hHeld
        have hHeld := hHeld'
        clear hHeld'
        refine rest_ready (rs := [3]) (by kernel_rfl) (by simp) ?_
        refine AllRest.cons rfl (fun K hK => ?_) AllRest.nil
        go_simp
        gi_wp2_with ((refine ⟨trivial, ?_⟩; gi_at_call 25; (with_reducible refine (callsIn_wide.2 (HAFT.out _)).mono ?_); rintro e w1 ⟨rfl, hb1⟩))
        refine hK.out _ _ ?_ (fun hHeld' => ?_)
        · exact ⟨hHeld.1.below hb1 hHeld.1.lt, cell_after hb1 hHeld.2.1, cell_after hb1 hHeld.2.2.1, cell_after hb1 hHeld.2.2.2.1, cell_after hb1 hHeld.2.2.2.2⟩
        clear hK K
        change RestIn _ _ _ _ _ _ _ 2 #[true, true, true, true, true, true, true, true, true, true, true, true, true, true, true, true, true, false, false] _ _
        try simp only [Act.put, List.setIfInBounds_toArray, List.set_cons_zero, List.set_cons_succ, List.getElem_toArray, List.getElem_cons_zero, List.getElem_cons_succ]
        have hCur := hCur.trans (hb1.mono hCur.size)
        have hC2 := hC2.trans (hb1.mono hC2.size)
        have hq3 := hC2
        have hq3z := hC2.size
        try have kG := kG.below hb1 kG.lt
        try have kH := kH.below hb1 kH.lt
        try (have a0 := kG.cell 0; have a1 := kG.cell 1; have a2 := kG.cell 2; have a3 := kG.cell 3; have b0 := kG.frozen 0; have b1 := kG.frozen 1; have b2 := kG.frozen 2; have b3 := kG.frozen 3; have ak := kG.lt; simp at a0 a1 a2 a3 b0 b1 b2 b3 ak)
        try (have a4 := kH.cell 0; have a5 := kH.cell 1; have a6 := kH.cell 2; have a7 := kH.cell 3; have b4 := kH.frozen 0; have b5 := kH.frozen 1; have b6 := kH.frozen 2; have b7 := kH.frozen 3; have ck := kH.lt; simp at a4 a5 a6 a7 b4 b5 b6 b7 ck)
        clear hHeld
        have hHeld := hHeld'
        clear hHeld'
        refine rest_ready (rs := [17]) (by kernel_rfl) (by simp) ?_
        refine AllRest.cons rfl (fun K hK => ?_) AllRest.nil
        have y0 := kG.cell 0
        have y1 := kG.cell 1
        have y2 := kG.cell 2
        have y3 := kG.cell 3
        simp at y0 y1 y2 y3
        have z0 := kG.frozen 0
        have z1 := kG.frozen 1
        have z2 := kG.frozen 2
        have z3 := kG.frozen 3
        have h0 := kH.cell 0
        have h1 := kH.cell 1
        have h2 := kH.cell 2
        have h3 := kH.cell 3
        simp at h0 h1 h2 h3
        have j0 := kH.frozen 0
        have j1 := kH.frozen 1
        have j2 := kH.frozen 2
        have j3 := kH.frozen 3
        try simp at z0 z1 z2 z3
        try simp at j0 j1 j2 j3
        try simp at gG gH
        try simp at gGH
        try simp at gHG
        go_simp
        refine hK.out _ _ ?_ (fun hHeld' => ?_)
        · (with_reducible refine s_of hKf e0 e1 e2 e3 ?_; repeat' (first | with_reducible exact hq3 | with_reducible refine Below.setCell ?_ (by (try simp) <;> omega) _ | with_reducible refine Below.alloc ?_ (by (try simp) <;> omega) _))
        clear hK K
        change RestIn _ _ _ _ _ _ _ 1 #[true, true, true, true, true, true, true, true, true, true, true, true, true, true, true, true, true, true, false] _ _
        try simp only [Act.put, List.setIfInBounds_toArray, List.set_cons_zero, List.set_cons_succ, List.getElem_toArray, List.getElem_cons_zero, List.getElem_cons_succ]
        clear hHeld
        have hHeld := hHeld'
        clear hHeld'
        refine rest_ready (rs := [18]) (by kernel_rfl) (by simp) ?_
        refine AllRest.cons rfl (fun K hK => ?_) AllRest.nil
        go_simp
        refine hK.out _ _ ?_ (fun hHeld' => ?_)
        · (with_reducible refine s_of hKf e0 e1 e2 e3 ?_; repeat' (first | with_reducible exact hq3 | with_reducible refine Below.setCell ?_ (by (try simp) <;> omega) _ | with_reducible refine Below.alloc ?_ (by (try simp) <;> omega) _))
        clear hK K
        change RestIn _ _ _ _ _ _ _ 0 #[true, true, true, true, true, true, true, true, true, true, true, true, true, true, true, true, true, true, true] _ _
        try simp only [Act.put, List.setIfInBounds_toArray, List.set_cons_zero, List.set_cons_succ, List.getElem_toArray, List.getElem_cons_zero, List.getElem_cons_succ]
        clear hHeld
        have hHeld := hHeld'
        clear hHeld'
        refine rest_done (by kernel_rfl) ?_
        go_wp2_with fail
        go_meet
        refine ⟨_, _, rfl, rfl, ?_, ?_, ?_, ?_, ?_, ?_, ?_, ?_, hHeld.1, ?_⟩
        (all_goals first | (go_simp; done) | (with_reducible refine hWb.trans (Below.mono ?_ hWb.size); repeat' (first | with_reducible exact hq3 | with_reducible refine Below.setCell ?_ (by (try simp) <;> omega) _ | with_reducible refine Below.alloc ?_ (by (try simp) <;> omega) _)))
      exact AllRest.nil
    refine AllRest.cons rfl (fun K hK => ?_) ?_
    · go_simp
      refine hK.out _ _ ?_ (fun hHeld' => ?_)
      · exact ⟨hHeld.1.alloc _, cell_alloc _ hHeld.2.1, cell_alloc _ hHeld.2.2.1, cell_alloc _ hHeld.2.2.2.1, cell_alloc _ hHeld.2.2.2.2⟩
      clear hK K
      change RestIn _ _ _ _ _ _ _ 4 #[true, true, true, false, true, true, true, true, true, true, true, true, true, true, true, false, true, false, false] _ _
      try simp only [Act.put, List.setIfInBounds_toArray, List.set_cons_zero, List.set_cons_succ, List.getElem_toArray, List.getElem_cons_zero, List.getElem_cons_succ]
      have gH := hHeld.1.lt
      try have gGH := Blk.lt kG
      try have kG := kG.alloc (.cells #[.int .i64 0, .int .i64 0, .int .i64 0, .int .i64 0] 25)
      have kH := blk_new_of hCur 25 #[.int .i64 0, .int .i64 0, .int .i64 0, .int .i64 0]
      have hC2 := hC2.alloc hC2.size (.cells #[.int .i64 0, .int .i64 0, .int .i64 0, .int .i64 0] 25)
      have hCur := hCur.alloc hCur.size (.cells #[.int .i64 0, .int .i64 0, .int .i64 0, .int .i64 0] 25)
      clear hHeld
      have hHeld := hHeld'
      clear hHeld'
      refine rest_ready (rs := [3, 15]) (by kernel_rfl) (by simp) ?_
      refine AllRest.cons rfl (fun K hK => ?_) ?_
      · go_simp
        gi_wp2_with ((refine ⟨trivial, ?_⟩; gi_at_call 25; (with_reducible refine (callsIn_wide.2 (HAFT.out _)).mono ?_); rintro e w1 ⟨rfl, hb1⟩))
        refine hK.out _ _ ?_ (fun hHeld' => ?_)
        · exact ⟨hHeld.1.below hb1 hHeld.1.lt, cell_after hb1 hHeld.2.1, cell_after hb1 hHeld.2.2.1, cell_after hb1 hHeld.2.2.2.1, cell_after hb1 hHeld.2.2.2.2⟩
        clear hK K
        change RestIn _ _ _ _ _ _ _ 3 #[true, true, true, true, true, true, true, true, true, true, true, true, true, true, true, false, true, false, false] _ _
        try simp only [Act.put, List.setIfInBounds_toArray, List.set_cons_zero, List.set_cons_succ, List.getElem_toArray, List.getElem_cons_zero, List.getElem_cons_succ]
        have hCur := hCur.trans (hb1.mono hCur.size)
        have hC2 := hC2.trans (hb1.mono hC2.size)
        have hq3 := hC2
        have hq3z := hC2.size
        try have kG := kG.below hb1 kG.lt
        try have kH := kH.below hb1 kH.lt
        try (have a0 := kG.cell 0; have a1 := kG.cell 1; have a2 := kG.cell 2; have a3 := kG.cell 3; have b0 := kG.frozen 0; have b1 := kG.frozen 1; have b2 := kG.frozen 2; have b3 := kG.frozen 3; have ak := kG.lt; simp at a0 a1 a2 a3 b0 b1 b2 b3 ak)
        try (have a4 := kH.cell 0; have a5 := kH.cell 1; have a6 := kH.cell 2; have a7 := kH.cell 3; have b4 := kH.frozen 0; have b5 := kH.frozen 1; have b6 := kH.frozen 2; have b7 := kH.frozen 3; have ck := kH.lt; simp at a4 a5 a6 a7 b4 b5 b6 b7 ck)
        clear hHeld
        have hHeld := hHeld'
        clear hHeld'
        refine rest_ready (rs := [15]) (by kernel_rfl) (by simp) ?_
        refine AllRest.cons rfl (fun K hK => ?_) AllRest.nil
        go_simp
        refine hK.out _ _ ?_ (fun hHeld' => ?_)
        · exact ⟨hHeld.1.alloc _, cell_alloc _ hHeld.2.1, cell_alloc _ hHeld.2.2.1, cell_alloc _ hHeld.2.2.2.1, cell_alloc _ hHeld.2.2.2.2⟩
        clear hK K
        change RestIn _ _ _ _ _ _ _ 2 #[true, true, true, true, true, true, true, true, true, true, true, true, true, true, true, true, true, false, false] _ _
        try simp only [Act.put, List.setIfInBounds_toArray, List.set_cons_zero, List.set_cons_succ, List.getElem_toArray, List.getElem_cons_zero, List.getElem_cons_succ]
        have gG := hHeld.1.lt
        try have gHG := Blk.lt kH
        try have kH := kH.alloc (.cells #[.int .i64 0, .int .i64 0, .int .i64 0, .int .i64 0] 25)
        have kG := blk_new_of hCur 25 #[.int .i64 0, .int .i64 0, .int .i64 0, .int .i64 0]
        have hC2 := hC2.alloc hC2.size (.cells #[.int .i64 0, .int .i64 0, .int .i64 0, .int .i64 0] 25)
        have hCur := hCur.alloc hCur.size (.cells #[.int .i64 0, .int .i64 0, .int .i64 0, .int .i64 0] 25)
        clear hHeld
        have hHeld := hHeld'
        clear hHeld'
        refine rest_ready (rs := [17]) (by kernel_rfl) (by simp) ?_
        refine AllRest.cons rfl (fun K hK => ?_) AllRest.nil
        have y0 := kG.cell 0
        have y1 := kG.cell 1
        have y2 := kG.cell 2
        have y3 := kG.cell 3
        simp at y0 y1 y2 y3
        have z0 := kG.frozen 0
        have z1 := kG.frozen 1
        have z2 := kG.frozen 2
        have z3 := kG.frozen 3
        have h0 := kH.cell 0
        have h1 := kH.cell 1
        have h2 := kH.cell 2
        have h3 := kH.cell 3
        simp at h0 h1 h2 h3
        have j0 := kH.frozen 0
        have j1 := kH.frozen 1
        have j2 := kH.frozen 2
        have j3 := kH.frozen 3
        try simp at z0 z1 z2 z3
        try simp at j0 j1 j2 j3
        try simp at gG gH
        try simp at gGH
        try simp at gHG
        go_simp
        refine hK.out _ _ ?_ (fun hHeld' => ?_)
        · (with_reducible refine s_of hKf e0 e1 e2 e3 ?_; repeat' (first | with_reducible exact hq3 | with_reducible refine Below.setCell ?_ (by (try simp) <;> omega) _ | with_reducible refine Below.alloc ?_ (by (try simp) <;> omega) _))
        clear hK K
        change RestIn _ _ _ _ _ _ _ 1 #[true, true, true, true, true, true, true, true, true, true, true, true, true, true, true, true, true, true, false] _ _
        try simp only [Act.put, List.setIfInBounds_toArray, List.set_cons_zero, List.set_cons_succ, List.getElem_toArray, List.getElem_cons_zero, List.getElem_cons_succ]
        clear hHeld
        have hHeld := hHeld'
        clear hHeld'
        refine rest_ready (rs := [18]) (by kernel_rfl) (by simp) ?_
        refine AllRest.cons rfl (fun K hK => ?_) AllRest.nil
        go_simp
        refine hK.out _ _ ?_ (fun hHeld' => ?_)
        · (with_reducible refine s_of hKf e0 e1 e2 e3 ?_; repeat' (first | with_reducible exact hq3 | with_reducible refine Below.setCell ?_ (by (try simp) <;> omega) _ | with_reducible refine Below.alloc ?_ (by (try simp) <;> omega) _))
        clear hK K
        change RestIn _ _ _ _ _ _ _ 0 #[true, true, true, true, true, true, true, true, true, true, true, true, true, true, true, true, true, true, true] _ _
        try simp only [Act.put, List.setIfInBounds_toArray, List.set_cons_zero, List.set_cons_succ, List.getElem_toArray, List.getElem_cons_zero, List.getElem_cons_succ]
        clear hHeld
        have hHeld := hHeld'
        clear hHeld'
        refine rest_done (by kernel_rfl) ?_
        go_wp2_with fail
        go_meet
        refine ⟨_, _, rfl, rfl, ?_, ?_, ?_, ?_, ?_, ?_, ?_, ?_, hHeld.1, ?_⟩
        (all_goals first | (go_simp; done) | (with_reducible refine hWb.trans (Below.mono ?_ hWb.size); repeat' (first | with_reducible exact hq3 | with_reducible refine Below.setCell ?_ (by (try simp) <;> omega) _ | with_reducible refine Below.alloc ?_ (by (try simp) <;> omega) _)))
      refine AllRest.cons rfl (fun K hK => ?_) ?_
      · go_simp
        refine hK.out _ _ ?_ (fun hHeld' => ?_)
        · exact ⟨hHeld.1.alloc _, cell_alloc _ hHeld.2.1, cell_alloc _ hHeld.2.2.1, cell_alloc _ hHeld.2.2.2.1, cell_alloc _ hHeld.2.2.2.2⟩
        clear hK K
        change RestIn _ _ _ _ _ _ _ 3 #[true, true, true, false, true, true, true, true, true, true, true, true, true, true, true, true, true, false, false] _ _
        try simp only [Act.put, List.setIfInBounds_toArray, List.set_cons_zero, List.set_cons_succ, List.getElem_toArray, List.getElem_cons_zero, List.getElem_cons_succ]
        have gG := hHeld.1.lt
        try have gHG := Blk.lt kH
        try have kH := kH.alloc (.cells #[.int .i64 0, .int .i64 0, .int .i64 0, .int .i64 0] 25)
        have kG := blk_new_of hCur 25 #[.int .i64 0, .int .i64 0, .int .i64 0, .int .i64 0]
        have hC2 := hC2.alloc hC2.size (.cells #[.int .i64 0, .int .i64 0, .int .i64 0, .int .i64 0] 25)
        have hCur := hCur.alloc hCur.size (.cells #[.int .i64 0, .int .i64 0, .int .i64 0, .int .i64 0] 25)
        clear hHeld
        have hHeld := hHeld'
        clear hHeld'
        refine rest_ready (rs := [3]) (by kernel_rfl) (by simp) ?_
        refine AllRest.cons rfl (fun K hK => ?_) AllRest.nil
        go_simp
        gi_wp2_with ((refine ⟨trivial, ?_⟩; gi_at_call 25; (with_reducible refine (callsIn_wide.2 (HAFT.out _)).mono ?_); rintro e w1 ⟨rfl, hb1⟩))
        refine hK.out _ _ ?_ (fun hHeld' => ?_)
        · exact ⟨hHeld.1.below hb1 hHeld.1.lt, cell_after hb1 hHeld.2.1, cell_after hb1 hHeld.2.2.1, cell_after hb1 hHeld.2.2.2.1, cell_after hb1 hHeld.2.2.2.2⟩
        clear hK K
        change RestIn _ _ _ _ _ _ _ 2 #[true, true, true, true, true, true, true, true, true, true, true, true, true, true, true, true, true, false, false] _ _
        try simp only [Act.put, List.setIfInBounds_toArray, List.set_cons_zero, List.set_cons_succ, List.getElem_toArray, List.getElem_cons_zero, List.getElem_cons_succ]
        have hCur := hCur.trans (hb1.mono hCur.size)
        have hC2 := hC2.trans (hb1.mono hC2.size)
        have hq3 := hC2
        have hq3z := hC2.size
        try have kG := kG.below hb1 kG.lt
        try have kH := kH.below hb1 kH.lt
        try (have a0 := kG.cell 0; have a1 := kG.cell 1; have a2 := kG.cell 2; have a3 := kG.cell 3; have b0 := kG.frozen 0; have b1 := kG.frozen 1; have b2 := kG.frozen 2; have b3 := kG.frozen 3; have ak := kG.lt; simp at a0 a1 a2 a3 b0 b1 b2 b3 ak)
        try (have a4 := kH.cell 0; have a5 := kH.cell 1; have a6 := kH.cell 2; have a7 := kH.cell 3; have b4 := kH.frozen 0; have b5 := kH.frozen 1; have b6 := kH.frozen 2; have b7 := kH.frozen 3; have ck := kH.lt; simp at a4 a5 a6 a7 b4 b5 b6 b7 ck)
        clear hHeld
        have hHeld := hHeld'
        clear hHeld'
        refine rest_ready (rs := [17]) (by kernel_rfl) (by simp) ?_
        refine AllRest.cons rfl (fun K hK => ?_) AllRest.nil
        have y0 := kG.cell 0
        have y1 := kG.cell 1
        have y2 := kG.cell 2
        have y3 := kG.cell 3
        simp at y0 y1 y2 y3
        have z0 := kG.frozen 0
        have z1 := kG.frozen 1
        have z2 := kG.frozen 2
        have z3 := kG.frozen 3
        have h0 := kH.cell 0
        have h1 := kH.cell 1
        have h2 := kH.cell 2
        have h3 := kH.cell 3
        simp at h0 h1 h2 h3
        have j0 := kH.frozen 0
        have j1 := kH.frozen 1
        have j2 := kH.frozen 2
        have j3 := kH.frozen 3
        try simp at z0 z1 z2 z3
        try simp at j0 j1 j2 j3
        try simp at gG gH
        try simp at gGH
        try simp at gHG
        go_simp
        refine hK.out _ _ ?_ (fun hHeld' => ?_)
        · (with_reducible refine s_of hKf e0 e1 e2 e3 ?_; repeat' (first | with_reducible exact hq3 | with_reducible refine Below.setCell ?_ (by (try simp) <;> omega) _ | with_reducible refine Below.alloc ?_ (by (try simp) <;> omega) _))
        clear hK K
        change RestIn _ _ _ _ _ _ _ 1 #[true, true, true, true, true, true, true, true, true, true, true, true, true, true, true, true, true, true, false] _ _
        try simp only [Act.put, List.setIfInBounds_toArray, List.set_cons_zero, List.set_cons_succ, List.getElem_toArray, List.getElem_cons_zero, List.getElem_cons_succ]
        clear hHeld
        have hHeld := hHeld'
        clear hHeld'
        refine rest_ready (rs := [18]) (by kernel_rfl) (by simp) ?_
        refine AllRest.cons rfl (fun K hK => ?_) AllRest.nil
        go_simp
        refine hK.out _ _ ?_ (fun hHeld' => ?_)
        · (with_reducible refine s_of hKf e0 e1 e2 e3 ?_; repeat' (first | with_reducible exact hq3 | with_reducible refine Below.setCell ?_ (by (try simp) <;> omega) _ | with_reducible refine Below.alloc ?_ (by (try simp) <;> omega) _))
        clear hK K
        change RestIn _ _ _ _ _ _ _ 0 #[true, true, true, true, true, true, true, true, true, true, true, true, true, true, true, true, true, true, true] _ _
        try simp only [Act.put, List.setIfInBounds_toArray, List.set_cons_zero, List.set_cons_succ, List.getElem_toArray, List.getElem_cons_zero, List.getElem_cons_succ]
        clear hHeld
        have hHeld := hHeld'
        clear hHeld'
        refine rest_done (by kernel_rfl) ?_
        go_wp2_with fail
        go_meet
        refine ⟨_, _, rfl, rfl, ?_, ?_, ?_, ?_, ?_, ?_, ?_, ?_, hHeld.1, ?_⟩
        (all_goals first | (go_simp; done) | (with_reducible refine hWb.trans (Below.mono ?_ hWb.size); repeat' (first | with_reducible exact hq3 | with_reducible refine Below.setCell ?_ (by (try simp) <;> omega) _ | with_reducible refine Below.alloc ?_ (by (try simp) <;> omega) _)))
      exact AllRest.nil
    exact AllRest.nil
  case rest =>
    obtain ⟨g, h2, rfl, rfl, p0, p1, p2, p3, r0, r1, r2, r3, kF2, hB⟩ := hcut
    have hmx : Try.prog.follows .mixedOrders = true := by kernel_rfl
    have hC := hB.drew
    obtain ⟨N1, hN1⟩ : ∃ x, Rng.hasB ⟨h.x.hi - f.reach, h.x.lo + f.reach⟩ b.x = x := ⟨_, rfl⟩
    obtain ⟨N2, hN2⟩ : ∃ x, Rng.hasB ⟨h.z.hi - f.reach, h.z.lo + f.reach⟩ b.z = x := ⟨_, rfl⟩
    obtain ⟨ld, hld⟩ : ∃ x, f.load t = x := ⟨_, rfl⟩
    rw [hN1] at HN1 HS
    rw [hN2] at HN2 HS
    rw [hld] at HLOAD HS
    clear hN1 hN2 hld kF
    cases N1
    · have HR : Hid (f.sure r t = false) := by show _ = _; rw [HS.out]; simp
      clear HS
      go_upto_region 5 with fail
      refine (wpIn_wide (n := 9)).1 ?_
      refine region_rest (S := (fun w' => Blk w' w.heap.size 32 #[.int .i64 f.fly.pos.x.lo, .int .i64 f.fly.pos.x.hi, .int .i64 f.fly.pos.z.lo, .int .i64 f.fly.pos.z.hi, .int .i64 f.fly.speed.x.lo, .int .i64 f.fly.speed.x.hi, .int .i64 f.fly.speed.z.lo, .int .i64 f.fly.speed.z.hi, .int .i64 f.fly.mass, .slice (some ⟨qb, off, none⟩) f.cycle.length c, .int .i64 f.reach, .int .i64 f.soft, .int .i64 f.bears, .int .i64 f.least, .int .i64 f.most] ∧ w'.cell? ⟨g, 0, none⟩ = some (.int .i64 b.x.lo) ∧ w'.cell? ⟨g, 1, none⟩ = some (.int .i64 b.x.hi) ∧ w'.cell? ⟨g, 2, none⟩ = some (.int .i64 b.z.lo) ∧ w'.cell? ⟨g, 3, none⟩ = some (.int .i64 b.z.hi) ∧ w'.cell? ⟨h2, 0, none⟩ = some (.int .i64 h.x.lo) ∧ w'.cell? ⟨h2, 1, none⟩ = some (.int .i64 h.x.hi) ∧ w'.cell? ⟨h2, 2, none⟩ = some (.int .i64 h.z.lo) ∧ w'.cell? ⟨h2, 3, none⟩ = some (.int .i64 h.z.hi))) hmx ?_ (fun hHeld => ?_)
      · exact ⟨kF2.drew, p0, p1, p2, p3, r0, r1, r2, r3⟩
      change RestIn _ _ _ _ _ _ _ 28 #[false, false, false, false, false, false, false, false, false, false, false, false, false, false, false, false, false, false, false, false, false, false, false, false, false, false, false, false] _ (World.drew _)
      refine rest_take (i := 0) (v := _) all_wide (noDefers_of (by kernel_rfl)) rfl (by kernel_rfl) (by kernel_rfl) (by kernel_rfl) (fun _ _ _ h => h) (Or.inl ⟨by rfl, by intro w hSw; (obtain ⟨kf, m0, m1, m2, m3, m4, m5, m6, m7⟩ := hSw; have x0 := kf.cell 0; have x1 := kf.cell 1; have x2 := kf.cell 2; have x3 := kf.cell 3; have x4 := kf.cell 4; have x5 := kf.cell 5; have x6 := kf.cell 6; have x7 := kf.cell 7; have x8 := kf.cell 8; have x9 := kf.cell 9; have x10 := kf.cell 10; have x11 := kf.cell 11; have x12 := kf.cell 12; have x13 := kf.cell 13; have x14 := kf.cell 14; simp at x0 x1 x2 x3 x4 x5 x6 x7 x8 x9 x10 x11 x12 x13 x14); go_simp; first | done | with_reducible rfl⟩) hHeld ?_
      change RestIn _ _ _ _ _ _ _ 27 #[true, false, false, false, false, false, false, false, false, false, false, false, false, false, false, false, false, false, false, false, false, false, false, false, false, false, false, false] _ _
      try simp only [Act.put, List.setIfInBounds_toArray, List.set_cons_zero, List.set_cons_succ, List.getElem_toArray, List.getElem_cons_zero, List.getElem_cons_succ]
      refine rest_take (i := 1) (v := _) all_wide (noDefers_of (by kernel_rfl)) rfl (by kernel_rfl) (by kernel_rfl) (by kernel_rfl) (fun _ _ _ h => h) (Or.inl ⟨by rfl, by intro w hSw; (obtain ⟨kf, m0, m1, m2, m3, m4, m5, m6, m7⟩ := hSw; have x0 := kf.cell 0; have x1 := kf.cell 1; have x2 := kf.cell 2; have x3 := kf.cell 3; have x4 := kf.cell 4; have x5 := kf.cell 5; have x6 := kf.cell 6; have x7 := kf.cell 7; have x8 := kf.cell 8; have x9 := kf.cell 9; have x10 := kf.cell 10; have x11 := kf.cell 11; have x12 := kf.cell 12; have x13 := kf.cell 13; have x14 := kf.cell 14; simp at x0 x1 x2 x3 x4 x5 x6 x7 x8 x9 x10 x11 x12 x13 x14); go_simp; first | done | with_reducible rfl⟩) hHeld ?_
      change RestIn _ _ _ _ _ _ _ 26 #[true, true, false, false, false, false, false, false, false, false, false, false, false, false, false, false, false, false, false, false, false, false, false, false, false, false, false, false] _ _
      try simp only [Act.put, List.setIfInBounds_toArray, List.set_cons_zero, List.set_cons_succ, List.getElem_toArray, List.getElem_cons_zero, List.getElem_cons_succ]
      refine rest_take (i := 2) (v := _) all_wide (noDefers_of (by kernel_rfl)) rfl (by kernel_rfl) (by kernel_rfl) (by kernel_rfl) (fun _ _ _ h => h) (Or.inl ⟨by rfl, by intro w hSw; (obtain ⟨kf, m0, m1, m2, m3, m4, m5, m6, m7⟩ := hSw; have x0 := kf.cell 0; have x1 := kf.cell 1; have x2 := kf.cell 2; have x3 := kf.cell 3; have x4 := kf.cell 4; have x5 := kf.cell 5; have x6 := kf.cell 6; have x7 := kf.cell 7; have x8 := kf.cell 8; have x9 := kf.cell 9; have x10 := kf.cell 10; have x11 := kf.cell 11; have x12 := kf.cell 12; have x13 := kf.cell 13; have x14 := kf.cell 14; simp at x0 x1 x2 x3 x4 x5 x6 x7 x8 x9 x10 x11 x12 x13 x14); go_simp; first | done | with_reducible rfl⟩) hHeld ?_
      change RestIn _ _ _ _ _ _ _ 25 #[true, true, true, false, false, false, false, false, false, false, false, false, false, false, false, false, false, false, false, false, false, false, false, false, false, false, false, false] _ _
      try simp only [Act.put, List.setIfInBounds_toArray, List.set_cons_zero, List.set_cons_succ, List.getElem_toArray, List.getElem_cons_zero, List.getElem_cons_succ]
      refine rest_take (i := 3) (v := _) all_wide (noDefers_of (by kernel_rfl)) rfl (by kernel_rfl) (by kernel_rfl) (by kernel_rfl) (fun _ _ _ h => h) (Or.inl ⟨by rfl, by intro w hSw; (obtain ⟨kf, m0, m1, m2, m3, m4, m5, m6, m7⟩ := hSw; have x0 := kf.cell 0; have x1 := kf.cell 1; have x2 := kf.cell 2; have x3 := kf.cell 3; have x4 := kf.cell 4; have x5 := kf.cell 5; have x6 := kf.cell 6; have x7 := kf.cell 7; have x8 := kf.cell 8; have x9 := kf.cell 9; have x10 := kf.cell 10; have x11 := kf.cell 11; have x12 := kf.cell 12; have x13 := kf.cell 13; have x14 := kf.cell 14; simp at x0 x1 x2 x3 x4 x5 x6 x7 x8 x9 x10 x11 x12 x13 x14); go_simp; first | done | with_reducible rfl⟩) hHeld ?_
      change RestIn _ _ _ _ _ _ _ 24 #[true, true, true, true, false, false, false, false, false, false, false, false, false, false, false, false, false, false, false, false, false, false, false, false, false, false, false, false] _ _
      try simp only [Act.put, List.setIfInBounds_toArray, List.set_cons_zero, List.set_cons_succ, List.getElem_toArray, List.getElem_cons_zero, List.getElem_cons_succ]
      refine rest_take (i := 4) (v := _) all_wide (noDefers_of (by kernel_rfl)) rfl (by kernel_rfl) (by kernel_rfl) (by kernel_rfl) (fun _ _ _ h => h) (Or.inl ⟨by rfl, by intro w hSw; (obtain ⟨kf, m0, m1, m2, m3, m4, m5, m6, m7⟩ := hSw; have x0 := kf.cell 0; have x1 := kf.cell 1; have x2 := kf.cell 2; have x3 := kf.cell 3; have x4 := kf.cell 4; have x5 := kf.cell 5; have x6 := kf.cell 6; have x7 := kf.cell 7; have x8 := kf.cell 8; have x9 := kf.cell 9; have x10 := kf.cell 10; have x11 := kf.cell 11; have x12 := kf.cell 12; have x13 := kf.cell 13; have x14 := kf.cell 14; simp at x0 x1 x2 x3 x4 x5 x6 x7 x8 x9 x10 x11 x12 x13 x14); go_simp; first | done | with_reducible rfl⟩) hHeld ?_
      change RestIn _ _ _ _ _ _ _ 23 #[true, true, true, true, true, false, false, false, false, false, false, false, false, false, false, false, false, false, false, false, false, false, false, false, false, false, false, false] _ _
      try simp only [Act.put, List.setIfInBounds_toArray, List.set_cons_zero, List.set_cons_succ, List.getElem_toArray, List.getElem_cons_zero, List.getElem_cons_succ]
      refine rest_take (i := 5) (v := _) all_wide (noDefers_of (by kernel_rfl)) rfl (by kernel_rfl) (by kernel_rfl) (by kernel_rfl) (fun _ _ _ h => h) (Or.inl ⟨by rfl, by intro w hSw; (obtain ⟨kf, m0, m1, m2, m3, m4, m5, m6, m7⟩ := hSw; have x0 := kf.cell 0; have x1 := kf.cell 1; have x2 := kf.cell 2; have x3 := kf.cell 3; have x4 := kf.cell 4; have x5 := kf.cell 5; have x6 := kf.cell 6; have x7 := kf.cell 7; have x8 := kf.cell 8; have x9 := kf.cell 9; have x10 := kf.cell 10; have x11 := kf.cell 11; have x12 := kf.cell 12; have x13 := kf.cell 13; have x14 := kf.cell 14; simp at x0 x1 x2 x3 x4 x5 x6 x7 x8 x9 x10 x11 x12 x13 x14); go_simp; first | done | with_reducible rfl⟩) hHeld ?_
      change RestIn _ _ _ _ _ _ _ 22 #[true, true, true, true, true, true, false, false, false, false, false, false, false, false, false, false, false, false, false, false, false, false, false, false, false, false, false, false] _ _
      try simp only [Act.put, List.setIfInBounds_toArray, List.set_cons_zero, List.set_cons_succ, List.getElem_toArray, List.getElem_cons_zero, List.getElem_cons_succ]
      refine rest_take (i := 6) (v := _) all_wide (noDefers_of (by kernel_rfl)) rfl (by kernel_rfl) (by kernel_rfl) (by kernel_rfl) (fun _ _ _ h => h) (Or.inl ⟨by rfl, by intro w hSw; (obtain ⟨kf, m0, m1, m2, m3, m4, m5, m6, m7⟩ := hSw; have x0 := kf.cell 0; have x1 := kf.cell 1; have x2 := kf.cell 2; have x3 := kf.cell 3; have x4 := kf.cell 4; have x5 := kf.cell 5; have x6 := kf.cell 6; have x7 := kf.cell 7; have x8 := kf.cell 8; have x9 := kf.cell 9; have x10 := kf.cell 10; have x11 := kf.cell 11; have x12 := kf.cell 12; have x13 := kf.cell 13; have x14 := kf.cell 14; simp at x0 x1 x2 x3 x4 x5 x6 x7 x8 x9 x10 x11 x12 x13 x14); go_simp; first | done | with_reducible rfl⟩) hHeld ?_
      change RestIn _ _ _ _ _ _ _ 21 #[true, true, true, true, true, true, true, false, false, false, false, false, false, false, false, false, false, false, false, false, false, false, false, false, false, false, false, false] _ _
      try simp only [Act.put, List.setIfInBounds_toArray, List.set_cons_zero, List.set_cons_succ, List.getElem_toArray, List.getElem_cons_zero, List.getElem_cons_succ]
      refine rest_ready (rs := [7]) (by kernel_rfl) (by simp) ?_
      refine AllRest.cons rfl (fun K hK => ?_) AllRest.nil
      go_simp
      gi_wp2_with ((refine ⟨trivial, ?_⟩; gi_at_call 68; (with_reducible refine (callsIn_wide.2 (HN1.out _)).mono ?_); rintro e w1 ⟨rfl, hb1⟩))
      refine hK.out _ _ ?_ (fun hHeld' => ?_)
      · exact ⟨hHeld.1.below hb1 hHeld.1.lt, cell_after hb1 hHeld.2.1, cell_after hb1 hHeld.2.2.1, cell_after hb1 hHeld.2.2.2.1, cell_after hb1 hHeld.2.2.2.2.1, cell_after hb1 hHeld.2.2.2.2.2.1, cell_after hb1 hHeld.2.2.2.2.2.2.1, cell_after hb1 hHeld.2.2.2.2.2.2.2.1, cell_after hb1 hHeld.2.2.2.2.2.2.2.2⟩
      clear hK K
      change RestIn _ _ _ _ _ _ _ 20 #[true, true, true, true, true, true, true, true, false, false, false, false, false, false, false, false, false, false, false, false, false, false, false, false, false, false, false, false] _ _
      try simp only [Act.put, List.setIfInBounds_toArray, List.set_cons_zero, List.set_cons_succ, List.getElem_toArray, List.getElem_cons_zero, List.getElem_cons_succ]
      have hC := hC.trans (hb1.mono hC.size)
      clear hHeld
      have hHeld := hHeld'
      clear hHeld'
      refine rest_take (i := 8) (v := _) all_wide (noDefers_of (by kernel_rfl)) rfl (by kernel_rfl) (by kernel_rfl) (by kernel_rfl) (fun _ _ _ h => h) (Or.inl ⟨by rfl, by intro w hSw; (obtain ⟨kf, m0, m1, m2, m3, m4, m5, m6, m7⟩ := hSw; have x0 := kf.cell 0; have x1 := kf.cell 1; have x2 := kf.cell 2; have x3 := kf.cell 3; have x4 := kf.cell 4; have x5 := kf.cell 5; have x6 := kf.cell 6; have x7 := kf.cell 7; have x8 := kf.cell 8; have x9 := kf.cell 9; have x10 := kf.cell 10; have x11 := kf.cell 11; have x12 := kf.cell 12; have x13 := kf.cell 13; have x14 := kf.cell 14; simp at x0 x1 x2 x3 x4 x5 x6 x7 x8 x9 x10 x11 x12 x13 x14); go_simp; first | done | with_reducible rfl⟩) hHeld ?_
      change RestIn _ _ _ _ _ _ _ 19 #[true, true, true, true, true, true, true, true, true, false, false, false, false, false, false, false, false, false, false, false, false, false, false, false, false, false, false, false] _ _
      try simp only [Act.put, List.setIfInBounds_toArray, List.set_cons_zero, List.set_cons_succ, List.getElem_toArray, List.getElem_cons_zero, List.getElem_cons_succ]
      refine rest_take (i := 9) (v := undef) all_wide (noDefers_of (by kernel_rfl)) rfl (by kernel_rfl) (by kernel_rfl) (by kernel_rfl) (fun _ _ _ h => h) (Or.inr ⟨by rfl, rfl⟩) hHeld ?_
      change RestIn _ _ _ _ _ _ _ 18 #[true, true, true, true, true, true, true, true, true, true, false, false, false, false, false, false, false, false, false, false, false, false, false, false, false, false, false, false] _ _
      try simp only [Act.put, List.setIfInBounds_toArray, List.set_cons_zero, List.set_cons_succ, List.getElem_toArray, List.getElem_cons_zero, List.getElem_cons_succ]
      refine rest_take (i := 10) (v := undef) all_wide (noDefers_of (by kernel_rfl)) rfl (by kernel_rfl) (by kernel_rfl) (by kernel_rfl) (fun _ _ _ h => h) (Or.inr ⟨by rfl, rfl⟩) hHeld ?_
      change RestIn _ _ _ _ _ _ _ 17 #[true, true, true, true, true, true, true, true, true, true, true, false, false, false, false, false, false, false, false, false, false, false, false, false, false, false, false, false] _ _
      try simp only [Act.put, List.setIfInBounds_toArray, List.set_cons_zero, List.set_cons_succ, List.getElem_toArray, List.getElem_cons_zero, List.getElem_cons_succ]
      refine rest_take (i := 11) (v := undef) all_wide (noDefers_of (by kernel_rfl)) rfl (by kernel_rfl) (by kernel_rfl) (by kernel_rfl) (fun _ _ _ h => h) (Or.inr ⟨by rfl, rfl⟩) hHeld ?_
      change RestIn _ _ _ _ _ _ _ 16 #[true, true, true, true, true, true, true, true, true, true, true, true, false, false, false, false, false, false, false, false, false, false, false, false, false, false, false, false] _ _
      try simp only [Act.put, List.setIfInBounds_toArray, List.set_cons_zero, List.set_cons_succ, List.getElem_toArray, List.getElem_cons_zero, List.getElem_cons_succ]
      refine rest_take (i := 12) (v := undef) all_wide (noDefers_of (by kernel_rfl)) rfl (by kernel_rfl) (by kernel_rfl) (by kernel_rfl) (fun _ _ _ h => h) (Or.inr ⟨by rfl, rfl⟩) hHeld ?_
      change RestIn _ _ _ _ _ _ _ 15 #[true, true, true, true, true, true, true, true, true, true, true, true, true, false, false, false, false, false, false, false, false, false, false, false, false, false, false, false] _ _
      try simp only [Act.put, List.setIfInBounds_toArray, List.set_cons_zero, List.set_cons_succ, List.getElem_toArray, List.getElem_cons_zero, List.getElem_cons_succ]
      refine rest_take (i := 13) (v := undef) all_wide (noDefers_of (by kernel_rfl)) rfl (by kernel_rfl) (by kernel_rfl) (by kernel_rfl) (fun _ _ _ h => h) (Or.inr ⟨by rfl, rfl⟩) hHeld ?_
      change RestIn _ _ _ _ _ _ _ 14 #[true, true, true, true, true, true, true, true, true, true, true, true, true, true, false, false, false, false, false, false, false, false, false, false, false, false, false, false] _ _
      try simp only [Act.put, List.setIfInBounds_toArray, List.set_cons_zero, List.set_cons_succ, List.getElem_toArray, List.getElem_cons_zero, List.getElem_cons_succ]
      refine rest_take (i := 14) (v := undef) all_wide (noDefers_of (by kernel_rfl)) rfl (by kernel_rfl) (by kernel_rfl) (by kernel_rfl) (fun _ _ _ h => h) (Or.inr ⟨by rfl, rfl⟩) hHeld ?_
      change RestIn _ _ _ _ _ _ _ 13 #[true, true, true, true, true, true, true, true, true, true, true, true, true, true, true, false, false, false, false, false, false, false, false, false, false, false, false, false] _ _
      try simp only [Act.put, List.setIfInBounds_toArray, List.set_cons_zero, List.set_cons_succ, List.getElem_toArray, List.getElem_cons_zero, List.getElem_cons_succ]
      refine rest_take (i := 15) (v := undef) all_wide (noDefers_of (by kernel_rfl)) rfl (by kernel_rfl) (by kernel_rfl) (by kernel_rfl) (fun _ _ _ h => h) (Or.inr ⟨by rfl, rfl⟩) hHeld ?_
      change RestIn _ _ _ _ _ _ _ 12 #[true, true, true, true, true, true, true, true, true, true, true, true, true, true, true, true, false, false, false, false, false, false, false, false, false, false, false, false] _ _
      try simp only [Act.put, List.setIfInBounds_toArray, List.set_cons_zero, List.set_cons_succ, List.getElem_toArray, List.getElem_cons_zero, List.getElem_cons_succ]
      refine rest_take (i := 16) (v := undef) all_wide (noDefers_of (by kernel_rfl)) rfl (by kernel_rfl) (by kernel_rfl) (by kernel_rfl) (fun _ _ _ h => h) (Or.inr ⟨by rfl, rfl⟩) hHeld ?_
      change RestIn _ _ _ _ _ _ _ 11 #[true, true, true, true, true, true, true, true, true, true, true, true, true, true, true, true, true, false, false, false, false, false, false, false, false, false, false, false] _ _
      try simp only [Act.put, List.setIfInBounds_toArray, List.set_cons_zero, List.set_cons_succ, List.getElem_toArray, List.getElem_cons_zero, List.getElem_cons_succ]
      refine rest_take (i := 17) (v := _) all_wide (noDefers_of (by kernel_rfl)) rfl (by kernel_rfl) (by kernel_rfl) (by kernel_rfl) (fun _ _ _ h => h) (Or.inl ⟨by rfl, by intro w hSw; (obtain ⟨kf, m0, m1, m2, m3, m4, m5, m6, m7⟩ := hSw; have x0 := kf.cell 0; have x1 := kf.cell 1; have x2 := kf.cell 2; have x3 := kf.cell 3; have x4 := kf.cell 4; have x5 := kf.cell 5; have x6 := kf.cell 6; have x7 := kf.cell 7; have x8 := kf.cell 8; have x9 := kf.cell 9; have x10 := kf.cell 10; have x11 := kf.cell 11; have x12 := kf.cell 12; have x13 := kf.cell 13; have x14 := kf.cell 14; simp at x0 x1 x2 x3 x4 x5 x6 x7 x8 x9 x10 x11 x12 x13 x14); go_simp; first | done | with_reducible rfl⟩) hHeld ?_
      change RestIn _ _ _ _ _ _ _ 10 #[true, true, true, true, true, true, true, true, true, true, true, true, true, true, true, true, true, true, false, false, false, false, false, false, false, false, false, false] _ _
      try simp only [Act.put, List.setIfInBounds_toArray, List.set_cons_zero, List.set_cons_succ, List.getElem_toArray, List.getElem_cons_zero, List.getElem_cons_succ]
      refine rest_take (i := 18) (v := _) all_wide (noDefers_of (by kernel_rfl)) rfl (by kernel_rfl) (by kernel_rfl) (by kernel_rfl) (fun _ _ _ h => h) (Or.inl ⟨by rfl, by intro w hSw; (obtain ⟨kf, m0, m1, m2, m3, m4, m5, m6, m7⟩ := hSw; have x0 := kf.cell 0; have x1 := kf.cell 1; have x2 := kf.cell 2; have x3 := kf.cell 3; have x4 := kf.cell 4; have x5 := kf.cell 5; have x6 := kf.cell 6; have x7 := kf.cell 7; have x8 := kf.cell 8; have x9 := kf.cell 9; have x10 := kf.cell 10; have x11 := kf.cell 11; have x12 := kf.cell 12; have x13 := kf.cell 13; have x14 := kf.cell 14; simp at x0 x1 x2 x3 x4 x5 x6 x7 x8 x9 x10 x11 x12 x13 x14); go_simp; first | done | with_reducible rfl⟩) hHeld ?_
      change RestIn _ _ _ _ _ _ _ 9 #[true, true, true, true, true, true, true, true, true, true, true, true, true, true, true, true, true, true, true, false, false, false, false, false, false, false, false, false] _ _
      try simp only [Act.put, List.setIfInBounds_toArray, List.set_cons_zero, List.set_cons_succ, List.getElem_toArray, List.getElem_cons_zero, List.getElem_cons_succ]
      refine rest_take (i := 19) (v := undef) all_wide (noDefers_of (by kernel_rfl)) rfl (by kernel_rfl) (by kernel_rfl) (by kernel_rfl) (fun _ _ _ h => h) (Or.inr ⟨by rfl, rfl⟩) hHeld ?_
      change RestIn _ _ _ _ _ _ _ 8 #[true, true, true, true, true, true, true, true, true, true, true, true, true, true, true, true, true, true, true, true, false, false, false, false, false, false, false, false] _ _
      try simp only [Act.put, List.setIfInBounds_toArray, List.set_cons_zero, List.set_cons_succ, List.getElem_toArray, List.getElem_cons_zero, List.getElem_cons_succ]
      refine rest_take (i := 20) (v := undef) all_wide (noDefers_of (by kernel_rfl)) rfl (by kernel_rfl) (by kernel_rfl) (by kernel_rfl) (fun _ _ _ h => h) (Or.inr ⟨by rfl, rfl⟩) hHeld ?_
      change RestIn _ _ _ _ _ _ _ 7 #[true, true, true, true, true, true, true, true, true, true, true, true, true, true, true, true, true, true, true, true, true, false, false, false, false, false, false, false] _ _
      try simp only [Act.put, List.setIfInBounds_toArray, List.set_cons_zero, List.set_cons_succ, List.getElem_toArray, List.getElem_cons_zero, List.getElem_cons_succ]
      refine rest_take (i := 21) (v := undef) all_wide (noDefers_of (by kernel_rfl)) rfl (by kernel_rfl) (by kernel_rfl) (by kernel_rfl) (fun _ _ _ h => h) (Or.inr ⟨by rfl, rfl⟩) hHeld ?_
      change RestIn _ _ _ _ _ _ _ 6 #[true, true, true, true, true, true, true, true, true, true, true, true, true, true, true, true, true, true, true, true, true, true, false, false, false, false, false, false] _ _
      try simp only [Act.put, List.setIfInBounds_toArray, List.set_cons_zero, List.set_cons_succ, List.getElem_toArray, List.getElem_cons_zero, List.getElem_cons_succ]
      refine rest_take (i := 22) (v := undef) all_wide (noDefers_of (by kernel_rfl)) rfl (by kernel_rfl) (by kernel_rfl) (by kernel_rfl) (fun _ _ _ h => h) (Or.inr ⟨by rfl, rfl⟩) hHeld ?_
      change RestIn _ _ _ _ _ _ _ 5 #[true, true, true, true, true, true, true, true, true, true, true, true, true, true, true, true, true, true, true, true, true, true, true, false, false, false, false, false] _ _
      try simp only [Act.put, List.setIfInBounds_toArray, List.set_cons_zero, List.set_cons_succ, List.getElem_toArray, List.getElem_cons_zero, List.getElem_cons_succ]
      refine rest_take (i := 23) (v := undef) all_wide (noDefers_of (by kernel_rfl)) rfl (by kernel_rfl) (by kernel_rfl) (by kernel_rfl) (fun _ _ _ h => h) (Or.inr ⟨by rfl, rfl⟩) hHeld ?_
      change RestIn _ _ _ _ _ _ _ 4 #[true, true, true, true, true, true, true, true, true, true, true, true, true, true, true, true, true, true, true, true, true, true, true, true, false, false, false, false] _ _
      try simp only [Act.put, List.setIfInBounds_toArray, List.set_cons_zero, List.set_cons_succ, List.getElem_toArray, List.getElem_cons_zero, List.getElem_cons_succ]
      refine rest_take (i := 24) (v := undef) all_wide (noDefers_of (by kernel_rfl)) rfl (by kernel_rfl) (by kernel_rfl) (by kernel_rfl) (fun _ _ _ h => h) (Or.inr ⟨by rfl, rfl⟩) hHeld ?_
      change RestIn _ _ _ _ _ _ _ 3 #[true, true, true, true, true, true, true, true, true, true, true, true, true, true, true, true, true, true, true, true, true, true, true, true, true, false, false, false] _ _
      try simp only [Act.put, List.setIfInBounds_toArray, List.set_cons_zero, List.set_cons_succ, List.getElem_toArray, List.getElem_cons_zero, List.getElem_cons_succ]
      refine rest_take (i := 25) (v := undef) all_wide (noDefers_of (by kernel_rfl)) rfl (by kernel_rfl) (by kernel_rfl) (by kernel_rfl) (fun _ _ _ h => h) (Or.inr ⟨by rfl, rfl⟩) hHeld ?_
      change RestIn _ _ _ _ _ _ _ 2 #[true, true, true, true, true, true, true, true, true, true, true, true, true, true, true, true, true, true, true, true, true, true, true, true, true, true, false, false] _ _
      try simp only [Act.put, List.setIfInBounds_toArray, List.set_cons_zero, List.set_cons_succ, List.getElem_toArray, List.getElem_cons_zero, List.getElem_cons_succ]
      refine rest_take (i := 26) (v := _) all_wide (noDefers_of (by kernel_rfl)) rfl (by kernel_rfl) (by kernel_rfl) (by kernel_rfl) (fun _ _ _ h => h) (Or.inl ⟨by rfl, by intro w hSw; (obtain ⟨kf, m0, m1, m2, m3, m4, m5, m6, m7⟩ := hSw; have x0 := kf.cell 0; have x1 := kf.cell 1; have x2 := kf.cell 2; have x3 := kf.cell 3; have x4 := kf.cell 4; have x5 := kf.cell 5; have x6 := kf.cell 6; have x7 := kf.cell 7; have x8 := kf.cell 8; have x9 := kf.cell 9; have x10 := kf.cell 10; have x11 := kf.cell 11; have x12 := kf.cell 12; have x13 := kf.cell 13; have x14 := kf.cell 14; simp at x0 x1 x2 x3 x4 x5 x6 x7 x8 x9 x10 x11 x12 x13 x14); go_simp; first | done | with_reducible rfl⟩) hHeld ?_
      change RestIn _ _ _ _ _ _ _ 1 #[true, true, true, true, true, true, true, true, true, true, true, true, true, true, true, true, true, true, true, true, true, true, true, true, true, true, true, false] _ _
      try simp only [Act.put, List.setIfInBounds_toArray, List.set_cons_zero, List.set_cons_succ, List.getElem_toArray, List.getElem_cons_zero, List.getElem_cons_succ]
      refine rest_take (i := 27) (v := _) all_wide (noDefers_of (by kernel_rfl)) rfl (by kernel_rfl) (by kernel_rfl) (by kernel_rfl) (fun _ _ _ h => h) (Or.inl ⟨by rfl, by intro w hSw; (obtain ⟨kf, m0, m1, m2, m3, m4, m5, m6, m7⟩ := hSw; have x0 := kf.cell 0; have x1 := kf.cell 1; have x2 := kf.cell 2; have x3 := kf.cell 3; have x4 := kf.cell 4; have x5 := kf.cell 5; have x6 := kf.cell 6; have x7 := kf.cell 7; have x8 := kf.cell 8; have x9 := kf.cell 9; have x10 := kf.cell 10; have x11 := kf.cell 11; have x12 := kf.cell 12; have x13 := kf.cell 13; have x14 := kf.cell 14; simp at x0 x1 x2 x3 x4 x5 x6 x7 x8 x9 x10 x11 x12 x13 x14); go_simp; first | done | with_reducible rfl⟩) hHeld ?_
      change RestIn _ _ _ _ _ _ _ 0 #[true, true, true, true, true, true, true, true, true, true, true, true, true, true, true, true, true, true, true, true, true, true, true, true, true, true, true, true] _ _
      try simp only [Act.put, List.setIfInBounds_toArray, List.set_cons_zero, List.set_cons_succ, List.getElem_toArray, List.getElem_cons_zero, List.getElem_cons_succ]
      refine rest_done (by kernel_rfl) ?_
      go_wp2
      go_ret
      exact ⟨ret_bool (by first | exact HR.out.symm | (rw [HR.out]; exact decide_eq_false (by omega))), hC⟩
    · cases N2
      · have HR : Hid (f.sure r t = false) := by show _ = _; rw [HS.out]; simp
        clear HS
        go_upto_region 5 with fail
        refine (wpIn_wide (n := 9)).1 ?_
        refine region_rest (S := (fun w' => Blk w' w.heap.size 32 #[.int .i64 f.fly.pos.x.lo, .int .i64 f.fly.pos.x.hi, .int .i64 f.fly.pos.z.lo, .int .i64 f.fly.pos.z.hi, .int .i64 f.fly.speed.x.lo, .int .i64 f.fly.speed.x.hi, .int .i64 f.fly.speed.z.lo, .int .i64 f.fly.speed.z.hi, .int .i64 f.fly.mass, .slice (some ⟨qb, off, none⟩) f.cycle.length c, .int .i64 f.reach, .int .i64 f.soft, .int .i64 f.bears, .int .i64 f.least, .int .i64 f.most] ∧ w'.cell? ⟨g, 0, none⟩ = some (.int .i64 b.x.lo) ∧ w'.cell? ⟨g, 1, none⟩ = some (.int .i64 b.x.hi) ∧ w'.cell? ⟨g, 2, none⟩ = some (.int .i64 b.z.lo) ∧ w'.cell? ⟨g, 3, none⟩ = some (.int .i64 b.z.hi) ∧ w'.cell? ⟨h2, 0, none⟩ = some (.int .i64 h.x.lo) ∧ w'.cell? ⟨h2, 1, none⟩ = some (.int .i64 h.x.hi) ∧ w'.cell? ⟨h2, 2, none⟩ = some (.int .i64 h.z.lo) ∧ w'.cell? ⟨h2, 3, none⟩ = some (.int .i64 h.z.hi))) hmx ?_ (fun hHeld => ?_)
        · exact ⟨kF2.drew, p0, p1, p2, p3, r0, r1, r2, r3⟩
        change RestIn _ _ _ _ _ _ _ 28 #[false, false, false, false, false, false, false, false, false, false, false, false, false, false, false, false, false, false, false, false, false, false, false, false, false, false, false, false] _ (World.drew _)
        refine rest_take (i := 0) (v := _) all_wide (noDefers_of (by kernel_rfl)) rfl (by kernel_rfl) (by kernel_rfl) (by kernel_rfl) (fun _ _ _ h => h) (Or.inl ⟨by rfl, by intro w hSw; (obtain ⟨kf, m0, m1, m2, m3, m4, m5, m6, m7⟩ := hSw; have x0 := kf.cell 0; have x1 := kf.cell 1; have x2 := kf.cell 2; have x3 := kf.cell 3; have x4 := kf.cell 4; have x5 := kf.cell 5; have x6 := kf.cell 6; have x7 := kf.cell 7; have x8 := kf.cell 8; have x9 := kf.cell 9; have x10 := kf.cell 10; have x11 := kf.cell 11; have x12 := kf.cell 12; have x13 := kf.cell 13; have x14 := kf.cell 14; simp at x0 x1 x2 x3 x4 x5 x6 x7 x8 x9 x10 x11 x12 x13 x14); go_simp; first | done | with_reducible rfl⟩) hHeld ?_
        change RestIn _ _ _ _ _ _ _ 27 #[true, false, false, false, false, false, false, false, false, false, false, false, false, false, false, false, false, false, false, false, false, false, false, false, false, false, false, false] _ _
        try simp only [Act.put, List.setIfInBounds_toArray, List.set_cons_zero, List.set_cons_succ, List.getElem_toArray, List.getElem_cons_zero, List.getElem_cons_succ]
        refine rest_take (i := 1) (v := _) all_wide (noDefers_of (by kernel_rfl)) rfl (by kernel_rfl) (by kernel_rfl) (by kernel_rfl) (fun _ _ _ h => h) (Or.inl ⟨by rfl, by intro w hSw; (obtain ⟨kf, m0, m1, m2, m3, m4, m5, m6, m7⟩ := hSw; have x0 := kf.cell 0; have x1 := kf.cell 1; have x2 := kf.cell 2; have x3 := kf.cell 3; have x4 := kf.cell 4; have x5 := kf.cell 5; have x6 := kf.cell 6; have x7 := kf.cell 7; have x8 := kf.cell 8; have x9 := kf.cell 9; have x10 := kf.cell 10; have x11 := kf.cell 11; have x12 := kf.cell 12; have x13 := kf.cell 13; have x14 := kf.cell 14; simp at x0 x1 x2 x3 x4 x5 x6 x7 x8 x9 x10 x11 x12 x13 x14); go_simp; first | done | with_reducible rfl⟩) hHeld ?_
        change RestIn _ _ _ _ _ _ _ 26 #[true, true, false, false, false, false, false, false, false, false, false, false, false, false, false, false, false, false, false, false, false, false, false, false, false, false, false, false] _ _
        try simp only [Act.put, List.setIfInBounds_toArray, List.set_cons_zero, List.set_cons_succ, List.getElem_toArray, List.getElem_cons_zero, List.getElem_cons_succ]
        refine rest_take (i := 2) (v := _) all_wide (noDefers_of (by kernel_rfl)) rfl (by kernel_rfl) (by kernel_rfl) (by kernel_rfl) (fun _ _ _ h => h) (Or.inl ⟨by rfl, by intro w hSw; (obtain ⟨kf, m0, m1, m2, m3, m4, m5, m6, m7⟩ := hSw; have x0 := kf.cell 0; have x1 := kf.cell 1; have x2 := kf.cell 2; have x3 := kf.cell 3; have x4 := kf.cell 4; have x5 := kf.cell 5; have x6 := kf.cell 6; have x7 := kf.cell 7; have x8 := kf.cell 8; have x9 := kf.cell 9; have x10 := kf.cell 10; have x11 := kf.cell 11; have x12 := kf.cell 12; have x13 := kf.cell 13; have x14 := kf.cell 14; simp at x0 x1 x2 x3 x4 x5 x6 x7 x8 x9 x10 x11 x12 x13 x14); go_simp; first | done | with_reducible rfl⟩) hHeld ?_
        change RestIn _ _ _ _ _ _ _ 25 #[true, true, true, false, false, false, false, false, false, false, false, false, false, false, false, false, false, false, false, false, false, false, false, false, false, false, false, false] _ _
        try simp only [Act.put, List.setIfInBounds_toArray, List.set_cons_zero, List.set_cons_succ, List.getElem_toArray, List.getElem_cons_zero, List.getElem_cons_succ]
        refine rest_take (i := 3) (v := _) all_wide (noDefers_of (by kernel_rfl)) rfl (by kernel_rfl) (by kernel_rfl) (by kernel_rfl) (fun _ _ _ h => h) (Or.inl ⟨by rfl, by intro w hSw; (obtain ⟨kf, m0, m1, m2, m3, m4, m5, m6, m7⟩ := hSw; have x0 := kf.cell 0; have x1 := kf.cell 1; have x2 := kf.cell 2; have x3 := kf.cell 3; have x4 := kf.cell 4; have x5 := kf.cell 5; have x6 := kf.cell 6; have x7 := kf.cell 7; have x8 := kf.cell 8; have x9 := kf.cell 9; have x10 := kf.cell 10; have x11 := kf.cell 11; have x12 := kf.cell 12; have x13 := kf.cell 13; have x14 := kf.cell 14; simp at x0 x1 x2 x3 x4 x5 x6 x7 x8 x9 x10 x11 x12 x13 x14); go_simp; first | done | with_reducible rfl⟩) hHeld ?_
        change RestIn _ _ _ _ _ _ _ 24 #[true, true, true, true, false, false, false, false, false, false, false, false, false, false, false, false, false, false, false, false, false, false, false, false, false, false, false, false] _ _
        try simp only [Act.put, List.setIfInBounds_toArray, List.set_cons_zero, List.set_cons_succ, List.getElem_toArray, List.getElem_cons_zero, List.getElem_cons_succ]
        refine rest_take (i := 4) (v := _) all_wide (noDefers_of (by kernel_rfl)) rfl (by kernel_rfl) (by kernel_rfl) (by kernel_rfl) (fun _ _ _ h => h) (Or.inl ⟨by rfl, by intro w hSw; (obtain ⟨kf, m0, m1, m2, m3, m4, m5, m6, m7⟩ := hSw; have x0 := kf.cell 0; have x1 := kf.cell 1; have x2 := kf.cell 2; have x3 := kf.cell 3; have x4 := kf.cell 4; have x5 := kf.cell 5; have x6 := kf.cell 6; have x7 := kf.cell 7; have x8 := kf.cell 8; have x9 := kf.cell 9; have x10 := kf.cell 10; have x11 := kf.cell 11; have x12 := kf.cell 12; have x13 := kf.cell 13; have x14 := kf.cell 14; simp at x0 x1 x2 x3 x4 x5 x6 x7 x8 x9 x10 x11 x12 x13 x14); go_simp; first | done | with_reducible rfl⟩) hHeld ?_
        change RestIn _ _ _ _ _ _ _ 23 #[true, true, true, true, true, false, false, false, false, false, false, false, false, false, false, false, false, false, false, false, false, false, false, false, false, false, false, false] _ _
        try simp only [Act.put, List.setIfInBounds_toArray, List.set_cons_zero, List.set_cons_succ, List.getElem_toArray, List.getElem_cons_zero, List.getElem_cons_succ]
        refine rest_take (i := 5) (v := _) all_wide (noDefers_of (by kernel_rfl)) rfl (by kernel_rfl) (by kernel_rfl) (by kernel_rfl) (fun _ _ _ h => h) (Or.inl ⟨by rfl, by intro w hSw; (obtain ⟨kf, m0, m1, m2, m3, m4, m5, m6, m7⟩ := hSw; have x0 := kf.cell 0; have x1 := kf.cell 1; have x2 := kf.cell 2; have x3 := kf.cell 3; have x4 := kf.cell 4; have x5 := kf.cell 5; have x6 := kf.cell 6; have x7 := kf.cell 7; have x8 := kf.cell 8; have x9 := kf.cell 9; have x10 := kf.cell 10; have x11 := kf.cell 11; have x12 := kf.cell 12; have x13 := kf.cell 13; have x14 := kf.cell 14; simp at x0 x1 x2 x3 x4 x5 x6 x7 x8 x9 x10 x11 x12 x13 x14); go_simp; first | done | with_reducible rfl⟩) hHeld ?_
        change RestIn _ _ _ _ _ _ _ 22 #[true, true, true, true, true, true, false, false, false, false, false, false, false, false, false, false, false, false, false, false, false, false, false, false, false, false, false, false] _ _
        try simp only [Act.put, List.setIfInBounds_toArray, List.set_cons_zero, List.set_cons_succ, List.getElem_toArray, List.getElem_cons_zero, List.getElem_cons_succ]
        refine rest_take (i := 6) (v := _) all_wide (noDefers_of (by kernel_rfl)) rfl (by kernel_rfl) (by kernel_rfl) (by kernel_rfl) (fun _ _ _ h => h) (Or.inl ⟨by rfl, by intro w hSw; (obtain ⟨kf, m0, m1, m2, m3, m4, m5, m6, m7⟩ := hSw; have x0 := kf.cell 0; have x1 := kf.cell 1; have x2 := kf.cell 2; have x3 := kf.cell 3; have x4 := kf.cell 4; have x5 := kf.cell 5; have x6 := kf.cell 6; have x7 := kf.cell 7; have x8 := kf.cell 8; have x9 := kf.cell 9; have x10 := kf.cell 10; have x11 := kf.cell 11; have x12 := kf.cell 12; have x13 := kf.cell 13; have x14 := kf.cell 14; simp at x0 x1 x2 x3 x4 x5 x6 x7 x8 x9 x10 x11 x12 x13 x14); go_simp; first | done | with_reducible rfl⟩) hHeld ?_
        change RestIn _ _ _ _ _ _ _ 21 #[true, true, true, true, true, true, true, false, false, false, false, false, false, false, false, false, false, false, false, false, false, false, false, false, false, false, false, false] _ _
        try simp only [Act.put, List.setIfInBounds_toArray, List.set_cons_zero, List.set_cons_succ, List.getElem_toArray, List.getElem_cons_zero, List.getElem_cons_succ]
        refine rest_ready (rs := [7]) (by kernel_rfl) (by simp) ?_
        refine AllRest.cons rfl (fun K hK => ?_) AllRest.nil
        go_simp
        gi_wp2_with ((refine ⟨trivial, ?_⟩; gi_at_call 68; (with_reducible refine (callsIn_wide.2 (HN1.out _)).mono ?_); rintro e w1 ⟨rfl, hb1⟩))
        refine hK.out _ _ ?_ (fun hHeld' => ?_)
        · exact ⟨hHeld.1.below hb1 hHeld.1.lt, cell_after hb1 hHeld.2.1, cell_after hb1 hHeld.2.2.1, cell_after hb1 hHeld.2.2.2.1, cell_after hb1 hHeld.2.2.2.2.1, cell_after hb1 hHeld.2.2.2.2.2.1, cell_after hb1 hHeld.2.2.2.2.2.2.1, cell_after hb1 hHeld.2.2.2.2.2.2.2.1, cell_after hb1 hHeld.2.2.2.2.2.2.2.2⟩
        clear hK K
        change RestIn _ _ _ _ _ _ _ 20 #[true, true, true, true, true, true, true, true, false, false, false, false, false, false, false, false, false, false, false, false, false, false, false, false, false, false, false, false] _ _
        try simp only [Act.put, List.setIfInBounds_toArray, List.set_cons_zero, List.set_cons_succ, List.getElem_toArray, List.getElem_cons_zero, List.getElem_cons_succ]
        have hC := hC.trans (hb1.mono hC.size)
        clear hHeld
        have hHeld := hHeld'
        clear hHeld'
        refine rest_take (i := 8) (v := _) all_wide (noDefers_of (by kernel_rfl)) rfl (by kernel_rfl) (by kernel_rfl) (by kernel_rfl) (fun _ _ _ h => h) (Or.inl ⟨by rfl, by intro w hSw; (obtain ⟨kf, m0, m1, m2, m3, m4, m5, m6, m7⟩ := hSw; have x0 := kf.cell 0; have x1 := kf.cell 1; have x2 := kf.cell 2; have x3 := kf.cell 3; have x4 := kf.cell 4; have x5 := kf.cell 5; have x6 := kf.cell 6; have x7 := kf.cell 7; have x8 := kf.cell 8; have x9 := kf.cell 9; have x10 := kf.cell 10; have x11 := kf.cell 11; have x12 := kf.cell 12; have x13 := kf.cell 13; have x14 := kf.cell 14; simp at x0 x1 x2 x3 x4 x5 x6 x7 x8 x9 x10 x11 x12 x13 x14); go_simp; first | done | with_reducible rfl⟩) hHeld ?_
        change RestIn _ _ _ _ _ _ _ 19 #[true, true, true, true, true, true, true, true, true, false, false, false, false, false, false, false, false, false, false, false, false, false, false, false, false, false, false, false] _ _
        try simp only [Act.put, List.setIfInBounds_toArray, List.set_cons_zero, List.set_cons_succ, List.getElem_toArray, List.getElem_cons_zero, List.getElem_cons_succ]
        refine rest_take (i := 9) (v := _) all_wide (noDefers_of (by kernel_rfl)) rfl (by kernel_rfl) (by kernel_rfl) (by kernel_rfl) (fun _ _ _ h => h) (Or.inl ⟨by rfl, by intro w hSw; (obtain ⟨kf, m0, m1, m2, m3, m4, m5, m6, m7⟩ := hSw; have x0 := kf.cell 0; have x1 := kf.cell 1; have x2 := kf.cell 2; have x3 := kf.cell 3; have x4 := kf.cell 4; have x5 := kf.cell 5; have x6 := kf.cell 6; have x7 := kf.cell 7; have x8 := kf.cell 8; have x9 := kf.cell 9; have x10 := kf.cell 10; have x11 := kf.cell 11; have x12 := kf.cell 12; have x13 := kf.cell 13; have x14 := kf.cell 14; simp at x0 x1 x2 x3 x4 x5 x6 x7 x8 x9 x10 x11 x12 x13 x14); go_simp; first | done | with_reducible rfl⟩) hHeld ?_
        change RestIn _ _ _ _ _ _ _ 18 #[true, true, true, true, true, true, true, true, true, true, false, false, false, false, false, false, false, false, false, false, false, false, false, false, false, false, false, false] _ _
        try simp only [Act.put, List.setIfInBounds_toArray, List.set_cons_zero, List.set_cons_succ, List.getElem_toArray, List.getElem_cons_zero, List.getElem_cons_succ]
        refine rest_take (i := 10) (v := _) all_wide (noDefers_of (by kernel_rfl)) rfl (by kernel_rfl) (by kernel_rfl) (by kernel_rfl) (fun _ _ _ h => h) (Or.inl ⟨by rfl, by intro w hSw; (obtain ⟨kf, m0, m1, m2, m3, m4, m5, m6, m7⟩ := hSw; have x0 := kf.cell 0; have x1 := kf.cell 1; have x2 := kf.cell 2; have x3 := kf.cell 3; have x4 := kf.cell 4; have x5 := kf.cell 5; have x6 := kf.cell 6; have x7 := kf.cell 7; have x8 := kf.cell 8; have x9 := kf.cell 9; have x10 := kf.cell 10; have x11 := kf.cell 11; have x12 := kf.cell 12; have x13 := kf.cell 13; have x14 := kf.cell 14; simp at x0 x1 x2 x3 x4 x5 x6 x7 x8 x9 x10 x11 x12 x13 x14); go_simp; first | done | with_reducible rfl⟩) hHeld ?_
        change RestIn _ _ _ _ _ _ _ 17 #[true, true, true, true, true, true, true, true, true, true, true, false, false, false, false, false, false, false, false, false, false, false, false, false, false, false, false, false] _ _
        try simp only [Act.put, List.setIfInBounds_toArray, List.set_cons_zero, List.set_cons_succ, List.getElem_toArray, List.getElem_cons_zero, List.getElem_cons_succ]
        refine rest_take (i := 11) (v := _) all_wide (noDefers_of (by kernel_rfl)) rfl (by kernel_rfl) (by kernel_rfl) (by kernel_rfl) (fun _ _ _ h => h) (Or.inl ⟨by rfl, by intro w hSw; (obtain ⟨kf, m0, m1, m2, m3, m4, m5, m6, m7⟩ := hSw; have x0 := kf.cell 0; have x1 := kf.cell 1; have x2 := kf.cell 2; have x3 := kf.cell 3; have x4 := kf.cell 4; have x5 := kf.cell 5; have x6 := kf.cell 6; have x7 := kf.cell 7; have x8 := kf.cell 8; have x9 := kf.cell 9; have x10 := kf.cell 10; have x11 := kf.cell 11; have x12 := kf.cell 12; have x13 := kf.cell 13; have x14 := kf.cell 14; simp at x0 x1 x2 x3 x4 x5 x6 x7 x8 x9 x10 x11 x12 x13 x14); go_simp; first | done | with_reducible rfl⟩) hHeld ?_
        change RestIn _ _ _ _ _ _ _ 16 #[true, true, true, true, true, true, true, true, true, true, true, true, false, false, false, false, false, false, false, false, false, false, false, false, false, false, false, false] _ _
        try simp only [Act.put, List.setIfInBounds_toArray, List.set_cons_zero, List.set_cons_succ, List.getElem_toArray, List.getElem_cons_zero, List.getElem_cons_succ]
        refine rest_take (i := 12) (v := _) all_wide (noDefers_of (by kernel_rfl)) rfl (by kernel_rfl) (by kernel_rfl) (by kernel_rfl) (fun _ _ _ h => h) (Or.inl ⟨by rfl, by intro w hSw; (obtain ⟨kf, m0, m1, m2, m3, m4, m5, m6, m7⟩ := hSw; have x0 := kf.cell 0; have x1 := kf.cell 1; have x2 := kf.cell 2; have x3 := kf.cell 3; have x4 := kf.cell 4; have x5 := kf.cell 5; have x6 := kf.cell 6; have x7 := kf.cell 7; have x8 := kf.cell 8; have x9 := kf.cell 9; have x10 := kf.cell 10; have x11 := kf.cell 11; have x12 := kf.cell 12; have x13 := kf.cell 13; have x14 := kf.cell 14; simp at x0 x1 x2 x3 x4 x5 x6 x7 x8 x9 x10 x11 x12 x13 x14); go_simp; first | done | with_reducible rfl⟩) hHeld ?_
        change RestIn _ _ _ _ _ _ _ 15 #[true, true, true, true, true, true, true, true, true, true, true, true, true, false, false, false, false, false, false, false, false, false, false, false, false, false, false, false] _ _
        try simp only [Act.put, List.setIfInBounds_toArray, List.set_cons_zero, List.set_cons_succ, List.getElem_toArray, List.getElem_cons_zero, List.getElem_cons_succ]
        refine rest_take (i := 13) (v := _) all_wide (noDefers_of (by kernel_rfl)) rfl (by kernel_rfl) (by kernel_rfl) (by kernel_rfl) (fun _ _ _ h => h) (Or.inl ⟨by rfl, by intro w hSw; (obtain ⟨kf, m0, m1, m2, m3, m4, m5, m6, m7⟩ := hSw; have x0 := kf.cell 0; have x1 := kf.cell 1; have x2 := kf.cell 2; have x3 := kf.cell 3; have x4 := kf.cell 4; have x5 := kf.cell 5; have x6 := kf.cell 6; have x7 := kf.cell 7; have x8 := kf.cell 8; have x9 := kf.cell 9; have x10 := kf.cell 10; have x11 := kf.cell 11; have x12 := kf.cell 12; have x13 := kf.cell 13; have x14 := kf.cell 14; simp at x0 x1 x2 x3 x4 x5 x6 x7 x8 x9 x10 x11 x12 x13 x14); go_simp; first | done | with_reducible rfl⟩) hHeld ?_
        change RestIn _ _ _ _ _ _ _ 14 #[true, true, true, true, true, true, true, true, true, true, true, true, true, true, false, false, false, false, false, false, false, false, false, false, false, false, false, false] _ _
        try simp only [Act.put, List.setIfInBounds_toArray, List.set_cons_zero, List.set_cons_succ, List.getElem_toArray, List.getElem_cons_zero, List.getElem_cons_succ]
        refine rest_take (i := 14) (v := _) all_wide (noDefers_of (by kernel_rfl)) rfl (by kernel_rfl) (by kernel_rfl) (by kernel_rfl) (fun _ _ _ h => h) (Or.inl ⟨by rfl, by intro w hSw; (obtain ⟨kf, m0, m1, m2, m3, m4, m5, m6, m7⟩ := hSw; have x0 := kf.cell 0; have x1 := kf.cell 1; have x2 := kf.cell 2; have x3 := kf.cell 3; have x4 := kf.cell 4; have x5 := kf.cell 5; have x6 := kf.cell 6; have x7 := kf.cell 7; have x8 := kf.cell 8; have x9 := kf.cell 9; have x10 := kf.cell 10; have x11 := kf.cell 11; have x12 := kf.cell 12; have x13 := kf.cell 13; have x14 := kf.cell 14; simp at x0 x1 x2 x3 x4 x5 x6 x7 x8 x9 x10 x11 x12 x13 x14); go_simp; first | done | with_reducible rfl⟩) hHeld ?_
        change RestIn _ _ _ _ _ _ _ 13 #[true, true, true, true, true, true, true, true, true, true, true, true, true, true, true, false, false, false, false, false, false, false, false, false, false, false, false, false] _ _
        try simp only [Act.put, List.setIfInBounds_toArray, List.set_cons_zero, List.set_cons_succ, List.getElem_toArray, List.getElem_cons_zero, List.getElem_cons_succ]
        refine rest_take (i := 15) (v := _) all_wide (noDefers_of (by kernel_rfl)) rfl (by kernel_rfl) (by kernel_rfl) (by kernel_rfl) (fun _ _ _ h => h) (Or.inl ⟨by rfl, by intro w hSw; (obtain ⟨kf, m0, m1, m2, m3, m4, m5, m6, m7⟩ := hSw; have x0 := kf.cell 0; have x1 := kf.cell 1; have x2 := kf.cell 2; have x3 := kf.cell 3; have x4 := kf.cell 4; have x5 := kf.cell 5; have x6 := kf.cell 6; have x7 := kf.cell 7; have x8 := kf.cell 8; have x9 := kf.cell 9; have x10 := kf.cell 10; have x11 := kf.cell 11; have x12 := kf.cell 12; have x13 := kf.cell 13; have x14 := kf.cell 14; simp at x0 x1 x2 x3 x4 x5 x6 x7 x8 x9 x10 x11 x12 x13 x14); go_simp; first | done | with_reducible rfl⟩) hHeld ?_
        change RestIn _ _ _ _ _ _ _ 12 #[true, true, true, true, true, true, true, true, true, true, true, true, true, true, true, true, false, false, false, false, false, false, false, false, false, false, false, false] _ _
        try simp only [Act.put, List.setIfInBounds_toArray, List.set_cons_zero, List.set_cons_succ, List.getElem_toArray, List.getElem_cons_zero, List.getElem_cons_succ]
        refine rest_ready (rs := [16]) (by kernel_rfl) (by simp) ?_
        refine AllRest.cons rfl (fun K hK => ?_) AllRest.nil
        go_simp
        gi_wp2_with ((refine ⟨trivial, ?_⟩; gi_at_call 68; (with_reducible refine (callsIn_wide.2 (HN2.out _)).mono ?_); rintro e w2 ⟨rfl, hb2⟩))
        refine hK.out _ _ ?_ (fun hHeld' => ?_)
        · exact ⟨hHeld.1.below hb2 hHeld.1.lt, cell_after hb2 hHeld.2.1, cell_after hb2 hHeld.2.2.1, cell_after hb2 hHeld.2.2.2.1, cell_after hb2 hHeld.2.2.2.2.1, cell_after hb2 hHeld.2.2.2.2.2.1, cell_after hb2 hHeld.2.2.2.2.2.2.1, cell_after hb2 hHeld.2.2.2.2.2.2.2.1, cell_after hb2 hHeld.2.2.2.2.2.2.2.2⟩
        clear hK K
        change RestIn _ _ _ _ _ _ _ 11 #[true, true, true, true, true, true, true, true, true, true, true, true, true, true, true, true, true, false, false, false, false, false, false, false, false, false, false, false] _ _
        try simp only [Act.put, List.setIfInBounds_toArray, List.set_cons_zero, List.set_cons_succ, List.getElem_toArray, List.getElem_cons_zero, List.getElem_cons_succ]
        have hC := hC.trans (hb2.mono hC.size)
        clear hHeld
        have hHeld := hHeld'
        clear hHeld'
        refine rest_take (i := 17) (v := _) all_wide (noDefers_of (by kernel_rfl)) rfl (by kernel_rfl) (by kernel_rfl) (by kernel_rfl) (fun _ _ _ h => h) (Or.inl ⟨by rfl, by intro w hSw; (obtain ⟨kf, m0, m1, m2, m3, m4, m5, m6, m7⟩ := hSw; have x0 := kf.cell 0; have x1 := kf.cell 1; have x2 := kf.cell 2; have x3 := kf.cell 3; have x4 := kf.cell 4; have x5 := kf.cell 5; have x6 := kf.cell 6; have x7 := kf.cell 7; have x8 := kf.cell 8; have x9 := kf.cell 9; have x10 := kf.cell 10; have x11 := kf.cell 11; have x12 := kf.cell 12; have x13 := kf.cell 13; have x14 := kf.cell 14; simp at x0 x1 x2 x3 x4 x5 x6 x7 x8 x9 x10 x11 x12 x13 x14); go_simp; first | done | with_reducible rfl⟩) hHeld ?_
        change RestIn _ _ _ _ _ _ _ 10 #[true, true, true, true, true, true, true, true, true, true, true, true, true, true, true, true, true, true, false, false, false, false, false, false, false, false, false, false] _ _
        try simp only [Act.put, List.setIfInBounds_toArray, List.set_cons_zero, List.set_cons_succ, List.getElem_toArray, List.getElem_cons_zero, List.getElem_cons_succ]
        refine rest_take (i := 18) (v := _) all_wide (noDefers_of (by kernel_rfl)) rfl (by kernel_rfl) (by kernel_rfl) (by kernel_rfl) (fun _ _ _ h => h) (Or.inl ⟨by rfl, by intro w hSw; (obtain ⟨kf, m0, m1, m2, m3, m4, m5, m6, m7⟩ := hSw; have x0 := kf.cell 0; have x1 := kf.cell 1; have x2 := kf.cell 2; have x3 := kf.cell 3; have x4 := kf.cell 4; have x5 := kf.cell 5; have x6 := kf.cell 6; have x7 := kf.cell 7; have x8 := kf.cell 8; have x9 := kf.cell 9; have x10 := kf.cell 10; have x11 := kf.cell 11; have x12 := kf.cell 12; have x13 := kf.cell 13; have x14 := kf.cell 14; simp at x0 x1 x2 x3 x4 x5 x6 x7 x8 x9 x10 x11 x12 x13 x14); go_simp; first | done | with_reducible rfl⟩) hHeld ?_
        change RestIn _ _ _ _ _ _ _ 9 #[true, true, true, true, true, true, true, true, true, true, true, true, true, true, true, true, true, true, true, false, false, false, false, false, false, false, false, false] _ _
        try simp only [Act.put, List.setIfInBounds_toArray, List.set_cons_zero, List.set_cons_succ, List.getElem_toArray, List.getElem_cons_zero, List.getElem_cons_succ]
        refine rest_take (i := 19) (v := undef) all_wide (noDefers_of (by kernel_rfl)) rfl (by kernel_rfl) (by kernel_rfl) (by kernel_rfl) (fun _ _ _ h => h) (Or.inr ⟨by rfl, rfl⟩) hHeld ?_
        change RestIn _ _ _ _ _ _ _ 8 #[true, true, true, true, true, true, true, true, true, true, true, true, true, true, true, true, true, true, true, true, false, false, false, false, false, false, false, false] _ _
        try simp only [Act.put, List.setIfInBounds_toArray, List.set_cons_zero, List.set_cons_succ, List.getElem_toArray, List.getElem_cons_zero, List.getElem_cons_succ]
        refine rest_take (i := 20) (v := undef) all_wide (noDefers_of (by kernel_rfl)) rfl (by kernel_rfl) (by kernel_rfl) (by kernel_rfl) (fun _ _ _ h => h) (Or.inr ⟨by rfl, rfl⟩) hHeld ?_
        change RestIn _ _ _ _ _ _ _ 7 #[true, true, true, true, true, true, true, true, true, true, true, true, true, true, true, true, true, true, true, true, true, false, false, false, false, false, false, false] _ _
        try simp only [Act.put, List.setIfInBounds_toArray, List.set_cons_zero, List.set_cons_succ, List.getElem_toArray, List.getElem_cons_zero, List.getElem_cons_succ]
        refine rest_take (i := 21) (v := undef) all_wide (noDefers_of (by kernel_rfl)) rfl (by kernel_rfl) (by kernel_rfl) (by kernel_rfl) (fun _ _ _ h => h) (Or.inr ⟨by rfl, rfl⟩) hHeld ?_
        change RestIn _ _ _ _ _ _ _ 6 #[true, true, true, true, true, true, true, true, true, true, true, true, true, true, true, true, true, true, true, true, true, true, false, false, false, false, false, false] _ _
        try simp only [Act.put, List.setIfInBounds_toArray, List.set_cons_zero, List.set_cons_succ, List.getElem_toArray, List.getElem_cons_zero, List.getElem_cons_succ]
        refine rest_take (i := 22) (v := undef) all_wide (noDefers_of (by kernel_rfl)) rfl (by kernel_rfl) (by kernel_rfl) (by kernel_rfl) (fun _ _ _ h => h) (Or.inr ⟨by rfl, rfl⟩) hHeld ?_
        change RestIn _ _ _ _ _ _ _ 5 #[true, true, true, true, true, true, true, true, true, true, true, true, true, true, true, true, true, true, true, true, true, true, true, false, false, false, false, false] _ _
        try simp only [Act.put, List.setIfInBounds_toArray, List.set_cons_zero, List.set_cons_succ, List.getElem_toArray, List.getElem_cons_zero, List.getElem_cons_succ]
        refine rest_take (i := 23) (v := undef) all_wide (noDefers_of (by kernel_rfl)) rfl (by kernel_rfl) (by kernel_rfl) (by kernel_rfl) (fun _ _ _ h => h) (Or.inr ⟨by rfl, rfl⟩) hHeld ?_
        change RestIn _ _ _ _ _ _ _ 4 #[true, true, true, true, true, true, true, true, true, true, true, true, true, true, true, true, true, true, true, true, true, true, true, true, false, false, false, false] _ _
        try simp only [Act.put, List.setIfInBounds_toArray, List.set_cons_zero, List.set_cons_succ, List.getElem_toArray, List.getElem_cons_zero, List.getElem_cons_succ]
        refine rest_take (i := 24) (v := undef) all_wide (noDefers_of (by kernel_rfl)) rfl (by kernel_rfl) (by kernel_rfl) (by kernel_rfl) (fun _ _ _ h => h) (Or.inr ⟨by rfl, rfl⟩) hHeld ?_
        change RestIn _ _ _ _ _ _ _ 3 #[true, true, true, true, true, true, true, true, true, true, true, true, true, true, true, true, true, true, true, true, true, true, true, true, true, false, false, false] _ _
        try simp only [Act.put, List.setIfInBounds_toArray, List.set_cons_zero, List.set_cons_succ, List.getElem_toArray, List.getElem_cons_zero, List.getElem_cons_succ]
        refine rest_take (i := 25) (v := undef) all_wide (noDefers_of (by kernel_rfl)) rfl (by kernel_rfl) (by kernel_rfl) (by kernel_rfl) (fun _ _ _ h => h) (Or.inr ⟨by rfl, rfl⟩) hHeld ?_
        change RestIn _ _ _ _ _ _ _ 2 #[true, true, true, true, true, true, true, true, true, true, true, true, true, true, true, true, true, true, true, true, true, true, true, true, true, true, false, false] _ _
        try simp only [Act.put, List.setIfInBounds_toArray, List.set_cons_zero, List.set_cons_succ, List.getElem_toArray, List.getElem_cons_zero, List.getElem_cons_succ]
        refine rest_take (i := 26) (v := _) all_wide (noDefers_of (by kernel_rfl)) rfl (by kernel_rfl) (by kernel_rfl) (by kernel_rfl) (fun _ _ _ h => h) (Or.inl ⟨by rfl, by intro w hSw; (obtain ⟨kf, m0, m1, m2, m3, m4, m5, m6, m7⟩ := hSw; have x0 := kf.cell 0; have x1 := kf.cell 1; have x2 := kf.cell 2; have x3 := kf.cell 3; have x4 := kf.cell 4; have x5 := kf.cell 5; have x6 := kf.cell 6; have x7 := kf.cell 7; have x8 := kf.cell 8; have x9 := kf.cell 9; have x10 := kf.cell 10; have x11 := kf.cell 11; have x12 := kf.cell 12; have x13 := kf.cell 13; have x14 := kf.cell 14; simp at x0 x1 x2 x3 x4 x5 x6 x7 x8 x9 x10 x11 x12 x13 x14); go_simp; first | done | with_reducible rfl⟩) hHeld ?_
        change RestIn _ _ _ _ _ _ _ 1 #[true, true, true, true, true, true, true, true, true, true, true, true, true, true, true, true, true, true, true, true, true, true, true, true, true, true, true, false] _ _
        try simp only [Act.put, List.setIfInBounds_toArray, List.set_cons_zero, List.set_cons_succ, List.getElem_toArray, List.getElem_cons_zero, List.getElem_cons_succ]
        refine rest_take (i := 27) (v := _) all_wide (noDefers_of (by kernel_rfl)) rfl (by kernel_rfl) (by kernel_rfl) (by kernel_rfl) (fun _ _ _ h => h) (Or.inl ⟨by rfl, by intro w hSw; (obtain ⟨kf, m0, m1, m2, m3, m4, m5, m6, m7⟩ := hSw; have x0 := kf.cell 0; have x1 := kf.cell 1; have x2 := kf.cell 2; have x3 := kf.cell 3; have x4 := kf.cell 4; have x5 := kf.cell 5; have x6 := kf.cell 6; have x7 := kf.cell 7; have x8 := kf.cell 8; have x9 := kf.cell 9; have x10 := kf.cell 10; have x11 := kf.cell 11; have x12 := kf.cell 12; have x13 := kf.cell 13; have x14 := kf.cell 14; simp at x0 x1 x2 x3 x4 x5 x6 x7 x8 x9 x10 x11 x12 x13 x14); go_simp; first | done | with_reducible rfl⟩) hHeld ?_
        change RestIn _ _ _ _ _ _ _ 0 #[true, true, true, true, true, true, true, true, true, true, true, true, true, true, true, true, true, true, true, true, true, true, true, true, true, true, true, true] _ _
        try simp only [Act.put, List.setIfInBounds_toArray, List.set_cons_zero, List.set_cons_succ, List.getElem_toArray, List.getElem_cons_zero, List.getElem_cons_succ]
        refine rest_done (by kernel_rfl) ?_
        go_wp2
        go_ret
        exact ⟨ret_bool (by first | exact HR.out.symm | (rw [HR.out]; exact decide_eq_false (by omega))), hC⟩
      · by_cases h3 : ld ≤ f.bears
        · have HR : Hid (f.sure r t = true) := by show _ = _; rw [HS.out]; simp [h3]
          clear HS
          go_upto_region 5 with fail
          refine (wpIn_wide (n := 9)).1 ?_
          refine region_rest (S := (fun w' => Blk w' w.heap.size 32 #[.int .i64 f.fly.pos.x.lo, .int .i64 f.fly.pos.x.hi, .int .i64 f.fly.pos.z.lo, .int .i64 f.fly.pos.z.hi, .int .i64 f.fly.speed.x.lo, .int .i64 f.fly.speed.x.hi, .int .i64 f.fly.speed.z.lo, .int .i64 f.fly.speed.z.hi, .int .i64 f.fly.mass, .slice (some ⟨qb, off, none⟩) f.cycle.length c, .int .i64 f.reach, .int .i64 f.soft, .int .i64 f.bears, .int .i64 f.least, .int .i64 f.most] ∧ w'.cell? ⟨g, 0, none⟩ = some (.int .i64 b.x.lo) ∧ w'.cell? ⟨g, 1, none⟩ = some (.int .i64 b.x.hi) ∧ w'.cell? ⟨g, 2, none⟩ = some (.int .i64 b.z.lo) ∧ w'.cell? ⟨g, 3, none⟩ = some (.int .i64 b.z.hi) ∧ w'.cell? ⟨h2, 0, none⟩ = some (.int .i64 h.x.lo) ∧ w'.cell? ⟨h2, 1, none⟩ = some (.int .i64 h.x.hi) ∧ w'.cell? ⟨h2, 2, none⟩ = some (.int .i64 h.z.lo) ∧ w'.cell? ⟨h2, 3, none⟩ = some (.int .i64 h.z.hi))) hmx ?_ (fun hHeld => ?_)
          · exact ⟨kF2.drew, p0, p1, p2, p3, r0, r1, r2, r3⟩
          change RestIn _ _ _ _ _ _ _ 28 #[false, false, false, false, false, false, false, false, false, false, false, false, false, false, false, false, false, false, false, false, false, false, false, false, false, false, false, false] _ (World.drew _)
          refine rest_take (i := 0) (v := _) all_wide (noDefers_of (by kernel_rfl)) rfl (by kernel_rfl) (by kernel_rfl) (by kernel_rfl) (fun _ _ _ h => h) (Or.inl ⟨by rfl, by intro w hSw; (obtain ⟨kf, m0, m1, m2, m3, m4, m5, m6, m7⟩ := hSw; have x0 := kf.cell 0; have x1 := kf.cell 1; have x2 := kf.cell 2; have x3 := kf.cell 3; have x4 := kf.cell 4; have x5 := kf.cell 5; have x6 := kf.cell 6; have x7 := kf.cell 7; have x8 := kf.cell 8; have x9 := kf.cell 9; have x10 := kf.cell 10; have x11 := kf.cell 11; have x12 := kf.cell 12; have x13 := kf.cell 13; have x14 := kf.cell 14; simp at x0 x1 x2 x3 x4 x5 x6 x7 x8 x9 x10 x11 x12 x13 x14); go_simp; first | done | with_reducible rfl⟩) hHeld ?_
          change RestIn _ _ _ _ _ _ _ 27 #[true, false, false, false, false, false, false, false, false, false, false, false, false, false, false, false, false, false, false, false, false, false, false, false, false, false, false, false] _ _
          try simp only [Act.put, List.setIfInBounds_toArray, List.set_cons_zero, List.set_cons_succ, List.getElem_toArray, List.getElem_cons_zero, List.getElem_cons_succ]
          refine rest_take (i := 1) (v := _) all_wide (noDefers_of (by kernel_rfl)) rfl (by kernel_rfl) (by kernel_rfl) (by kernel_rfl) (fun _ _ _ h => h) (Or.inl ⟨by rfl, by intro w hSw; (obtain ⟨kf, m0, m1, m2, m3, m4, m5, m6, m7⟩ := hSw; have x0 := kf.cell 0; have x1 := kf.cell 1; have x2 := kf.cell 2; have x3 := kf.cell 3; have x4 := kf.cell 4; have x5 := kf.cell 5; have x6 := kf.cell 6; have x7 := kf.cell 7; have x8 := kf.cell 8; have x9 := kf.cell 9; have x10 := kf.cell 10; have x11 := kf.cell 11; have x12 := kf.cell 12; have x13 := kf.cell 13; have x14 := kf.cell 14; simp at x0 x1 x2 x3 x4 x5 x6 x7 x8 x9 x10 x11 x12 x13 x14); go_simp; first | done | with_reducible rfl⟩) hHeld ?_
          change RestIn _ _ _ _ _ _ _ 26 #[true, true, false, false, false, false, false, false, false, false, false, false, false, false, false, false, false, false, false, false, false, false, false, false, false, false, false, false] _ _
          try simp only [Act.put, List.setIfInBounds_toArray, List.set_cons_zero, List.set_cons_succ, List.getElem_toArray, List.getElem_cons_zero, List.getElem_cons_succ]
          refine rest_take (i := 2) (v := _) all_wide (noDefers_of (by kernel_rfl)) rfl (by kernel_rfl) (by kernel_rfl) (by kernel_rfl) (fun _ _ _ h => h) (Or.inl ⟨by rfl, by intro w hSw; (obtain ⟨kf, m0, m1, m2, m3, m4, m5, m6, m7⟩ := hSw; have x0 := kf.cell 0; have x1 := kf.cell 1; have x2 := kf.cell 2; have x3 := kf.cell 3; have x4 := kf.cell 4; have x5 := kf.cell 5; have x6 := kf.cell 6; have x7 := kf.cell 7; have x8 := kf.cell 8; have x9 := kf.cell 9; have x10 := kf.cell 10; have x11 := kf.cell 11; have x12 := kf.cell 12; have x13 := kf.cell 13; have x14 := kf.cell 14; simp at x0 x1 x2 x3 x4 x5 x6 x7 x8 x9 x10 x11 x12 x13 x14); go_simp; first | done | with_reducible rfl⟩) hHeld ?_
          change RestIn _ _ _ _ _ _ _ 25 #[true, true, true, false, false, false, false, false, false, false, false, false, false, false, false, false, false, false, false, false, false, false, false, false, false, false, false, false] _ _
          try simp only [Act.put, List.setIfInBounds_toArray, List.set_cons_zero, List.set_cons_succ, List.getElem_toArray, List.getElem_cons_zero, List.getElem_cons_succ]
          refine rest_take (i := 3) (v := _) all_wide (noDefers_of (by kernel_rfl)) rfl (by kernel_rfl) (by kernel_rfl) (by kernel_rfl) (fun _ _ _ h => h) (Or.inl ⟨by rfl, by intro w hSw; (obtain ⟨kf, m0, m1, m2, m3, m4, m5, m6, m7⟩ := hSw; have x0 := kf.cell 0; have x1 := kf.cell 1; have x2 := kf.cell 2; have x3 := kf.cell 3; have x4 := kf.cell 4; have x5 := kf.cell 5; have x6 := kf.cell 6; have x7 := kf.cell 7; have x8 := kf.cell 8; have x9 := kf.cell 9; have x10 := kf.cell 10; have x11 := kf.cell 11; have x12 := kf.cell 12; have x13 := kf.cell 13; have x14 := kf.cell 14; simp at x0 x1 x2 x3 x4 x5 x6 x7 x8 x9 x10 x11 x12 x13 x14); go_simp; first | done | with_reducible rfl⟩) hHeld ?_
          change RestIn _ _ _ _ _ _ _ 24 #[true, true, true, true, false, false, false, false, false, false, false, false, false, false, false, false, false, false, false, false, false, false, false, false, false, false, false, false] _ _
          try simp only [Act.put, List.setIfInBounds_toArray, List.set_cons_zero, List.set_cons_succ, List.getElem_toArray, List.getElem_cons_zero, List.getElem_cons_succ]
          refine rest_take (i := 4) (v := _) all_wide (noDefers_of (by kernel_rfl)) rfl (by kernel_rfl) (by kernel_rfl) (by kernel_rfl) (fun _ _ _ h => h) (Or.inl ⟨by rfl, by intro w hSw; (obtain ⟨kf, m0, m1, m2, m3, m4, m5, m6, m7⟩ := hSw; have x0 := kf.cell 0; have x1 := kf.cell 1; have x2 := kf.cell 2; have x3 := kf.cell 3; have x4 := kf.cell 4; have x5 := kf.cell 5; have x6 := kf.cell 6; have x7 := kf.cell 7; have x8 := kf.cell 8; have x9 := kf.cell 9; have x10 := kf.cell 10; have x11 := kf.cell 11; have x12 := kf.cell 12; have x13 := kf.cell 13; have x14 := kf.cell 14; simp at x0 x1 x2 x3 x4 x5 x6 x7 x8 x9 x10 x11 x12 x13 x14); go_simp; first | done | with_reducible rfl⟩) hHeld ?_
          change RestIn _ _ _ _ _ _ _ 23 #[true, true, true, true, true, false, false, false, false, false, false, false, false, false, false, false, false, false, false, false, false, false, false, false, false, false, false, false] _ _
          try simp only [Act.put, List.setIfInBounds_toArray, List.set_cons_zero, List.set_cons_succ, List.getElem_toArray, List.getElem_cons_zero, List.getElem_cons_succ]
          refine rest_take (i := 5) (v := _) all_wide (noDefers_of (by kernel_rfl)) rfl (by kernel_rfl) (by kernel_rfl) (by kernel_rfl) (fun _ _ _ h => h) (Or.inl ⟨by rfl, by intro w hSw; (obtain ⟨kf, m0, m1, m2, m3, m4, m5, m6, m7⟩ := hSw; have x0 := kf.cell 0; have x1 := kf.cell 1; have x2 := kf.cell 2; have x3 := kf.cell 3; have x4 := kf.cell 4; have x5 := kf.cell 5; have x6 := kf.cell 6; have x7 := kf.cell 7; have x8 := kf.cell 8; have x9 := kf.cell 9; have x10 := kf.cell 10; have x11 := kf.cell 11; have x12 := kf.cell 12; have x13 := kf.cell 13; have x14 := kf.cell 14; simp at x0 x1 x2 x3 x4 x5 x6 x7 x8 x9 x10 x11 x12 x13 x14); go_simp; first | done | with_reducible rfl⟩) hHeld ?_
          change RestIn _ _ _ _ _ _ _ 22 #[true, true, true, true, true, true, false, false, false, false, false, false, false, false, false, false, false, false, false, false, false, false, false, false, false, false, false, false] _ _
          try simp only [Act.put, List.setIfInBounds_toArray, List.set_cons_zero, List.set_cons_succ, List.getElem_toArray, List.getElem_cons_zero, List.getElem_cons_succ]
          refine rest_take (i := 6) (v := _) all_wide (noDefers_of (by kernel_rfl)) rfl (by kernel_rfl) (by kernel_rfl) (by kernel_rfl) (fun _ _ _ h => h) (Or.inl ⟨by rfl, by intro w hSw; (obtain ⟨kf, m0, m1, m2, m3, m4, m5, m6, m7⟩ := hSw; have x0 := kf.cell 0; have x1 := kf.cell 1; have x2 := kf.cell 2; have x3 := kf.cell 3; have x4 := kf.cell 4; have x5 := kf.cell 5; have x6 := kf.cell 6; have x7 := kf.cell 7; have x8 := kf.cell 8; have x9 := kf.cell 9; have x10 := kf.cell 10; have x11 := kf.cell 11; have x12 := kf.cell 12; have x13 := kf.cell 13; have x14 := kf.cell 14; simp at x0 x1 x2 x3 x4 x5 x6 x7 x8 x9 x10 x11 x12 x13 x14); go_simp; first | done | with_reducible rfl⟩) hHeld ?_
          change RestIn _ _ _ _ _ _ _ 21 #[true, true, true, true, true, true, true, false, false, false, false, false, false, false, false, false, false, false, false, false, false, false, false, false, false, false, false, false] _ _
          try simp only [Act.put, List.setIfInBounds_toArray, List.set_cons_zero, List.set_cons_succ, List.getElem_toArray, List.getElem_cons_zero, List.getElem_cons_succ]
          refine rest_ready (rs := [7]) (by kernel_rfl) (by simp) ?_
          refine AllRest.cons rfl (fun K hK => ?_) AllRest.nil
          go_simp
          gi_wp2_with ((refine ⟨trivial, ?_⟩; gi_at_call 68; (with_reducible refine (callsIn_wide.2 (HN1.out _)).mono ?_); rintro e w1 ⟨rfl, hb1⟩))
          refine hK.out _ _ ?_ (fun hHeld' => ?_)
          · exact ⟨hHeld.1.below hb1 hHeld.1.lt, cell_after hb1 hHeld.2.1, cell_after hb1 hHeld.2.2.1, cell_after hb1 hHeld.2.2.2.1, cell_after hb1 hHeld.2.2.2.2.1, cell_after hb1 hHeld.2.2.2.2.2.1, cell_after hb1 hHeld.2.2.2.2.2.2.1, cell_after hb1 hHeld.2.2.2.2.2.2.2.1, cell_after hb1 hHeld.2.2.2.2.2.2.2.2⟩
          clear hK K
          change RestIn _ _ _ _ _ _ _ 20 #[true, true, true, true, true, true, true, true, false, false, false, false, false, false, false, false, false, false, false, false, false, false, false, false, false, false, false, false] _ _
          try simp only [Act.put, List.setIfInBounds_toArray, List.set_cons_zero, List.set_cons_succ, List.getElem_toArray, List.getElem_cons_zero, List.getElem_cons_succ]
          have hC := hC.trans (hb1.mono hC.size)
          clear hHeld
          have hHeld := hHeld'
          clear hHeld'
          refine rest_take (i := 8) (v := _) all_wide (noDefers_of (by kernel_rfl)) rfl (by kernel_rfl) (by kernel_rfl) (by kernel_rfl) (fun _ _ _ h => h) (Or.inl ⟨by rfl, by intro w hSw; (obtain ⟨kf, m0, m1, m2, m3, m4, m5, m6, m7⟩ := hSw; have x0 := kf.cell 0; have x1 := kf.cell 1; have x2 := kf.cell 2; have x3 := kf.cell 3; have x4 := kf.cell 4; have x5 := kf.cell 5; have x6 := kf.cell 6; have x7 := kf.cell 7; have x8 := kf.cell 8; have x9 := kf.cell 9; have x10 := kf.cell 10; have x11 := kf.cell 11; have x12 := kf.cell 12; have x13 := kf.cell 13; have x14 := kf.cell 14; simp at x0 x1 x2 x3 x4 x5 x6 x7 x8 x9 x10 x11 x12 x13 x14); go_simp; first | done | with_reducible rfl⟩) hHeld ?_
          change RestIn _ _ _ _ _ _ _ 19 #[true, true, true, true, true, true, true, true, true, false, false, false, false, false, false, false, false, false, false, false, false, false, false, false, false, false, false, false] _ _
          try simp only [Act.put, List.setIfInBounds_toArray, List.set_cons_zero, List.set_cons_succ, List.getElem_toArray, List.getElem_cons_zero, List.getElem_cons_succ]
          refine rest_take (i := 9) (v := _) all_wide (noDefers_of (by kernel_rfl)) rfl (by kernel_rfl) (by kernel_rfl) (by kernel_rfl) (fun _ _ _ h => h) (Or.inl ⟨by rfl, by intro w hSw; (obtain ⟨kf, m0, m1, m2, m3, m4, m5, m6, m7⟩ := hSw; have x0 := kf.cell 0; have x1 := kf.cell 1; have x2 := kf.cell 2; have x3 := kf.cell 3; have x4 := kf.cell 4; have x5 := kf.cell 5; have x6 := kf.cell 6; have x7 := kf.cell 7; have x8 := kf.cell 8; have x9 := kf.cell 9; have x10 := kf.cell 10; have x11 := kf.cell 11; have x12 := kf.cell 12; have x13 := kf.cell 13; have x14 := kf.cell 14; simp at x0 x1 x2 x3 x4 x5 x6 x7 x8 x9 x10 x11 x12 x13 x14); go_simp; first | done | with_reducible rfl⟩) hHeld ?_
          change RestIn _ _ _ _ _ _ _ 18 #[true, true, true, true, true, true, true, true, true, true, false, false, false, false, false, false, false, false, false, false, false, false, false, false, false, false, false, false] _ _
          try simp only [Act.put, List.setIfInBounds_toArray, List.set_cons_zero, List.set_cons_succ, List.getElem_toArray, List.getElem_cons_zero, List.getElem_cons_succ]
          refine rest_take (i := 10) (v := _) all_wide (noDefers_of (by kernel_rfl)) rfl (by kernel_rfl) (by kernel_rfl) (by kernel_rfl) (fun _ _ _ h => h) (Or.inl ⟨by rfl, by intro w hSw; (obtain ⟨kf, m0, m1, m2, m3, m4, m5, m6, m7⟩ := hSw; have x0 := kf.cell 0; have x1 := kf.cell 1; have x2 := kf.cell 2; have x3 := kf.cell 3; have x4 := kf.cell 4; have x5 := kf.cell 5; have x6 := kf.cell 6; have x7 := kf.cell 7; have x8 := kf.cell 8; have x9 := kf.cell 9; have x10 := kf.cell 10; have x11 := kf.cell 11; have x12 := kf.cell 12; have x13 := kf.cell 13; have x14 := kf.cell 14; simp at x0 x1 x2 x3 x4 x5 x6 x7 x8 x9 x10 x11 x12 x13 x14); go_simp; first | done | with_reducible rfl⟩) hHeld ?_
          change RestIn _ _ _ _ _ _ _ 17 #[true, true, true, true, true, true, true, true, true, true, true, false, false, false, false, false, false, false, false, false, false, false, false, false, false, false, false, false] _ _
          try simp only [Act.put, List.setIfInBounds_toArray, List.set_cons_zero, List.set_cons_succ, List.getElem_toArray, List.getElem_cons_zero, List.getElem_cons_succ]
          refine rest_take (i := 11) (v := _) all_wide (noDefers_of (by kernel_rfl)) rfl (by kernel_rfl) (by kernel_rfl) (by kernel_rfl) (fun _ _ _ h => h) (Or.inl ⟨by rfl, by intro w hSw; (obtain ⟨kf, m0, m1, m2, m3, m4, m5, m6, m7⟩ := hSw; have x0 := kf.cell 0; have x1 := kf.cell 1; have x2 := kf.cell 2; have x3 := kf.cell 3; have x4 := kf.cell 4; have x5 := kf.cell 5; have x6 := kf.cell 6; have x7 := kf.cell 7; have x8 := kf.cell 8; have x9 := kf.cell 9; have x10 := kf.cell 10; have x11 := kf.cell 11; have x12 := kf.cell 12; have x13 := kf.cell 13; have x14 := kf.cell 14; simp at x0 x1 x2 x3 x4 x5 x6 x7 x8 x9 x10 x11 x12 x13 x14); go_simp; first | done | with_reducible rfl⟩) hHeld ?_
          change RestIn _ _ _ _ _ _ _ 16 #[true, true, true, true, true, true, true, true, true, true, true, true, false, false, false, false, false, false, false, false, false, false, false, false, false, false, false, false] _ _
          try simp only [Act.put, List.setIfInBounds_toArray, List.set_cons_zero, List.set_cons_succ, List.getElem_toArray, List.getElem_cons_zero, List.getElem_cons_succ]
          refine rest_take (i := 12) (v := _) all_wide (noDefers_of (by kernel_rfl)) rfl (by kernel_rfl) (by kernel_rfl) (by kernel_rfl) (fun _ _ _ h => h) (Or.inl ⟨by rfl, by intro w hSw; (obtain ⟨kf, m0, m1, m2, m3, m4, m5, m6, m7⟩ := hSw; have x0 := kf.cell 0; have x1 := kf.cell 1; have x2 := kf.cell 2; have x3 := kf.cell 3; have x4 := kf.cell 4; have x5 := kf.cell 5; have x6 := kf.cell 6; have x7 := kf.cell 7; have x8 := kf.cell 8; have x9 := kf.cell 9; have x10 := kf.cell 10; have x11 := kf.cell 11; have x12 := kf.cell 12; have x13 := kf.cell 13; have x14 := kf.cell 14; simp at x0 x1 x2 x3 x4 x5 x6 x7 x8 x9 x10 x11 x12 x13 x14); go_simp; first | done | with_reducible rfl⟩) hHeld ?_
          change RestIn _ _ _ _ _ _ _ 15 #[true, true, true, true, true, true, true, true, true, true, true, true, true, false, false, false, false, false, false, false, false, false, false, false, false, false, false, false] _ _
          try simp only [Act.put, List.setIfInBounds_toArray, List.set_cons_zero, List.set_cons_succ, List.getElem_toArray, List.getElem_cons_zero, List.getElem_cons_succ]
          refine rest_take (i := 13) (v := _) all_wide (noDefers_of (by kernel_rfl)) rfl (by kernel_rfl) (by kernel_rfl) (by kernel_rfl) (fun _ _ _ h => h) (Or.inl ⟨by rfl, by intro w hSw; (obtain ⟨kf, m0, m1, m2, m3, m4, m5, m6, m7⟩ := hSw; have x0 := kf.cell 0; have x1 := kf.cell 1; have x2 := kf.cell 2; have x3 := kf.cell 3; have x4 := kf.cell 4; have x5 := kf.cell 5; have x6 := kf.cell 6; have x7 := kf.cell 7; have x8 := kf.cell 8; have x9 := kf.cell 9; have x10 := kf.cell 10; have x11 := kf.cell 11; have x12 := kf.cell 12; have x13 := kf.cell 13; have x14 := kf.cell 14; simp at x0 x1 x2 x3 x4 x5 x6 x7 x8 x9 x10 x11 x12 x13 x14); go_simp; first | done | with_reducible rfl⟩) hHeld ?_
          change RestIn _ _ _ _ _ _ _ 14 #[true, true, true, true, true, true, true, true, true, true, true, true, true, true, false, false, false, false, false, false, false, false, false, false, false, false, false, false] _ _
          try simp only [Act.put, List.setIfInBounds_toArray, List.set_cons_zero, List.set_cons_succ, List.getElem_toArray, List.getElem_cons_zero, List.getElem_cons_succ]
          refine rest_take (i := 14) (v := _) all_wide (noDefers_of (by kernel_rfl)) rfl (by kernel_rfl) (by kernel_rfl) (by kernel_rfl) (fun _ _ _ h => h) (Or.inl ⟨by rfl, by intro w hSw; (obtain ⟨kf, m0, m1, m2, m3, m4, m5, m6, m7⟩ := hSw; have x0 := kf.cell 0; have x1 := kf.cell 1; have x2 := kf.cell 2; have x3 := kf.cell 3; have x4 := kf.cell 4; have x5 := kf.cell 5; have x6 := kf.cell 6; have x7 := kf.cell 7; have x8 := kf.cell 8; have x9 := kf.cell 9; have x10 := kf.cell 10; have x11 := kf.cell 11; have x12 := kf.cell 12; have x13 := kf.cell 13; have x14 := kf.cell 14; simp at x0 x1 x2 x3 x4 x5 x6 x7 x8 x9 x10 x11 x12 x13 x14); go_simp; first | done | with_reducible rfl⟩) hHeld ?_
          change RestIn _ _ _ _ _ _ _ 13 #[true, true, true, true, true, true, true, true, true, true, true, true, true, true, true, false, false, false, false, false, false, false, false, false, false, false, false, false] _ _
          try simp only [Act.put, List.setIfInBounds_toArray, List.set_cons_zero, List.set_cons_succ, List.getElem_toArray, List.getElem_cons_zero, List.getElem_cons_succ]
          refine rest_take (i := 15) (v := _) all_wide (noDefers_of (by kernel_rfl)) rfl (by kernel_rfl) (by kernel_rfl) (by kernel_rfl) (fun _ _ _ h => h) (Or.inl ⟨by rfl, by intro w hSw; (obtain ⟨kf, m0, m1, m2, m3, m4, m5, m6, m7⟩ := hSw; have x0 := kf.cell 0; have x1 := kf.cell 1; have x2 := kf.cell 2; have x3 := kf.cell 3; have x4 := kf.cell 4; have x5 := kf.cell 5; have x6 := kf.cell 6; have x7 := kf.cell 7; have x8 := kf.cell 8; have x9 := kf.cell 9; have x10 := kf.cell 10; have x11 := kf.cell 11; have x12 := kf.cell 12; have x13 := kf.cell 13; have x14 := kf.cell 14; simp at x0 x1 x2 x3 x4 x5 x6 x7 x8 x9 x10 x11 x12 x13 x14); go_simp; first | done | with_reducible rfl⟩) hHeld ?_
          change RestIn _ _ _ _ _ _ _ 12 #[true, true, true, true, true, true, true, true, true, true, true, true, true, true, true, true, false, false, false, false, false, false, false, false, false, false, false, false] _ _
          try simp only [Act.put, List.setIfInBounds_toArray, List.set_cons_zero, List.set_cons_succ, List.getElem_toArray, List.getElem_cons_zero, List.getElem_cons_succ]
          refine rest_ready (rs := [16]) (by kernel_rfl) (by simp) ?_
          refine AllRest.cons rfl (fun K hK => ?_) AllRest.nil
          go_simp
          gi_wp2_with ((refine ⟨trivial, ?_⟩; gi_at_call 68; (with_reducible refine (callsIn_wide.2 (HN2.out _)).mono ?_); rintro e w2 ⟨rfl, hb2⟩))
          refine hK.out _ _ ?_ (fun hHeld' => ?_)
          · exact ⟨hHeld.1.below hb2 hHeld.1.lt, cell_after hb2 hHeld.2.1, cell_after hb2 hHeld.2.2.1, cell_after hb2 hHeld.2.2.2.1, cell_after hb2 hHeld.2.2.2.2.1, cell_after hb2 hHeld.2.2.2.2.2.1, cell_after hb2 hHeld.2.2.2.2.2.2.1, cell_after hb2 hHeld.2.2.2.2.2.2.2.1, cell_after hb2 hHeld.2.2.2.2.2.2.2.2⟩
          clear hK K
          change RestIn _ _ _ _ _ _ _ 11 #[true, true, true, true, true, true, true, true, true, true, true, true, true, true, true, true, true, false, false, false, false, false, false, false, false, false, false, false] _ _
          try simp only [Act.put, List.setIfInBounds_toArray, List.set_cons_zero, List.set_cons_succ, List.getElem_toArray, List.getElem_cons_zero, List.getElem_cons_succ]
          have hC := hC.trans (hb2.mono hC.size)
          clear hHeld
          have hHeld := hHeld'
          clear hHeld'
          refine rest_take (i := 17) (v := _) all_wide (noDefers_of (by kernel_rfl)) rfl (by kernel_rfl) (by kernel_rfl) (by kernel_rfl) (fun _ _ _ h => h) (Or.inl ⟨by rfl, by intro w hSw; (obtain ⟨kf, m0, m1, m2, m3, m4, m5, m6, m7⟩ := hSw; have x0 := kf.cell 0; have x1 := kf.cell 1; have x2 := kf.cell 2; have x3 := kf.cell 3; have x4 := kf.cell 4; have x5 := kf.cell 5; have x6 := kf.cell 6; have x7 := kf.cell 7; have x8 := kf.cell 8; have x9 := kf.cell 9; have x10 := kf.cell 10; have x11 := kf.cell 11; have x12 := kf.cell 12; have x13 := kf.cell 13; have x14 := kf.cell 14; simp at x0 x1 x2 x3 x4 x5 x6 x7 x8 x9 x10 x11 x12 x13 x14); go_simp; first | done | with_reducible rfl⟩) hHeld ?_
          change RestIn _ _ _ _ _ _ _ 10 #[true, true, true, true, true, true, true, true, true, true, true, true, true, true, true, true, true, true, false, false, false, false, false, false, false, false, false, false] _ _
          try simp only [Act.put, List.setIfInBounds_toArray, List.set_cons_zero, List.set_cons_succ, List.getElem_toArray, List.getElem_cons_zero, List.getElem_cons_succ]
          refine rest_take (i := 18) (v := _) all_wide (noDefers_of (by kernel_rfl)) rfl (by kernel_rfl) (by kernel_rfl) (by kernel_rfl) (fun _ _ _ h => h) (Or.inl ⟨by rfl, by intro w hSw; (obtain ⟨kf, m0, m1, m2, m3, m4, m5, m6, m7⟩ := hSw; have x0 := kf.cell 0; have x1 := kf.cell 1; have x2 := kf.cell 2; have x3 := kf.cell 3; have x4 := kf.cell 4; have x5 := kf.cell 5; have x6 := kf.cell 6; have x7 := kf.cell 7; have x8 := kf.cell 8; have x9 := kf.cell 9; have x10 := kf.cell 10; have x11 := kf.cell 11; have x12 := kf.cell 12; have x13 := kf.cell 13; have x14 := kf.cell 14; simp at x0 x1 x2 x3 x4 x5 x6 x7 x8 x9 x10 x11 x12 x13 x14); go_simp; first | done | with_reducible rfl⟩) hHeld ?_
          change RestIn _ _ _ _ _ _ _ 9 #[true, true, true, true, true, true, true, true, true, true, true, true, true, true, true, true, true, true, true, false, false, false, false, false, false, false, false, false] _ _
          try simp only [Act.put, List.setIfInBounds_toArray, List.set_cons_zero, List.set_cons_succ, List.getElem_toArray, List.getElem_cons_zero, List.getElem_cons_succ]
          refine rest_take (i := 19) (v := _) all_wide (noDefers_of (by kernel_rfl)) rfl (by kernel_rfl) (by kernel_rfl) (by kernel_rfl) (fun _ _ _ h => h) (Or.inl ⟨by rfl, by intro w hSw; (obtain ⟨kf, m0, m1, m2, m3, m4, m5, m6, m7⟩ := hSw; have x0 := kf.cell 0; have x1 := kf.cell 1; have x2 := kf.cell 2; have x3 := kf.cell 3; have x4 := kf.cell 4; have x5 := kf.cell 5; have x6 := kf.cell 6; have x7 := kf.cell 7; have x8 := kf.cell 8; have x9 := kf.cell 9; have x10 := kf.cell 10; have x11 := kf.cell 11; have x12 := kf.cell 12; have x13 := kf.cell 13; have x14 := kf.cell 14; simp at x0 x1 x2 x3 x4 x5 x6 x7 x8 x9 x10 x11 x12 x13 x14); go_simp; first | done | with_reducible rfl⟩) hHeld ?_
          change RestIn _ _ _ _ _ _ _ 8 #[true, true, true, true, true, true, true, true, true, true, true, true, true, true, true, true, true, true, true, true, false, false, false, false, false, false, false, false] _ _
          try simp only [Act.put, List.setIfInBounds_toArray, List.set_cons_zero, List.set_cons_succ, List.getElem_toArray, List.getElem_cons_zero, List.getElem_cons_succ]
          refine rest_take (i := 20) (v := _) all_wide (noDefers_of (by kernel_rfl)) rfl (by kernel_rfl) (by kernel_rfl) (by kernel_rfl) (fun _ _ _ h => h) (Or.inl ⟨by rfl, by intro w hSw; (obtain ⟨kf, m0, m1, m2, m3, m4, m5, m6, m7⟩ := hSw; have x0 := kf.cell 0; have x1 := kf.cell 1; have x2 := kf.cell 2; have x3 := kf.cell 3; have x4 := kf.cell 4; have x5 := kf.cell 5; have x6 := kf.cell 6; have x7 := kf.cell 7; have x8 := kf.cell 8; have x9 := kf.cell 9; have x10 := kf.cell 10; have x11 := kf.cell 11; have x12 := kf.cell 12; have x13 := kf.cell 13; have x14 := kf.cell 14; simp at x0 x1 x2 x3 x4 x5 x6 x7 x8 x9 x10 x11 x12 x13 x14); go_simp; first | done | with_reducible rfl⟩) hHeld ?_
          change RestIn _ _ _ _ _ _ _ 7 #[true, true, true, true, true, true, true, true, true, true, true, true, true, true, true, true, true, true, true, true, true, false, false, false, false, false, false, false] _ _
          try simp only [Act.put, List.setIfInBounds_toArray, List.set_cons_zero, List.set_cons_succ, List.getElem_toArray, List.getElem_cons_zero, List.getElem_cons_succ]
          refine rest_take (i := 22) (v := _) all_wide (noDefers_of (by kernel_rfl)) rfl (by kernel_rfl) (by kernel_rfl) (by kernel_rfl) (fun _ _ _ h => h) (Or.inl ⟨by rfl, by intro w hSw; (obtain ⟨kf, m0, m1, m2, m3, m4, m5, m6, m7⟩ := hSw; have x0 := kf.cell 0; have x1 := kf.cell 1; have x2 := kf.cell 2; have x3 := kf.cell 3; have x4 := kf.cell 4; have x5 := kf.cell 5; have x6 := kf.cell 6; have x7 := kf.cell 7; have x8 := kf.cell 8; have x9 := kf.cell 9; have x10 := kf.cell 10; have x11 := kf.cell 11; have x12 := kf.cell 12; have x13 := kf.cell 13; have x14 := kf.cell 14; simp at x0 x1 x2 x3 x4 x5 x6 x7 x8 x9 x10 x11 x12 x13 x14); go_simp; first | done | with_reducible rfl⟩) hHeld ?_
          change RestIn _ _ _ _ _ _ _ 6 #[true, true, true, true, true, true, true, true, true, true, true, true, true, true, true, true, true, true, true, true, true, false, true, false, false, false, false, false] _ _
          try simp only [Act.put, List.setIfInBounds_toArray, List.set_cons_zero, List.set_cons_succ, List.getElem_toArray, List.getElem_cons_zero, List.getElem_cons_succ]
          refine rest_take (i := 23) (v := _) all_wide (noDefers_of (by kernel_rfl)) rfl (by kernel_rfl) (by kernel_rfl) (by kernel_rfl) (fun _ _ _ h => h) (Or.inl ⟨by rfl, by intro w hSw; (obtain ⟨kf, m0, m1, m2, m3, m4, m5, m6, m7⟩ := hSw; have x0 := kf.cell 0; have x1 := kf.cell 1; have x2 := kf.cell 2; have x3 := kf.cell 3; have x4 := kf.cell 4; have x5 := kf.cell 5; have x6 := kf.cell 6; have x7 := kf.cell 7; have x8 := kf.cell 8; have x9 := kf.cell 9; have x10 := kf.cell 10; have x11 := kf.cell 11; have x12 := kf.cell 12; have x13 := kf.cell 13; have x14 := kf.cell 14; simp at x0 x1 x2 x3 x4 x5 x6 x7 x8 x9 x10 x11 x12 x13 x14); go_simp; first | done | with_reducible rfl⟩) hHeld ?_
          change RestIn _ _ _ _ _ _ _ 5 #[true, true, true, true, true, true, true, true, true, true, true, true, true, true, true, true, true, true, true, true, true, false, true, true, false, false, false, false] _ _
          try simp only [Act.put, List.setIfInBounds_toArray, List.set_cons_zero, List.set_cons_succ, List.getElem_toArray, List.getElem_cons_zero, List.getElem_cons_succ]
          refine rest_take (i := 24) (v := _) all_wide (noDefers_of (by kernel_rfl)) rfl (by kernel_rfl) (by kernel_rfl) (by kernel_rfl) (fun _ _ _ h => h) (Or.inl ⟨by rfl, by intro w hSw; (obtain ⟨kf, m0, m1, m2, m3, m4, m5, m6, m7⟩ := hSw; have x0 := kf.cell 0; have x1 := kf.cell 1; have x2 := kf.cell 2; have x3 := kf.cell 3; have x4 := kf.cell 4; have x5 := kf.cell 5; have x6 := kf.cell 6; have x7 := kf.cell 7; have x8 := kf.cell 8; have x9 := kf.cell 9; have x10 := kf.cell 10; have x11 := kf.cell 11; have x12 := kf.cell 12; have x13 := kf.cell 13; have x14 := kf.cell 14; simp at x0 x1 x2 x3 x4 x5 x6 x7 x8 x9 x10 x11 x12 x13 x14); go_simp; first | done | with_reducible rfl⟩) hHeld ?_
          change RestIn _ _ _ _ _ _ _ 4 #[true, true, true, true, true, true, true, true, true, true, true, true, true, true, true, true, true, true, true, true, true, false, true, true, true, false, false, false] _ _
          try simp only [Act.put, List.setIfInBounds_toArray, List.set_cons_zero, List.set_cons_succ, List.getElem_toArray, List.getElem_cons_zero, List.getElem_cons_succ]
          refine rest_ready (rs := [21]) (by kernel_rfl) (by simp) ?_
          refine AllRest.cons rfl (fun K hK => ?_) AllRest.nil
          go_simp
          gi_wp2_with ((refine ⟨trivial, ?_⟩; gi_at_call 26; (with_reducible refine (callsIn_wide.2 (HLOAD.out _)).mono ?_); rintro e w3 ⟨rfl, hb3⟩))
          refine hK.out _ _ ?_ (fun hHeld' => ?_)
          · exact ⟨hHeld.1.below hb3 hHeld.1.lt, cell_after hb3 hHeld.2.1, cell_after hb3 hHeld.2.2.1, cell_after hb3 hHeld.2.2.2.1, cell_after hb3 hHeld.2.2.2.2.1, cell_after hb3 hHeld.2.2.2.2.2.1, cell_after hb3 hHeld.2.2.2.2.2.2.1, cell_after hb3 hHeld.2.2.2.2.2.2.2.1, cell_after hb3 hHeld.2.2.2.2.2.2.2.2⟩
          clear hK K
          change RestIn _ _ _ _ _ _ _ 3 #[true, true, true, true, true, true, true, true, true, true, true, true, true, true, true, true, true, true, true, true, true, true, true, true, true, false, false, false] _ _
          try simp only [Act.put, List.setIfInBounds_toArray, List.set_cons_zero, List.set_cons_succ, List.getElem_toArray, List.getElem_cons_zero, List.getElem_cons_succ]
          have hC := hC.trans (hb3.mono hC.size)
          clear hHeld
          have hHeld := hHeld'
          clear hHeld'
          refine rest_take (i := 25) (v := _) all_wide (noDefers_of (by kernel_rfl)) rfl (by kernel_rfl) (by kernel_rfl) (by kernel_rfl) (fun _ _ _ h => h) (Or.inl ⟨by rfl, by intro w hSw; (obtain ⟨kf, m0, m1, m2, m3, m4, m5, m6, m7⟩ := hSw; have x0 := kf.cell 0; have x1 := kf.cell 1; have x2 := kf.cell 2; have x3 := kf.cell 3; have x4 := kf.cell 4; have x5 := kf.cell 5; have x6 := kf.cell 6; have x7 := kf.cell 7; have x8 := kf.cell 8; have x9 := kf.cell 9; have x10 := kf.cell 10; have x11 := kf.cell 11; have x12 := kf.cell 12; have x13 := kf.cell 13; have x14 := kf.cell 14; simp at x0 x1 x2 x3 x4 x5 x6 x7 x8 x9 x10 x11 x12 x13 x14); go_simp; first | done | with_reducible rfl⟩) hHeld ?_
          change RestIn _ _ _ _ _ _ _ 2 #[true, true, true, true, true, true, true, true, true, true, true, true, true, true, true, true, true, true, true, true, true, true, true, true, true, true, false, false] _ _
          try simp only [Act.put, List.setIfInBounds_toArray, List.set_cons_zero, List.set_cons_succ, List.getElem_toArray, List.getElem_cons_zero, List.getElem_cons_succ]
          refine rest_take (i := 26) (v := _) all_wide (noDefers_of (by kernel_rfl)) rfl (by kernel_rfl) (by kernel_rfl) (by kernel_rfl) (fun _ _ _ h => h) (Or.inl ⟨by rfl, by intro w hSw; (obtain ⟨kf, m0, m1, m2, m3, m4, m5, m6, m7⟩ := hSw; have x0 := kf.cell 0; have x1 := kf.cell 1; have x2 := kf.cell 2; have x3 := kf.cell 3; have x4 := kf.cell 4; have x5 := kf.cell 5; have x6 := kf.cell 6; have x7 := kf.cell 7; have x8 := kf.cell 8; have x9 := kf.cell 9; have x10 := kf.cell 10; have x11 := kf.cell 11; have x12 := kf.cell 12; have x13 := kf.cell 13; have x14 := kf.cell 14; simp at x0 x1 x2 x3 x4 x5 x6 x7 x8 x9 x10 x11 x12 x13 x14); go_simp; first | done | with_reducible rfl⟩) hHeld ?_
          change RestIn _ _ _ _ _ _ _ 1 #[true, true, true, true, true, true, true, true, true, true, true, true, true, true, true, true, true, true, true, true, true, true, true, true, true, true, true, false] _ _
          try simp only [Act.put, List.setIfInBounds_toArray, List.set_cons_zero, List.set_cons_succ, List.getElem_toArray, List.getElem_cons_zero, List.getElem_cons_succ]
          refine rest_take (i := 27) (v := _) all_wide (noDefers_of (by kernel_rfl)) rfl (by kernel_rfl) (by kernel_rfl) (by kernel_rfl) (fun _ _ _ h => h) (Or.inl ⟨by rfl, by intro w hSw; (obtain ⟨kf, m0, m1, m2, m3, m4, m5, m6, m7⟩ := hSw; have x0 := kf.cell 0; have x1 := kf.cell 1; have x2 := kf.cell 2; have x3 := kf.cell 3; have x4 := kf.cell 4; have x5 := kf.cell 5; have x6 := kf.cell 6; have x7 := kf.cell 7; have x8 := kf.cell 8; have x9 := kf.cell 9; have x10 := kf.cell 10; have x11 := kf.cell 11; have x12 := kf.cell 12; have x13 := kf.cell 13; have x14 := kf.cell 14; simp at x0 x1 x2 x3 x4 x5 x6 x7 x8 x9 x10 x11 x12 x13 x14); go_simp; first | done | with_reducible rfl⟩) hHeld ?_
          change RestIn _ _ _ _ _ _ _ 0 #[true, true, true, true, true, true, true, true, true, true, true, true, true, true, true, true, true, true, true, true, true, true, true, true, true, true, true, true] _ _
          try simp only [Act.put, List.setIfInBounds_toArray, List.set_cons_zero, List.set_cons_succ, List.getElem_toArray, List.getElem_cons_zero, List.getElem_cons_succ]
          refine rest_done (by kernel_rfl) ?_
          go_wp2
          go_ret
          exact ⟨ret_bool (by first | exact HR.out.symm | (rw [HR.out]; exact decide_eq_false (by omega))), hC⟩
        · have HR : Hid (f.sure r t = false) := by show _ = _; rw [HS.out]; simp [h3]
          clear HS
          go_upto_region 5 with fail
          refine (wpIn_wide (n := 9)).1 ?_
          refine region_rest (S := (fun w' => Blk w' w.heap.size 32 #[.int .i64 f.fly.pos.x.lo, .int .i64 f.fly.pos.x.hi, .int .i64 f.fly.pos.z.lo, .int .i64 f.fly.pos.z.hi, .int .i64 f.fly.speed.x.lo, .int .i64 f.fly.speed.x.hi, .int .i64 f.fly.speed.z.lo, .int .i64 f.fly.speed.z.hi, .int .i64 f.fly.mass, .slice (some ⟨qb, off, none⟩) f.cycle.length c, .int .i64 f.reach, .int .i64 f.soft, .int .i64 f.bears, .int .i64 f.least, .int .i64 f.most] ∧ w'.cell? ⟨g, 0, none⟩ = some (.int .i64 b.x.lo) ∧ w'.cell? ⟨g, 1, none⟩ = some (.int .i64 b.x.hi) ∧ w'.cell? ⟨g, 2, none⟩ = some (.int .i64 b.z.lo) ∧ w'.cell? ⟨g, 3, none⟩ = some (.int .i64 b.z.hi) ∧ w'.cell? ⟨h2, 0, none⟩ = some (.int .i64 h.x.lo) ∧ w'.cell? ⟨h2, 1, none⟩ = some (.int .i64 h.x.hi) ∧ w'.cell? ⟨h2, 2, none⟩ = some (.int .i64 h.z.lo) ∧ w'.cell? ⟨h2, 3, none⟩ = some (.int .i64 h.z.hi))) hmx ?_ (fun hHeld => ?_)
          · exact ⟨kF2.drew, p0, p1, p2, p3, r0, r1, r2, r3⟩
          change RestIn _ _ _ _ _ _ _ 28 #[false, false, false, false, false, false, false, false, false, false, false, false, false, false, false, false, false, false, false, false, false, false, false, false, false, false, false, false] _ (World.drew _)
          refine rest_take (i := 0) (v := _) all_wide (noDefers_of (by kernel_rfl)) rfl (by kernel_rfl) (by kernel_rfl) (by kernel_rfl) (fun _ _ _ h => h) (Or.inl ⟨by rfl, by intro w hSw; (obtain ⟨kf, m0, m1, m2, m3, m4, m5, m6, m7⟩ := hSw; have x0 := kf.cell 0; have x1 := kf.cell 1; have x2 := kf.cell 2; have x3 := kf.cell 3; have x4 := kf.cell 4; have x5 := kf.cell 5; have x6 := kf.cell 6; have x7 := kf.cell 7; have x8 := kf.cell 8; have x9 := kf.cell 9; have x10 := kf.cell 10; have x11 := kf.cell 11; have x12 := kf.cell 12; have x13 := kf.cell 13; have x14 := kf.cell 14; simp at x0 x1 x2 x3 x4 x5 x6 x7 x8 x9 x10 x11 x12 x13 x14); go_simp; first | done | with_reducible rfl⟩) hHeld ?_
          change RestIn _ _ _ _ _ _ _ 27 #[true, false, false, false, false, false, false, false, false, false, false, false, false, false, false, false, false, false, false, false, false, false, false, false, false, false, false, false] _ _
          try simp only [Act.put, List.setIfInBounds_toArray, List.set_cons_zero, List.set_cons_succ, List.getElem_toArray, List.getElem_cons_zero, List.getElem_cons_succ]
          refine rest_take (i := 1) (v := _) all_wide (noDefers_of (by kernel_rfl)) rfl (by kernel_rfl) (by kernel_rfl) (by kernel_rfl) (fun _ _ _ h => h) (Or.inl ⟨by rfl, by intro w hSw; (obtain ⟨kf, m0, m1, m2, m3, m4, m5, m6, m7⟩ := hSw; have x0 := kf.cell 0; have x1 := kf.cell 1; have x2 := kf.cell 2; have x3 := kf.cell 3; have x4 := kf.cell 4; have x5 := kf.cell 5; have x6 := kf.cell 6; have x7 := kf.cell 7; have x8 := kf.cell 8; have x9 := kf.cell 9; have x10 := kf.cell 10; have x11 := kf.cell 11; have x12 := kf.cell 12; have x13 := kf.cell 13; have x14 := kf.cell 14; simp at x0 x1 x2 x3 x4 x5 x6 x7 x8 x9 x10 x11 x12 x13 x14); go_simp; first | done | with_reducible rfl⟩) hHeld ?_
          change RestIn _ _ _ _ _ _ _ 26 #[true, true, false, false, false, false, false, false, false, false, false, false, false, false, false, false, false, false, false, false, false, false, false, false, false, false, false, false] _ _
          try simp only [Act.put, List.setIfInBounds_toArray, List.set_cons_zero, List.set_cons_succ, List.getElem_toArray, List.getElem_cons_zero, List.getElem_cons_succ]
          refine rest_take (i := 2) (v := _) all_wide (noDefers_of (by kernel_rfl)) rfl (by kernel_rfl) (by kernel_rfl) (by kernel_rfl) (fun _ _ _ h => h) (Or.inl ⟨by rfl, by intro w hSw; (obtain ⟨kf, m0, m1, m2, m3, m4, m5, m6, m7⟩ := hSw; have x0 := kf.cell 0; have x1 := kf.cell 1; have x2 := kf.cell 2; have x3 := kf.cell 3; have x4 := kf.cell 4; have x5 := kf.cell 5; have x6 := kf.cell 6; have x7 := kf.cell 7; have x8 := kf.cell 8; have x9 := kf.cell 9; have x10 := kf.cell 10; have x11 := kf.cell 11; have x12 := kf.cell 12; have x13 := kf.cell 13; have x14 := kf.cell 14; simp at x0 x1 x2 x3 x4 x5 x6 x7 x8 x9 x10 x11 x12 x13 x14); go_simp; first | done | with_reducible rfl⟩) hHeld ?_
          change RestIn _ _ _ _ _ _ _ 25 #[true, true, true, false, false, false, false, false, false, false, false, false, false, false, false, false, false, false, false, false, false, false, false, false, false, false, false, false] _ _
          try simp only [Act.put, List.setIfInBounds_toArray, List.set_cons_zero, List.set_cons_succ, List.getElem_toArray, List.getElem_cons_zero, List.getElem_cons_succ]
          refine rest_take (i := 3) (v := _) all_wide (noDefers_of (by kernel_rfl)) rfl (by kernel_rfl) (by kernel_rfl) (by kernel_rfl) (fun _ _ _ h => h) (Or.inl ⟨by rfl, by intro w hSw; (obtain ⟨kf, m0, m1, m2, m3, m4, m5, m6, m7⟩ := hSw; have x0 := kf.cell 0; have x1 := kf.cell 1; have x2 := kf.cell 2; have x3 := kf.cell 3; have x4 := kf.cell 4; have x5 := kf.cell 5; have x6 := kf.cell 6; have x7 := kf.cell 7; have x8 := kf.cell 8; have x9 := kf.cell 9; have x10 := kf.cell 10; have x11 := kf.cell 11; have x12 := kf.cell 12; have x13 := kf.cell 13; have x14 := kf.cell 14; simp at x0 x1 x2 x3 x4 x5 x6 x7 x8 x9 x10 x11 x12 x13 x14); go_simp; first | done | with_reducible rfl⟩) hHeld ?_
          change RestIn _ _ _ _ _ _ _ 24 #[true, true, true, true, false, false, false, false, false, false, false, false, false, false, false, false, false, false, false, false, false, false, false, false, false, false, false, false] _ _
          try simp only [Act.put, List.setIfInBounds_toArray, List.set_cons_zero, List.set_cons_succ, List.getElem_toArray, List.getElem_cons_zero, List.getElem_cons_succ]
          refine rest_take (i := 4) (v := _) all_wide (noDefers_of (by kernel_rfl)) rfl (by kernel_rfl) (by kernel_rfl) (by kernel_rfl) (fun _ _ _ h => h) (Or.inl ⟨by rfl, by intro w hSw; (obtain ⟨kf, m0, m1, m2, m3, m4, m5, m6, m7⟩ := hSw; have x0 := kf.cell 0; have x1 := kf.cell 1; have x2 := kf.cell 2; have x3 := kf.cell 3; have x4 := kf.cell 4; have x5 := kf.cell 5; have x6 := kf.cell 6; have x7 := kf.cell 7; have x8 := kf.cell 8; have x9 := kf.cell 9; have x10 := kf.cell 10; have x11 := kf.cell 11; have x12 := kf.cell 12; have x13 := kf.cell 13; have x14 := kf.cell 14; simp at x0 x1 x2 x3 x4 x5 x6 x7 x8 x9 x10 x11 x12 x13 x14); go_simp; first | done | with_reducible rfl⟩) hHeld ?_
          change RestIn _ _ _ _ _ _ _ 23 #[true, true, true, true, true, false, false, false, false, false, false, false, false, false, false, false, false, false, false, false, false, false, false, false, false, false, false, false] _ _
          try simp only [Act.put, List.setIfInBounds_toArray, List.set_cons_zero, List.set_cons_succ, List.getElem_toArray, List.getElem_cons_zero, List.getElem_cons_succ]
          refine rest_take (i := 5) (v := _) all_wide (noDefers_of (by kernel_rfl)) rfl (by kernel_rfl) (by kernel_rfl) (by kernel_rfl) (fun _ _ _ h => h) (Or.inl ⟨by rfl, by intro w hSw; (obtain ⟨kf, m0, m1, m2, m3, m4, m5, m6, m7⟩ := hSw; have x0 := kf.cell 0; have x1 := kf.cell 1; have x2 := kf.cell 2; have x3 := kf.cell 3; have x4 := kf.cell 4; have x5 := kf.cell 5; have x6 := kf.cell 6; have x7 := kf.cell 7; have x8 := kf.cell 8; have x9 := kf.cell 9; have x10 := kf.cell 10; have x11 := kf.cell 11; have x12 := kf.cell 12; have x13 := kf.cell 13; have x14 := kf.cell 14; simp at x0 x1 x2 x3 x4 x5 x6 x7 x8 x9 x10 x11 x12 x13 x14); go_simp; first | done | with_reducible rfl⟩) hHeld ?_
          change RestIn _ _ _ _ _ _ _ 22 #[true, true, true, true, true, true, false, false, false, false, false, false, false, false, false, false, false, false, false, false, false, false, false, false, false, false, false, false] _ _
          try simp only [Act.put, List.setIfInBounds_toArray, List.set_cons_zero, List.set_cons_succ, List.getElem_toArray, List.getElem_cons_zero, List.getElem_cons_succ]
          refine rest_take (i := 6) (v := _) all_wide (noDefers_of (by kernel_rfl)) rfl (by kernel_rfl) (by kernel_rfl) (by kernel_rfl) (fun _ _ _ h => h) (Or.inl ⟨by rfl, by intro w hSw; (obtain ⟨kf, m0, m1, m2, m3, m4, m5, m6, m7⟩ := hSw; have x0 := kf.cell 0; have x1 := kf.cell 1; have x2 := kf.cell 2; have x3 := kf.cell 3; have x4 := kf.cell 4; have x5 := kf.cell 5; have x6 := kf.cell 6; have x7 := kf.cell 7; have x8 := kf.cell 8; have x9 := kf.cell 9; have x10 := kf.cell 10; have x11 := kf.cell 11; have x12 := kf.cell 12; have x13 := kf.cell 13; have x14 := kf.cell 14; simp at x0 x1 x2 x3 x4 x5 x6 x7 x8 x9 x10 x11 x12 x13 x14); go_simp; first | done | with_reducible rfl⟩) hHeld ?_
          change RestIn _ _ _ _ _ _ _ 21 #[true, true, true, true, true, true, true, false, false, false, false, false, false, false, false, false, false, false, false, false, false, false, false, false, false, false, false, false] _ _
          try simp only [Act.put, List.setIfInBounds_toArray, List.set_cons_zero, List.set_cons_succ, List.getElem_toArray, List.getElem_cons_zero, List.getElem_cons_succ]
          refine rest_ready (rs := [7]) (by kernel_rfl) (by simp) ?_
          refine AllRest.cons rfl (fun K hK => ?_) AllRest.nil
          go_simp
          gi_wp2_with ((refine ⟨trivial, ?_⟩; gi_at_call 68; (with_reducible refine (callsIn_wide.2 (HN1.out _)).mono ?_); rintro e w1 ⟨rfl, hb1⟩))
          refine hK.out _ _ ?_ (fun hHeld' => ?_)
          · exact ⟨hHeld.1.below hb1 hHeld.1.lt, cell_after hb1 hHeld.2.1, cell_after hb1 hHeld.2.2.1, cell_after hb1 hHeld.2.2.2.1, cell_after hb1 hHeld.2.2.2.2.1, cell_after hb1 hHeld.2.2.2.2.2.1, cell_after hb1 hHeld.2.2.2.2.2.2.1, cell_after hb1 hHeld.2.2.2.2.2.2.2.1, cell_after hb1 hHeld.2.2.2.2.2.2.2.2⟩
          clear hK K
          change RestIn _ _ _ _ _ _ _ 20 #[true, true, true, true, true, true, true, true, false, false, false, false, false, false, false, false, false, false, false, false, false, false, false, false, false, false, false, false] _ _
          try simp only [Act.put, List.setIfInBounds_toArray, List.set_cons_zero, List.set_cons_succ, List.getElem_toArray, List.getElem_cons_zero, List.getElem_cons_succ]
          have hC := hC.trans (hb1.mono hC.size)
          clear hHeld
          have hHeld := hHeld'
          clear hHeld'
          refine rest_take (i := 8) (v := _) all_wide (noDefers_of (by kernel_rfl)) rfl (by kernel_rfl) (by kernel_rfl) (by kernel_rfl) (fun _ _ _ h => h) (Or.inl ⟨by rfl, by intro w hSw; (obtain ⟨kf, m0, m1, m2, m3, m4, m5, m6, m7⟩ := hSw; have x0 := kf.cell 0; have x1 := kf.cell 1; have x2 := kf.cell 2; have x3 := kf.cell 3; have x4 := kf.cell 4; have x5 := kf.cell 5; have x6 := kf.cell 6; have x7 := kf.cell 7; have x8 := kf.cell 8; have x9 := kf.cell 9; have x10 := kf.cell 10; have x11 := kf.cell 11; have x12 := kf.cell 12; have x13 := kf.cell 13; have x14 := kf.cell 14; simp at x0 x1 x2 x3 x4 x5 x6 x7 x8 x9 x10 x11 x12 x13 x14); go_simp; first | done | with_reducible rfl⟩) hHeld ?_
          change RestIn _ _ _ _ _ _ _ 19 #[true, true, true, true, true, true, true, true, true, false, false, false, false, false, false, false, false, false, false, false, false, false, false, false, false, false, false, false] _ _
          try simp only [Act.put, List.setIfInBounds_toArray, List.set_cons_zero, List.set_cons_succ, List.getElem_toArray, List.getElem_cons_zero, List.getElem_cons_succ]
          refine rest_take (i := 9) (v := _) all_wide (noDefers_of (by kernel_rfl)) rfl (by kernel_rfl) (by kernel_rfl) (by kernel_rfl) (fun _ _ _ h => h) (Or.inl ⟨by rfl, by intro w hSw; (obtain ⟨kf, m0, m1, m2, m3, m4, m5, m6, m7⟩ := hSw; have x0 := kf.cell 0; have x1 := kf.cell 1; have x2 := kf.cell 2; have x3 := kf.cell 3; have x4 := kf.cell 4; have x5 := kf.cell 5; have x6 := kf.cell 6; have x7 := kf.cell 7; have x8 := kf.cell 8; have x9 := kf.cell 9; have x10 := kf.cell 10; have x11 := kf.cell 11; have x12 := kf.cell 12; have x13 := kf.cell 13; have x14 := kf.cell 14; simp at x0 x1 x2 x3 x4 x5 x6 x7 x8 x9 x10 x11 x12 x13 x14); go_simp; first | done | with_reducible rfl⟩) hHeld ?_
          change RestIn _ _ _ _ _ _ _ 18 #[true, true, true, true, true, true, true, true, true, true, false, false, false, false, false, false, false, false, false, false, false, false, false, false, false, false, false, false] _ _
          try simp only [Act.put, List.setIfInBounds_toArray, List.set_cons_zero, List.set_cons_succ, List.getElem_toArray, List.getElem_cons_zero, List.getElem_cons_succ]
          refine rest_take (i := 10) (v := _) all_wide (noDefers_of (by kernel_rfl)) rfl (by kernel_rfl) (by kernel_rfl) (by kernel_rfl) (fun _ _ _ h => h) (Or.inl ⟨by rfl, by intro w hSw; (obtain ⟨kf, m0, m1, m2, m3, m4, m5, m6, m7⟩ := hSw; have x0 := kf.cell 0; have x1 := kf.cell 1; have x2 := kf.cell 2; have x3 := kf.cell 3; have x4 := kf.cell 4; have x5 := kf.cell 5; have x6 := kf.cell 6; have x7 := kf.cell 7; have x8 := kf.cell 8; have x9 := kf.cell 9; have x10 := kf.cell 10; have x11 := kf.cell 11; have x12 := kf.cell 12; have x13 := kf.cell 13; have x14 := kf.cell 14; simp at x0 x1 x2 x3 x4 x5 x6 x7 x8 x9 x10 x11 x12 x13 x14); go_simp; first | done | with_reducible rfl⟩) hHeld ?_
          change RestIn _ _ _ _ _ _ _ 17 #[true, true, true, true, true, true, true, true, true, true, true, false, false, false, false, false, false, false, false, false, false, false, false, false, false, false, false, false] _ _
          try simp only [Act.put, List.setIfInBounds_toArray, List.set_cons_zero, List.set_cons_succ, List.getElem_toArray, List.getElem_cons_zero, List.getElem_cons_succ]
          refine rest_take (i := 11) (v := _) all_wide (noDefers_of (by kernel_rfl)) rfl (by kernel_rfl) (by kernel_rfl) (by kernel_rfl) (fun _ _ _ h => h) (Or.inl ⟨by rfl, by intro w hSw; (obtain ⟨kf, m0, m1, m2, m3, m4, m5, m6, m7⟩ := hSw; have x0 := kf.cell 0; have x1 := kf.cell 1; have x2 := kf.cell 2; have x3 := kf.cell 3; have x4 := kf.cell 4; have x5 := kf.cell 5; have x6 := kf.cell 6; have x7 := kf.cell 7; have x8 := kf.cell 8; have x9 := kf.cell 9; have x10 := kf.cell 10; have x11 := kf.cell 11; have x12 := kf.cell 12; have x13 := kf.cell 13; have x14 := kf.cell 14; simp at x0 x1 x2 x3 x4 x5 x6 x7 x8 x9 x10 x11 x12 x13 x14); go_simp; first | done | with_reducible rfl⟩) hHeld ?_
          change RestIn _ _ _ _ _ _ _ 16 #[true, true, true, true, true, true, true, true, true, true, true, true, false, false, false, false, false, false, false, false, false, false, false, false, false, false, false, false] _ _
          try simp only [Act.put, List.setIfInBounds_toArray, List.set_cons_zero, List.set_cons_succ, List.getElem_toArray, List.getElem_cons_zero, List.getElem_cons_succ]
          refine rest_take (i := 12) (v := _) all_wide (noDefers_of (by kernel_rfl)) rfl (by kernel_rfl) (by kernel_rfl) (by kernel_rfl) (fun _ _ _ h => h) (Or.inl ⟨by rfl, by intro w hSw; (obtain ⟨kf, m0, m1, m2, m3, m4, m5, m6, m7⟩ := hSw; have x0 := kf.cell 0; have x1 := kf.cell 1; have x2 := kf.cell 2; have x3 := kf.cell 3; have x4 := kf.cell 4; have x5 := kf.cell 5; have x6 := kf.cell 6; have x7 := kf.cell 7; have x8 := kf.cell 8; have x9 := kf.cell 9; have x10 := kf.cell 10; have x11 := kf.cell 11; have x12 := kf.cell 12; have x13 := kf.cell 13; have x14 := kf.cell 14; simp at x0 x1 x2 x3 x4 x5 x6 x7 x8 x9 x10 x11 x12 x13 x14); go_simp; first | done | with_reducible rfl⟩) hHeld ?_
          change RestIn _ _ _ _ _ _ _ 15 #[true, true, true, true, true, true, true, true, true, true, true, true, true, false, false, false, false, false, false, false, false, false, false, false, false, false, false, false] _ _
          try simp only [Act.put, List.setIfInBounds_toArray, List.set_cons_zero, List.set_cons_succ, List.getElem_toArray, List.getElem_cons_zero, List.getElem_cons_succ]
          refine rest_take (i := 13) (v := _) all_wide (noDefers_of (by kernel_rfl)) rfl (by kernel_rfl) (by kernel_rfl) (by kernel_rfl) (fun _ _ _ h => h) (Or.inl ⟨by rfl, by intro w hSw; (obtain ⟨kf, m0, m1, m2, m3, m4, m5, m6, m7⟩ := hSw; have x0 := kf.cell 0; have x1 := kf.cell 1; have x2 := kf.cell 2; have x3 := kf.cell 3; have x4 := kf.cell 4; have x5 := kf.cell 5; have x6 := kf.cell 6; have x7 := kf.cell 7; have x8 := kf.cell 8; have x9 := kf.cell 9; have x10 := kf.cell 10; have x11 := kf.cell 11; have x12 := kf.cell 12; have x13 := kf.cell 13; have x14 := kf.cell 14; simp at x0 x1 x2 x3 x4 x5 x6 x7 x8 x9 x10 x11 x12 x13 x14); go_simp; first | done | with_reducible rfl⟩) hHeld ?_
          change RestIn _ _ _ _ _ _ _ 14 #[true, true, true, true, true, true, true, true, true, true, true, true, true, true, false, false, false, false, false, false, false, false, false, false, false, false, false, false] _ _
          try simp only [Act.put, List.setIfInBounds_toArray, List.set_cons_zero, List.set_cons_succ, List.getElem_toArray, List.getElem_cons_zero, List.getElem_cons_succ]
          refine rest_take (i := 14) (v := _) all_wide (noDefers_of (by kernel_rfl)) rfl (by kernel_rfl) (by kernel_rfl) (by kernel_rfl) (fun _ _ _ h => h) (Or.inl ⟨by rfl, by intro w hSw; (obtain ⟨kf, m0, m1, m2, m3, m4, m5, m6, m7⟩ := hSw; have x0 := kf.cell 0; have x1 := kf.cell 1; have x2 := kf.cell 2; have x3 := kf.cell 3; have x4 := kf.cell 4; have x5 := kf.cell 5; have x6 := kf.cell 6; have x7 := kf.cell 7; have x8 := kf.cell 8; have x9 := kf.cell 9; have x10 := kf.cell 10; have x11 := kf.cell 11; have x12 := kf.cell 12; have x13 := kf.cell 13; have x14 := kf.cell 14; simp at x0 x1 x2 x3 x4 x5 x6 x7 x8 x9 x10 x11 x12 x13 x14); go_simp; first | done | with_reducible rfl⟩) hHeld ?_
          change RestIn _ _ _ _ _ _ _ 13 #[true, true, true, true, true, true, true, true, true, true, true, true, true, true, true, false, false, false, false, false, false, false, false, false, false, false, false, false] _ _
          try simp only [Act.put, List.setIfInBounds_toArray, List.set_cons_zero, List.set_cons_succ, List.getElem_toArray, List.getElem_cons_zero, List.getElem_cons_succ]
          refine rest_take (i := 15) (v := _) all_wide (noDefers_of (by kernel_rfl)) rfl (by kernel_rfl) (by kernel_rfl) (by kernel_rfl) (fun _ _ _ h => h) (Or.inl ⟨by rfl, by intro w hSw; (obtain ⟨kf, m0, m1, m2, m3, m4, m5, m6, m7⟩ := hSw; have x0 := kf.cell 0; have x1 := kf.cell 1; have x2 := kf.cell 2; have x3 := kf.cell 3; have x4 := kf.cell 4; have x5 := kf.cell 5; have x6 := kf.cell 6; have x7 := kf.cell 7; have x8 := kf.cell 8; have x9 := kf.cell 9; have x10 := kf.cell 10; have x11 := kf.cell 11; have x12 := kf.cell 12; have x13 := kf.cell 13; have x14 := kf.cell 14; simp at x0 x1 x2 x3 x4 x5 x6 x7 x8 x9 x10 x11 x12 x13 x14); go_simp; first | done | with_reducible rfl⟩) hHeld ?_
          change RestIn _ _ _ _ _ _ _ 12 #[true, true, true, true, true, true, true, true, true, true, true, true, true, true, true, true, false, false, false, false, false, false, false, false, false, false, false, false] _ _
          try simp only [Act.put, List.setIfInBounds_toArray, List.set_cons_zero, List.set_cons_succ, List.getElem_toArray, List.getElem_cons_zero, List.getElem_cons_succ]
          refine rest_ready (rs := [16]) (by kernel_rfl) (by simp) ?_
          refine AllRest.cons rfl (fun K hK => ?_) AllRest.nil
          go_simp
          gi_wp2_with ((refine ⟨trivial, ?_⟩; gi_at_call 68; (with_reducible refine (callsIn_wide.2 (HN2.out _)).mono ?_); rintro e w2 ⟨rfl, hb2⟩))
          refine hK.out _ _ ?_ (fun hHeld' => ?_)
          · exact ⟨hHeld.1.below hb2 hHeld.1.lt, cell_after hb2 hHeld.2.1, cell_after hb2 hHeld.2.2.1, cell_after hb2 hHeld.2.2.2.1, cell_after hb2 hHeld.2.2.2.2.1, cell_after hb2 hHeld.2.2.2.2.2.1, cell_after hb2 hHeld.2.2.2.2.2.2.1, cell_after hb2 hHeld.2.2.2.2.2.2.2.1, cell_after hb2 hHeld.2.2.2.2.2.2.2.2⟩
          clear hK K
          change RestIn _ _ _ _ _ _ _ 11 #[true, true, true, true, true, true, true, true, true, true, true, true, true, true, true, true, true, false, false, false, false, false, false, false, false, false, false, false] _ _
          try simp only [Act.put, List.setIfInBounds_toArray, List.set_cons_zero, List.set_cons_succ, List.getElem_toArray, List.getElem_cons_zero, List.getElem_cons_succ]
          have hC := hC.trans (hb2.mono hC.size)
          clear hHeld
          have hHeld := hHeld'
          clear hHeld'
          refine rest_take (i := 17) (v := _) all_wide (noDefers_of (by kernel_rfl)) rfl (by kernel_rfl) (by kernel_rfl) (by kernel_rfl) (fun _ _ _ h => h) (Or.inl ⟨by rfl, by intro w hSw; (obtain ⟨kf, m0, m1, m2, m3, m4, m5, m6, m7⟩ := hSw; have x0 := kf.cell 0; have x1 := kf.cell 1; have x2 := kf.cell 2; have x3 := kf.cell 3; have x4 := kf.cell 4; have x5 := kf.cell 5; have x6 := kf.cell 6; have x7 := kf.cell 7; have x8 := kf.cell 8; have x9 := kf.cell 9; have x10 := kf.cell 10; have x11 := kf.cell 11; have x12 := kf.cell 12; have x13 := kf.cell 13; have x14 := kf.cell 14; simp at x0 x1 x2 x3 x4 x5 x6 x7 x8 x9 x10 x11 x12 x13 x14); go_simp; first | done | with_reducible rfl⟩) hHeld ?_
          change RestIn _ _ _ _ _ _ _ 10 #[true, true, true, true, true, true, true, true, true, true, true, true, true, true, true, true, true, true, false, false, false, false, false, false, false, false, false, false] _ _
          try simp only [Act.put, List.setIfInBounds_toArray, List.set_cons_zero, List.set_cons_succ, List.getElem_toArray, List.getElem_cons_zero, List.getElem_cons_succ]
          refine rest_take (i := 18) (v := _) all_wide (noDefers_of (by kernel_rfl)) rfl (by kernel_rfl) (by kernel_rfl) (by kernel_rfl) (fun _ _ _ h => h) (Or.inl ⟨by rfl, by intro w hSw; (obtain ⟨kf, m0, m1, m2, m3, m4, m5, m6, m7⟩ := hSw; have x0 := kf.cell 0; have x1 := kf.cell 1; have x2 := kf.cell 2; have x3 := kf.cell 3; have x4 := kf.cell 4; have x5 := kf.cell 5; have x6 := kf.cell 6; have x7 := kf.cell 7; have x8 := kf.cell 8; have x9 := kf.cell 9; have x10 := kf.cell 10; have x11 := kf.cell 11; have x12 := kf.cell 12; have x13 := kf.cell 13; have x14 := kf.cell 14; simp at x0 x1 x2 x3 x4 x5 x6 x7 x8 x9 x10 x11 x12 x13 x14); go_simp; first | done | with_reducible rfl⟩) hHeld ?_
          change RestIn _ _ _ _ _ _ _ 9 #[true, true, true, true, true, true, true, true, true, true, true, true, true, true, true, true, true, true, true, false, false, false, false, false, false, false, false, false] _ _
          try simp only [Act.put, List.setIfInBounds_toArray, List.set_cons_zero, List.set_cons_succ, List.getElem_toArray, List.getElem_cons_zero, List.getElem_cons_succ]
          refine rest_take (i := 19) (v := _) all_wide (noDefers_of (by kernel_rfl)) rfl (by kernel_rfl) (by kernel_rfl) (by kernel_rfl) (fun _ _ _ h => h) (Or.inl ⟨by rfl, by intro w hSw; (obtain ⟨kf, m0, m1, m2, m3, m4, m5, m6, m7⟩ := hSw; have x0 := kf.cell 0; have x1 := kf.cell 1; have x2 := kf.cell 2; have x3 := kf.cell 3; have x4 := kf.cell 4; have x5 := kf.cell 5; have x6 := kf.cell 6; have x7 := kf.cell 7; have x8 := kf.cell 8; have x9 := kf.cell 9; have x10 := kf.cell 10; have x11 := kf.cell 11; have x12 := kf.cell 12; have x13 := kf.cell 13; have x14 := kf.cell 14; simp at x0 x1 x2 x3 x4 x5 x6 x7 x8 x9 x10 x11 x12 x13 x14); go_simp; first | done | with_reducible rfl⟩) hHeld ?_
          change RestIn _ _ _ _ _ _ _ 8 #[true, true, true, true, true, true, true, true, true, true, true, true, true, true, true, true, true, true, true, true, false, false, false, false, false, false, false, false] _ _
          try simp only [Act.put, List.setIfInBounds_toArray, List.set_cons_zero, List.set_cons_succ, List.getElem_toArray, List.getElem_cons_zero, List.getElem_cons_succ]
          refine rest_take (i := 20) (v := _) all_wide (noDefers_of (by kernel_rfl)) rfl (by kernel_rfl) (by kernel_rfl) (by kernel_rfl) (fun _ _ _ h => h) (Or.inl ⟨by rfl, by intro w hSw; (obtain ⟨kf, m0, m1, m2, m3, m4, m5, m6, m7⟩ := hSw; have x0 := kf.cell 0; have x1 := kf.cell 1; have x2 := kf.cell 2; have x3 := kf.cell 3; have x4 := kf.cell 4; have x5 := kf.cell 5; have x6 := kf.cell 6; have x7 := kf.cell 7; have x8 := kf.cell 8; have x9 := kf.cell 9; have x10 := kf.cell 10; have x11 := kf.cell 11; have x12 := kf.cell 12; have x13 := kf.cell 13; have x14 := kf.cell 14; simp at x0 x1 x2 x3 x4 x5 x6 x7 x8 x9 x10 x11 x12 x13 x14); go_simp; first | done | with_reducible rfl⟩) hHeld ?_
          change RestIn _ _ _ _ _ _ _ 7 #[true, true, true, true, true, true, true, true, true, true, true, true, true, true, true, true, true, true, true, true, true, false, false, false, false, false, false, false] _ _
          try simp only [Act.put, List.setIfInBounds_toArray, List.set_cons_zero, List.set_cons_succ, List.getElem_toArray, List.getElem_cons_zero, List.getElem_cons_succ]
          refine rest_take (i := 22) (v := _) all_wide (noDefers_of (by kernel_rfl)) rfl (by kernel_rfl) (by kernel_rfl) (by kernel_rfl) (fun _ _ _ h => h) (Or.inl ⟨by rfl, by intro w hSw; (obtain ⟨kf, m0, m1, m2, m3, m4, m5, m6, m7⟩ := hSw; have x0 := kf.cell 0; have x1 := kf.cell 1; have x2 := kf.cell 2; have x3 := kf.cell 3; have x4 := kf.cell 4; have x5 := kf.cell 5; have x6 := kf.cell 6; have x7 := kf.cell 7; have x8 := kf.cell 8; have x9 := kf.cell 9; have x10 := kf.cell 10; have x11 := kf.cell 11; have x12 := kf.cell 12; have x13 := kf.cell 13; have x14 := kf.cell 14; simp at x0 x1 x2 x3 x4 x5 x6 x7 x8 x9 x10 x11 x12 x13 x14); go_simp; first | done | with_reducible rfl⟩) hHeld ?_
          change RestIn _ _ _ _ _ _ _ 6 #[true, true, true, true, true, true, true, true, true, true, true, true, true, true, true, true, true, true, true, true, true, false, true, false, false, false, false, false] _ _
          try simp only [Act.put, List.setIfInBounds_toArray, List.set_cons_zero, List.set_cons_succ, List.getElem_toArray, List.getElem_cons_zero, List.getElem_cons_succ]
          refine rest_take (i := 23) (v := _) all_wide (noDefers_of (by kernel_rfl)) rfl (by kernel_rfl) (by kernel_rfl) (by kernel_rfl) (fun _ _ _ h => h) (Or.inl ⟨by rfl, by intro w hSw; (obtain ⟨kf, m0, m1, m2, m3, m4, m5, m6, m7⟩ := hSw; have x0 := kf.cell 0; have x1 := kf.cell 1; have x2 := kf.cell 2; have x3 := kf.cell 3; have x4 := kf.cell 4; have x5 := kf.cell 5; have x6 := kf.cell 6; have x7 := kf.cell 7; have x8 := kf.cell 8; have x9 := kf.cell 9; have x10 := kf.cell 10; have x11 := kf.cell 11; have x12 := kf.cell 12; have x13 := kf.cell 13; have x14 := kf.cell 14; simp at x0 x1 x2 x3 x4 x5 x6 x7 x8 x9 x10 x11 x12 x13 x14); go_simp; first | done | with_reducible rfl⟩) hHeld ?_
          change RestIn _ _ _ _ _ _ _ 5 #[true, true, true, true, true, true, true, true, true, true, true, true, true, true, true, true, true, true, true, true, true, false, true, true, false, false, false, false] _ _
          try simp only [Act.put, List.setIfInBounds_toArray, List.set_cons_zero, List.set_cons_succ, List.getElem_toArray, List.getElem_cons_zero, List.getElem_cons_succ]
          refine rest_take (i := 24) (v := _) all_wide (noDefers_of (by kernel_rfl)) rfl (by kernel_rfl) (by kernel_rfl) (by kernel_rfl) (fun _ _ _ h => h) (Or.inl ⟨by rfl, by intro w hSw; (obtain ⟨kf, m0, m1, m2, m3, m4, m5, m6, m7⟩ := hSw; have x0 := kf.cell 0; have x1 := kf.cell 1; have x2 := kf.cell 2; have x3 := kf.cell 3; have x4 := kf.cell 4; have x5 := kf.cell 5; have x6 := kf.cell 6; have x7 := kf.cell 7; have x8 := kf.cell 8; have x9 := kf.cell 9; have x10 := kf.cell 10; have x11 := kf.cell 11; have x12 := kf.cell 12; have x13 := kf.cell 13; have x14 := kf.cell 14; simp at x0 x1 x2 x3 x4 x5 x6 x7 x8 x9 x10 x11 x12 x13 x14); go_simp; first | done | with_reducible rfl⟩) hHeld ?_
          change RestIn _ _ _ _ _ _ _ 4 #[true, true, true, true, true, true, true, true, true, true, true, true, true, true, true, true, true, true, true, true, true, false, true, true, true, false, false, false] _ _
          try simp only [Act.put, List.setIfInBounds_toArray, List.set_cons_zero, List.set_cons_succ, List.getElem_toArray, List.getElem_cons_zero, List.getElem_cons_succ]
          refine rest_ready (rs := [21]) (by kernel_rfl) (by simp) ?_
          refine AllRest.cons rfl (fun K hK => ?_) AllRest.nil
          go_simp
          gi_wp2_with ((refine ⟨trivial, ?_⟩; gi_at_call 26; (with_reducible refine (callsIn_wide.2 (HLOAD.out _)).mono ?_); rintro e w3 ⟨rfl, hb3⟩))
          refine hK.out _ _ ?_ (fun hHeld' => ?_)
          · exact ⟨hHeld.1.below hb3 hHeld.1.lt, cell_after hb3 hHeld.2.1, cell_after hb3 hHeld.2.2.1, cell_after hb3 hHeld.2.2.2.1, cell_after hb3 hHeld.2.2.2.2.1, cell_after hb3 hHeld.2.2.2.2.2.1, cell_after hb3 hHeld.2.2.2.2.2.2.1, cell_after hb3 hHeld.2.2.2.2.2.2.2.1, cell_after hb3 hHeld.2.2.2.2.2.2.2.2⟩
          clear hK K
          change RestIn _ _ _ _ _ _ _ 3 #[true, true, true, true, true, true, true, true, true, true, true, true, true, true, true, true, true, true, true, true, true, true, true, true, true, false, false, false] _ _
          try simp only [Act.put, List.setIfInBounds_toArray, List.set_cons_zero, List.set_cons_succ, List.getElem_toArray, List.getElem_cons_zero, List.getElem_cons_succ]
          have hC := hC.trans (hb3.mono hC.size)
          clear hHeld
          have hHeld := hHeld'
          clear hHeld'
          refine rest_take (i := 25) (v := _) all_wide (noDefers_of (by kernel_rfl)) rfl (by kernel_rfl) (by kernel_rfl) (by kernel_rfl) (fun _ _ _ h => h) (Or.inl ⟨by rfl, by intro w hSw; (obtain ⟨kf, m0, m1, m2, m3, m4, m5, m6, m7⟩ := hSw; have x0 := kf.cell 0; have x1 := kf.cell 1; have x2 := kf.cell 2; have x3 := kf.cell 3; have x4 := kf.cell 4; have x5 := kf.cell 5; have x6 := kf.cell 6; have x7 := kf.cell 7; have x8 := kf.cell 8; have x9 := kf.cell 9; have x10 := kf.cell 10; have x11 := kf.cell 11; have x12 := kf.cell 12; have x13 := kf.cell 13; have x14 := kf.cell 14; simp at x0 x1 x2 x3 x4 x5 x6 x7 x8 x9 x10 x11 x12 x13 x14); go_simp; first | done | with_reducible rfl⟩) hHeld ?_
          change RestIn _ _ _ _ _ _ _ 2 #[true, true, true, true, true, true, true, true, true, true, true, true, true, true, true, true, true, true, true, true, true, true, true, true, true, true, false, false] _ _
          try simp only [Act.put, List.setIfInBounds_toArray, List.set_cons_zero, List.set_cons_succ, List.getElem_toArray, List.getElem_cons_zero, List.getElem_cons_succ]
          refine rest_take (i := 26) (v := _) all_wide (noDefers_of (by kernel_rfl)) rfl (by kernel_rfl) (by kernel_rfl) (by kernel_rfl) (fun _ _ _ h => h) (Or.inl ⟨by rfl, by intro w hSw; (obtain ⟨kf, m0, m1, m2, m3, m4, m5, m6, m7⟩ := hSw; have x0 := kf.cell 0; have x1 := kf.cell 1; have x2 := kf.cell 2; have x3 := kf.cell 3; have x4 := kf.cell 4; have x5 := kf.cell 5; have x6 := kf.cell 6; have x7 := kf.cell 7; have x8 := kf.cell 8; have x9 := kf.cell 9; have x10 := kf.cell 10; have x11 := kf.cell 11; have x12 := kf.cell 12; have x13 := kf.cell 13; have x14 := kf.cell 14; simp at x0 x1 x2 x3 x4 x5 x6 x7 x8 x9 x10 x11 x12 x13 x14); go_simp; first | done | with_reducible rfl⟩) hHeld ?_
          change RestIn _ _ _ _ _ _ _ 1 #[true, true, true, true, true, true, true, true, true, true, true, true, true, true, true, true, true, true, true, true, true, true, true, true, true, true, true, false] _ _
          try simp only [Act.put, List.setIfInBounds_toArray, List.set_cons_zero, List.set_cons_succ, List.getElem_toArray, List.getElem_cons_zero, List.getElem_cons_succ]
          refine rest_take (i := 27) (v := _) all_wide (noDefers_of (by kernel_rfl)) rfl (by kernel_rfl) (by kernel_rfl) (by kernel_rfl) (fun _ _ _ h => h) (Or.inl ⟨by rfl, by intro w hSw; (obtain ⟨kf, m0, m1, m2, m3, m4, m5, m6, m7⟩ := hSw; have x0 := kf.cell 0; have x1 := kf.cell 1; have x2 := kf.cell 2; have x3 := kf.cell 3; have x4 := kf.cell 4; have x5 := kf.cell 5; have x6 := kf.cell 6; have x7 := kf.cell 7; have x8 := kf.cell 8; have x9 := kf.cell 9; have x10 := kf.cell 10; have x11 := kf.cell 11; have x12 := kf.cell 12; have x13 := kf.cell 13; have x14 := kf.cell 14; simp at x0 x1 x2 x3 x4 x5 x6 x7 x8 x9 x10 x11 x12 x13 x14); go_simp; first | done | with_reducible rfl⟩) hHeld ?_
          change RestIn _ _ _ _ _ _ _ 0 #[true, true, true, true, true, true, true, true, true, true, true, true, true, true, true, true, true, true, true, true, true, true, true, true, true, true, true, true] _ _
          try simp only [Act.put, List.setIfInBounds_toArray, List.set_cons_zero, List.set_cons_succ, List.getElem_toArray, List.getElem_cons_zero, List.getElem_cons_succ]
          refine rest_done (by kernel_rfl) ?_
          go_wp2
          go_ret
          exact ⟨ret_bool (by first | exact HR.out.symm | (rw [HR.out]; exact decide_eq_false (by omega))), hC⟩
end Go.Proofs.Ytbagfapalkmikaa
