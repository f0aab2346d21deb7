import Derived.Test.YtibaindlbpfecaaCanE
namespace Go.Proofs.Ytibaindlbpfecaa
open Go.RowKit

set_option maxRecDepth 100000 in
set_option maxHeartbeats 2000000 in
theorem balancedBy_most (h : Head) (A1 A2 A3 : Option Addr) (c1 c2 c3 : Nat) (f : List Vec) (push : Vec) (whole : Int) (ps : List Int) (w : World) (hr : RS encV 2 w w.heap.size A1 f) (hl : f.length ≤ 8) (hf : ∀ v ∈ f, VB v 500000) (ha : 0 ≤ h.area ∧ h.area ≤ 1000) (hp : VB push 10000) (hrp : RS encI 1 w w.heap.size A3 ps)
    (h1 : inB whole 1 500000000000 = true) (h2 : ps.length = f.length) (h3 : ps.all (inB · 0 whole) = true) :
    Calls Try.prog 67 #[.agg #[.int .i64 h.area, .int .i64 h.bears, .slice A2 h.guys.length c2, .slice A1 f.length c1], .agg #[.int .i64 push.x, .int .i64 push.y], .agg #[.int .i64 whole, .slice A3 ps.length c3]] w fun e w' => e = .returned (.bool (decide (balSum (push.times h.area) f whole ps = vecZ))) ∧ Below w.heap.size w w' := by
  have hpt := hp.times (n := h.area) (q := 1000) (by omega)
  have p1 : Sm (h.area * push.x) := by have := hpt.1; simp only [Vec.times] at this; unfold Sm; omega
  have p2 : Sm (h.area * push.y) := by have := hpt.2; simp only [Vec.times] at this; unfold Sm; omega
  have hwb := inB_true.1 h1
  have hP := hpt.times (n := whole) (q := 500000000000) (by omega)
  have q1 : Lg (whole * (push.times h.area).x) := by have := hP.1; simp only [Vec.times] at this; unfold Lg Vec.times; simp only; omega
  have q2 : Lg (whole * (push.times h.area).y) := by have := hP.2; simp only [Vec.times] at this; unfold Lg Vec.times; simp only; omega
  have HP : Hid (VB ((push.times h.area).times whole) 5000000000000000000) := hP.mono (by omega)
  have hps : ∀ n ∈ ps, 0 ≤ n ∧ n ≤ 500000000000 := fun n hn => by
    have := inB_true.1 (List.all_eq_true.1 h3 n hn); omega
  have Hps := Lib.hid hps
  have Hf := Lib.hid hf
  have Hall := Lib.hid h3
  have H2 := Lib.hid h2
  have e2 : ((ps.length : Int) != (f.length : Int)) = false := by simp; omega
  have e3 : (ps.length != f.length) = false := by simp; omega
  have hpl : ps.length ≤ 8 := by omega
  have hpl' : Hid (ps.length ≤ maxLen) := by show _ ≤ _; unfold maxLen; omega
  have hB := (((Below.refl w.heap.size w).alloc (Nat.le_refl _) (.cells #[.int .i64 h.area, .int .i64 h.bears, .slice A2 h.guys.length c2, .slice A1 f.length c1] 125)).alloc (by simp) (.cells #[.int .i64 push.x, .int .i64 push.y] 58)).alloc (by simp <;> omega) (.cells #[.int .i64 whole, .slice A3 ps.length c3] 55)
  have hrq := (hrp.below hB (Nat.le_refl _)).more hB.size
  have hrf := (hr.below hB (Nat.le_refl _)).more hB.size
  have bM := ((Blk.new w 125 #[.int .i64 h.area, .int .i64 h.bears, .slice A2 h.guys.length c2, .slice A1 f.length c1]).alloc (.cells #[.int .i64 push.x, .int .i64 push.y] 58)).alloc (.cells #[.int .i64 whole, .slice A3 ps.length c3] 55)
  have bP := (Blk.new (w.alloc (.cells #[.int .i64 h.area, .int .i64 h.bears, .slice A2 h.guys.length c2, .slice A1 f.length c1] 125)) 58 #[.int .i64 push.x, .int .i64 push.y]).alloc (.cells #[.int .i64 whole, .slice A3 ps.length c3] 55)
  have bB := Blk.new ((w.alloc (.cells #[.int .i64 h.area, .int .i64 h.bears, .slice A2 h.guys.length c2, .slice A1 f.length c1] 125)).alloc (.cells #[.int .i64 push.x, .int .i64 push.y] 58)) 55 #[.int .i64 whole, .slice A3 ps.length c3]
  simp only [World.size_alloc] at bB bP
  have z0 := bB.cell 0
  simp at z0
  clear h2 h3 hf hp hpt hP hps hwb
  go_enter Try.func67, Try.ntmps67
  go_upto_region 4 with (first | (go_at_call 73; refine (within_any _ _ _ _).mono ?_; rintro e w' ⟨rfl, rfl⟩) | (go_at_call 99; refine (everyI_r Hall.out A3 c3 _ _ hrq hpl'.out z0).mono ?_; rintro e w' ⟨rfl, rfl⟩))
  go_cut [8] (fun s8 wx => ∃ A : Nat, s8 = .pointer (some ⟨A, 0, none⟩) ∧ w.heap.size + 3 ≤ A ∧ Blk wx A 58 #[.int .i64 ((push.times h.area).times whole).x, .int .i64 ((push.times h.area).times whole).y] ∧ Blk wx w.heap.size 125 #[.int .i64 h.area, .int .i64 h.bears, .slice A2 h.guys.length c2, .slice A1 f.length c1] ∧ Blk wx (w.heap.size + 1 + 1) 55 #[.int .i64 whole, .slice A3 ps.length c3] ∧ Below w.heap.size w wx)
  case first =>
    refine name_world (motive := fun W => Code.wp _ _ _ _ W) _ ?_
    intro W0 hW
    have hWc := hW.cell
    have hWz := hW.size
    have hWb := hW.below (hB)
    have kM := hW.blk bM
    have kP := hW.blk bP
    have kB := hW.blk bB
    have m0 := kM.cell 0
    have m1 := kM.cell 1
    have m2 := kM.cell 2
    have m3 := kM.cell 3
    have k0 := kP.cell 0
    have k1 := kP.cell 1
    have l0 := kB.cell 0
    have l1 := kB.cell 1
    have kz := kM.lt
    have kz1 := kP.lt
    have kz2 := kB.lt
    simp at m0 m1 m2 m3 k0 k1 l0 l1
    clear hWc hWz
    go_region_held3 (fun w' => (∀ b o, b < W0.heap.size → w'.cell? ⟨b, o, none⟩ = W0.cell? ⟨b, o, none⟩) ∧ Below W0.heap.size W0 w') (first | with_reducible exact sh_refl _ | (with_reducible refine sh_of ?_; with_reducible assumption) | (with_reducible refine sh_alloc ?_ _; with_reducible assumption) | with_reducible exact sh_first _ _ | (refine sh_of ?_; repeat' (first | with_reducible assumption | with_reducible exact Below.refl _ _ | with_reducible refine Below.drew ?_ | with_reducible refine Below.alloc ?_ (by simp <;> omega) _ | with_reducible refine Below.setCell ?_ (by simp <;> omega) _)))
      (first | (go_at_call 100; go_split_ands; have hS1 : Below W0.heap.size W0 _ := (by with_reducible assumption); (with_reducible refine (pushed_any h A1 A2 c1 c2 f push _ p1 p2).mono ?_); rintro e w1 ⟨rfl, hb1⟩; have hB1 := sh_next hS1 hb1; obtain ⟨hc1, hf1⟩ := bcell hb1; have hy1 := hb1.size; have hz1 := hB1.size; (try have hs10 : W0.heap.size < w1.heap.size := (by (try simp at hy1); omega))) | (go_at_call 91; go_split_ands; have hS2 : Below W0.heap.size W0 _ := (by with_reducible assumption); (with_reducible refine (timesL_any (push.times h.area) whole _ q1 q2).mono ?_); rintro e w2 ⟨rfl, hb2⟩; have hB2 := sh_next hS2 hb2; obtain ⟨hc2, hf2⟩ := bcell hb2; have hy2 := hb2.size; have hz2 := hB2.size; (try have hs20 : W0.heap.size < w2.heap.size := (by (try simp at hy2); omega)); (try have hs21 : w1.heap.size < w2.heap.size := (by (try simp at hy2); omega))))
    · go_wp2_with fail
      go_meet
      have hs2 := hB2.size
      exact ⟨_, rfl, by omega, Blk.new _ _ _, (kM.below hB2 kz).alloc _, (kB.below hB2 kz2).alloc _, hWb.trans ((hB2.alloc hB2.size _).mono hWb.size)⟩
    · go_wp2_with fail
      go_meet
      have hs1 := hB1.size
      have hs2 := hB2.size
      have bA := ((Blk.new w1 58 #[.int .i64 0, .int .i64 0]).below hb2 (by simp)).set_ 0 (.int .i64 ((push.times h.area).times whole).x) |>.set_ 1 (.int .i64 ((push.times h.area).times whole).y)
      simp at bA
      exact ⟨_, rfl, by omega, bA, ((kM.below hB2 kz).far (p := ⟨w1.heap.size, 0, none⟩) (by dsimp only; omega) _).far (p := ⟨w1.heap.size, 1, none⟩) (by dsimp only; omega) _, ((kB.below hB2 kz2).far (p := ⟨w1.heap.size, 0, none⟩) (by dsimp only; omega) _).far (p := ⟨w1.heap.size, 1, none⟩) (by dsimp only; omega) _, ((hWb.trans (hB2.mono hWb.size)).setCell (p := ⟨w1.heap.size, 0, none⟩) (by dsimp only; omega) _).setCell (p := ⟨w1.heap.size, 1, none⟩) (by dsimp only; omega) _⟩
    · go_wp2_with fail
      go_meet
      have hs1 := hb1.size
      have hs2 := hB2.size
      simp at hs1
      have bA := (((Blk.new W0 58 #[.int .i64 0, .int .i64 0]).drew.below hb1 (by simp)).below hb2 (by omega)).set_ 0 (.int .i64 ((push.times h.area).times whole).x) |>.set_ 1 (.int .i64 ((push.times h.area).times whole).y)
      simp at bA
      exact ⟨_, rfl, by omega, bA, ((kM.below hB2 kz).far (p := ⟨W0.heap.size, 0, none⟩) (by dsimp only; omega) _).far (p := ⟨W0.heap.size, 1, none⟩) (by dsimp only; omega) _, ((kB.below hB2 kz2).far (p := ⟨W0.heap.size, 0, none⟩) (by dsimp only; omega) _).far (p := ⟨W0.heap.size, 1, none⟩) (by dsimp only; omega) _, ((hWb.trans (hB2.mono hWb.size)).setCell (p := ⟨W0.heap.size, 0, none⟩) (by dsimp only; omega) _).setCell (p := ⟨W0.heap.size, 1, none⟩) (by dsimp only; omega) _⟩
  case rest =>
    obtain ⟨A, rfl, hA, bA, bMx, bBx, hBx⟩ := hcut
    have y0 := bBx.cell 0
    have y1 := bBx.cell 1
    have yz := bBx.lt
    have xz := bA.lt
    simp at y0 y1
    have hBz := hBx.size
    have HPs := HP.out
    go_wp2
    go_loopw [41] (fun i wr => ∃ k : Nat, k ≤ ps.length ∧ i = .int .i64 k ∧ Blk wr A 58 #[.int .i64 (((List.zip f ps).take k).foldl plusStep ((push.times h.area).times whole)).x, .int .i64 (((List.zip f ps).take k).foldl plusStep ((push.times h.area).times whole)).y] ∧ wc.grownBy wr (some A)) (fun i _ => ps.length - (intOf i).toNat)
    case atStart => exact ⟨0, Nat.zero_le _, rfl, by simpa using bA, World.grownBy.refl _ _⟩
    case round =>
      obtain ⟨k, hk, rfl, bA', hO⟩ := hrel
      have hOz := hO.size
      have Hzip : Hid (∀ k : Nat, k ≤ 8 → VB (((List.zip f ps).take k).foldl plusStep ((push.times h.area).times whole)) (5000000000000000000 + 250000000000000000 * k)) := balSum_vb HP.out Hf.out Hps.out
      obtain ⟨s, hs⟩ : ∃ s, ((List.zip f ps).take k).foldl plusStep ((push.times h.area).times whole) = s := ⟨_, rfl⟩
      rw [hs] at bA'
      have hsv := Hzip.out k (by omega)
      rw [hs] at hsv
      have Hs := Lib.hid hs
      have Hsv := Lib.hid hsv
      clear hs hsv
      have bMr := bMx.grown hO (by simp; omega)
      have r0 := bMr.cell 3
      have rz := bMr.lt
      have a0 := bA'.cell 0
      have a1 := bA'.cell 1
      have af0 := bA'.frozen 0
      have af1 := bA'.frozen 1
      have az := bA'.lt
      simp at r0 a0 a1
      by_cases hlt : k < ps.length
      · obtain ⟨n, hn⟩ := getElem?_lt hlt
        obtain ⟨v, hv⟩ := getElem?_lt (l := f) (k := k) (by have := H2.out; omega)
        have vb := Hf.out v (List.mem_of_getElem? hv)
        have nb := Hps.out n (List.mem_of_getElem? hn)
        have hstep := balSum_step (s := (push.times h.area).times whole) hv hn
        rw [Hs.out] at hstep
        have Hstep := Lib.hid hstep
        have hsv2 := Hzip.out (k + 1) (by omega)
        rw [hstep] at hsv2
        have tb := vb.times (n := n) (q := 500000000000) (by omega)
        have t1 : Lg (n * v.x) := by have := tb.1; simp only [Vec.times] at this; unfold Lg; omega
        have t2 : Lg (n * v.y) := by have := tb.2; simp only [Vec.times] at this; unfold Lg; omega
        have hlg := sumV_pair_lg (a := s) (b := v.times n) (Hsv.out.mono (by omega)) (hsv2.mono (by push_cast; omega))
        have Hlg := Lib.hid hlg
        have hr2 := (hrf.below (Below.refl _ _) (Nat.le_refl _))
        obtain ⟨b, off, rfl, hb, hc⟩ := ((hr.below hBx (Nat.le_refl _)).only hO (by omega) (by
          rintro ad rfl e
          rcases hr with h0 | ⟨b, off, h1, h2, _⟩
          · rw [h0] at hv; simp at hv
          · injection h1 with h1; subst h1; simp at e; omega)).at_ hv
        have v0 := hc 0 _ rfl
        have v1 := hc 1 _ rfl
        obtain ⟨b2, off2, rfl, hb2, hc2⟩ := ((hrp.below hBx (Nat.le_refl _)).only hO (by omega) (by
          rintro ad rfl e
          rcases hrp with h0 | ⟨b, off, h1, h2, _⟩
          · rw [h0] at hn; simp at hn
          · injection h1 with h1; subst h1; simp at e; omega)).at_ hn
        have n0 := hc2 0 _ rfl
        simp only [Nat.add_zero, Nat.mul_one] at v0 n0
        have hkf : k < f.length := by have := H2.out; omega
        have hkI : (k : Int) < (f.length : Int) := by omega
        clear hc hc2 hn hv vb nb hstep hsv2 tb hlg hr hrp
        go_wp2
        go_region_law (first | (go_simp; go_at_call 91; refine (timesL_any v n _ t1 t2).mono ?_; rintro e w1 ⟨rfl, hb1⟩; obtain ⟨hd1, hf1⟩ := bcell hb1; have x0 : w1.cell? ⟨A, 0, none⟩ = some (.int .i64 s.x) := (hd1 _ _ az).trans a0; have x1 : w1.cell? ⟨A, 1, none⟩ = some (.int .i64 s.y) := (hd1 _ _ az).trans a1; clear hd1 hf1; have az1 : A < w1.heap.size := (by have := hb1.size; simp at this; omega)) | (go_simp; go_at_call 101; refine (sum2_any s (v.times n) w1.heap.size _ (Blk.new w1 58 #[.int .i64 s.x, .int .i64 s.y, .int .i64 (v.times n).x, .int .i64 (v.times n).y]) Hlg.out).mono ?_; rintro e w2 ⟨rfl, hb3⟩; have bA2 := ((Blk.below (w := wr.drew) bA' hb1 az).alloc (.cells #[.int .i64 s.x, .int .i64 s.y, .int .i64 (v.times n).x, .int .i64 (v.times n).y] 58)).below hb3 (by simp <;> omega); have p0 := bA2.cell 0; have p1 := bA2.cell 1; have f0 := bA2.frozen 0; have f1 := bA2.frozen 1; have az2 := bA2.lt; simp at p0 p1))
        all_goals
          go_wp2
          refine ⟨⟨k + 1, by omega, by go_num, ?_, only_setCell (only_setCell (only_below (only_alloc (only_below (only_drew hO) hb1) _) hb3) (.inl rfl) _) (.inl rfl) _⟩, by simp [intOf]; omega⟩
          rw [Hstep.out]
          simpa using (bA2.set_ 0 (.int .i64 (s.plus (v.times n)).x)).set_ 1 (.int .i64 (s.plus (v.times n)).y)
      · have hend : balSum (push.times h.area) f whole ps = s := by
          rw [← Hs.out, List.take_of_length_le (by have := H2.out; rw [List.length_zip]; omega)]; rfl
        have Hend := Lib.hid hend
        have hBf := below_of_only hBx hO (by omega) hBz
        clear hend
        by_cases hz : s.x = 0 ∧ s.y = 0
        · have e5 : (s.x == 0) = true := by simpa using hz.1
          have e6 : (s.y == 0) = true := by simpa using hz.2
          have HZ := Lib.hid hz
          clear hz
          go_wp2
          go_ret
          exact ⟨ret_bool (by rw [Hend.out]; simp [vecZ_iff', HZ.out]), hBf⟩
        · have ee : (s.x == 0) = false ∨ ((s.x == 0) = true ∧ (s.y == 0) = false) := by simp; omega
          have HZ := Lib.hid hz
          clear hz
          rcases ee with e5 | ⟨e5, e6⟩
          all_goals
            go_wp2
            go_ret
            exact ⟨ret_bool (by rw [Hend.out]; simp [vecZ_iff', HZ.out]), hBf⟩

theorem balancedBy_any (h : Head) (A1 A2 A3 : Option Addr) (c1 c2 c3 : Nat) (f : List Vec) (push : Vec) (whole : Int) (ps : List Int) (w : World) (hr : RS encV 2 w w.heap.size A1 f) (hl : f.length ≤ 8) (hf : ∀ v ∈ f, VB v 500000) (ha : 0 ≤ h.area ∧ h.area ≤ 1000) (hp : VB push 10000) (hrp : RS encI 1 w w.heap.size A3 ps) (hpl : ps.length ≤ maxLen) :
    Calls Try.prog 67 #[.agg #[.int .i64 h.area, .int .i64 h.bears, .slice A2 h.guys.length c2, .slice A1 f.length c1], .agg #[.int .i64 push.x, .int .i64 push.y], .agg #[.int .i64 whole, .slice A3 ps.length c3]] w fun e w' => e = .returned (.bool (balByB (push.times h.area) f whole ps)) ∧ Below w.heap.size w w' := by
  by_cases hb : inB whole 1 500000000000 = true ∧ ps.length = f.length ∧ ps.all (inB · 0 whole) = true
  · obtain ⟨h1, h2, h3⟩ := hb
    have he : balByB (push.times h.area) f whole ps = decide (balSum (push.times h.area) f whole ps = vecZ) := by simp only [balByB, h1, h2, h3, Bool.true_and, decide_true]
    rw [he]
    exact balancedBy_most h A1 A2 A3 c1 c2 c3 f push whole ps w hr hl hf ha hp hrp h1 h2 h3
  · have hno : (inB whole 1 500000000000 && (decide (ps.length = f.length) && ps.all (inB · 0 whole))) = false := by
      rw [Bool.eq_false_iff]; intro h; simp only [Bool.and_eq_true, decide_eq_true_eq] at h; exact hb h
    have he : balByB (push.times h.area) f whole ps = false := by
      rw [Bool.eq_false_iff]; intro h; simp only [balByB, Bool.and_eq_true, decide_eq_true_eq] at h; exact hb ⟨h.1, h.2.1, h.2.2.1⟩
    rw [he]
    exact balancedBy_few h A1 A2 A3 c1 c2 c3 f push whole ps w hr hrp hpl hno
end Go.Proofs.Ytibaindlbpfecaa
