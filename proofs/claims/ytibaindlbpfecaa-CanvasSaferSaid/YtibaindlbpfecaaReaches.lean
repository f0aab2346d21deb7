import Derived.Test.YtibaindlbpfecaaBalA

namespace Go.Proofs.Ytibaindlbpfecaa
open Go.RowKit

theorem times_swap (v : Vec) (a n : Int) : (v.times a).times n = (v.times n).times a := by
  unfold Vec.times
  simp only [Vec.mk.injEq]
  constructor <;> rw [Int.mul_left_comm]
/-- A multiple of the direction is balanced just if it is at most the reach. -/
theorem reach_iff {area : Int} {f : List Vec} {way : Vec} {n : Int} (hf : ∀ v ∈ f, VB v 500000) (h0 : 0 ≤ n) (h1 : n ≤ 10000) : balancesB f ((way.times area).times n) = decide (n ≤ reachM area f way) := by
  rw [times_swap]
  have hb := bad_bal (a := area) (f := f) (p := way.times n) hf
  by_cases h : n ≤ reachM area f way
  · rw [reach_less h0 h] at hb
    rw [decide_eq_true h]
    simpa using hb.symm
  · rw [decide_eq_false h]
    have hR := reach_more (area := area) (f := f) (way := way) (by omega)
    have hnot : badB area f (way.times n) = true := by
      rw [← Bool.not_eq_false, bad_no]
      intro hall
      have : badB area f (way.times (reachM area f way + 1)) = false := by
        rw [bad_no]
        intro d hd
        have h2 := hall d hd
        rw [times_dot] at h2 ⊢
        have hr0 := (reachM_in (area := area) (f := f) (way := way)).1
        by_cases hp : 0 < d.dot (way.times area)
        · exact Int.le_trans (Int.mul_le_mul_of_nonneg_right (by omega) (by omega)) h2
        · have := helpM_nonneg (f := f) (way := d)
          have : (reachM area f way + 1) * d.dot (way.times area) ≤ 0 := Int.mul_nonpos_of_nonneg_of_nonpos (by omega) (by omega)
          omega
      rw [hR] at this
      cases this
    rw [hnot] at hb
    simpa using hb.symm
def stepI (i : Nat) : Nat := 8192 / 2 ^ i
theorem step_half : ∀ i, i < 13 → stepI i = 2 * stepI (i + 1) := by decide
theorem step_next (i : Nat) : stepI i / 2 = stepI (i + 1) := by unfold stepI; rw [Nat.pow_succ, Nat.div_div_eq_div_mul]
theorem step_in : ∀ i, i < 14 → 1 ≤ stepI i ∧ stepI i ≤ 8192 ∧ stepI (i + 1) < stepI i := by decide
theorem step_last : stepI 13 = 1 ∧ stepI 14 = 0 := by decide

set_option maxRecDepth 100000 in
set_option maxHeartbeats 2000000 in
theorem refReach_any (A : Option Addr) (c : Nat) (l : List Tst) (A2 : Option Addr) (c2 : Nat) (h : Head) (f : List Vec) (hff : forcesM l h = f) (way : Vec) (w : World) (hr : RS encT 4 w w.heap.size A l) (hl : l.length ≤ maxLen) (hok : ∀ x ∈ l, x.ok = true) (hh : h.ok = true) (hg : RS encG 5 w w.heap.size A2 h.guys) (hway : VB way 10000) :
    Calls Try.prog 59 #[.slice A l.length c, .agg #[.int .i64 h.area, .int .i64 h.bears, .slice A2 h.guys.length c2], .agg #[.int .i64 way.x, .int .i64 way.y]] w fun e w' => e = .returned (.int .i64 (reachM h.area f way)) ∧ Below w.heap.size w w' := by
  obtain ⟨hfl, hfv⟩ := forces_in hff hok hh
  have har := Head.area_in hh
  have ppb := hway.times (n := h.area) (q := 1000) (by omega)
  have s1 : Sm (h.area * way.x) := by have := ppb.1; simp only [Vec.times] at this; unfold Sm; omega
  have s2 : Sm (h.area * way.y) := by have := ppb.2; simp only [Vec.times] at this; unfold Sm; omega
  have Hpp := Lib.hid ppb
  obtain ⟨R, hR⟩ := Int.eq_ofNat_of_zero_le (reachM_in (area := h.area) (f := f) (way := way)).1
  have hR2 := (reachM_in (area := h.area) (f := f) (way := way)).2
  have HB : Hid (∀ n : Nat, n ≤ 10000 → ∀ W B b1, RS encV 2 W W.heap.size B f → Calls Try.prog 58 #[.slice B f.length b1, .agg #[.int .i64 ((way.times h.area).times n).x, .int .i64 ((way.times h.area).times n).y]] W fun e w' => e = .returned (.bool (decide (n ≤ R))) ∧ Below W.heap.size W w') := by
    show ∀ n : Nat, _
    intro n hn W B b1 hrs
    refine refBalances_val ?_ B b1 W hrs (by omega) hfv ?_
    · rw [reach_iff hfv (by omega) (by omega), hR]
      by_cases h : n ≤ R
      · rw [decide_eq_true h, decide_eq_true (by omega)]
      · rw [decide_eq_false h, decide_eq_false (by omega)]
    · exact (ppb.times (n := n) (q := 10000) (by omega)).mono (by omega)
  have HFo := Lib.hid (fun W h1 h2 => refForces_val A c l A2 c2 h f hff W h1 hl hok hh h2)
  have hB := ((Below.refl w.heap.size w).alloc (Nat.le_refl _) (.cells #[.int .i64 h.area, .int .i64 h.bears, .slice A2 h.guys.length c2] 64)).alloc (by simp) (.cells #[.int .i64 way.x, .int .i64 way.y] 49)
  have bH := (Blk.new w 64 #[.int .i64 h.area, .int .i64 h.bears, .slice A2 h.guys.length c2]).alloc (.cells #[.int .i64 way.x, .int .i64 way.y] 49)
  have bV := Blk.new (w.alloc (.cells #[.int .i64 h.area, .int .i64 h.bears, .slice A2 h.guys.length c2] 64)) 49 #[.int .i64 way.x, .int .i64 way.y]
  simp only [World.size_alloc] at bV
  have hr1 := hr.to hB
  have hg1 := hg.to hB
  rw [hR] at hR2 ⊢
  clear hr hg ppb hok hh hfv hff hR hway
  go_enter Try.func59, Try.ntmps59
  go_wp2_with (go_at_call 27; refine (HFo.out _ hr1 hg1).mono ?_; rintro e w1 ⟨A1, c1, rfl, hrs, hb1⟩)
  have hB1 := hB.trans (hb1.mono hB.size)
  have bH1 := bH.below hb1 bH.lt
  have bV1 := bV.below hb1 bV.lt
  clear hr1 hg1 bH bV hb1 hB
  go_loopw [8, 9] (fun x y wr => ∃ k i : Nat, i ≤ 14 ∧ k ≤ R ∧ x = .int .i64 k ∧ y = .int .i64 (stepI i) ∧ R < k + (if i = 14 then 1 else 2 * stepI i) ∧ Below w1.heap.size w1 wr) (fun _ y _ => (intOf y).toNat)
  case atStart => exact ⟨0, 0, by omega, Nat.zero_le _, rfl, rfl, by simp [stepI]; omega, Below.refl _ _⟩
  case round =>
    obtain ⟨k, i, hi, hk, rfl, rfl, hlt, hBr⟩ := hrel
    by_cases hi14 : i < 14
    · obtain ⟨g1, g2, g3⟩ := step_in i hi14
      have hlt' : R < k + 2 * stepI i := by rw [if_neg (by omega)] at hlt; exact hlt
      have G3 := Lib.hid g3
      have Hnext := Lib.hid (step_next i)
      have Hlast := Lib.hid (fun h : i < 13 => step_half i h)
      obtain ⟨s, hs⟩ : ∃ s, stepI i = s := ⟨_, rfl⟩
      have Hs := Lib.hid hs
      rw [hs] at g1 g2 hlt' ⊢
      clear hlt g3 hs
      have e14 : decide ((0 : Int) < (s : Int)) = true := by simp <;> omega
      have e15 : decide (0 < s) = true := by simp <;> omega
      have e16 : 0 < s := by omega
      go_wp2
      obtain ⟨wo, hwo⟩ : ∃ y, y = wr := ⟨_, rfl⟩
      subst hwo
      go_loopw [8] (fun x wr => ∃ m : Nat, m ≤ R ∧ R < m + 2 * s ∧ x = .int .i64 m ∧ Below w1.heap.size w1 wr) (fun x _ => 20000 - (intOf x).toNat)
      case atStart => exact ⟨k, hk, hlt', rfl, hBr⟩
      case round =>
        obtain ⟨m, hm, hm2, rfl, hB2⟩ := hrel
        have hrs2 := hrs.to hB2
        have bH2 := bH1.below hB2 bH1.lt
        have bV2 := bV1.below hB2 bV1.lt
        have n1 : IntKind.i64.wrap ((m : Int) + s) = ((m + s : Nat) : Int) := by rw [IntWalk.i64_in _ (by omega)]; omega
        have hx := Lib.hid (Hpp.out.times (n := ((m + s : Nat) : Int)) (q := 30000) (by omega))
        have s3 : Sm (((m + s : Nat) : Int) * (way.times h.area).x) := by have := hx.out.1; simp only [Vec.times] at this; unfold Sm Vec.times; simp only; omega
        have s4 : Sm (((m + s : Nat) : Int) * (way.times h.area).y) := by have := hx.out.2; simp only [Vec.times] at this; unfold Sm Vec.times; simp only; omega
        have d1 : ((s : Int)).tdiv 2 = ((stepI (i + 1) : Nat) : Int) := by
          have := Hnext.out
          rw [Hs.out] at this
          rw [Int.tdiv_eq_ediv_of_nonneg (by omega)]; omega
        have d2 : ((s : Int)) / 2 = ((stepI (i + 1) : Nat) : Int) := by
          have := Hnext.out
          rw [Hs.out] at this
          omega
        have h0 := bH2.cell 0
        have v0 := bV2.cell 0
        have v1 := bV2.cell 1
        simp at h0 v0 v1
        clear bH2
        by_cases hle : m + s ≤ 10000
        · have e1 : decide (((m + s : Nat) : Int) ≤ 10000) = true := by simp; omega
          have Hb := Lib.hid (HB.out (m + s) hle)
          have tk : True := trivial
          by_cases hp : m + s ≤ R
          · have Hbt := Lib.hid (fun W B b1 hrs => (show Calls Try.prog 58 #[.slice B f.length b1, .agg #[.int .i64 ((way.times h.area).times ((m + s : Nat) : Int)).x, .int .i64 ((way.times h.area).times ((m + s : Nat) : Int)).y]] W fun e w' => e = .returned (.bool true) ∧ Below W.heap.size W w' from by have := Hb.out W B b1 hrs; rw [decide_eq_true hp] at this; exact this))
            go_wp2_with (first | (go_at_call 28; have := tk; clear this tk; refine (refTimes_any way h.area _ s1 s2).mono ?_; rintro e w2 ⟨rfl, hb2⟩; have hrs3 := hrs2.to hb2) | (go_at_call 28; refine (refTimes_any (way.times h.area) ((m + s : Nat) : Int) _ s3 s4).mono ?_; rintro e w3 ⟨rfl, hb3⟩; have hrs4 := hrs3.to hb3) | (go_at_call 58; refine (Hbt.out _ A1 c1 hrs4).mono ?_; rintro e w4 ⟨rfl, hb4⟩))
            have b1 := sh_next hb2 hb3
            have b2 := b1.trans (hb4.mono b1.size)
            go_roundw
            case rel => exact ⟨m + s, hp, by omega, by go_num, hB2.trans (b2.mono hB2.size)⟩
            case measure => simp [intOf]; omega
          · have Hbt := Lib.hid (fun W B b1 hrs => (show Calls Try.prog 58 #[.slice B f.length b1, .agg #[.int .i64 ((way.times h.area).times ((m + s : Nat) : Int)).x, .int .i64 ((way.times h.area).times ((m + s : Nat) : Int)).y]] W fun e w' => e = .returned (.bool false) ∧ Below W.heap.size W w' from by have := Hb.out W B b1 hrs; rw [decide_eq_false hp] at this; exact this))
            go_wp2_with (first | (go_at_call 28; have := tk; clear this tk; refine (refTimes_any way h.area _ s1 s2).mono ?_; rintro e w2 ⟨rfl, hb2⟩; have hrs3 := hrs2.to hb2) | (go_at_call 28; refine (refTimes_any (way.times h.area) ((m + s : Nat) : Int) _ s3 s4).mono ?_; rintro e w3 ⟨rfl, hb3⟩; have hrs4 := hrs3.to hb3) | (go_at_call 58; refine (Hbt.out _ A1 c1 hrs4).mono ?_; rintro e w4 ⟨rfl, hb4⟩))
            have b1 := sh_next hb2 hb3
            have b2 := b1.trans (hb4.mono b1.size)
            refine ⟨⟨m, i + 1, by omega, hm, rfl, ?_, ?_, hB2.trans (b2.mono hB2.size)⟩, ?_⟩
            · have := Hnext.out
              rw [Hs.out] at this
              done
            · have := Hnext.out
              rw [Hs.out] at this
              by_cases h13 : i < 13
              · have h2 := Hlast.out h13
                rw [Hs.out] at h2
                rw [if_neg (by omega)]; omega
              · have h3 := step_last.1
                have : i = 13 := by omega
                subst this
                rw [Hs.out] at h3
                rw [if_pos rfl]; omega
            · have := Hnext.out
              have h2 := G3.out
              rw [Hs.out] at this h2
              simp [intOf]; omega
        · have e1 : decide (((m + s : Nat) : Int) ≤ 10000) = false := by simp; omega
          have e2 : ¬ ((m + s : Nat) : Int) ≤ 10000 := by omega
          go_wp2
          refine ⟨⟨m, i + 1, by omega, hm, rfl, ?_, ?_, hB2⟩, ?_⟩
          · have := Hnext.out
            rw [Hs.out] at this
            done
          · have := Hnext.out
            rw [Hs.out] at this
            by_cases h13 : i < 13
            · have h2 := Hlast.out h13
              rw [Hs.out] at h2
              rw [if_neg (by omega)]; omega
            · have h3 := step_last.1
              have : i = 13 := by omega
              subst this
              rw [Hs.out] at h3
              rw [if_pos rfl]; omega
          · have := Hnext.out
            have h2 := G3.out
            rw [Hs.out] at this h2
            simp [intOf]; omega
    · have : i = 14 := by omega
      subst this
      rw [step_last.2]
      rw [if_pos rfl] at hlt
      have hkR : k = R := by omega
      subst hkR
      go_wp2
      go_ret
      exact ⟨rfl, hB1.trans (hBr.mono hB1.size)⟩

/-- The reach of a head in a direction, and its error. -/
structure ReachIs (l : List Tst) (t : List Head) (head : Int) (way : Vec) (r er : Int) : Prop where
  bad : headE l t head (wayIn way) ≠ 0 → r = 0 ∧ er = headE l t head (wayIn way)
  good : headE l t head (wayIn way) = 0 → er = 0 ∧ ∃ (k : Nat) (h : Head), head = k ∧ t[k]? = some h ∧ reachM h.area (forcesM l h) way = r
theorem reachIs_ex (l : List Tst) (t : List Head) (head : Int) (way : Vec) : ∃ r er, ReachIs l t head way r er := by
  by_cases h : headE l t head (wayIn way) = 0
  · obtain ⟨k, x, rfl, hx⟩ := headE_get h
    exact ⟨_, _, fun e => absurd h e, fun _ => ⟨rfl, k, x, rfl, hx, rfl⟩⟩
  · exact ⟨_, _, fun _ => ⟨rfl, rfl⟩, fun e => absurd e h⟩
theorem Reach_any {l : List Tst} {t : List Head} {head : Int} {way : Vec} {r er : Int} (hI : ReachIs l t head way r er) (A : Option Addr) (c : Nat) (A' : Option Addr) (c' : Nat) (w : World) (hr : RS encT 4 w w.heap.size A l) (hl : l.length ≤ maxLen) (ht : RH w w.heap.size A' t) (htl : t.length ≤ maxLen) :
    Calls Try.prog 40 #[.slice A l.length c, .slice A' t.length c', .int .i64 head, .agg #[.int .i64 way.x, .int .i64 way.y]] w fun e w' => e = .returned (.tuple #[.int .i64 r, .int .i64 er]) ∧ Below w.heap.size w w' := by
  by_cases h : headE l t head (wayIn way) = 0
  · obtain ⟨rfl, k, x, rfl, hx, e1⟩ := hI.good h
    have := Reach_ok A c l A' c' t k x hx way _ rfl w hr hl ht htl h
    rw [e1] at this
    exact this
  · obtain ⟨rfl, e3⟩ := hI.bad h
    exact Reach_err A c l A' c' t head way er (by rw [e3]; exact h) w hr hl ht htl e3.symm
theorem wayIn_eq (way : Vec) : wayIn way = (way.corner && !(decide (way.x = 0 ∧ way.y = 0))) := by
  unfold wayIn
  rw [show way.insideB 10000 = way.corner from rfl, Bool.and_comm]
  congr 1
  by_cases h : way.x = 0 ∧ way.y = 0
  · rw [decide_eq_true h, decide_eq_false (by simpa [vecZ_iff] using h)]; rfl
  · rw [decide_eq_false h, decide_eq_true (by simpa [vecZ_iff] using h)]; rfl

theorem reaches_many (A : Option Addr) (c : Nat) (l : List Tst) (A' : Option Addr) (c' : Nat) (t : List Head) (head : Int) (push : Vec) (w : World) (ht : RH w w.heap.size A' t) (hl : l.length ≤ maxLen) (htl : t.length ≤ maxLen) (hf : fewB l t = false) :
    Calls Try.prog 13 #[.slice A l.length c, .slice A' t.length c', .int .i64 head, .agg #[.int .i64 push.x, .int .i64 push.y]] w fun e w' => e = .returned (.bool true) ∧ Below w.heap.size w w' := by
  have Hv := Lib.hid (fun W h => hf ▸ Few_any A c l A' c' t W h hl htl)
  have hB := (Below.refl w.heap.size w).alloc (Nat.le_refl _) (.cells #[.int .i64 push.x, .int .i64 push.y] 49)
  have ht1 := ht.to hB
  clear hf hl htl ht
  go_enter Try.func13, Try.ntmps13
  go_wp2_with (first | (go_at_call 14; refine (Hv.out _ ht1).mono ?_; rintro e w1 ⟨rfl, hb1⟩) | (go_at_call 20; refine (wakes_any _).mono ?_; rintro e w2 ⟨rfl, hb2⟩; obtain ⟨hc2, hf2⟩ := bcell hb2))
  go_ret
  exact ⟨rfl, hB.trans ((sh_next hb1 hb2).mono hB.size)⟩

set_option maxRecDepth 100000 in
set_option maxHeartbeats 4000000 in
theorem reaches_main (A : Option Addr) (c : Nat) (l : List Tst) (A' : Option Addr) (c' : Nat) (t : List Head) (head : Int) (way : Vec) (w : World) (hr : RS encT 4 w w.heap.size A l) (ht : RH w w.heap.size A' t) (hf : fewB l t = true) :
    Calls Try.prog 13 #[.slice A l.length c, .slice A' t.length c', .int .i64 head, .agg #[.int .i64 way.x, .int .i64 way.y]] w fun e w' => e = .returned (.bool true) ∧ Below w.heap.size w w' := by
  obtain ⟨hg10, hl45, ht15⟩ := fewB_iff.1 hf
  have hlm : l.length ≤ maxLen := by show _ ≤ _; unfold maxLen; omega
  have htm : t.length ≤ maxLen := by show _ ≤ _; unfold maxLen; omega
  obtain ⟨r, er, hI⟩ := reachIs_ex l t head way
  have HI := Lib.hid hI
  obtain ⟨z, hz⟩ : ∃ z, headE l t head (wayIn way) = z := ⟨_, rfl⟩
  have Hz := Lib.hid hz
  have HFew := Lib.hid (fun W h => hf ▸ Few_any A c l A' c' t W h hlm htm)
  have HTent := Lib.hid (fun W h => Tent_any A' c' t W h (by omega) (fun x hx => by have := hg10 x hx; omega))
  have HTests := Lib.hid (fun W h => Tests_any A c l W h (by omega))
  have HRe := Lib.hid (fun W B b1 B' b2 hr ht => Reach_any hI B b1 B' b2 W hr hlm ht htm)
  have HAsk := Lib.hid (fun b (hb : wayIn way = b) W hr ht => (hb ▸ hz) ▸ asked_any A c l A' c' t head b W hr hlm ht htm)
  have hB := (Below.refl w.heap.size w).alloc (Nat.le_refl _) (.cells #[.int .i64 way.x, .int .i64 way.y] 49)
  have kP := Blk.new w 49 #[.int .i64 way.x, .int .i64 way.y]
  have hr1 := hr.to hB
  have ht1 := ht.to hB
  clear hf hg10 hI hr ht hz
  go_enter Try.func13, Try.ntmps13
  go_upto_region 3 with (go_at_call 14; refine (HFew.out _ ht1).mono ?_; rintro e w1 ⟨rfl, hb1⟩)
  have hB1 := hB.trans (hb1.mono hB.size)
  have hr2 := hr1.to hb1
  have ht2 := ht1.to hb1
  have kP1 := kP.below hb1 kP.lt
  clear hr1 ht1 kP hb1 hB
  refine name_world (motive := fun W => Code.wp _ _ _ _ W) _ ?_
  intro W0 hW
  have hWc := hW.cell
  have hWz := hW.size
  have hWb := hW.below (Below.refl w1.heap.size w1)
  have hr0 : RS encT 4 W0 W0.heap.size A l := by rw [hW.eq.out]; exact hr2
  have ht0 : RH W0 W0.heap.size A' t := by rw [hW.eq.out]; exact ht2
  have kP := hW.blk kP1
  have k0 := kP.cell 0
  have k1 := kP.cell 1
  simp at k0 k1
  have kz := kP.lt
  clear hWc hWz hr2 ht2 kP1
  go_region_held3 (fun w' => (∀ b o, b < W0.heap.size → w'.cell? ⟨b, o, none⟩ = W0.cell? ⟨b, o, none⟩) ∧ Below W0.heap.size W0 w') (first | with_reducible exact sh_refl _ | (with_reducible refine sh_of ?_; with_reducible assumption) | (with_reducible refine sh_alloc ?_ _; with_reducible assumption) | with_reducible exact sh_first _ _)
    (first | (go_at_call 17; go_split_ands; have hS2 : Below W0.heap.size W0 _ := (by with_reducible assumption); refine (HTests.out _ (hr0.to hS2)).mono ?_; rintro e w2 ⟨A3, c3, rfl, hs2, _, _, hb2⟩; have hB2 := sh_next hS2 hb2) | (go_at_call 18; go_split_ands; have hS3 : Below W0.heap.size W0 _ := (by with_reducible assumption); refine (HTent.out _ (ht0.to hS3)).mono ?_; rintro e w3 ⟨A4, c4, rfl, hs3, _, _, hb3⟩; have hB3 := sh_next hS3 hb3; have hs2a := hs2.to hb3) | (go_at_call 25; go_split_ands; have hS4 : Below W0.heap.size W0 _ := (by with_reducible assumption); refine (Vector_any way _).mono ?_; rintro e w4 ⟨rfl, hb4⟩; have hB4 := sh_next hS4 hb4; have hs2b := hs2a.to hb4; have hs3b := hs3.to hb4) | (go_at_call 40; go_split_ands; have hS5 : Below W0.heap.size W0 _ := (by with_reducible assumption); refine (HRe.out _ A3 c3 A4 c4 hs2b hs3b).mono ?_; rintro e w5 ⟨rfl, hb5⟩; have hB5 := sh_next hS5 hb5))
  have hr3 := hr0.to hB5
  have ht3 := ht0.to hB5
  have kP2 := kP.below hB5 kP.lt
  have hB2 := hB1.trans ((hWb.trans (hB5.mono hWb.size)).mono hB1.size)
  have p0 := kP2.cell 0
  have p1 := kP2.cell 1
  simp at p0 p1
  clear hr0 ht0 kP k0 k1 kz hB1 hWb hB5 hs2 hs2a hs2b hs3 hs3b hb2 hb3 hb4 hb5
  go_upto_region 4 with fail
  go_cut [11] (fun s11 wx => s11 = .int .i64 z ∧ Below w5.heap.size w5 wx)
  case first =>
    cases hc : way.corner
    · have Ha := Lib.hid (HAsk.out false (by rw [wayIn_eq, hc]; rfl))
      go_wp2_with (first | (go_at_call 23; refine (refCorner_val hc _).mono ?_; rintro e w6 ⟨rfl, hb6⟩) | (go_at_call 22; refine (Ha.out _ (hr3.to hb6) (ht3.to hb6)).mono ?_; rintro e w7 ⟨rfl, hb7⟩))
      go_meet
      exact ⟨rfl, sh_next hb6 hb7⟩
    · by_cases hx : way.x = 0
      · by_cases hy : way.y = 0
        · have Ha := Lib.hid (HAsk.out false (by rw [wayIn_eq, hc, decide_eq_true ⟨hx, hy⟩]; rfl))
          have e1 : (way.x == 0) = true := by simpa using hx
          have e2 : (way.y == 0) = true := by simpa using hy
          clear hx hy
          go_wp2_with (first | (go_at_call 23; refine (refCorner_val hc _).mono ?_; rintro e w6 ⟨rfl, hb6⟩; have kP3 := kP2.below hb6 kP2.lt; have y0 := kP3.cell 0; have y1 := kP3.cell 1; simp at y0 y1) | (go_at_call 22; refine (Ha.out _ (hr3.to hb6) (ht3.to hb6)).mono ?_; rintro e w7 ⟨rfl, hb7⟩))
          go_meet
          exact ⟨rfl, sh_next hb6 hb7⟩
        · have Ha := Lib.hid (HAsk.out true (by rw [wayIn_eq, hc, decide_eq_false (fun e => hy e.2)]; rfl))
          have e1 : (way.x == 0) = true := by simpa using hx
          have e2 : (way.y == 0) = false := by simpa using hy
          clear hx hy
          go_wp2_with (first | (go_at_call 23; refine (refCorner_val hc _).mono ?_; rintro e w6 ⟨rfl, hb6⟩; have kP3 := kP2.below hb6 kP2.lt; have y0 := kP3.cell 0; have y1 := kP3.cell 1; simp at y0 y1) | (go_at_call 22; refine (Ha.out _ (hr3.to hb6) (ht3.to hb6)).mono ?_; rintro e w7 ⟨rfl, hb7⟩))
          go_meet
          exact ⟨rfl, sh_next hb6 hb7⟩
      · have Ha := Lib.hid (HAsk.out true (by rw [wayIn_eq, hc, decide_eq_false (fun e => hx e.1)]; rfl))
        have e1 : (way.x == 0) = false := by simpa using hx
        clear hx
        go_wp2_with (first | (go_at_call 23; refine (refCorner_val hc _).mono ?_; rintro e w6 ⟨rfl, hb6⟩; have kP3 := kP2.below hb6 kP2.lt; have y0 := kP3.cell 0; have y1 := kP3.cell 1; simp at y0 y1) | (go_at_call 22; refine (Ha.out _ (hr3.to hb6) (ht3.to hb6)).mono ?_; rintro e w7 ⟨rfl, hb7⟩))
        go_meet
        exact ⟨rfl, sh_next hb6 hb7⟩
  case rest =>
    obtain ⟨rfl, hBx⟩ := hcut
    have hr4 := hr3.to hBx
    have ht4 := ht3.to hBx
    have kP3 := kP2.below hBx kP2.lt
    have hB3 := hB2.trans (hBx.mono hB2.size)
    clear hr3 ht3 kP2 p0 p1 hB2 hBx
    by_cases h0 : z = 0
    · subst h0
      obtain ⟨rfl, k, x, hk, hx, e1⟩ := HI.out.good Hz.out
      obtain ⟨hin, hok, hhk, har, hfl, hfv⟩ := asked_ok (by rw [← hk]; exact Hz.out) hx rfl
      have hcor : way.corner = true := by rw [wayIn_eq] at hin; simp at hin; exact hin.1
      have HRR := Lib.hid (fun W B b1 h1 h2 => e1 ▸ refReach_any A c l B b1 x _ rfl way W h1 hlm hok hhk h2 (Vec.corner_iff.1 hcor))
      have hkl := lt_of_getElem? hx
      have Hx := Lib.hid hx
      subst hk
      clear hin hok hhk har hfl hfv hx e1 hcor
      go_wp2
      refine name_world (motive := fun W => Code.wp _ _ _ _ W) _ ?_
      intro W0 hW
      have hWc := hW.cell
      have hWz := hW.size
      have hWb := hW.below (Below.refl wc.heap.size wc)
      have hr0 : RS encT 4 W0 W0.heap.size A l := by rw [hW.eq.out]; exact hr4
      have kP := hW.blk kP3
      have p0 := kP.cell 0
      have p1 := kP.cell 1
      simp at p0 p1
      have kz := kP.lt
      obtain ⟨b, off, A6, c6, rfl, hb, x0, x1, x2, hg1, hg2, hg⟩ := (show RH W0 W0.heap.size A' t from by rw [hW.eq.out]; exact ht4).at_ Hx.out
      clear ht4 hr4 hWc hWz kP3
      (first | (go_region_held3 (fun w' => (∀ b o, b < W0.heap.size → w'.cell? ⟨b, o, none⟩ = W0.cell? ⟨b, o, none⟩) ∧ Below W0.heap.size W0 w') (first | with_reducible exact sh_refl _ | (with_reducible refine sh_of ?_; with_reducible assumption) | (with_reducible refine sh_alloc ?_ _; with_reducible assumption) | with_reducible exact sh_first _ _) (first | (go_at_call 59; go_split_ands; have hS1 : Below W0.heap.size W0 _ := (by with_reducible assumption); refine (HRR.out _ A6 c6 (hr0.to hS1) ((hg.below hS1 (Nat.le_refl _)).more hS1.size)).mono ?_; rintro e w9 ⟨rfl, hb9⟩; have hB9 := sh_next hS1 hb9) | (go_at_call 20; go_split_ands; have hS10 : Below W0.heap.size W0 _ := (by with_reducible assumption); refine (wakes_any _).mono ?_; rintro e w10 ⟨rfl, hb10⟩; have hB10 := sh_next hS10 hb10))) | fail)
      all_goals
        go_wp2
        go_ret
        exact ⟨rfl, hB3.trans ((hWb.trans (hB10.mono hWb.size)).mono hB3.size)⟩
    · obtain ⟨rfl, e3⟩ := HI.out.bad (by rw [Hz.out]; exact h0)
      rw [Hz.out] at e3
      subst e3
      have e1 : (er != 0) = true := by simpa using h0
      clear hr4 ht4 kP3
      go_wp2_with ((go_at_call 20; refine (wakes_any _).mono ?_; rintro e w12 ⟨rfl, hb12⟩; obtain ⟨hc12, hf12⟩ := bcell hb12))
      go_ret
      exact ⟨rfl, hB3.trans (hb12.mono hB3.size)⟩

theorem reaches_any (A : Option Addr) (c : Nat) (l : List Tst) (A' : Option Addr) (c' : Nat) (t : List Head) (head : Int) (way : Vec) (w : World) (hr : RS encT 4 w w.heap.size A l) (hl : l.length ≤ maxLen) (ht : RH w w.heap.size A' t) (htl : t.length ≤ maxLen) :
    Calls Try.prog 13 #[.slice A l.length c, .slice A' t.length c', .int .i64 head, .agg #[.int .i64 way.x, .int .i64 way.y]] w fun e w' => e = .returned (.bool true) ∧ Below w.heap.size w w' := by
  cases hf : fewB l t with
  | false => exact reaches_many A c l A' c' t head way w ht hl htl hf
  | true => exact reaches_main A c l A' c' t head way w hr ht hf
end Go.Proofs.Ytibaindlbpfecaa
