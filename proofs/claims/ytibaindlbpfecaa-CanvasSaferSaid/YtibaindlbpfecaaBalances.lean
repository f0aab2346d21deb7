import Derived.Test.YtibaindlbpfecaaBalA
import Derived.Test.YtibaindlbpfecaaCanH

namespace Go.Proofs.Ytibaindlbpfecaa
open Go.RowKit

def BalAll (wh : Int) (ps : List Int) (er : Int) (w : World) (e : Ending) (w' : World) : Prop :=
  ∃ A c, e = .returned (.tuple #[.agg #[.int .i64 wh, .slice A ps.length c], .int .i64 er]) ∧ RS encI 1 w' w'.heap.size A ps ∧ ps.length ≤ c ∧ c ≤ maxLen ∧ Below w.heap.size w w' ∧ ∀ ad, A = some ad → w.heap.size ≤ ad.block
/-- What the program's balance of a head and a push is: a whole, parts and an error. -/
structure BalIs (l : List Tst) (t : List Head) (head : Int) (push : Vec) (wh : Int) (ps : List Int) (er : Int) : Prop where
  bad : headE l t head push.corner ≠ 0 → wh = 0 ∧ ps = [] ∧ er = headE l t head push.corner
  good : headE l t head push.corner = 0 → ∃ (k : Nat) (h : Head), head = k ∧ t[k]? = some h ∧ (findBal (push.times h.area) (forcesM l h)).getD (0, []) = (wh, ps) ∧ er = if (findBal (push.times h.area) (forcesM l h)).isSome then 0 else 7
theorem balIs_ex (l : List Tst) (t : List Head) (head : Int) (push : Vec) : ∃ wh ps er, BalIs l t head push wh ps er := by
  by_cases h : headE l t head push.corner = 0
  · obtain ⟨k, x, rfl, hx⟩ := headE_get h
    exact ⟨_, _, _, fun e => absurd h e, fun _ => ⟨k, x, rfl, hx, rfl, rfl⟩⟩
  · exact ⟨_, _, _, fun _ => ⟨rfl, rfl, rfl⟩, fun e => absurd e h⟩
def BalOwn (wh : Int) (ps : List Int) (er : Int) (w : World) (e : Ending) (w' : World) : Prop :=
  ∃ A c, e = .returned (.tuple #[.agg #[.int .i64 wh, .slice A ps.length c], .int .i64 er]) ∧ RSF w' w'.heap.size A ps ∧ ps.length ≤ c ∧ c ≤ maxLen ∧ Below w.heap.size w w' ∧ ∀ ad, A = some ad → w.heap.size ≤ ad.block
theorem Balanced_any {l : List Tst} {t : List Head} {head : Int} {push : Vec} {wh : Int} {ps : List Int} {er : Int} (hI : BalIs l t head push wh ps er) (A : Option Addr) (c : Nat) (A' : Option Addr) (c' : Nat) (w : World) (hr : RS encT 4 w w.heap.size A l) (hl : l.length ≤ maxLen) (ht : RH w w.heap.size A' t) (htl : t.length ≤ maxLen) :
    Calls Try.prog 24 #[.slice A l.length c, .slice A' t.length c', .int .i64 head, .agg #[.int .i64 push.x, .int .i64 push.y]] w (BalAll wh ps er w) := by
  by_cases h : headE l t head push.corner = 0
  · obtain ⟨k, x, rfl, hx, e1, e2⟩ := hI.good h
    have := Balanced_fr A c l A' c' t k x hx push _ rfl w hr hl ht htl h
    unfold BalancedFr at this
    rw [e1, ← e2] at this
    exact this.mono fun e w' ⟨A, c, h1, h2, h3⟩ => ⟨A, c, h1, h2.1, h3⟩
  · obtain ⟨rfl, rfl, e3⟩ := hI.bad h
    refine (Balanced_err A c l A' c' t head push er (by rw [e3]; exact h) w hr hl ht htl e3.symm).mono ?_
    rintro e w' ⟨rfl, hb⟩
    exact ⟨none, 0, rfl, .inl rfl, Nat.le_refl _, Nat.zero_le _, hb, fun ad e => by cases e⟩

theorem Balanced_own {l : List Tst} {t : List Head} {head : Int} {push : Vec} {wh : Int} {ps : List Int} {er : Int} (hI : BalIs l t head push wh ps er) (A : Option Addr) (c : Nat) (A' : Option Addr) (c' : Nat) (w : World) (hr : RS encT 4 w w.heap.size A l) (hl : l.length ≤ maxLen) (ht : RH w w.heap.size A' t) (htl : t.length ≤ maxLen) :
    Calls Try.prog 24 #[.slice A l.length c, .slice A' t.length c', .int .i64 head, .agg #[.int .i64 push.x, .int .i64 push.y]] w (BalOwn wh ps er w) := by
  by_cases h : headE l t head push.corner = 0
  · obtain ⟨k, x, rfl, hx, e1, e2⟩ := hI.good h
    have := Balanced_fr A c l A' c' t k x hx push _ rfl w hr hl ht htl h
    unfold BalancedFr at this
    rw [e1, ← e2] at this
    exact this
  · obtain ⟨rfl, rfl, e3⟩ := hI.bad h
    refine (Balanced_err A c l A' c' t head push er (by rw [e3]; exact h) w hr hl ht htl e3.symm).mono ?_
    rintro e w' ⟨rfl, hb⟩
    exact ⟨none, 0, rfl, RSF.nil, Nat.le_refl _, Nat.zero_le _, hb, fun ad e => by cases e⟩

theorem box_close {w1 w5 : World} {X : Nat} {A5 : Option Addr} {ps : List Int} {wh : Int} {c5 : Nat} (hb : Blk w5 X 55 #[.int .i64 0, .slice none 0 0]) (hrb : RS encI 1 w5 w5.heap.size A5 ps) (hfr : ∀ ad, A5 = some ad → ad.block ≠ X) (hB : Below w1.heap.size w1 w5) (hX : w1.heap.size ≤ X) :
    Blk ((w5.setCell ⟨X, 0, none⟩ (.int .i64 wh)).setCell ⟨X, 1, none⟩ (.slice A5 ps.length c5)) X 55 #[.int .i64 wh, .slice A5 ps.length c5] ∧
    RS encI 1 ((w5.setCell ⟨X, 0, none⟩ (.int .i64 wh)).setCell ⟨X, 1, none⟩ (.slice A5 ps.length c5)) ((w5.setCell ⟨X, 0, none⟩ (.int .i64 wh)).setCell ⟨X, 1, none⟩ (.slice A5 ps.length c5)).heap.size A5 ps ∧
    Below w1.heap.size w1 ((w5.setCell ⟨X, 0, none⟩ (.int .i64 wh)).setCell ⟨X, 1, none⟩ (.slice A5 ps.length c5)) := by
  refine ⟨?_, ?_, ?_⟩
  · have := (hb.set_ 0 (.int .i64 wh)).set_ 1 (.slice A5 ps.length c5)
    simpa using this
  · exact ((hrb.far (p := ⟨X, 0, none⟩) (fun ad e => by have := hfr ad e; dsimp only; omega) _).far (p := ⟨X, 1, none⟩) (fun ad e => by have := hfr ad e; dsimp only; omega) _).more (by simp)
  · exact (hB.setCell (p := ⟨X, 0, none⟩) (by dsimp only; omega) _).setCell (p := ⟨X, 1, none⟩) (by dsimp only; omega) _
theorem balances_many (A : Option Addr) (c : Nat) (l : List Tst) (A' : Option Addr) (c' : Nat) (t : List Head) (head : Int) (push : Vec) (w : World) (ht : RH w w.heap.size A' t) (hl : l.length ≤ maxLen) (htl : t.length ≤ maxLen) (hf : fewB l t = false) :
    Calls Try.prog 12 #[.slice A l.length c, .slice A' t.length c', .int .i64 head, .agg #[.int .i64 push.x, .int .i64 push.y]] w fun e w' => e = .returned (.bool true) ∧ Below w.heap.size w w' := by
  have Hv := Lib.hid (fun W h => hf ▸ Few_any A c l A' c' t W h hl htl)
  have hB := (Below.refl w.heap.size w).alloc (Nat.le_refl _) (.cells #[.int .i64 push.x, .int .i64 push.y] 49)
  have ht1 := ht.to hB
  clear hf hl htl ht
  go_enter Try.func12, Try.ntmps12
  go_wp2_with (first | (go_at_call 14; refine (Hv.out _ ht1).mono ?_; rintro e w1 ⟨rfl, hb1⟩) | (go_at_call 20; refine (wakes_any _).mono ?_; rintro e w2 ⟨rfl, hb2⟩; obtain ⟨hc2, hf2⟩ := bcell hb2))
  go_ret
  exact ⟨rfl, hB.trans ((sh_next hb1 hb2).mono hB.size)⟩

set_option linter.unusedSimpArgs false in
set_option maxRecDepth 100000 in
set_option maxHeartbeats 4000000 in
theorem balances_main (A : Option Addr) (c : Nat) (l : List Tst) (A' : Option Addr) (c' : Nat) (t : List Head) (head : Int) (push : Vec) (w : World) (hr : RS encT 4 w w.heap.size A l) (ht : RH w w.heap.size A' t) (hf : fewB l t = true) :
    Calls Try.prog 12 #[.slice A l.length c, .slice A' t.length c', .int .i64 head, .agg #[.int .i64 push.x, .int .i64 push.y]] w fun e w' => e = .returned (.bool true) ∧ Below w.heap.size w w' := by
  obtain ⟨hg10, hl45, ht15⟩ := fewB_iff.1 hf
  have hlm : l.length ≤ maxLen := by show _ ≤ _; unfold maxLen; omega
  have htm : t.length ≤ maxLen := by show _ ≤ _; unfold maxLen; omega
  obtain ⟨wh, ps, er, hI⟩ := balIs_ex l t head push
  have HI := Lib.hid hI
  have HFew := Lib.hid (fun W h => hf ▸ Few_any A c l A' c' t W h hlm htm)
  have HTent := Lib.hid (fun W h => Tent_any A' c' t W h (by omega) (fun x hx => by have := hg10 x hx; omega))
  have HTests := Lib.hid (fun W h => Tests_any A c l W h (by omega))
  have HBal := Lib.hid (fun W B b1 B' b2 hr ht => Balanced_any hI B b1 B' b2 W hr hlm ht htm)
  obtain ⟨z, hz⟩ : ∃ z, headE l t head push.corner = z := ⟨_, rfl⟩
  have HAsk := Lib.hid (fun W hr ht => hz ▸ asked_any A c l A' c' t head push.corner W hr hlm ht htm)
  have Hz := Lib.hid hz
  have hB := (Below.refl w.heap.size w).alloc (Nat.le_refl _) (.cells #[.int .i64 push.x, .int .i64 push.y] 49)
  have kP := Blk.new w 49 #[.int .i64 push.x, .int .i64 push.y]
  have hr1 := hr.to hB
  have ht1 := ht.to hB
  clear hf hg10 hI hr ht hz
  go_enter Try.func12, Try.ntmps12
  go_upto_region 3 with (go_at_call 14; refine (HFew.out _ ht1).mono ?_; rintro e w1 ⟨rfl, hb1⟩)
  have hB1 := hB.trans (hb1.mono hB.size)
  have hr2 := hr1.to hb1
  have ht2 := ht1.to hb1
  have kP1 := kP.below hb1 kP.lt
  clear hr1 ht1 kP hb1 hB
  go_cut [9, 10] (fun s9 s10 wx => ∃ (B : Nat) (A5 : Option Addr) (c5 : Nat), s9 = .pointer (some ⟨B, 0, none⟩) ∧ s10 = .int .i64 er ∧ Blk wx B 55 #[.int .i64 wh, .slice A5 ps.length c5] ∧ RS encI 1 wx wx.heap.size A5 ps ∧ ps.length ≤ c5 ∧ c5 ≤ maxLen ∧ Below w1.heap.size w1 wx)
  case first =>
    refine name_world (motive := fun W => Code.wp _ _ _ _ W) _ ?_
    intro W0 hW
    have hWc := hW.cell
    have hWz := hW.size
    have hWb := hW.below (Below.refl w1.heap.size w1)
    have hr0 : RS encT 4 W0 W0.heap.size A l := by rw [hW.eq.out]; exact hr2
    have ht0 : RH W0 W0.heap.size A' t := by rw [hW.eq.out]; exact ht2
    have kP := hW.blk kP1
    have k0 := kP.cell 0
    have k1 := kP.cell 1
    simp at k0 k1
    have kz := kP.lt
    clear hWc hWz hr2 ht2 kP1
    go_region_held3 (fun w' => (∀ b o, b < W0.heap.size → w'.cell? ⟨b, o, none⟩ = W0.cell? ⟨b, o, none⟩) ∧ Below W0.heap.size W0 w') (first | with_reducible exact sh_refl _ | (with_reducible refine sh_of ?_; with_reducible assumption) | (with_reducible refine sh_alloc ?_ _; with_reducible assumption) | with_reducible exact sh_first _ _ | (refine sh_of ?_; repeat' (first | with_reducible assumption | with_reducible exact Below.refl _ _ | with_reducible refine Below.drew ?_ | with_reducible refine Below.alloc ?_ (by simp <;> omega) _ | with_reducible refine Below.setCell ?_ (by simp <;> omega) _)))
      (first | (go_at_call 17; go_split_ands; have hS2 : Below W0.heap.size W0 _ := (by with_reducible assumption); refine (HTests.out _ (hr0.to hS2)).mono ?_; rintro e w2 ⟨A3, c3, rfl, hs2, _, _, hb2⟩; have hB2 := sh_next hS2 hb2; obtain ⟨hd2, hf2⟩ := bcell hb2; have hy2 := hb2.size; have hz2 := hB2.size; (try have hq20 : W0.heap.size < w2.heap.size := (by (try simp at hy2); omega))) | (go_at_call 18; go_split_ands; have hS3 : Below W0.heap.size W0 _ := (by with_reducible assumption); refine (HTent.out _ (ht0.to hS3)).mono ?_; rintro e w3 ⟨A4, c4, rfl, hs3, _, _, hb3⟩; have hB3 := sh_next hS3 hb3; obtain ⟨hd3, hf3⟩ := bcell hb3; have hy3 := hb3.size; have hz3 := hB3.size; have hs2a : RS encT 4 w3 w3.heap.size A3 l := (by first | exact hs2.to hb3 | exact (hs2.to ((Below.refl _ _).alloc (Nat.le_refl _) _)).to hb3); (try have hq30 : W0.heap.size < w3.heap.size := (by (try simp at hy3); omega)); (try have hq32 : w2.heap.size < w3.heap.size := (by (try simp at hy3); omega))) | (go_at_call 25; go_split_ands; have hS4 : Below W0.heap.size W0 _ := (by with_reducible assumption); refine (Vector_any push _).mono ?_; rintro e w4 ⟨rfl, hb4⟩; have hB4 := sh_next hS4 hb4; obtain ⟨hd4, hf4⟩ := bcell hb4; have hy4 := hb4.size; have hz4 := hB4.size; have hs2b : RS encT 4 w4 w4.heap.size A3 l := (by first | exact hs2a.to hb4 | exact (hs2a.to ((Below.refl _ _).alloc (Nat.le_refl _) _)).to hb4); have hs3b : RH w4 w4.heap.size A4 t := (by first | exact hs3.to hb4 | exact (hs3.to ((Below.refl _ _).alloc (Nat.le_refl _) _)).to hb4); (try have hq40 : W0.heap.size < w4.heap.size := (by (try simp at hy4); omega)); (try have hq42 : w2.heap.size < w4.heap.size := (by (try simp at hy4); omega)); (try have hq43 : w3.heap.size < w4.heap.size := (by (try simp at hy4); omega))) | (go_at_call 24; go_split_ands; have hS5 : Below W0.heap.size W0 _ := (by with_reducible assumption); refine (HBal.out _ A3 c3 A4 c4 (by first | exact hs2b | exact hs2b.to ((Below.refl _ _).alloc (Nat.le_refl _) _)) (by first | exact hs3b | exact hs3b.to ((Below.refl _ _).alloc (Nat.le_refl _) _))).mono ?_; rintro e w5 ⟨A5, c5, rfl, hrb, hq1, hq2, hb5, hq3⟩; have hB5 := sh_next hS5 hb5; obtain ⟨hd5, hf5⟩ := bcell hb5; have hy5 := hb5.size; have hz5 := hB5.size; (try have hq50 : W0.heap.size < w5.heap.size := (by (try simp at hy5); omega)); (try have hq52 : w2.heap.size < w5.heap.size := (by (try simp at hy5); omega)); (try have hq53 : w3.heap.size < w5.heap.size := (by (try simp at hy5); omega)); (try have hq54 : w4.heap.size < w5.heap.size := (by (try simp at hy5); omega))))
    all_goals
      go_wp2_with fail
      go_meet
      try simp at hq3
      have hw1 := hWb.trans (hB5.mono hWb.size)
      have hwz := hWb.size
    · exact ⟨_, A5, c5, rfl, rfl, Blk.new _ _ _, hrb.to ((Below.refl _ _).alloc (Nat.le_refl _) _), hq1, hq2, hw1.alloc hw1.size _⟩
    · obtain ⟨g1, g2, g3⟩ := box_close (wh := wh) (c5 := c5) ((Blk.new w4 _ _).below hb5 (by simp)) hrb (fun ad e => by have := hq3 ad e; omega) hw1 (by omega)
      exact ⟨_, A5, c5, rfl, rfl, g1, g2, hq1, hq2, g3⟩
    · obtain ⟨g1, g2, g3⟩ := box_close (wh := wh) (c5 := c5) (((Blk.new w3 _ _).below hb4 (by simp)).below hb5 (by omega)) hrb (fun ad e => by have := hq3 ad e; omega) hw1 (by omega)
      exact ⟨_, A5, c5, rfl, rfl, g1, g2, hq1, hq2, g3⟩
    · obtain ⟨g1, g2, g3⟩ := box_close (wh := wh) (c5 := c5) ((((Blk.new w2 _ _).below hb3 (by simp)).below hb4 (by omega)).below hb5 (by omega)) hrb (fun ad e => by have := hq3 ad e; omega) hw1 (by omega)
      exact ⟨_, A5, c5, rfl, rfl, g1, g2, hq1, hq2, g3⟩
    · obtain ⟨g1, g2, g3⟩ := box_close (wh := wh) (c5 := c5) (((((Blk.new W0 _ _).drew.below hb2 (by simp)).below hb3 (by omega)).below hb4 (by omega)).below hb5 (by omega)) hrb (fun ad e => by have := hq3 ad e; omega) hw1 (by omega)
      exact ⟨_, A5, c5, rfl, rfl, g1, g2, hq1, hq2, g3⟩
  case rest =>
    obtain ⟨B, A5, c5, rfl, rfl, kB, hrb, hq1, hq2, hBx⟩ := hcut
    have hr3 := hr2.to hBx
    have ht3 := ht2.to hBx
    have kP2 := kP1.below hBx kP1.lt
    have hB2 := hB1.trans (hBx.mono hB1.size)
    have p0 := kP2.cell 0
    have p1 := kP2.cell 1
    simp at p0 p1
    clear hr2 ht2 kP1 hB1 hBx
    by_cases h0 : z = 0
    · subst h0
      obtain ⟨k, x, hk, hx, e1, e2⟩ := HI.out.good Hz.out
      obtain ⟨hin, hok, hhk, har, hfl, hfv⟩ := asked_ok (by rw [← hk]; exact Hz.out) hx rfl
      obtain ⟨f, hff⟩ : ∃ f, forcesM l x = f := ⟨_, rfl⟩
      rw [hff] at e1 e2 hfl hfv
      have ppb := (Vec.corner_iff.1 hin).times (n := x.area) (q := 1000) (by omega)
      have s1 : Sm (x.area * push.x) := by have := ppb.1; simp only [Vec.times] at this; unfold Sm; omega
      have s2 : Sm (x.area * push.y) := by have := ppb.2; simp only [Vec.times] at this; unfold Sm; omega
      have HFo := Lib.hid (fun W A3 c3 h1 h2 => refForces_val A c l A3 c3 x f hff W h1 hlm hok hhk h2)
      have hkl := lt_of_getElem? hx
      have Hx := Lib.hid hx
      subst hk
      cases hb : findBal (push.times x.area) f with
      | none =>
        rw [hb] at e1 e2
        simp at e1 e2
        obtain ⟨rfl, rfl⟩ := e1
        subst e2
        have hbf : balancesB f (push.times x.area) = false := by
          rw [← Bool.not_eq_true, balancesB_iff hfv, ← bal_find hfv, hb]; simp
        have HBa := Lib.hid (fun W B b1 hrs => refBalances_val hbf B b1 W hrs (by omega) hfv (ppb.mono (by omega)))
        clear hin hok hhk har hfl hfv hff ppb hx hb hbf hrb hq1 hq2
        go_upto_region 5 with (first | (go_at_call 23; refine (refCorner_any push _).mono ?_; rintro e w6 ⟨rfl, hb6⟩) | (go_at_call 22; refine (HAsk.out _ (hr3.to hb6) (ht3.to hb6)).mono ?_; rintro e w7 ⟨rfl, hb7⟩))
        have b2 := sh_next hb6 hb7
        have hB3 := hB2.trans (b2.mono hB2.size)
        have hr4 := hr3.to b2
        have ht4 := ht3.to b2
        have kB4 := kB.below b2 kB.lt
        have kP4 := kP2.below b2 kP2.lt
        clear hr3 ht3 kB kP2 p0 p1 hb6 hb7 b2 hB2
        go_wp2
        refine name_world (motive := fun W => Code.wp _ _ _ _ W) _ ?_
        intro W0 hW
        have hWc := hW.cell
        have hWz := hW.size
        have hWb := hW.below (Below.refl w7.heap.size w7)
        have hr0 : RS encT 4 W0 W0.heap.size A l := by rw [hW.eq.out]; exact hr4
        have kP := hW.blk kP4
        have p0 := kP.cell 0
        have p1 := kP.cell 1
        simp at p0 p1
        have kz := kP.lt
        have kBw := hW.blk kB4
        obtain ⟨b, off, A6, c6, rfl, hb, x0, x1, x2, hg1, hg2, hg⟩ := (show RH W0 W0.heap.size A' t from by rw [hW.eq.out]; exact ht4).at_ Hx.out
        clear ht4 hr4 hWc hWz kP4
        (first | (go_region_held3 (fun w' => (∀ b o, b < W0.heap.size → w'.cell? ⟨b, o, none⟩ = W0.cell? ⟨b, o, none⟩) ∧ Below W0.heap.size W0 w') (first | with_reducible exact sh_refl _ | (with_reducible refine sh_of ?_; with_reducible assumption) | (with_reducible refine sh_alloc ?_ _; with_reducible assumption) | with_reducible exact sh_first _ _) (first | (go_at_call 27; go_split_ands; have hS1 : Below W0.heap.size W0 _ := (by with_reducible assumption); refine (HFo.out _ A6 c6 (hr0.to hS1) ((hg.below hS1 (Nat.le_refl _)).more hS1.size)).mono ?_; rintro e w9 ⟨A7, c7, rfl, hrs, hb9⟩; have hB9 := sh_next hS1 hb9) | (go_at_call 28; go_split_ands; have hS10 : Below W0.heap.size W0 _ := (by with_reducible assumption); refine (refTimes_any push x.area _ s1 s2).mono ?_; rintro e w10 ⟨rfl, hb10⟩; have hB10 := sh_next hS10 hb10) | (go_at_call 58; go_split_ands; have hS11 : Below W0.heap.size W0 _ := (by with_reducible assumption); refine (HBa.out _ A7 c7 (by first | exact hrs | exact hrs.to hb10)).mono ?_; rintro e w11 ⟨rfl, hb11⟩; have hB11 := sh_next hS11 hb11))) | fail)
        all_goals
          have kB5 := kBw.below hB11 kBw.lt
          have q0 := kB5.cell 0
          have q1 := kB5.cell 1
          simp at q0 q1
          go_wp2_with ((go_at_call 20; refine (wakes_any _).mono ?_; rintro e w12 ⟨rfl, hb12⟩; obtain ⟨hc12, hf12⟩ := bcell hb12))
          go_ret
          exact ⟨rfl, hB3.trans (((hWb.trans (hB11.mono hWb.size)).trans (hb12.mono (hWb.trans (hB11.mono hWb.size)).size)).mono hB3.size)⟩
      | some r =>
        rw [hb] at e1 e2
        simp at e1 e2
        obtain ⟨r1, r2⟩ := r
        simp at e1
        obtain ⟨rfl, rfl⟩ := e1
        subst e2
        have hbf : balancesB f (push.times x.area) = true := by
          rw [balancesB_iff hfv, ← bal_find hfv, hb]; simp
        have hbb := find_sound hfv hb
        have HBa := Lib.hid (fun W B b1 hrs => refBalances_val hbf B b1 W hrs (by omega) hfv (ppb.mono (by omega)))
        have HIb := Lib.hid (fun W B b1 B' b2 hrs hrp => hbb ▸ refIsBalance_any B B' b1 b2 f (push.times x.area) r1 r2 W hrs hfl hfv (ppb.mono (by omega)) hrp (Nat.le_trans hq1 hq2))
        clear hin hok hhk har hfl hfv hff ppb hx hb hbf hbb hq1 hq2
        go_upto_region 5 with (first | (go_at_call 23; refine (refCorner_any push _).mono ?_; rintro e w6 ⟨rfl, hb6⟩) | (go_at_call 22; refine (HAsk.out _ (hr3.to hb6) (ht3.to hb6)).mono ?_; rintro e w7 ⟨rfl, hb7⟩))
        have b2 := sh_next hb6 hb7
        have hB3 := hB2.trans (b2.mono hB2.size)
        have hr4 := hr3.to b2
        have ht4 := ht3.to b2
        have hrb4 := hrb.to b2
        have kB4 := kB.below b2 kB.lt
        have kP4 := kP2.below b2 kP2.lt
        clear hr3 ht3 kB kP2 p0 p1 hb6 hb7 b2 hB2 hrb
        go_wp2
        refine name_world (motive := fun W => Code.wp _ _ _ _ W) _ ?_
        intro W0 hW
        have hWc := hW.cell
        have hWz := hW.size
        have hWb := hW.below (Below.refl w7.heap.size w7)
        have hr0 : RS encT 4 W0 W0.heap.size A l := by rw [hW.eq.out]; exact hr4
        have ht0 : RH W0 W0.heap.size A' t := by rw [hW.eq.out]; exact ht4
        have hrb0 : RS encI 1 W0 W0.heap.size A5 r2 := by rw [hW.eq.out]; exact hrb4
        have kP := hW.blk kP4
        have p0 := kP.cell 0
        have p1 := kP.cell 1
        simp at p0 p1
        have kz := kP.lt
        have kBw := hW.blk kB4
        obtain ⟨b, off, A6, c6, rfl, hb, x0, x1, x2, hg1, hg2, hg⟩ := ht0.at_ Hx.out
        clear ht4 hr4 hrb4 hWc hWz kP4 kB4
        (first | (go_region_held3 (fun w' => (∀ b o, b < W0.heap.size → w'.cell? ⟨b, o, none⟩ = W0.cell? ⟨b, o, none⟩) ∧ Below W0.heap.size W0 w') (first | with_reducible exact sh_refl _ | (with_reducible refine sh_of ?_; with_reducible assumption) | (with_reducible refine sh_alloc ?_ _; with_reducible assumption) | with_reducible exact sh_first _ _) (first | (go_at_call 27; go_split_ands; have hS1 : Below W0.heap.size W0 _ := (by with_reducible assumption); refine (HFo.out _ A6 c6 (hr0.to hS1) ((hg.below hS1 (Nat.le_refl _)).more hS1.size)).mono ?_; rintro e w9 ⟨A7, c7, rfl, hrs, hb9⟩; have hB9 := sh_next hS1 hb9) | (go_at_call 28; go_split_ands; have hS10 : Below W0.heap.size W0 _ := (by with_reducible assumption); refine (refTimes_any push x.area _ s1 s2).mono ?_; rintro e w10 ⟨rfl, hb10⟩; have hB10 := sh_next hS10 hb10) | (go_at_call 58; go_split_ands; have hS11 : Below W0.heap.size W0 _ := (by with_reducible assumption); refine (HBa.out _ A7 c7 (by first | exact hrs | exact hrs.to hb10)).mono ?_; rintro e w11 ⟨rfl, hb11⟩; have hB11 := sh_next hS11 hb11))) | fail)
        all_goals
          have kB5 := kBw.below hB11 kBw.lt
          have kP5 := kP.below hB11 kP.lt
          have hr5 := hr0.to hB11
          have ht5 := ht0.to hB11
          have hrb5 := hrb0.to hB11
          have hB4 := hB3.trans ((hWb.trans (hB11.mono hWb.size)).mono hB3.size)
          clear hrs hr0 ht0 hrb0 kP kBw hB11 hWb p0 p1 x0 x1 x2 hg hB3
          go_wp2
          obtain ⟨wo, hwo⟩ : ∃ y, y = w11 := ⟨_, rfl⟩
          subst hwo
          refine name_world (motive := fun W => Code.wp _ _ _ _ W) _ ?_
          intro W0 hW
          have hWb := hW.below (Below.refl wo.heap.size wo)
          have hr0 : RS encT 4 W0 W0.heap.size A l := by rw [hW.eq.out]; exact hr5
          have ht0 := (show RH W0 W0.heap.size _ t from by rw [hW.eq.out]; exact ht5)
          have hrb0 : RS encI 1 W0 W0.heap.size A5 r2 := by rw [hW.eq.out]; exact hrb5
          have kP := hW.blk kP5
          have kB := hW.blk kB5
          have p0 := kP.cell 0
          have p1 := kP.cell 1
          have q0 := kB.cell 0
          have q1 := kB.cell 1
          simp at p0 p1 q0 q1
          have kz := kP.lt
          have kz2 := kB.lt
          obtain ⟨b', off', A8, c8, hA, hb', x0, x1, x2, hg1, hg2, hg⟩ := ht0.at_ Hx.out
          obtain ⟨rfl, rfl⟩ : b = b' ∧ off = off' := by simpa using hA
          clear hr5 ht5 hrb5 kP5 kB5 hA
          (first | (go_region_held3 (fun w' => (∀ b o, b < W0.heap.size → w'.cell? ⟨b, o, none⟩ = W0.cell? ⟨b, o, none⟩) ∧ Below W0.heap.size W0 w') (first | with_reducible exact sh_refl _ | (with_reducible refine sh_of ?_; with_reducible assumption) | (with_reducible refine sh_alloc ?_ _; with_reducible assumption) | with_reducible exact sh_first _ _) (first | (go_at_call 27; go_split_ands; have hS1 : Below W0.heap.size W0 _ := (by with_reducible assumption); refine (HFo.out _ A8 c8 (hr0.to hS1) ((hg.below hS1 (Nat.le_refl _)).more hS1.size)).mono ?_; rintro e w12 ⟨A9, c9, rfl, hrs, hb12⟩; have hB12 := sh_next hS1 hb12) | (go_at_call 28; go_split_ands; have hS13 : Below W0.heap.size W0 _ := (by with_reducible assumption); refine (refTimes_any push x.area _ s1 s2).mono ?_; rintro e w13 ⟨rfl, hb13⟩; have hB13 := sh_next hS13 hb13) | (go_at_call 30; go_split_ands; have hS14 : Below W0.heap.size W0 _ := (by with_reducible assumption); refine (HIb.out _ A9 c9 A5 c5 (by first | exact hrs | exact hrs.to hb13) (hrb0.to hS14)).mono ?_; rintro e w14 ⟨rfl, hb14⟩; have hB14 := sh_next hS14 hb14) | (go_at_call 20; go_split_ands; have hS15 : Below W0.heap.size W0 _ := (by with_reducible assumption); refine (wakes_any _).mono ?_; rintro e w15 ⟨rfl, hb15⟩; have hB15 := sh_next hS15 hb15))) | fail)
          all_goals
            go_wp2
            go_ret
            exact ⟨rfl, hB4.trans ((hWb.trans (hB15.mono hWb.size)).mono hB4.size)⟩
    · obtain ⟨rfl, rfl, e3⟩ := HI.out.bad (by rw [Hz.out]; exact h0)
      rw [Hz.out] at e3
      subst e3
      have e0 : (er == 0) = false := by simpa using h0
      have e1 : (er != 0) = true := by simpa using h0
      clear hrb hq1 hq2
      go_upto_region 5 with (first | (go_at_call 23; refine (refCorner_any push _).mono ?_; rintro e w6 ⟨rfl, hb6⟩) | (go_at_call 22; refine (HAsk.out _ (hr3.to hb6) (ht3.to hb6)).mono ?_; rintro e w7 ⟨rfl, hb7⟩))
      have b2 := sh_next hb6 hb7
      have hB3 := hB2.trans (b2.mono hB2.size)
      have kB4 := kB.below b2 kB.lt
      have q0 := kB4.cell 0
      have q1 := kB4.cell 1
      simp at q0 q1
      clear hr3 ht3 kB kP2 p0 p1 hb6 hb7 b2 hB2
      go_wp2
      refine wp_region_any (by kernel_rfl) ?_
      change wpAny _ _ _ _ 19 #[false, false, false, false, false, false, false, false, false, false, false, false, false, false, false, false, false, false, false] _ (World.drew _)
      refine wpAny_take (i := 0) (v := _) rfl (by kernel_rfl) (by kernel_rfl) (by kernel_rfl) (fun _ _ _ h => h) (Or.inl ⟨by rfl, by intro w; go_simp; first | done | with_reducible rfl⟩) ?_
      change wpAny _ _ _ _ 18 #[true, false, false, false, false, false, false, false, false, false, false, false, false, false, false, false, false, false, false] _ _
      try simp only [Act.put, List.setIfInBounds_toArray, List.set_cons_zero, List.set_cons_succ, List.getElem_toArray, List.getElem_cons_zero, List.getElem_cons_succ]
      refine wpAny_take (i := 1) (v := _) rfl (by kernel_rfl) (by kernel_rfl) (by kernel_rfl) (fun _ _ _ h => h) (Or.inl ⟨by rfl, by intro w; go_simp; first | done | with_reducible rfl⟩) ?_
      change wpAny _ _ _ _ 17 #[true, true, false, false, false, false, false, false, false, false, false, false, false, false, false, false, false, false, false] _ _
      try simp only [Act.put, List.setIfInBounds_toArray, List.set_cons_zero, List.set_cons_succ, List.getElem_toArray, List.getElem_cons_zero, List.getElem_cons_succ]
      refine wpAny_take (i := 2) (v := _) rfl (by kernel_rfl) (by kernel_rfl) (by kernel_rfl) (fun _ _ _ h => h) (Or.inl ⟨by rfl, by intro w; go_simp; first | done | with_reducible rfl⟩) ?_
      change wpAny _ _ _ _ 16 #[true, true, true, false, false, false, false, false, false, false, false, false, false, false, false, false, false, false, false] _ _
      try simp only [Act.put, List.setIfInBounds_toArray, List.set_cons_zero, List.set_cons_succ, List.getElem_toArray, List.getElem_cons_zero, List.getElem_cons_succ]
      refine wpAny_take (i := 3) (v := undef) rfl (by kernel_rfl) (by kernel_rfl) (by kernel_rfl) (fun _ _ _ h => h) (Or.inr ⟨by rfl, rfl⟩) ?_
      change wpAny _ _ _ _ 15 #[true, true, true, true, false, false, false, false, false, false, false, false, false, false, false, false, false, false, false] _ _
      try simp only [Act.put, List.setIfInBounds_toArray, List.set_cons_zero, List.set_cons_succ, List.getElem_toArray, List.getElem_cons_zero, List.getElem_cons_succ]
      refine wpAny_take (i := 4) (v := undef) rfl (by kernel_rfl) (by kernel_rfl) (by kernel_rfl) (fun _ _ _ h => h) (Or.inr ⟨by rfl, rfl⟩) ?_
      change wpAny _ _ _ _ 14 #[true, true, true, true, true, false, false, false, false, false, false, false, false, false, false, false, false, false, false] _ _
      try simp only [Act.put, List.setIfInBounds_toArray, List.set_cons_zero, List.set_cons_succ, List.getElem_toArray, List.getElem_cons_zero, List.getElem_cons_succ]
      refine wpAny_take (i := 5) (v := undef) rfl (by kernel_rfl) (by kernel_rfl) (by kernel_rfl) (fun _ _ _ h => h) (Or.inr ⟨by rfl, rfl⟩) ?_
      change wpAny _ _ _ _ 13 #[true, true, true, true, true, true, false, false, false, false, false, false, false, false, false, false, false, false, false] _ _
      try simp only [Act.put, List.setIfInBounds_toArray, List.set_cons_zero, List.set_cons_succ, List.getElem_toArray, List.getElem_cons_zero, List.getElem_cons_succ]
      refine wpAny_take (i := 6) (v := undef) rfl (by kernel_rfl) (by kernel_rfl) (by kernel_rfl) (fun _ _ _ h => h) (Or.inr ⟨by rfl, rfl⟩) ?_
      change wpAny _ _ _ _ 12 #[true, true, true, true, true, true, true, false, false, false, false, false, false, false, false, false, false, false, false] _ _
      try simp only [Act.put, List.setIfInBounds_toArray, List.set_cons_zero, List.set_cons_succ, List.getElem_toArray, List.getElem_cons_zero, List.getElem_cons_succ]
      refine wpAny_take (i := 7) (v := undef) rfl (by kernel_rfl) (by kernel_rfl) (by kernel_rfl) (fun _ _ _ h => h) (Or.inr ⟨by rfl, rfl⟩) ?_
      change wpAny _ _ _ _ 11 #[true, true, true, true, true, true, true, true, false, false, false, false, false, false, false, false, false, false, false] _ _
      try simp only [Act.put, List.setIfInBounds_toArray, List.set_cons_zero, List.set_cons_succ, List.getElem_toArray, List.getElem_cons_zero, List.getElem_cons_succ]
      refine wpAny_take (i := 8) (v := undef) rfl (by kernel_rfl) (by kernel_rfl) (by kernel_rfl) (fun _ _ _ h => h) (Or.inr ⟨by rfl, rfl⟩) ?_
      change wpAny _ _ _ _ 10 #[true, true, true, true, true, true, true, true, true, false, false, false, false, false, false, false, false, false, false] _ _
      try simp only [Act.put, List.setIfInBounds_toArray, List.set_cons_zero, List.set_cons_succ, List.getElem_toArray, List.getElem_cons_zero, List.getElem_cons_succ]
      refine wpAny_take (i := 9) (v := undef) rfl (by kernel_rfl) (by kernel_rfl) (by kernel_rfl) (fun _ _ _ h => h) (Or.inr ⟨by rfl, rfl⟩) ?_
      change wpAny _ _ _ _ 9 #[true, true, true, true, true, true, true, true, true, true, false, false, false, false, false, false, false, false, false] _ _
      try simp only [Act.put, List.setIfInBounds_toArray, List.set_cons_zero, List.set_cons_succ, List.getElem_toArray, List.getElem_cons_zero, List.getElem_cons_succ]
      refine wpAny_take (i := 10) (v := undef) rfl (by kernel_rfl) (by kernel_rfl) (by kernel_rfl) (fun _ _ _ h => h) (Or.inr ⟨by rfl, rfl⟩) ?_
      change wpAny _ _ _ _ 8 #[true, true, true, true, true, true, true, true, true, true, true, false, false, false, false, false, false, false, false] _ _
      try simp only [Act.put, List.setIfInBounds_toArray, List.set_cons_zero, List.set_cons_succ, List.getElem_toArray, List.getElem_cons_zero, List.getElem_cons_succ]
      refine wpAny_take (i := 11) (v := undef) rfl (by kernel_rfl) (by kernel_rfl) (by kernel_rfl) (fun _ _ _ h => h) (Or.inr ⟨by rfl, rfl⟩) ?_
      change wpAny _ _ _ _ 7 #[true, true, true, true, true, true, true, true, true, true, true, true, false, false, false, false, false, false, false] _ _
      try simp only [Act.put, List.setIfInBounds_toArray, List.set_cons_zero, List.set_cons_succ, List.getElem_toArray, List.getElem_cons_zero, List.getElem_cons_succ]
      refine wpAny_take (i := 12) (v := undef) rfl (by kernel_rfl) (by kernel_rfl) (by kernel_rfl) (fun _ _ _ h => h) (Or.inr ⟨by rfl, rfl⟩) ?_
      change wpAny _ _ _ _ 6 #[true, true, true, true, true, true, true, true, true, true, true, true, true, false, false, false, false, false, false] _ _
      try simp only [Act.put, List.setIfInBounds_toArray, List.set_cons_zero, List.set_cons_succ, List.getElem_toArray, List.getElem_cons_zero, List.getElem_cons_succ]
      refine wpAny_take (i := 13) (v := undef) rfl (by kernel_rfl) (by kernel_rfl) (by kernel_rfl) (fun _ _ _ h => h) (Or.inr ⟨by rfl, rfl⟩) ?_
      change wpAny _ _ _ _ 5 #[true, true, true, true, true, true, true, true, true, true, true, true, true, true, false, false, false, false, false] _ _
      try simp only [Act.put, List.setIfInBounds_toArray, List.set_cons_zero, List.set_cons_succ, List.getElem_toArray, List.getElem_cons_zero, List.getElem_cons_succ]
      refine wpAny_take (i := 14) (v := undef) rfl (by kernel_rfl) (by kernel_rfl) (by kernel_rfl) (fun _ _ _ h => h) (Or.inr ⟨by rfl, rfl⟩) ?_
      change wpAny _ _ _ _ 4 #[true, true, true, true, true, true, true, true, true, true, true, true, true, true, true, false, false, false, false] _ _
      try simp only [Act.put, List.setIfInBounds_toArray, List.set_cons_zero, List.set_cons_succ, List.getElem_toArray, List.getElem_cons_zero, List.getElem_cons_succ]
      refine wpAny_take (i := 15) (v := undef) rfl (by kernel_rfl) (by kernel_rfl) (by kernel_rfl) (fun _ _ _ h => h) (Or.inr ⟨by rfl, rfl⟩) ?_
      change wpAny _ _ _ _ 3 #[true, true, true, true, true, true, true, true, true, true, true, true, true, true, true, true, false, false, false] _ _
      try simp only [Act.put, List.setIfInBounds_toArray, List.set_cons_zero, List.set_cons_succ, List.getElem_toArray, List.getElem_cons_zero, List.getElem_cons_succ]
      refine wpAny_take (i := 16) (v := undef) rfl (by kernel_rfl) (by kernel_rfl) (by kernel_rfl) (fun _ _ _ h => h) (Or.inr ⟨by rfl, rfl⟩) ?_
      change wpAny _ _ _ _ 2 #[true, true, true, true, true, true, true, true, true, true, true, true, true, true, true, true, true, false, false] _ _
      try simp only [Act.put, List.setIfInBounds_toArray, List.set_cons_zero, List.set_cons_succ, List.getElem_toArray, List.getElem_cons_zero, List.getElem_cons_succ]
      refine wpAny_take (i := 17) (v := undef) rfl (by kernel_rfl) (by kernel_rfl) (by kernel_rfl) (fun _ _ _ h => h) (Or.inr ⟨by rfl, rfl⟩) ?_
      change wpAny _ _ _ _ 1 #[true, true, true, true, true, true, true, true, true, true, true, true, true, true, true, true, true, true, false] _ _
      try simp only [Act.put, List.setIfInBounds_toArray, List.set_cons_zero, List.set_cons_succ, List.getElem_toArray, List.getElem_cons_zero, List.getElem_cons_succ]
      refine wpAny_take (i := 18) (v := _) rfl (by kernel_rfl) (by kernel_rfl) (by kernel_rfl) (fun _ _ _ h => h) (Or.inl ⟨by rfl, by intro w; go_simp; first | done | with_reducible rfl⟩) ?_
      change wpAny _ _ _ _ 0 #[true, true, true, true, true, true, true, true, true, true, true, true, true, true, true, true, true, true, true] _ _
      try simp only [Act.put, List.setIfInBounds_toArray, List.set_cons_zero, List.set_cons_succ, List.getElem_toArray, List.getElem_cons_zero, List.getElem_cons_succ]
      refine wpAny_done (by kernel_rfl) ?_ _
      go_wp2_with ((go_at_call 20; refine (wakes_any _).mono ?_; rintro e w12 ⟨rfl, hb12⟩; obtain ⟨hc12, hf12⟩ := bcell hb12))
      go_ret
      exact ⟨rfl, hB3.drew.trans (hb12.mono hB3.drew.size)⟩
theorem balances_any (A : Option Addr) (c : Nat) (l : List Tst) (A' : Option Addr) (c' : Nat) (t : List Head) (head : Int) (push : Vec) (w : World) (hr : RS encT 4 w w.heap.size A l) (hl : l.length ≤ maxLen) (ht : RH w w.heap.size A' t) (htl : t.length ≤ maxLen) :
    Calls Try.prog 12 #[.slice A l.length c, .slice A' t.length c', .int .i64 head, .agg #[.int .i64 push.x, .int .i64 push.y]] w fun e w' => e = .returned (.bool true) ∧ Below w.heap.size w w' := by
  cases hf : fewB l t with
  | false => exact balances_many A c l A' c' t head push w ht hl htl hf
  | true => exact balances_main A c l A' c' t head push w hr ht hf
end Go.Proofs.Ytibaindlbpfecaa
