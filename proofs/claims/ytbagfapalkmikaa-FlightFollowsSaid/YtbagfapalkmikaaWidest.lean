import Derived.Test.YtbagfapalkmikaaWindows

/- Contracts of Windows and Widest. -/
namespace Go.Proofs.Ytbagfapalkmikaa
open Go.RowKit Go.Shelf
/-- The error of a call with a flight and two ticks. -/
def winE (ok : Bool) (a b : Int) : Int := if ok then (if winB a b then 0 else 2) else 1
set_option maxHeartbeats 8000000 in
theorem Windows_bad (f : Flt) (A : Option Addr) (c : Nat) (a b : Int) (w : World) (hl : f.cycle.length ≤ maxLen) (hA : RS encB 4 w w.heap.size A f.cycle) (h : winE f.ok a b ≠ 0) :
    Calls Try.prog 42 #[.agg #[.int .i64 f.fly.pos.x.lo, .int .i64 f.fly.pos.x.hi, .int .i64 f.fly.pos.z.lo, .int .i64 f.fly.pos.z.hi, .int .i64 f.fly.speed.x.lo, .int .i64 f.fly.speed.x.hi, .int .i64 f.fly.speed.z.lo, .int .i64 f.fly.speed.z.hi, .int .i64 f.fly.mass, .slice A f.cycle.length c, .int .i64 f.reach, .int .i64 f.soft, .int .i64 f.bears, .int .i64 f.least, .int .i64 f.most], .int .i64 a, .int .i64 b] w fun e w' => e = .returned (.tuple #[.slice none 0 0, .int .i64 (winE f.ok a b)]) ∧ Below w.heap.size w w' := by
  have hB0 := (Below.refl w.heap.size w).alloc (Nat.le_refl _) (.cells #[.int .i64 f.fly.pos.x.lo, .int .i64 f.fly.pos.x.hi, .int .i64 f.fly.pos.z.lo, .int .i64 f.fly.pos.z.hi, .int .i64 f.fly.speed.x.lo, .int .i64 f.fly.speed.x.hi, .int .i64 f.fly.speed.z.lo, .int .i64 f.fly.speed.z.hi, .int .i64 f.fly.mass, .slice A f.cycle.length c, .int .i64 f.reach, .int .i64 f.soft, .int .i64 f.bears, .int .i64 f.least, .int .i64 f.most] 50)
  have HV : Hid (Calls Try.prog 56 #[.agg #[.int .i64 f.fly.pos.x.lo, .int .i64 f.fly.pos.x.hi, .int .i64 f.fly.pos.z.lo, .int .i64 f.fly.pos.z.hi, .int .i64 f.fly.speed.x.lo, .int .i64 f.fly.speed.x.hi, .int .i64 f.fly.speed.z.lo, .int .i64 f.fly.speed.z.hi, .int .i64 f.fly.mass, .slice A f.cycle.length c, .int .i64 f.reach, .int .i64 f.soft, .int .i64 f.bears, .int .i64 f.least, .int .i64 f.most]] (w.alloc (.cells #[.int .i64 f.fly.pos.x.lo, .int .i64 f.fly.pos.x.hi, .int .i64 f.fly.pos.z.lo, .int .i64 f.fly.pos.z.hi, .int .i64 f.fly.speed.x.lo, .int .i64 f.fly.speed.x.hi, .int .i64 f.fly.speed.z.lo, .int .i64 f.fly.speed.z.hi, .int .i64 f.fly.mass, .slice A f.cycle.length c, .int .i64 f.reach, .int .i64 f.soft, .int .i64 f.bears, .int .i64 f.least, .int .i64 f.most] 50)) fun e w' => e = .returned (.bool f.ok) ∧ Below (w.alloc (.cells #[.int .i64 f.fly.pos.x.lo, .int .i64 f.fly.pos.x.hi, .int .i64 f.fly.pos.z.lo, .int .i64 f.fly.pos.z.hi, .int .i64 f.fly.speed.x.lo, .int .i64 f.fly.speed.x.hi, .int .i64 f.fly.speed.z.lo, .int .i64 f.fly.speed.z.hi, .int .i64 f.fly.mass, .slice A f.cycle.length c, .int .i64 f.reach, .int .i64 f.soft, .int .i64 f.bears, .int .i64 f.least, .int .i64 f.most] 50)).heap.size (w.alloc (.cells #[.int .i64 f.fly.pos.x.lo, .int .i64 f.fly.pos.x.hi, .int .i64 f.fly.pos.z.lo, .int .i64 f.fly.pos.z.hi, .int .i64 f.fly.speed.x.lo, .int .i64 f.fly.speed.x.hi, .int .i64 f.fly.speed.z.lo, .int .i64 f.fly.speed.z.hi, .int .i64 f.fly.mass, .slice A f.cycle.length c, .int .i64 f.reach, .int .i64 f.soft, .int .i64 f.bears, .int .i64 f.least, .int .i64 f.most] 50)) w') := flight_any f A c _ (hA.to hB0) hl
  have HB0 := Lib.hid hB0
  clear hA hl hB0
  cases h0 : f.ok
  · rw [h0] at HV
    have H0 := Lib.hid h0
    have HE : Hid (winE false a b = 1) := rfl
    clear h0 h
    go_enter Try.func42, Try.ntmps42
    go_wp2_with (go_at_call 56; (with_reducible refine HV.out.mono ?_); rintro e w1 ⟨rfl, hb1⟩)
    rw [HE.out]
    go_ret2
    exact ⟨rfl, HB0.out.trans (hb1.mono (by simp))⟩
  · rw [h0] at HV h
    have hw : winB a b = false := by
      cases hw : winB a b
      · rfl
      · exact absurd (show winE true a b = 0 by unfold winE; rw [hw]; rfl) h
    have HE : Hid (winE true a b = 2) := by show _ = _; unfold winE; rw [hw]; rfl
    have hwD : (inB a 0 6000 && (inB b 0 6000 && decide (a ≤ b))) = false := hw
    have hcase : ¬ (inB a 0 6000 = true ∧ inB b 0 6000 = true ∧ a ≤ b) := by
      rintro ⟨x, y, z⟩
      rw [x, y, decide_eq_true z] at hwD
      cases hwD
    have H0 := Lib.hid h0
    have HW := Lib.hid hw
    clear h0 h hw hwD
    have hor : inB a 0 6000 = false ∨ (inB a 0 6000 = true ∧ inB b 0 6000 = false) ∨ (inB a 0 6000 = true ∧ inB b 0 6000 = true ∧ ¬ a ≤ b) := by
      cases h1 : inB a 0 6000
      · exact .inl rfl
      · cases h2 : inB b 0 6000
        · exact .inr (.inl ⟨rfl, rfl⟩)
        · exact .inr (.inr ⟨rfl, rfl, fun h3 => hcase ⟨h1, h2, h3⟩⟩)
    clear hcase
    rcases hor with h1 | ⟨h1, h2⟩ | ⟨h1, h2, h3⟩
    all_goals
      have HT1 : Hid (∀ W : World, Calls Try.prog 64 #[.int .i64 a] W fun e w' => e = .returned (.bool (inB a 0 6000)) ∧ W = w') := fun W => isTick_any _ W
      have HT2 : Hid (∀ W : World, Calls Try.prog 64 #[.int .i64 b] W fun e w' => e = .returned (.bool (inB b 0 6000)) ∧ W = w') := fun W => isTick_any _ W
      rw [h1] at HT1
      try rw [h2] at HT2
      have H1 := Lib.hid h1
      clear h1
      try clear h2
      go_enter Try.func42, Try.ntmps42
      go_wp2_with (first | (go_at_call 56; (with_reducible refine HV.out.mono ?_); rintro e w1 ⟨rfl, hb1⟩) | (go_at_call 64; (with_reducible refine (HT1.out _).mono ?_); rintro e w2 ⟨rfl, rfl⟩) | (go_at_call 64; (with_reducible refine (HT2.out _).mono ?_); rintro e w2 ⟨rfl, rfl⟩))
      rw [HE.out]
      go_ret2
      exact ⟨rfl, HB0.out.trans (hb1.mono (by simp))⟩
set_option maxRecDepth 100000 in
set_option maxHeartbeats 8000000 in
theorem Windows_ok (f : Flt) (A : Option Addr) (c : Nat) (a b : Nat) (w : World) (hf : f.ok = true) (hA : RS encB 4 w w.heap.size A f.cycle) (hab : a ≤ b) (hb6 : b ≤ 6000) :
    Calls Try.prog 42 #[.agg #[.int .i64 f.fly.pos.x.lo, .int .i64 f.fly.pos.x.hi, .int .i64 f.fly.pos.z.lo, .int .i64 f.fly.pos.z.hi, .int .i64 f.fly.speed.x.lo, .int .i64 f.fly.speed.x.hi, .int .i64 f.fly.speed.z.lo, .int .i64 f.fly.speed.z.hi, .int .i64 f.fly.mass, .slice A f.cycle.length c, .int .i64 f.reach, .int .i64 f.soft, .int .i64 f.bears, .int .i64 f.least, .int .i64 f.most], .int .i64 a, .int .i64 b] w fun e w' => ∃ A' c', e = .returned (.tuple #[.slice A' (winsTo f a (b + 1)).length c', .int .i64 0]) ∧ RS encW 2 w' w'.heap.size A' (winsTo f a (b + 1)) ∧ Below w.heap.size w w' := by
  obtain ⟨_, ⟨hc1, hc2⟩, _, _, _, _, _, hmo, _⟩ := Flt.ok_iff.1 hf
  have hB0 := (Below.refl w.heap.size w).alloc (Nat.le_refl _) (.cells #[.int .i64 f.fly.pos.x.lo, .int .i64 f.fly.pos.x.hi, .int .i64 f.fly.pos.z.lo, .int .i64 f.fly.pos.z.hi, .int .i64 f.fly.speed.x.lo, .int .i64 f.fly.speed.x.hi, .int .i64 f.fly.speed.z.lo, .int .i64 f.fly.speed.z.hi, .int .i64 f.fly.mass, .slice A f.cycle.length c, .int .i64 f.reach, .int .i64 f.soft, .int .i64 f.bears, .int .i64 f.least, .int .i64 f.most] 50)
  have kF := Blk.new w 50 #[.int .i64 f.fly.pos.x.lo, .int .i64 f.fly.pos.x.hi, .int .i64 f.fly.pos.z.lo, .int .i64 f.fly.pos.z.hi, .int .i64 f.fly.speed.x.lo, .int .i64 f.fly.speed.x.hi, .int .i64 f.fly.speed.z.lo, .int .i64 f.fly.speed.z.hi, .int .i64 f.fly.mass, .slice A f.cycle.length c, .int .i64 f.reach, .int .i64 f.soft, .int .i64 f.bears, .int .i64 f.least, .int .i64 f.most]
  have HA : Hid (∀ w1 : World, Below (w.alloc (.cells #[.int .i64 f.fly.pos.x.lo, .int .i64 f.fly.pos.x.hi, .int .i64 f.fly.pos.z.lo, .int .i64 f.fly.pos.z.hi, .int .i64 f.fly.speed.x.lo, .int .i64 f.fly.speed.x.hi, .int .i64 f.fly.speed.z.lo, .int .i64 f.fly.speed.z.hi, .int .i64 f.fly.mass, .slice A f.cycle.length c, .int .i64 f.reach, .int .i64 f.soft, .int .i64 f.bears, .int .i64 f.least, .int .i64 f.most] 50)).heap.size (w.alloc (.cells #[.int .i64 f.fly.pos.x.lo, .int .i64 f.fly.pos.x.hi, .int .i64 f.fly.pos.z.lo, .int .i64 f.fly.pos.z.hi, .int .i64 f.fly.speed.x.lo, .int .i64 f.fly.speed.x.hi, .int .i64 f.fly.speed.z.lo, .int .i64 f.fly.speed.z.hi, .int .i64 f.fly.mass, .slice A f.cycle.length c, .int .i64 f.reach, .int .i64 f.soft, .int .i64 f.bears, .int .i64 f.least, .int .i64 f.most] 50)) w1 → RS encB 4 w1 w1.heap.size A f.cycle) := fun w1 h => (hA.to hB0).to h
  have HV : Hid (∀ W : World, RS encB 4 W W.heap.size A f.cycle → Calls Try.prog 56 #[.agg #[.int .i64 f.fly.pos.x.lo, .int .i64 f.fly.pos.x.hi, .int .i64 f.fly.pos.z.lo, .int .i64 f.fly.pos.z.hi, .int .i64 f.fly.speed.x.lo, .int .i64 f.fly.speed.x.hi, .int .i64 f.fly.speed.z.lo, .int .i64 f.fly.speed.z.hi, .int .i64 f.fly.mass, .slice A f.cycle.length c, .int .i64 f.reach, .int .i64 f.soft, .int .i64 f.bears, .int .i64 f.least, .int .i64 f.most]] W fun e w' => e = .returned (.bool true) ∧ Below W.heap.size W w') := fun W h => by rw [← hf]; exact flight_any f A c W h (by have : (600 : Nat) ≤ maxLen := (by unfold maxLen; omega); omega)
  have HF : Hid (∀ W : World, RS encB 4 W W.heap.size A f.cycle → Calls Try.prog 66 #[.agg #[.int .i64 f.fly.pos.x.lo, .int .i64 f.fly.pos.x.hi, .int .i64 f.fly.pos.z.lo, .int .i64 f.fly.pos.z.hi, .int .i64 f.fly.speed.x.lo, .int .i64 f.fly.speed.x.hi, .int .i64 f.fly.speed.z.lo, .int .i64 f.fly.speed.z.hi, .int .i64 f.fly.mass, .slice A f.cycle.length c, .int .i64 f.reach, .int .i64 f.soft, .int .i64 f.bears, .int .i64 f.least, .int .i64 f.most]] W fun e w' => ∃ g Ab An cb cn, e = .returned (.pointer (some ⟨g, 0, none⟩)) ∧ W.heap.size ≤ g ∧ FolW f A c w' w'.heap.size g Ab An cb cn ∧ Below W.heap.size W w') := fun W h => follow_any f A c W hf h
  have HT1 : Hid (∀ W : World, Calls Try.prog 64 #[.int .i64 (a : Int)] W fun e w' => e = .returned (.bool true) ∧ W = w') := fun W => by have := isTick_any (a : Int) W; rw [show inB (a : Int) 0 6000 = true from inB_true.2 (by omega)] at this; exact this
  have HT2 : Hid (∀ W : World, Calls Try.prog 64 #[.int .i64 (b : Int)] W fun e w' => e = .returned (.bool true) ∧ W = w') := fun W => by have := isTick_any (b : Int) W; rw [show inB (b : Int) 0 6000 = true from inB_true.2 (by omega)] at this; exact this
  have HWI : Hid (∀ (g cb cn : Nat) (Ab An : Option Addr) (W : World), FolW f A c W W.heap.size g Ab An cb cn → Calls Try.prog 72 #[.pointer (some ⟨g, 0, none⟩), .int .i64 (a : Int), .int .i64 (b : Int)] W fun e w' => ∃ A' c', e = .returned (.slice A' (winsTo f a (b + 1)).length c') ∧ RS encW 2 w' w'.heap.size A' (winsTo f a (b + 1)) ∧ Below W.heap.size W w') := fun g cb cn Ab An W h => windows_any g f A Ab An c cb cn a b hf hab hb6 W h
  obtain ⟨ws, hws⟩ : ∃ ws, winsTo f a (b + 1) = ws := ⟨_, rfl⟩
  rw [hws] at HWI
  rw [hws]
  have HB0 := Lib.hid hB0
  clear hf hA hc1 hc2 hmo hws hB0
  go_enter Try.func42, Try.ntmps42
  go_wp2_with (first | (go_at_call 56; (with_reducible refine (HV.out _ (HA.out _ (Below.refl _ _))).mono ?_); rintro e w1 ⟨rfl, hb1⟩; have kF1 := kF.below hb1 kF.lt; have x0 := kF1.cell 0; have x1 := kF1.cell 1; have x2 := kF1.cell 2; have x3 := kF1.cell 3; have x4 := kF1.cell 4; have x5 := kF1.cell 5; have x6 := kF1.cell 6; have x7 := kF1.cell 7; have x8 := kF1.cell 8; have x9 := kF1.cell 9; have x10 := kF1.cell 10; have x11 := kF1.cell 11; have x12 := kF1.cell 12; have x13 := kF1.cell 13; have x14 := kF1.cell 14; simp at x0 x1 x2 x3 x4 x5 x6 x7 x8 x9 x10 x11 x12 x13 x14) | (go_at_call 64; (with_reducible refine (HT1.out _).mono ?_); rintro e w2 ⟨rfl, rfl⟩) | (go_at_call 64; (with_reducible refine (HT2.out _).mono ?_); rintro e w2 ⟨rfl, rfl⟩) | (go_at_call 66; (with_reducible refine (HF.out _ (HA.out _ hb1)).mono ?_); rintro e w3 ⟨g, Ab, An, cb, cn, rfl, hg, hFW, hb3⟩) | (go_at_call 72; (with_reducible refine (HWI.out _ _ _ _ _ _ hFW).mono ?_); rintro e w4 ⟨A4, c4, rfl, hs4, hb4⟩))
  go_ret2
  exact ⟨A4, c4, rfl, hs4, HB0.out.trans ((sh_next (sh_next hb1 hb3) hb4).mono (by simp))⟩

theorem addW_in {ws : List (Int × Int)} {a n : Int} (h : ∀ p ∈ ws, a ≤ p.1 ∧ p.1 ≤ p.2 ∧ p.2 < n) (hn : a ≤ n) : ∀ p ∈ addW ws n, a ≤ p.1 ∧ p.1 ≤ p.2 ∧ p.2 < n + 1 := by
  rcases List.eq_nil_or_concat ws with rfl | ⟨l, q, rfl⟩
  · intro p hp
    rw [addW_nil] at hp
    simp at hp
    rw [hp]
    simp
    omega
  · obtain ⟨s, t⟩ := q
    rw [List.concat_eq_append] at *
    have hq := h (s, t) (by simp)
    by_cases hb : t = n - 1
    · rw [addW_hit hb]
      intro p hp
      rcases List.mem_append.1 hp with hp | hp
      · have := h p (List.mem_append_left _ hp)
        omega
      · simp at hp
        rw [hp]
        simp at hq ⊢
        omega
    · rw [addW_miss hb]
      intro p hp
      rcases List.mem_append.1 hp with hp | hp
      · have := h p hp
        omega
      · simp at hp
        rw [hp]
        simp
        omega
theorem winsTo_in {f : Flt} {a n : Nat} (h : a ≤ n) : ∀ p ∈ winsTo f a n, (a : Int) ≤ p.1 ∧ p.1 ≤ p.2 ∧ p.2 < n := by
  obtain ⟨c, rfl⟩ := Nat.le.dest h
  clear h
  induction c with
  | zero => rw [Nat.add_zero, winsTo_start]; simp
  | succ c ih =>
    rw [show a + (c + 1) = (a + c) + 1 by omega, winsTo_succ (by omega)]
    split
    · have := addW_in ih (by omega)
      intro p hp
      have := this p hp
      omega
    · intro p hp
      have := ih p hp
      omega
/-- The wider one, and the first of two that are as wide. -/
def stepW (m p : Int × Int) : Int × Int := if m.2 - m.1 < p.2 - p.1 then p else m
def widest : List (Int × Int) → Int × Int
  | [] => (0, 0)
  | x :: l => l.foldl stepW x
end Go.Proofs.Ytbagfapalkmikaa
