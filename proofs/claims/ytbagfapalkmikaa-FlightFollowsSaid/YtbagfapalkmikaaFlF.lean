import Derived.Test.YtbagfapalkmikaaFlA

/- What flights and nets are valid. -/
namespace Go.Proofs.Ytbagfapalkmikaa
open Go.RowKit

def encB (b : Bx) : List Value := [.int .i64 b.x.lo, .int .i64 b.x.hi, .int .i64 b.z.lo, .int .i64 b.z.hi]
theorem all_snocB {p : Bx → Bool} {l : List Bx} {k : Nat} {x : Bx} (h : l[k]? = some x) (ha : (l.take k).all p = true) (hx : p x = true) : (l.take (k + 1)).all p = true := all_snoc h ha hx
set_option maxHeartbeats 1000000 in
theorem everyB_any (A : Option Addr) (c : Nat) (l : List Bx) (w : World) (hr : RS encB 4 w w.heap.size A l) (hl : l.length ≤ maxLen) :
    Calls Try.prog 105 #[.slice A l.length c, .func (.func 81) #[] #[]] w fun e w' => e = .returned (.bool (l.all Bx.tent)) ∧ Below w.heap.size w w' := by
  unfold maxLen at hl
  go_enter Try.func105, Try.ntmps105
  go_wp2
  go_loopw [9] (fun i wr => ∃ k : Nat, k ≤ l.length ∧ i = .int .i64 k ∧ (l.take k).all Bx.tent = true ∧ Below w.heap.size w wr) (fun i _ => l.length - (intOf i).toNat)
  case atStart => exact ⟨0, Nat.zero_le _, rfl, rfl, Below.refl _ _⟩
  case round =>
    obtain ⟨k, hk, rfl, hall, hB⟩ := hrel
    have Hall := Lib.hid hall
    clear hall
    by_cases hlt : k < l.length
    · obtain ⟨x, hx⟩ := getElem?_lt hlt
      obtain ⟨b, off, rfl, hb, hc⟩ := (hr.below hB (Nat.le_refl _)).at_ hx
      have c0 := hc 0 _ rfl
      have c1 := hc 1 _ rfl
      have c2 := hc 2 _ rfl
      have c3 := hc 3 _ rfl
      have Hx := Lib.hid hx
      have hbz := hB.size
      clear hx hc hr
      simp only [Nat.add_zero] at c0
      cases h1 : Bx.tent x
      all_goals
        have hv := fun W => inTent_any x W
        rw [h1] at hv
        have Hv := Lib.hid hv
        clear hv
        go_wp2_with (go_at_call 81; refine (Hv.out _).mono ?_; rintro e w1 ⟨rfl, hb1⟩)
      · go_ret
        exact ⟨ret_bool (all_bad Hx.out h1).symm, (hB.alloc hbz _).trans (hb1.mono (by simp; omega))⟩
      · go_roundw
        case rel => exact ⟨k + 1, by omega, by go_num, all_snoc Hx.out Hall.out h1, (hB.alloc hbz _).trans (hb1.mono (by simp; omega))⟩
        case measure => simp [intOf]; omega
    · go_wp2
      go_ret
      exact ⟨ret_bool (all_end hlt Hall.out).symm, hB⟩

set_option maxHeartbeats 4000000 in
theorem catcher_any (f : Flt) (A : Option Addr) (c : Nat) (w : World) (hr : RS encB 4 w w.heap.size A f.cycle) (hl : f.cycle.length ≤ maxLen) :
    Calls Try.prog 87 #[.agg #[.slice A f.cycle.length c, .int .i64 f.reach, .int .i64 f.soft, .int .i64 f.bears]] w fun e w' => e = .returned (.bool f.cat) ∧ Below w.heap.size w w' := by
  have hl' := hl
  unfold maxLen at hl'
  have hr1 := hr.to ((Below.refl _ w).alloc (Nat.le_refl _) (.cells #[.slice A f.cycle.length c, .int .i64 f.reach, .int .i64 f.soft, .int .i64 f.bears] 48))
  have hv := fun W h' => everyB_any A c f.cycle W h' hl
  have HK : Hid (f.cat = (inB f.cycle.length 1 600 && (f.cycle.all Bx.tent && (inB f.reach 0 10000000 && (inB f.soft 1 100 && inB f.bears 0 100000000))))) := by
    show _ = _
    have : inB (f.cycle.length : Int) 1 600 = (decide (1 ≤ f.cycle.length) && decide (f.cycle.length ≤ 600)) := by
      rw [Bool.eq_iff_iff]; simp [inB_true]; omega
    rw [this, Bool.and_assoc]; rfl
  clear hr
  cases h1 : inB (f.cycle.length : Int) 1 600 <;> cases h2 : f.cycle.all Bx.tent <;> cases h3 : inB f.reach 0 10000000 <;> cases h4 : inB f.soft 1 100 <;> cases h5 : inB f.bears 0 100000000
  all_goals
    rw [h1, h2, h3, h4, h5] at HK
    rw [h2] at hv
    have Hv := Lib.hid hv
    clear hv
    go_enter Try.func87, Try.ntmps87
    go_wp2_with (first | (go_at_call 76; refine (fwithin_any _ _ _ _).mono ?_; rintro e w' ⟨rfl, rfl⟩) | (go_at_call 105; refine (Hv.out _ hr1).mono ?_; rintro e w1 ⟨rfl, hb1⟩; obtain ⟨hc1, hf1⟩ := bcell hb1; have hz1 : w.heap.size < w1.heap.size := (by have := hb1.size; (try simp at this); omega)))
    go_ret
    first
    | exact ⟨ret_bool HK.out.symm, ((Below.refl _ _).alloc (Nat.le_refl _) _).trans (hb1.mono (by simp))⟩
    | exact ⟨ret_bool HK.out.symm, (Below.refl _ _).alloc (Nat.le_refl _) _⟩

theorem netValid_any (n : Net) (w : World) : Calls Try.prog 60 #[.agg #[.int .i64 n.x.lo, .int .i64 n.x.hi, .int .i64 n.height]] w fun e w' => e = .returned (.bool n.ok) ∧ Below w.heap.size w w' := by
  have HK : Hid (n.ok = (n.x.inside 10000000 && inB n.height (-10000000) 10000000)) := rfl
  cases h1 : n.x.inside 10000000 <;> cases h2 : inB n.height (-10000000) 10000000
  all_goals
    rw [h1, h2] at HK
    go_enter Try.func60, Try.ntmps60
    go_wp2_with (first | (go_at_call 76; refine (fwithin_any _ _ _ _).mono ?_; rintro e w' ⟨rfl, rfl⟩) | (go_at_call 92; refine (rinside_any _ _ _ (by omega)).mono ?_; rintro e w1 ⟨rfl, hb1⟩; obtain ⟨hc1, hf1⟩ := bcell hb1; have hz1 : w.heap.size < w1.heap.size := (by have := hb1.size; (try simp at this); omega)))
    go_ret
    exact ⟨ret_bool HK.out.symm, ((Below.refl _ _).alloc (Nat.le_refl _) _).trans (hb1.mono (by simp))⟩

set_option maxHeartbeats 8000000 in
theorem flight_any (f : Flt) (A : Option Addr) (c : Nat) (w : World) (hr : RS encB 4 w w.heap.size A f.cycle) (hl : f.cycle.length ≤ maxLen) :
    Calls Try.prog 56 #[.agg #[.int .i64 f.fly.pos.x.lo, .int .i64 f.fly.pos.x.hi, .int .i64 f.fly.pos.z.lo, .int .i64 f.fly.pos.z.hi, .int .i64 f.fly.speed.x.lo, .int .i64 f.fly.speed.x.hi, .int .i64 f.fly.speed.z.lo, .int .i64 f.fly.speed.z.hi, .int .i64 f.fly.mass, .slice A f.cycle.length c, .int .i64 f.reach, .int .i64 f.soft, .int .i64 f.bears, .int .i64 f.least, .int .i64 f.most]] w fun e w' => e = .returned (.bool f.ok) ∧ Below w.heap.size w w' := by
  have hr1 : Hid (∀ w1 : World, Below (w.alloc (.cells #[.int .i64 f.fly.pos.x.lo, .int .i64 f.fly.pos.x.hi, .int .i64 f.fly.pos.z.lo, .int .i64 f.fly.pos.z.hi, .int .i64 f.fly.speed.x.lo, .int .i64 f.fly.speed.x.hi, .int .i64 f.fly.speed.z.lo, .int .i64 f.fly.speed.z.hi, .int .i64 f.fly.mass, .slice A f.cycle.length c, .int .i64 f.reach, .int .i64 f.soft, .int .i64 f.bears, .int .i64 f.least, .int .i64 f.most] 50)).heap.size (w.alloc (.cells #[.int .i64 f.fly.pos.x.lo, .int .i64 f.fly.pos.x.hi, .int .i64 f.fly.pos.z.lo, .int .i64 f.fly.pos.z.hi, .int .i64 f.fly.speed.x.lo, .int .i64 f.fly.speed.x.hi, .int .i64 f.fly.speed.z.lo, .int .i64 f.fly.speed.z.hi, .int .i64 f.fly.mass, .slice A f.cycle.length c, .int .i64 f.reach, .int .i64 f.soft, .int .i64 f.bears, .int .i64 f.least, .int .i64 f.most] 50)) w1 → RS encB 4 w1 w1.heap.size A f.cycle) := fun w1 h => (hr.to ((Below.refl _ w).alloc (Nat.le_refl _) (.cells #[.int .i64 f.fly.pos.x.lo, .int .i64 f.fly.pos.x.hi, .int .i64 f.fly.pos.z.lo, .int .i64 f.fly.pos.z.hi, .int .i64 f.fly.speed.x.lo, .int .i64 f.fly.speed.x.hi, .int .i64 f.fly.speed.z.lo, .int .i64 f.fly.speed.z.hi, .int .i64 f.fly.mass, .slice A f.cycle.length c, .int .i64 f.reach, .int .i64 f.soft, .int .i64 f.bears, .int .i64 f.least, .int .i64 f.most] 50))).to h
  clear hr
  have hcase : (f.fly.ok = false) ∨ (f.fly.ok = true ∧ f.cat = false) ∨ (f.fly.ok = true ∧ f.cat = true ∧ inB f.least 0 300 = false) ∨ (f.fly.ok = true ∧ f.cat = true ∧ inB f.least 0 300 = true ∧ inB f.most 0 300 = false) ∨
      (f.fly.ok = true ∧ f.cat = true ∧ inB f.least 0 300 = true ∧ inB f.most 0 300 = true ∧ ¬ f.least ≤ f.most) ∨ (f.fly.ok = true ∧ f.cat = true ∧ inB f.least 0 300 = true ∧ inB f.most 0 300 = true ∧ f.least ≤ f.most) := by
    cases f.fly.ok <;> cases f.cat <;> cases inB f.least 0 300 <;> cases inB f.most 0 300 <;> by_cases h5 : f.least ≤ f.most <;> simp [h5]
  rcases hcase with h1 | ⟨h1, h2⟩ | ⟨h1, h2, h3⟩ | ⟨h1, h2, h3, h4⟩ | ⟨h1, h2, h3, h4, h5⟩ | ⟨h1, h2, h3, h4, h5⟩
  all_goals
    first
    | (have HV : f.ok = false := by simp [Flt.ok, *]
       have HK := Lib.hid HV
       clear HV)
    | (have HV : f.ok = true := by simp [Flt.ok, *]
       have HK := Lib.hid HV
       clear HV)
    go_enter Try.func56, Try.ntmps56
    go_wp2_with (first | (go_at_call 54; refine (isAir_any _ _).mono ?_; rintro e w' ⟨rfl, rfl⟩) | (go_at_call 53; refine (flyer_any _ _).mono ?_; rintro e w1 ⟨rfl, hb1⟩; obtain ⟨hc1, hf1⟩ := bcell hb1; have hz1 : w.heap.size < w1.heap.size := (by have := hb1.size; (try simp at this); omega)) | (go_at_call 87; refine (catcher_any f A c _ (hr1.out _ hb1) hl).mono ?_; rintro e w2 ⟨rfl, hb2⟩; obtain ⟨hc2, hf2⟩ := bcell hb2; have hz2 : w.heap.size < w2.heap.size := (by have := hb2.size; (try simp at this); omega)))
    go_ret
    first
    | exact ⟨ret_bool (by rw [HK.out]; first | done | rfl | (simp <;> omega)), ((Below.refl _ _).alloc (Nat.le_refl _) _).trans ((sh_next hb1 hb2).mono (by simp))⟩
    | exact ⟨ret_bool (by rw [HK.out]), ((Below.refl _ _).alloc (Nat.le_refl _) _).trans (hb1.mono (by simp))⟩
end Go.Proofs.Ytbagfapalkmikaa
