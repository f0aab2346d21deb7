import Derived.Test.YtbagfapalkmikaaHoldsA
import Derived.Test.YtbagfapalkmikaaProvesA

/- The windows hold just the good releases, and the first catches prove them: of any flight. -/
namespace Go.Proofs.Ytbagfapalkmikaa
open Go.RowKit Go.Shelf
set_option maxRecDepth 100000 in
set_option maxHeartbeats 8000000 in
theorem holdsAll_any (f : Flt) (A Ac : Option Addr) (c cc : Nat) (rel tk p q : Int) (cs : List Int) (w : World) (hr : RS encB 4 w w.heap.size A f.cycle) (hcs : RS encI 1 w w.heap.size Ac cs) (hrel : 0 ≤ rel ∧ rel ≤ 65535) (htk : 0 ≤ tk ∧ tk ≤ 255) :
    Calls Try.prog 10 #[.agg #[.int .i64 f.fly.pos.x.lo, .int .i64 f.fly.pos.x.hi, .int .i64 f.fly.pos.z.lo, .int .i64 f.fly.pos.z.hi, .int .i64 f.fly.speed.x.lo, .int .i64 f.fly.speed.x.hi, .int .i64 f.fly.speed.z.lo, .int .i64 f.fly.speed.z.hi, .int .i64 f.fly.mass, .slice A f.cycle.length c, .int .i64 f.reach, .int .i64 f.soft, .int .i64 f.bears, .int .i64 f.least, .int .i64 f.most], .int .u16 rel, .int .u8 tk, .agg #[.int .i64 p, .int .i64 q], .slice Ac cs.length cc] w fun e w' => e = .returned (.bool true) ∧ Below w.heap.size w w' := by
  have hB0 := ((Below.refl w.heap.size w).alloc (Nat.le_refl _) (.cells #[.int .i64 f.fly.pos.x.lo, .int .i64 f.fly.pos.x.hi, .int .i64 f.fly.pos.z.lo, .int .i64 f.fly.pos.z.hi, .int .i64 f.fly.speed.x.lo, .int .i64 f.fly.speed.x.hi, .int .i64 f.fly.speed.z.lo, .int .i64 f.fly.speed.z.hi, .int .i64 f.fly.mass, .slice A f.cycle.length c, .int .i64 f.reach, .int .i64 f.soft, .int .i64 f.bears, .int .i64 f.least, .int .i64 f.most] 32)).alloc (by simp) (.cells #[.int .i64 p, .int .i64 q] 88)
  have HB0 := Lib.hid hB0
  by_cases hfew : f.cycle.length ≤ 700
  case pos =>
    have HFEW : Hid (∀ W : World, Calls Try.prog 14 #[.agg #[.int .i64 f.fly.pos.x.lo, .int .i64 f.fly.pos.x.hi, .int .i64 f.fly.pos.z.lo, .int .i64 f.fly.pos.z.hi, .int .i64 f.fly.speed.x.lo, .int .i64 f.fly.speed.x.hi, .int .i64 f.fly.speed.z.lo, .int .i64 f.fly.speed.z.hi, .int .i64 f.fly.mass, .slice A f.cycle.length c, .int .i64 f.reach, .int .i64 f.soft, .int .i64 f.bears, .int .i64 f.least, .int .i64 f.most]] W fun e w' => e = .returned (.bool true) ∧ Below W.heap.size W w') := fun W => by have := few_any f A c W; rw [decide_eq_true hfew] at this; exact this
    have HR : Hid (∀ W : World, RS encB 4 W W.heap.size A f.cycle → Calls Try.prog 22 #[.agg #[.int .i64 f.fly.pos.x.lo, .int .i64 f.fly.pos.x.hi, .int .i64 f.fly.pos.z.lo, .int .i64 f.fly.pos.z.hi, .int .i64 f.fly.speed.x.lo, .int .i64 f.fly.speed.x.hi, .int .i64 f.fly.speed.z.lo, .int .i64 f.fly.speed.z.hi, .int .i64 f.fly.mass, .slice A f.cycle.length c, .int .i64 f.reach, .int .i64 f.soft, .int .i64 f.bears, .int .i64 f.least, .int .i64 f.most]] W fun e w' => e = .returned (.bool f.ok) ∧ Below W.heap.size W w') := fun W h => right_any f A c W h hfew
    have kF := (Blk.new w 32 #[.int .i64 f.fly.pos.x.lo, .int .i64 f.fly.pos.x.hi, .int .i64 f.fly.pos.z.lo, .int .i64 f.fly.pos.z.hi, .int .i64 f.fly.speed.x.lo, .int .i64 f.fly.speed.x.hi, .int .i64 f.fly.speed.z.lo, .int .i64 f.fly.speed.z.hi, .int .i64 f.fly.mass, .slice A f.cycle.length c, .int .i64 f.reach, .int .i64 f.soft, .int .i64 f.bears, .int .i64 f.least, .int .i64 f.most]).alloc (.cells #[.int .i64 p, .int .i64 q] 88)
    have HRS : Hid (∀ w1 : World, Below ((w.alloc (.cells #[.int .i64 f.fly.pos.x.lo, .int .i64 f.fly.pos.x.hi, .int .i64 f.fly.pos.z.lo, .int .i64 f.fly.pos.z.hi, .int .i64 f.fly.speed.x.lo, .int .i64 f.fly.speed.x.hi, .int .i64 f.fly.speed.z.lo, .int .i64 f.fly.speed.z.hi, .int .i64 f.fly.mass, .slice A f.cycle.length c, .int .i64 f.reach, .int .i64 f.soft, .int .i64 f.bears, .int .i64 f.least, .int .i64 f.most] 32)).alloc (.cells #[.int .i64 p, .int .i64 q] 88)).heap.size ((w.alloc (.cells #[.int .i64 f.fly.pos.x.lo, .int .i64 f.fly.pos.x.hi, .int .i64 f.fly.pos.z.lo, .int .i64 f.fly.pos.z.hi, .int .i64 f.fly.speed.x.lo, .int .i64 f.fly.speed.x.hi, .int .i64 f.fly.speed.z.lo, .int .i64 f.fly.speed.z.hi, .int .i64 f.fly.mass, .slice A f.cycle.length c, .int .i64 f.reach, .int .i64 f.soft, .int .i64 f.bears, .int .i64 f.least, .int .i64 f.most] 32)).alloc (.cells #[.int .i64 p, .int .i64 q] 88)) w1 → RS encB 4 w1 w1.heap.size A f.cycle) := fun w1 h => (hr.to hB0).to h
    cases hok : f.ok
    case true =>
      by_cases hcl : cs.length ≤ 400
      case pos => exact holds_ok f A Ac c cc rel tk p q cs w hr hfew hok hcs hcl hrel htk
      case neg =>
        have hcI : (400 : Int) < (cs.length : Int) := by omega
        rw [hok] at HR
        clear hfew hB0 hr hcs hcl hok
        go_enter Try.func10, Try.ntmps10
        go_wp2_with (first | (go_at_call 14; (with_reducible refine (HFEW.out _).mono ?_); rintro e w1 ⟨rfl, hb1⟩; have kF1 := kF.below hb1 kF.lt; have x0 := kF1.cell 0; have x1 := kF1.cell 1; have x2 := kF1.cell 2; have x3 := kF1.cell 3; have x4 := kF1.cell 4; have x5 := kF1.cell 5; have x6 := kF1.cell 6; have x7 := kF1.cell 7; have x8 := kF1.cell 8; have x9 := kF1.cell 9; have x10 := kF1.cell 10; have x11 := kF1.cell 11; have x12 := kF1.cell 12; have x13 := kF1.cell 13; have x14 := kF1.cell 14; simp at x0 x1 x2 x3 x4 x5 x6 x7 x8 x9 x10 x11 x12 x13 x14) | (go_at_call 22; (with_reducible refine (HR.out _ (HRS.out _ hb1)).mono ?_); rintro e w2 ⟨rfl, hb2⟩) | (go_at_call 15; refine (wakes_any _).mono ?_; rintro e w3 ⟨rfl, hb3⟩))
        go_ret
        exact ⟨rfl, HB0.out.trans ((sh_next (sh_next hb1 hb2) hb3).mono (by simp <;> omega))⟩
    case false =>
      rw [hok] at HR
      clear hfew hB0 hr hcs hok
      go_enter Try.func10, Try.ntmps10
      go_wp2_with (first | (go_at_call 14; (with_reducible refine (HFEW.out _).mono ?_); rintro e w1 ⟨rfl, hb1⟩; have kF1 := kF.below hb1 kF.lt; have x0 := kF1.cell 0; have x1 := kF1.cell 1; have x2 := kF1.cell 2; have x3 := kF1.cell 3; have x4 := kF1.cell 4; have x5 := kF1.cell 5; have x6 := kF1.cell 6; have x7 := kF1.cell 7; have x8 := kF1.cell 8; have x9 := kF1.cell 9; have x10 := kF1.cell 10; have x11 := kF1.cell 11; have x12 := kF1.cell 12; have x13 := kF1.cell 13; have x14 := kF1.cell 14; simp at x0 x1 x2 x3 x4 x5 x6 x7 x8 x9 x10 x11 x12 x13 x14) | (go_at_call 22; (with_reducible refine (HR.out _ (HRS.out _ hb1)).mono ?_); rintro e w2 ⟨rfl, hb2⟩) | (go_at_call 15; refine (wakes_any _).mono ?_; rintro e w3 ⟨rfl, hb3⟩))
      go_ret
      exact ⟨rfl, HB0.out.trans ((sh_next (sh_next hb1 hb2) hb3).mono (by simp <;> omega))⟩
  case neg =>
    have HFEW : Hid (∀ W : World, Calls Try.prog 14 #[.agg #[.int .i64 f.fly.pos.x.lo, .int .i64 f.fly.pos.x.hi, .int .i64 f.fly.pos.z.lo, .int .i64 f.fly.pos.z.hi, .int .i64 f.fly.speed.x.lo, .int .i64 f.fly.speed.x.hi, .int .i64 f.fly.speed.z.lo, .int .i64 f.fly.speed.z.hi, .int .i64 f.fly.mass, .slice A f.cycle.length c, .int .i64 f.reach, .int .i64 f.soft, .int .i64 f.bears, .int .i64 f.least, .int .i64 f.most]] W fun e w' => e = .returned (.bool false) ∧ Below W.heap.size W w') := fun W => by have := few_any f A c W; rw [decide_eq_false hfew] at this; exact this
    have HN := Lib.hid hfew
    clear hfew hB0 hr hcs
    go_enter Try.func10, Try.ntmps10
    go_wp2_with (first | (go_at_call 14; (with_reducible refine (HFEW.out _).mono ?_); rintro e w1 ⟨rfl, hb1⟩) | (go_at_call 15; refine (wakes_any _).mono ?_; rintro e w2 ⟨rfl, hb2⟩))
    go_ret
    exact ⟨rfl, HB0.out.trans ((sh_next hb1 hb2).mono (by simp <;> omega))⟩
end Go.Proofs.Ytbagfapalkmikaa
