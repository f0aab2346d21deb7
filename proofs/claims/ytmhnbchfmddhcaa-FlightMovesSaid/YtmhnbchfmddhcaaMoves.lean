import Derived.Test.YtmhnbchfmddhcaaMovA
import Derived.Test.YtmhnbchfmddhcaaMovB
import Derived.Test.YtmhnbchfmddhcaaMovC

/- Whether a flight is valid, its box and its load after any ticks are as the document says. -/
namespace Go.Proofs.Ytmhnbchfmddhcaa
open Go.RowKit Go.Shelf
set_option maxHeartbeats 4000000 in
theorem moves_any (f : Flt) (A : Option Addr) (c : Nat) (t : Int) (w : World) (hr : RS encB 4 w w.heap.size A f.cycle) (hlc : f.cycle.length ≤ maxLen) :
    Calls Try.prog 3 #[.agg #[.int .i64 f.fly.pos.x.lo, .int .i64 f.fly.pos.x.hi, .int .i64 f.fly.pos.z.lo, .int .i64 f.fly.pos.z.hi, .int .i64 f.fly.speed.x.lo, .int .i64 f.fly.speed.x.hi, .int .i64 f.fly.speed.z.lo, .int .i64 f.fly.speed.z.hi, .int .i64 f.fly.mass, .slice A f.cycle.length c, .int .i64 f.reach, .int .i64 f.soft, .int .i64 f.bears, .int .i64 f.least, .int .i64 f.most], .int .i64 t] w fun e w' => e = .returned (.bool true) ∧ Below w.heap.size w w' := by
  by_cases hfew : f.cycle.length ≤ 700
  case pos =>
    cases hok : f.ok <;> cases hfy : f.fly.ok <;> cases hair : inB t 0 300
    · exact moves_FFF f A c t w hr hlc hfew hok hfy hair
    · exact moves_FFT f A c t w hr hlc hfew hok hfy hair
    · exact moves_FTF f A c t w hr hlc hfew hok hfy hair
    · exact moves_FTT f A c t w hr hlc hfew hok hfy hair
    · exfalso; have := (Flt.ok_iff.1 hok).1; rw [hfy] at this; cases this
    · exfalso; have := (Flt.ok_iff.1 hok).1; rw [hfy] at this; cases this
    · exact moves_TTF f A c t w hr hlc hfew hok hfy hair
    · exact moves_TTT f A c t w hr hlc hfew hok hfy hair
  case neg =>
    have hB0 := (Below.refl w.heap.size w).alloc (Nat.le_refl _) (.cells #[.int .i64 f.fly.pos.x.lo, .int .i64 f.fly.pos.x.hi, .int .i64 f.fly.pos.z.lo, .int .i64 f.fly.pos.z.hi, .int .i64 f.fly.speed.x.lo, .int .i64 f.fly.speed.x.hi, .int .i64 f.fly.speed.z.lo, .int .i64 f.fly.speed.z.hi, .int .i64 f.fly.mass, .slice A f.cycle.length c, .int .i64 f.reach, .int .i64 f.soft, .int .i64 f.bears, .int .i64 f.least, .int .i64 f.most] 32)
    have HB0 := Lib.hid hB0
    have HFEW : Hid (∀ W : World, Calls Try.prog 14 #[.agg #[.int .i64 f.fly.pos.x.lo, .int .i64 f.fly.pos.x.hi, .int .i64 f.fly.pos.z.lo, .int .i64 f.fly.pos.z.hi, .int .i64 f.fly.speed.x.lo, .int .i64 f.fly.speed.x.hi, .int .i64 f.fly.speed.z.lo, .int .i64 f.fly.speed.z.hi, .int .i64 f.fly.mass, .slice A f.cycle.length c, .int .i64 f.reach, .int .i64 f.soft, .int .i64 f.bears, .int .i64 f.least, .int .i64 f.most]] W fun e w' => e = .returned (.bool (decide (f.cycle.length ≤ 700))) ∧ Below W.heap.size W w') := fun W => few_any f A c W
    rw [show decide (f.cycle.length ≤ 700) = false by simpa using hfew] at HFEW
    have HN := Lib.hid hfew
    clear hfew hB0
    go_enter Try.func3, Try.ntmps3
    go_wp2_with (first | (go_at_call 14; (with_reducible refine (HFEW.out _).mono ?_); rintro e w1 ⟨rfl, hb1⟩) | (go_at_call 15; refine (wakes_any _).mono ?_; rintro e w2 ⟨rfl, hb2⟩))
    go_ret
    exact ⟨rfl, HB0.out.trans ((sh_next hb1 hb2).mono (by simp))⟩
end Go.Proofs.Ytmhnbchfmddhcaa
