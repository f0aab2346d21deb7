import Derived.Test.YtmhnbchfmddhcaaWinLa
import Derived.Test.YtmhnbchfmddhcaaWinLb
import Derived.Test.YtmhnbchfmddhcaaWinLc

/- The windows of any ticks, and the widest one, are as the document says: of any flight. -/
namespace Go.Proofs.Ytmhnbchfmddhcaa
open Go.RowKit Go.Shelf
set_option maxRecDepth 100000 in
set_option maxHeartbeats 8000000 in
theorem winLaws_any (f : Flt) (A : Option Addr) (c : Nat) (a b : Int) (w : World) (hr : RS encB 4 w w.heap.size A f.cycle) :
    Calls Try.prog 9 #[.agg #[.int .i64 f.fly.pos.x.lo, .int .i64 f.fly.pos.x.hi, .int .i64 f.fly.pos.z.lo, .int .i64 f.fly.pos.z.hi, .int .i64 f.fly.speed.x.lo, .int .i64 f.fly.speed.x.hi, .int .i64 f.fly.speed.z.lo, .int .i64 f.fly.speed.z.hi, .int .i64 f.fly.mass, .slice A f.cycle.length c, .int .i64 f.reach, .int .i64 f.soft, .int .i64 f.bears, .int .i64 f.least, .int .i64 f.most], .int .i64 a, .int .i64 b] w fun e w' => e = .returned (.bool true) ∧ Below w.heap.size w w' := by
  by_cases hfew : f.cycle.length ≤ 700
  case pos =>
    cases hbig : (inB a 0 6000 && inB b (a + 300) 6000)
    case false =>
      by_cases hE : winE f.ok a b = 0
      case neg => exact winLaw_bad f A c a b w hr hfew hbig hE
      case pos =>
        obtain ⟨hok, hwin⟩ : f.ok = true ∧ winB a b = true := by
          cases hok : f.ok
          · rw [hok] at hE; exact absurd (show (1 : Int) = 0 from hE) (by decide)
          · cases hwin : winB a b
            · rw [hok] at hE; unfold winE at hE; rw [hwin] at hE; exact absurd (show (2 : Int) = 0 from hE) (by decide)
            · exact ⟨rfl, rfl⟩
        obtain ⟨⟨a1, a2⟩, ⟨b1, b2⟩, hab⟩ := winB_iff.1 hwin
        obtain ⟨p, rfl⟩ : ∃ p : Nat, a = p := ⟨a.toNat, by omega⟩
        obtain ⟨q, rfl⟩ : ∃ q : Nat, b = q := ⟨b.toNat, by omega⟩
        cases hws : winsTo f p (q + 1) with
        | nil => exact winLaw_none f A c p q w hr hfew hok (by omega) (by omega) hbig hws
        | cons x l => exact winLaw_some f A c p q x l w hr hfew hok (by omega) (by omega) hbig hws
    case true =>
      rw [Bool.and_eq_true] at hbig
      obtain ⟨h1, h3⟩ := hbig
      have hB0 := (Below.refl w.heap.size w).alloc (Nat.le_refl _) (.cells #[.int .i64 f.fly.pos.x.lo, .int .i64 f.fly.pos.x.hi, .int .i64 f.fly.pos.z.lo, .int .i64 f.fly.pos.z.hi, .int .i64 f.fly.speed.x.lo, .int .i64 f.fly.speed.x.hi, .int .i64 f.fly.speed.z.lo, .int .i64 f.fly.speed.z.hi, .int .i64 f.fly.mass, .slice A f.cycle.length c, .int .i64 f.reach, .int .i64 f.soft, .int .i64 f.bears, .int .i64 f.least, .int .i64 f.most] 32)
      have HB0 := Lib.hid hB0
      have HFEW : Hid (∀ W : World, Calls Try.prog 14 #[.agg #[.int .i64 f.fly.pos.x.lo, .int .i64 f.fly.pos.x.hi, .int .i64 f.fly.pos.z.lo, .int .i64 f.fly.pos.z.hi, .int .i64 f.fly.speed.x.lo, .int .i64 f.fly.speed.x.hi, .int .i64 f.fly.speed.z.lo, .int .i64 f.fly.speed.z.hi, .int .i64 f.fly.mass, .slice A f.cycle.length c, .int .i64 f.reach, .int .i64 f.soft, .int .i64 f.bears, .int .i64 f.least, .int .i64 f.most]] W fun e w' => e = .returned (.bool true) ∧ Below W.heap.size W w') := fun W => by have := few_any f A c W; rw [decide_eq_true hfew] at this; exact this
      obtain ⟨ba1, ba2⟩ := inB_true.1 h1
      have H1 := Lib.hid h1
      have H3 := Lib.hid h3
      clear h1 h3 hfew hB0 hr
      go_enter Try.func9, Try.ntmps9
      go_wp2_with (first | (go_at_call 14; (with_reducible refine (HFEW.out _).mono ?_); rintro e w1 ⟨rfl, hb1⟩) | (go_at_call 20; (with_reducible refine (in_val H1.out _).mono ?_); rintro e wq ⟨rfl, rfl⟩) | (go_at_call 20; (with_reducible refine (in_val H3.out _).mono ?_); rintro e wq ⟨rfl, rfl⟩) | (go_at_call 15; refine (wakes_any _).mono ?_; rintro e w2 ⟨rfl, hb2⟩))
      go_ret
      exact ⟨rfl, HB0.out.trans ((sh_next hb1 hb2).mono (by simp))⟩
  case neg =>
    have hB0 := (Below.refl w.heap.size w).alloc (Nat.le_refl _) (.cells #[.int .i64 f.fly.pos.x.lo, .int .i64 f.fly.pos.x.hi, .int .i64 f.fly.pos.z.lo, .int .i64 f.fly.pos.z.hi, .int .i64 f.fly.speed.x.lo, .int .i64 f.fly.speed.x.hi, .int .i64 f.fly.speed.z.lo, .int .i64 f.fly.speed.z.hi, .int .i64 f.fly.mass, .slice A f.cycle.length c, .int .i64 f.reach, .int .i64 f.soft, .int .i64 f.bears, .int .i64 f.least, .int .i64 f.most] 32)
    have HB0 := Lib.hid hB0
    have HFEW : Hid (∀ W : World, Calls Try.prog 14 #[.agg #[.int .i64 f.fly.pos.x.lo, .int .i64 f.fly.pos.x.hi, .int .i64 f.fly.pos.z.lo, .int .i64 f.fly.pos.z.hi, .int .i64 f.fly.speed.x.lo, .int .i64 f.fly.speed.x.hi, .int .i64 f.fly.speed.z.lo, .int .i64 f.fly.speed.z.hi, .int .i64 f.fly.mass, .slice A f.cycle.length c, .int .i64 f.reach, .int .i64 f.soft, .int .i64 f.bears, .int .i64 f.least, .int .i64 f.most]] W fun e w' => e = .returned (.bool false) ∧ Below W.heap.size W w') := fun W => by have := few_any f A c W; rw [decide_eq_false hfew] at this; exact this
    have HN := Lib.hid hfew
    clear hfew hB0 hr
    go_enter Try.func9, Try.ntmps9
    go_wp2_with (first | (go_at_call 14; (with_reducible refine (HFEW.out _).mono ?_); rintro e w1 ⟨rfl, hb1⟩) | (go_at_call 15; refine (wakes_any _).mono ?_; rintro e w2 ⟨rfl, hb2⟩))
    go_ret
    exact ⟨rfl, HB0.out.trans ((sh_next hb1 hb2).mono (by simp))⟩
end Go.Proofs.Ytmhnbchfmddhcaa
