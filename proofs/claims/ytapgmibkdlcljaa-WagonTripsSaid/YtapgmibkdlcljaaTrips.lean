import Derived.Test.YtapgmibkdlcljaaEvAwake05
import Derived.Test.YtapgmibkdlcljaaTripL

/- The law of trips. -/
namespace Go.Proofs.Ytapgmibkdlcljaa
open Go.RowKit
set_option maxRecDepth 100000 in
set_option maxHeartbeats 4000000 in
theorem trips_any (r : Rul) (n : Int) (w : World) : Calls Try.prog 3 #[.agg #[.int .i64 r.drive, .int .i64 r.stint, .int .i64 r.brk, .int .i64 r.rest], .int .i64 n] w fun e w' => e = .returned (.bool true) ∧ Below w.heap.size w w' := by
  cases h1 : r.ok
  case false =>
    have T1 : Hid (∀ W : World, Calls Try.prog 10 #[.agg #[.int .i64 r.drive, .int .i64 r.stint, .int .i64 r.brk, .int .i64 r.rest], .int .i64 n] W fun e w' => e = .returned (.tuple #[.int .i64 0, .int .i64 1]) ∧ Below W.heap.size W w') := fun W => by
      have := Trip_any r n W
      simp only [tripN, tripE, h1, Bool.false_and, Bool.false_eq_true, if_false] at this
      exact this
    have R1 : Hid (∀ W : World, Calls Try.prog 12 #[.agg #[.int .i64 r.drive, .int .i64 r.stint, .int .i64 r.brk, .int .i64 r.rest]] W fun e w' => e = .returned (.bool false) ∧ Below W.heap.size W w') := fun W => by
      have := RightRules_any r W
      rw [h1] at this
      exact this
    clear h1
    go_enter Try.func3, Try.ntmps3
    go_wp2_with (first | (go_at_call 11; refine (rules_any r _).mono ?_; rintro e w1 ⟨rfl, hb1⟩; obtain ⟨hc1, hf1⟩ := bcell hb1; have hz1 : w.heap.size < w1.heap.size := (by have := hb1.size; (try simp at this); omega)) | (go_at_call 10; refine (T1.out _).mono ?_; rintro e w2 ⟨rfl, hb2⟩; obtain ⟨hc2, hf2⟩ := bcell hb2; have hz2 : w.heap.size < w2.heap.size := (by have := hb2.size; (try simp at this); omega)) | (go_at_call 12; refine (R1.out _).mono ?_; rintro e w3 ⟨rfl, hb3⟩; obtain ⟨hc3, hf3⟩ := bcell hb3; have hz3 : w.heap.size < w3.heap.size := (by have := hb3.size; (try simp at this); omega)) | (go_at_call 13; refine (awake_any _).mono ?_; rintro e w4 ⟨rfl, hb4⟩; obtain ⟨hc4, hf4⟩ := bcell hb4; have hz4 : w.heap.size < w4.heap.size := (by have := hb4.size; (try simp at this); omega)))
    go_ret
    exact ⟨rfl, ((Below.refl _ _).alloc (Nat.le_refl _) _).trans ((sh_next (sh_next (sh_next hb1 hb2) hb3) hb4).mono (by simp))⟩
  case true =>
    have R1 : Hid (∀ W : World, Calls Try.prog 12 #[.agg #[.int .i64 r.drive, .int .i64 r.stint, .int .i64 r.brk, .int .i64 r.rest]] W fun e w' => e = .returned (.bool true) ∧ Below W.heap.size W w') := fun W => by
      have := RightRules_any r W
      rw [h1] at this
      exact this
    cases h2 : inB n 0 200
    case false =>
      have T1 : Hid (∀ W : World, Calls Try.prog 10 #[.agg #[.int .i64 r.drive, .int .i64 r.stint, .int .i64 r.brk, .int .i64 r.rest], .int .i64 n] W fun e w' => e = .returned (.tuple #[.int .i64 0, .int .i64 2]) ∧ Below W.heap.size W w') := fun W => by
        have := Trip_any r n W
        simp only [tripN, tripE, h1, h2, Bool.and_false, Bool.false_eq_true, if_false, if_true] at this
        exact this
      have K2 := Lib.hid h2
      clear h1 h2
      go_enter Try.func3, Try.ntmps3
      go_wp2_with (first | (go_at_call 11; refine (rules_any r _).mono ?_; rintro e w1 ⟨rfl, hb1⟩; obtain ⟨hc1, hf1⟩ := bcell hb1; have hz1 : w.heap.size < w1.heap.size := (by have := hb1.size; (try simp at this); omega)) | (go_at_call 10; refine (T1.out _).mono ?_; rintro e w2 ⟨rfl, hb2⟩; obtain ⟨hc2, hf2⟩ := bcell hb2; have hz2 : w.heap.size < w2.heap.size := (by have := hb2.size; (try simp at this); omega)) | (go_at_call 12; refine (R1.out _).mono ?_; rintro e w3 ⟨rfl, hb3⟩; obtain ⟨hc3, hf3⟩ := bcell hb3; have hz3 : w.heap.size < w3.heap.size := (by have := hb3.size; (try simp at this); omega)) | (go_at_call 14; refine (din_val K2.out _).mono ?_; rintro e w' ⟨rfl, rfl⟩) | (go_at_call 13; refine (awake_any _).mono ?_; rintro e w4 ⟨rfl, hb4⟩; obtain ⟨hc4, hf4⟩ := bcell hb4; have hz4 : w.heap.size < w4.heap.size := (by have := hb4.size; (try simp at this); omega)))
      go_ret
      exact ⟨rfl, ((Below.refl _ _).alloc (Nat.le_refl _) _).trans ((sh_next (sh_next (sh_next hb1 hb2) hb3) hb4).mono (by simp))⟩
    case true =>
      obtain ⟨n1, n2⟩ := inB_true.1 h2
      obtain ⟨t, ht⟩ : ∃ t, r.takes n = t := ⟨_, rfl⟩
      have T1 : Hid (∀ W : World, Calls Try.prog 10 #[.agg #[.int .i64 r.drive, .int .i64 r.stint, .int .i64 r.brk, .int .i64 r.rest], .int .i64 n] W fun e w' => e = .returned (.tuple #[.int .i64 t, .int .i64 0]) ∧ Below W.heap.size W w') := fun W => by
        have := Trip_any r n W
        simp only [tripN, tripE, h1, h2, Bool.and_true, if_true, ht] at this
        exact this
      have F1 : Hid (∀ W : World, Calls Try.prog 15 #[.agg #[.int .i64 r.drive, .int .i64 r.stint, .int .i64 r.brk, .int .i64 r.rest], .int .i64 n] W fun e w' => e = .returned (.int .i64 t) ∧ Below W.heap.size W w') := fun W => by
        have := refTrip_ok r n W h1 n1 (by omega)
        rw [ht] at this
        exact this
      have K2 := Lib.hid h2
      clear h1 h2 ht n1 n2
      go_enter Try.func3, Try.ntmps3
      go_wp2_with (first | (go_at_call 11; refine (rules_any r _).mono ?_; rintro e w1 ⟨rfl, hb1⟩; obtain ⟨hc1, hf1⟩ := bcell hb1; have hz1 : w.heap.size < w1.heap.size := (by have := hb1.size; (try simp at this); omega)) | (go_at_call 10; refine (T1.out _).mono ?_; rintro e w2 ⟨rfl, hb2⟩; obtain ⟨hc2, hf2⟩ := bcell hb2; have hz2 : w.heap.size < w2.heap.size := (by have := hb2.size; (try simp at this); omega)) | (go_at_call 12; refine (R1.out _).mono ?_; rintro e w3 ⟨rfl, hb3⟩; obtain ⟨hc3, hf3⟩ := bcell hb3; have hz3 : w.heap.size < w3.heap.size := (by have := hb3.size; (try simp at this); omega)) | (go_at_call 14; refine (din_val K2.out _).mono ?_; rintro e w' ⟨rfl, rfl⟩) | (go_at_call 15; refine (F1.out _).mono ?_; rintro e w5 ⟨rfl, hb5⟩; obtain ⟨hc5, hf5⟩ := bcell hb5; have hz5 : w.heap.size < w5.heap.size := (by have := hb5.size; (try simp at this); omega)) | (go_at_call 13; refine (awake_any _).mono ?_; rintro e w4 ⟨rfl, hb4⟩; obtain ⟨hc4, hf4⟩ := bcell hb4; have hz4 : w.heap.size < w4.heap.size := (by have := hb4.size; (try simp at this); omega)))
      go_ret
      exact ⟨rfl, ((Below.refl _ _).alloc (Nat.le_refl _) _).trans ((sh_next (sh_next (sh_next (sh_next hb1 hb2) hb3) hb5) hb4).mono (by simp))⟩
end Go.Proofs.Ytapgmibkdlcljaa
