import Derived.Test.YtapgmibkdlcljaaTripB

/- Trip. -/
namespace Go.Proofs.Ytapgmibkdlcljaa
open Go.RowKit
def tripE (r : Rul) (n : Int) : Int := if r.ok then (if inB n 0 200 then 0 else 2) else 1
def tripN (r : Rul) (n : Int) : Int := if r.ok && inB n 0 200 then r.takes n else 0
set_option maxHeartbeats 2000000 in
theorem Trip_any (r : Rul) (n : Int) (w : World) : Calls Try.prog 10 #[.agg #[.int .i64 r.drive, .int .i64 r.stint, .int .i64 r.brk, .int .i64 r.rest], .int .i64 n] w fun e w' => e = .returned (.tuple #[.int .i64 (tripN r n), .int .i64 (tripE r n)]) ∧ Below w.heap.size w w' := by
  cases h1 : r.ok
  case false =>
    have V : Hid (∀ W : World, Calls Try.prog 45 #[.agg #[.int .i64 r.drive, .int .i64 r.stint, .int .i64 r.brk, .int .i64 r.rest]] W fun e w' => e = .returned (.bool false) ∧ Below W.heap.size W w') := fun W => by
      have := rulesValid_any r W
      rw [h1] at this
      exact this
    have HR : Hid (tripN r n = 0 ∧ tripE r n = 1) := by show _ ∧ _; simp [tripN, tripE, h1]
    clear h1
    go_enter Try.func10, Try.ntmps10
    go_wp2_with ((go_at_call 45; refine (V.out _).mono ?_; rintro e w1 ⟨rfl, hb1⟩; obtain ⟨hc1, hf1⟩ := bcell hb1; have hz1 : w.heap.size < w1.heap.size := (by have := hb1.size; (try simp at this); omega)))
    refine bodyPost_ret (v := .tuple #[.int .i64 0, .int .i64 1]) (by simp [results, Try.results10, go_sem]) rfl ⟨ret_two HR.out.1.symm HR.out.2.symm, ((Below.refl _ _).alloc (Nat.le_refl _) _).trans (hb1.mono (by simp))⟩
  case true =>
    have V : Hid (∀ W : World, Calls Try.prog 45 #[.agg #[.int .i64 r.drive, .int .i64 r.stint, .int .i64 r.brk, .int .i64 r.rest]] W fun e w' => e = .returned (.bool true) ∧ Below W.heap.size W w') := fun W => by
      have := rulesValid_any r W
      rw [h1] at this
      exact this
    cases h2 : inB n 0 200
    case false =>
      have HR : Hid (tripN r n = 0 ∧ tripE r n = 2) := by show _ ∧ _; simp [tripN, tripE, h1, h2]
      have K2 := Lib.hid h2
      clear h1 h2
      go_enter Try.func10, Try.ntmps10
      go_wp2_with (first | (go_at_call 45; refine (V.out _).mono ?_; rintro e w1 ⟨rfl, hb1⟩; obtain ⟨hc1, hf1⟩ := bcell hb1; have hz1 : w.heap.size < w1.heap.size := (by have := hb1.size; (try simp at this); omega)) | (go_at_call 46; refine (awithin_val K2.out _).mono ?_; rintro e w' ⟨rfl, rfl⟩))
      refine bodyPost_ret (v := .tuple #[.int .i64 0, .int .i64 2]) (by simp [results, Try.results10, go_sem]) rfl ⟨ret_two HR.out.1.symm HR.out.2.symm, ((Below.refl _ _).alloc (Nat.le_refl _) _).trans (hb1.mono (by simp))⟩
    case true =>
      obtain ⟨n1, n2⟩ := inB_true.1 h2
      have HR : Hid (tripN r n = r.takes n ∧ tripE r n = 0) := by show _ ∧ _; simp [tripN, tripE, h1, h2]
      have TK : Hid (∀ W : World, Calls Try.prog 47 #[.agg #[.int .i64 r.drive, .int .i64 r.stint, .int .i64 r.brk, .int .i64 r.rest], .int .i64 n] W fun e w' => e = .returned (.int .i64 (r.takes n)) ∧ Below W.heap.size W w') := fun W => takes_ok r n W h1 n1 (by omega)
      have K2 := Lib.hid h2
      clear h1 h2
      go_enter Try.func10, Try.ntmps10
      go_wp2_with (first | (go_at_call 45; refine (V.out _).mono ?_; rintro e w1 ⟨rfl, hb1⟩; obtain ⟨hc1, hf1⟩ := bcell hb1; have hz1 : w.heap.size < w1.heap.size := (by have := hb1.size; (try simp at this); omega)) | (go_at_call 46; refine (awithin_val K2.out _).mono ?_; rintro e w' ⟨rfl, rfl⟩) | (go_at_call 47; refine (TK.out _).mono ?_; rintro e w2 ⟨rfl, hb2⟩; obtain ⟨hc2, hf2⟩ := bcell hb2; have hz2 : w.heap.size < w2.heap.size := (by have := hb2.size; (try simp at this); omega)))
      refine bodyPost_ret (v := .tuple #[.int .i64 (r.takes n), .int .i64 0]) (by simp [results, Try.results10, go_sem]) rfl ⟨ret_two HR.out.1.symm HR.out.2.symm, ((Below.refl _ _).alloc (Nat.le_refl _) _).trans ((sh_next hb1 hb2).mono (by simp))⟩
end Go.Proofs.Ytapgmibkdlcljaa
