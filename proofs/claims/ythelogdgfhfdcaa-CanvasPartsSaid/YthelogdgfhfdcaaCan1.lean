import Derived.Test.YthelogdgfhfdcaaOwn
import Derived.Test.YthelogdgfhfdcaaMathC
import Derived.Test.YthelogdgfhfdcaaRef2
namespace Go.Proofs.Ythelogdgfhfdcaa
open Go.RowKit

theorem within_any (n lo hi : Int) (w : World) : Calls Try.prog 64 #[.int .i64 n, .int .i64 lo, .int .i64 hi] w fun e w' => e = .returned (.bool (inB n lo hi)) ∧ w = w' := by
  by_cases h1 : lo ≤ n
  · by_cases h2 : n ≤ hi
    · go_enter Try.func64, Try.ntmps64
      go_wp2
      go_ret
      exact ⟨ret_bool (by simp [inB, h1, h2]), rfl⟩
    · go_enter Try.func64, Try.ntmps64
      go_wp2
      go_ret
      exact ⟨ret_bool (by simp [inB]; omega), rfl⟩
  · go_enter Try.func64, Try.ntmps64
    go_wp2
    go_ret
    exact ⟨ret_bool (by simp [inB]; omega), rfl⟩

theorem isSoil_any (n : Int) (w : World) : Calls Try.prog 61 #[.int .i64 n] w fun e w' => e = .returned (.bool (inB n 0 9)) ∧ w = w' := by
  go_enter Try.func61, Try.ntmps61
  go_wp2_with ((go_at_call 64; refine (within_any _ _ _ _).mono ?_; rintro e w' ⟨rfl, rfl⟩))
  go_ret
  exact ⟨rfl, rfl⟩
theorem isDepth_any (n : Int) (w : World) : Calls Try.prog 62 #[.int .i64 n] w fun e w' => e = .returned (.bool (inB n 1 3000)) ∧ w = w' := by
  go_enter Try.func62, Try.ntmps62
  go_wp2_with ((go_at_call 64; refine (within_any _ _ _ _).mono ?_; rintro e w' ⟨rfl, rfl⟩))
  go_ret
  exact ⟨rfl, rfl⟩

theorem testValid_any (x : Tst) (w : World) : Calls Try.prog 67 #[.agg #[.int .i64 x.soil, .int .i64 x.depth, .int .i64 x.force, .bool x.held]] w fun e w' => e = .returned (.bool x.ok) ∧ Below w.heap.size w w' := by
  have HC : Hid (x.ok = (inB x.soil 0 9 && (inB x.depth 1 3000 && inB x.force 1 5000))) := rfl
  cases h1 : inB x.soil 0 9 <;> cases h2 : inB x.depth 1 3000 <;> cases h3 : inB x.force 1 5000
  all_goals
    rw [h1, h2, h3] at HC
    go_enter Try.func67, Try.ntmps67
    go_wp2_with (first | (go_at_call 61; refine (isSoil_any _ _).mono ?_; rintro e w' ⟨rfl, rfl⟩) | (go_at_call 62; refine (isDepth_any _ _).mono ?_; rintro e w' ⟨rfl, rfl⟩) | (go_at_call 64; refine (within_any _ _ _ _).mono ?_; rintro e w' ⟨rfl, rfl⟩))
    go_ret
    exact ⟨ret_bool HC.out.symm, (Below.refl _ _).alloc (Nat.le_refl _) _⟩

theorem everyT_any (A : Option Addr) (c : Nat) (l : List Tst) (w : World) (hr : RS encT 4 w w.heap.size A l) (hl : l.length ≤ maxLen) :
    Calls Try.prog 66 #[.slice A l.length c, .func (.func 67) #[] #[]] w fun e w' => e = .returned (.bool (l.all Tst.ok)) ∧ Below w.heap.size w w' := by
  unfold maxLen at hl
  go_enter Try.func66, Try.ntmps66
  go_wp2
  go_loopw [9] (fun i wr => ∃ k : Nat, k ≤ l.length ∧ i = .int .i64 k ∧ (l.take k).all Tst.ok = true ∧ Below w.heap.size w wr) (fun i _ => l.length - (intOf i).toNat)
  case atStart => exact ⟨0, Nat.zero_le _, rfl, rfl, Below.refl _ _⟩
  case round =>
    obtain ⟨k, hk, rfl, hall, hB⟩ := hrel
    have Hall := Lib.hid hall
    clear hall
    by_cases hlt : k < l.length
    · obtain ⟨x, hx⟩ := getElem?_lt hlt
      obtain ⟨b, off, rfl, hb, hc⟩ := (hr.below hB (Nat.le_refl _)).at_ hx
      have c0 := hc 0 _ rfl
      have c1 := hc 1 _ rfl
      have c2 := hc 2 _ rfl
      have c3 := hc 3 _ rfl
      have Hx := Lib.hid hx
      have hbz := hB.size
      clear hx hc hr
      simp only [Nat.add_zero] at c0
      cases h1 : x.ok
      all_goals
        have hv := fun W => testValid_any x W
        rw [h1] at hv
        have Hv := Lib.hid hv
        clear hv
        go_wp2_with (go_at_call 67; refine (Hv.out _).mono ?_; rintro e w1 ⟨rfl, hb1⟩)
      · go_ret
        exact ⟨ret_bool (all_bad Hx.out h1).symm, (hB.alloc hbz _).trans (hb1.mono (by simp; omega))⟩
      · go_roundw
        case rel => exact ⟨k + 1, by omega, by go_num, all_snoc Hx.out Hall.out h1, (hB.alloc hbz _).trans (hb1.mono (by simp; omega))⟩
        case measure => simp [intOf]; omega
    · go_wp2
      go_ret
      exact ⟨ret_bool (all_end hlt Hall.out).symm, hB⟩

theorem checkTests_any (A : Option Addr) (c : Nat) (l : List Tst) (w : World) (hr : RS encT 4 w w.heap.size A l) (hl : l.length ≤ maxLen) :
    Calls Try.prog 20 #[.slice A l.length c] w fun e w' => e = .returned (.int .i64 (testsFault l)) ∧ Below w.heap.size w w' := by
  have hl' := hl
  unfold maxLen at hl'
  by_cases h40 : 40 < l.length
  · go_enter Try.func20, Try.ntmps20
    go_wp2
    go_ret
    exact ⟨ret_int (by simp [testsFault, h40]), Below.refl _ _⟩
  · have hv := fun W h => everyT_any A c l W h hl
    cases h1 : l.all Tst.ok
    all_goals
      rw [h1] at hv
      have Hv := Lib.hid hv
      clear hv
      go_enter Try.func20, Try.ntmps20
      go_wp2_with (go_at_call 66; refine (Hv.out _ hr).mono ?_; rintro e w1 ⟨rfl, hb1⟩)
      go_ret
      exact ⟨ret_int (by simp [testsFault, h40, h1]), hb1⟩
end Go.Proofs.Ythelogdgfhfdcaa
