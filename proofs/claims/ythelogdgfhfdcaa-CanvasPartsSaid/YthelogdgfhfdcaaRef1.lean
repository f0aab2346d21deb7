import Derived.Test.YthelogdgfhfdcaaProg
import Derived.Test.YthelogdgfhfdcaaLib
import Derived.Test.YthelogdgfhfdcaaMath
namespace Go.Proofs.Ythelogdgfhfdcaa
open Go.RowKit
def encT (x : Tst) : List Value := [.int .i64 x.soil, .int .i64 x.depth, .int .i64 x.force, .bool x.held]

theorem in_any (n lo hi : Int) (w : World) :
    Calls Try.prog 23 #[.int .i64 n, .int .i64 lo, .int .i64 hi] w fun e w' => e = .returned (.bool (inB n lo hi)) ∧ w = w' := by
  by_cases h1 : lo ≤ n
  · by_cases h2 : n ≤ hi
    · go_enter Try.func23, Try.ntmps23
      go_wp2
      go_ret
      exact ⟨ret_bool (by simp [inB, h1, h2]), rfl⟩
    · go_enter Try.func23, Try.ntmps23
      go_wp2
      go_ret
      exact ⟨ret_bool (by simp [inB]; omega), rfl⟩
  · go_enter Try.func23, Try.ntmps23
    go_wp2
    go_ret
    exact ⟨ret_bool (by simp [inB]; omega), rfl⟩

theorem testsFault_any (A : Option Addr) (c : Nat) (l : List Tst) (w : World) (B : Nat) (hr : RS encT 4 w B A l) (hl : l.length ≤ maxLen) :
    Calls Try.prog 15 #[.slice A l.length c] w fun e w' => e = .returned (.int .i64 (testsFault l)) ∧ w = w' := by
  unfold maxLen at hl
  by_cases h40 : 40 < l.length
  · go_enter Try.func15, Try.ntmps15
    go_wp2
    go_ret
    exact ⟨ret_int (by simp [testsFault, h40]), rfl⟩
  · go_enter Try.func15, Try.ntmps15
    go_wp2
    go_loop [3] (fun i => ∃ k : Nat, k ≤ l.length ∧ i = .int .i64 k ∧ (l.take k).all Tst.ok = true) (fun i => l.length - (intOf i).toNat)
    case atStart => exact ⟨0, Nat.zero_le _, rfl, rfl⟩
    case round =>
      obtain ⟨k, hk, rfl, hall⟩ := hrel
      have Hall := Lib.hid hall
      clear hall
      by_cases hlt : k < l.length
      · obtain ⟨x, hx⟩ := getElem?_lt hlt
        obtain ⟨b, off, rfl, hb, hc⟩ := hr.at_ hx
        have c0 := hc 0 _ rfl
        have c1 := hc 1 _ rfl
        have c2 := hc 2 _ rfl
        have Hx := Lib.hid hx
        clear hx hc hr
        simp only [Nat.add_zero] at c0
        have Hok : Hid (x.ok = (inB x.soil 0 9 && (inB x.depth 1 3000 && inB x.force 1 5000))) := rfl
        cases h1 : inB x.soil 0 9 <;> cases h2 : inB x.depth 1 3000 <;> cases h3 : inB x.force 1 5000
        all_goals
          rw [h1, h2, h3] at Hok
          go_wp2_with (go_at_call 23; refine (in_any _ _ _ _).mono ?_; rintro e w' ⟨rfl, rfl⟩)
          first
          | (go_ret
             exact ⟨ret_int (testsFault_bad h40 Hx.out Hok.out).symm, rfl⟩)
          | (go_round
             case rel => exact ⟨k + 1, by omega, by go_num, all_snoc Hx.out Hall.out Hok.out⟩
             case measure => simp [intOf]; omega)
      · go_wp2
        go_ret
        exact ⟨ret_int (testsFault_good h40 hlt Hall.out).symm, rfl⟩

theorem clash_bounds {a b : Tst} (ha : a.ok = true) (hb : b.ok = true) : (1 ≤ a.force * b.depth ∧ a.force * b.depth ≤ 15000000) ∧ (1 ≤ b.force * a.depth ∧ b.force * a.depth ≤ 15000000) := by
  rw [Tst.ok_iff] at ha hb
  obtain ⟨_, ⟨a1, a2⟩, a3, a4⟩ := ha
  obtain ⟨_, ⟨b1, b2⟩, b3, b4⟩ := hb
  refine ⟨⟨?_, ?_⟩, ?_, ?_⟩
  · have := Int.mul_le_mul a3 b1 (by omega) (by omega); omega
  · have := Int.mul_le_mul a4 b2 (by omega) (by omega); omega
  · have := Int.mul_le_mul b3 a1 (by omega) (by omega); omega
  · have := Int.mul_le_mul b4 a2 (by omega) (by omega); omega

/-- What a clash is told by: the two places, or -1 twice. -/
def fclA (l : List Tst) : Int := match fcl l with | some (i, _) => i | none => -1
def fclB (l : List Tst) : Int := match fcl l with | some (_, k) => k | none => -1

theorem refClash_any (A : Option Addr) (c : Nat) (l : List Tst) (w : World) (hr : RS encT 4 w w.heap.size A l) (hl : l.length ≤ maxLen) (hok : ∀ x ∈ l, x.ok = true) :
    Calls Try.prog 21 #[.slice A l.length c] w fun e w' => e = .returned (.tuple #[.int .i64 (fclA l), .int .i64 (fclB l)]) ∧ Below w.heap.size w w' := by
  unfold maxLen at hl
  have Hok := Lib.hid hok
  clear hok
  go_enter Try.func21, Try.ntmps21
  go_wp2
  go_loopw [4] (fun i wr => ∃ k : Nat, k ≤ l.length ∧ i = .int .i64 k ∧ fclFrom l (l.drop k) k = fcl l ∧ Below w.heap.size w wr) (fun i _ => l.length - (intOf i).toNat)
  case atStart => exact ⟨0, Nat.zero_le _, rfl, rfl, Below.refl _ _⟩
  case round =>
    obtain ⟨i, hi, rfl, hfi, hB⟩ := hrel
    have Hfi := Lib.hid hfi
    clear hfi
    by_cases hlt : i < l.length
    · obtain ⟨x, hx⟩ := getElem?_lt hlt
      have Hx := Lib.hid hx
      have hrr := hr.below hB (Nat.le_refl _)
      obtain ⟨b, off, rfl, hb, hc⟩ := hrr.at_ hx
      have xo := Hok.out x (List.mem_of_getElem? hx)
      have Xo := Lib.hid xo
      clear hx xo hrr
      go_wp2
      go_loopw [5] (fun j wr' => ∃ k : Nat, k ≤ l.length ∧ j = .int .i64 k ∧ find1 (clashB x) (l.drop k) k = find1 (clashB x) l 0 ∧ Below w.heap.size w wr') (fun j _ => l.length - (intOf j).toNat)
      case atStart => exact ⟨0, Nat.zero_le _, rfl, rfl, hB⟩
      case round =>
        obtain ⟨k, hk, rfl, hfk, hB2⟩ := hrel
        have Hfk := Lib.hid hfk
        clear hfk hB
        have hrr := hr.below hB2 (Nat.le_refl _)
        by_cases hlt2 : k < l.length
        · obtain ⟨y, hy⟩ := getElem?_lt hlt2
          have yo := Hok.out y (List.mem_of_getElem? hy)
          obtain ⟨⟨p1, p2⟩, p3, p4⟩ := clash_bounds Xo.out yo
          obtain ⟨b', off', hA, _, hc'⟩ := hrr.at_ hy
          obtain ⟨rfl, rfl⟩ : b = b' ∧ off = off' := by simpa using hA
          obtain ⟨b', off', hA', _, hc⟩ := hrr.at_ Hx.out
          obtain ⟨rfl, rfl⟩ : b = b' ∧ off = off' := by simpa using hA'
          have c0 := hc 0 _ rfl
          have c1 := hc 1 _ rfl
          have c2 := hc 2 _ rfl
          have c3 := hc 3 _ rfl
          have d0 := hc' 0 _ rfl
          have d1 := hc' 1 _ rfl
          have d2 := hc' 2 _ rfl
          have d3 := hc' 3 _ rfl
          simp only [Nat.add_zero] at c0 d0
          have Hy := Lib.hid hy
          clear hc hc' hA hA' hy yo hr hrr
          have Hcl : Hid (clashB x y = (x.held && (!y.held && (decide (x.soil = y.soil) && decide (y.force * x.depth ≤ x.force * y.depth))))) := rfl
          cases h1 : x.held with
          | false =>
            rw [h1] at c3
            go_wp2
            refine ⟨⟨i + 1, by omega, by go_num, ?_, hB2⟩, by simp [intOf]; omega⟩
            rw [← Hfi.out, fcl_miss Hx.out (find1_none (fun z _ => by simp [clashB, h1]) 0)]
          | true =>
            rw [h1] at c3
            cases h2 : y.held with
            | true =>
              rw [h2] at d3
              go_wp2
              go_quiet (fail)
              go_wp2
              refine ⟨⟨k + 1, by omega, by go_num, ?_, below_drewN hB2 _⟩, by simp [intOf]; omega⟩
              rw [← Hfk.out, find1_miss Hy.out (by rw [Hcl.out, h2]; simp)]
            | false =>
              rw [h2] at d3
              by_cases h3 : y.soil = x.soil
              · have e3 : (y.soil == x.soil) = true := by simpa using h3
                by_cases h4 : y.force * x.depth ≤ x.force * y.depth
                · go_wp2
                  go_quiet (fail)
                  go_wp2
                  go_ret2
                  have hf : fcl l = some (i, k) := by
                    rw [← Hfi.out, fcl_hit Hx.out]
                    rw [← Hfk.out, find1_hit Hy.out (by rw [Hcl.out, h1, h2, h3]; simp [h4])]
                  exact ⟨ret_two (by simp [fclA, hf]) (by simp [fclB, hf]), below_drewN hB2 _⟩
                · have e4 : decide (y.force * x.depth ≤ x.force * y.depth) = false := by simpa using h4
                  go_wp2
                  go_quiet (fail)
                  go_wp2
                  refine ⟨⟨k + 1, by omega, by go_num, ?_, below_drewN hB2 _⟩, by simp [intOf]; omega⟩
                  rw [← Hfk.out, find1_miss Hy.out (by rw [Hcl.out, e4]; simp)]
              · have e3 : (y.soil == x.soil) = false := by simpa using h3
                go_wp2
                go_quiet (fail)
                go_wp2
                refine ⟨⟨k + 1, by omega, by go_num, ?_, below_drewN hB2 _⟩, by simp [intOf]; omega⟩
                rw [← Hfk.out, find1_miss Hy.out (by rw [Hcl.out, decide_eq_false (fun h => h3 h.symm)]; simp)]
        · go_wp2
          refine ⟨⟨i + 1, by omega, by go_num, ?_, hB2⟩, by simp [intOf]; omega⟩
          rw [← Hfi.out, fcl_miss Hx.out (by rw [← Hfk.out, find1_end hlt2])]
    · go_wp2
      go_ret2
      have hf : fcl l = none := by rw [← Hfi.out, fcl_end hlt]
      exact ⟨ret_two (by simp [fclA, hf]) (by simp [fclB, hf]), hB⟩
end Go.Proofs.Ythelogdgfhfdcaa
