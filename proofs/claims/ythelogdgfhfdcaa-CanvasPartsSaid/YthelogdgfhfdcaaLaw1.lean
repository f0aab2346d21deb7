import Derived.Test.YthelogdgfhfdcaaCan34
import Derived.Test.YthelogdgfhfdcaaCan23
namespace Go.Proofs.Ythelogdgfhfdcaa
open Go.RowKit

def soilM : List Tst := [⟨0, 1000, 800, true⟩, ⟨0, 500, 600, false⟩]
theorem soil_any (w : World) : Calls Try.prog 53 #[] w fun e w' => e = .returned (.slice (some ⟨w.heap.size, 0, none⟩) 2 2) ∧ w' = w.alloc (.cells (soilM.flatMap encT).toArray 100) := by
  go_enter Try.func53, Try.ntmps53
  go_wp2
  go_ret
  exact ⟨rfl, rfl⟩
/-- The tests of the document's examples, in new memory. -/
theorem soil_rs (w : World) : Calls Try.prog 53 #[] w fun e w' => ∃ A, e = .returned (.slice A soilM.length 2) ∧ RS encT 4 w' w'.heap.size A soilM ∧ Below w.heap.size w w' := by
  refine (soil_any w).mono ?_
  rintro e w' ⟨rfl, rfl⟩
  exact ⟨_, rfl, RS.of_blk (enc := encT) (sz := 4) (l := soilM) (fun _ => rfl) (Blk.new w _ _), (Below.refl _ _).alloc (Nat.le_refl _) _⟩

theorem take_eq_step {α : Type} {a b : List α} {k : Nat} {x : α} (h : a.take k = b.take k) (ha : a[k]? = some x) (hb : b[k]? = some x) : a.take (k + 1) = b.take (k + 1) := by
  rw [take_snoc' ha, take_snoc' hb, h]
set_option maxHeartbeats 400000 in
theorem ints_any (A1 A2 : Option Addr) (c1 c2 : Nat) (a b : List Int) (w : World) (ha : RS encI 1 w w.heap.size A1 a) (hb : RS encI 1 w w.heap.size A2 b) (hal : a.length ≤ maxLen) (hbl : b.length ≤ maxLen) :
    Calls Try.prog 33 #[.slice A1 a.length c1, .slice A2 b.length c2] w fun e w' => e = .returned (.bool (decide (a = b))) ∧ Below w.heap.size w w' := by
  unfold maxLen at hal hbl
  by_cases hl : a.length = b.length
  · have e1 : ((a.length : Int) != (b.length : Int)) = false := by simp; omega
    have e2 : (a.length != b.length) = false := by simp; omega
    have HL := Lib.hid hl
    clear hl
    go_enter Try.func33, Try.ntmps33
    go_wp2
    go_loopw [5] (fun i wr => ∃ k : Nat, k ≤ a.length ∧ i = .int .i64 k ∧ a.take k = b.take k ∧ Below w.heap.size w wr) (fun i _ => a.length - (intOf i).toNat)
    case atStart => exact ⟨0, Nat.zero_le _, rfl, rfl, Below.refl _ _⟩
    case round =>
      obtain ⟨k, hk, rfl, htk, hB⟩ := hrel
      have Htk := Lib.hid htk
      clear htk
      by_cases hlt : k < a.length
      · obtain ⟨x, hx⟩ := getElem?_lt hlt
        obtain ⟨y, hy⟩ := getElem?_lt (l := b) (k := k) (by have := HL.out; omega)
        have hkb : k < b.length := lt_of_getElem? hy
        have hkbI : (k : Int) < (b.length : Int) := by omega
        have hkaI : (k : Int) < (a.length : Int) := by omega
        obtain ⟨q1, o1, rfl, hq1, hc1⟩ := (ha.below hB (Nat.le_refl _)).at_ hx
        obtain ⟨q2, o2, rfl, hq2, hc2⟩ := (hb.below hB (Nat.le_refl _)).at_ hy
        have x0 := hc1 0 _ rfl
        have y0 := hc2 0 _ rfl
        simp only [Nat.add_zero, Nat.mul_one] at x0 y0
        have Hx := Lib.hid hx
        have Hy := Lib.hid hy
        clear hx hy hc1 hc2 ha hb
        by_cases he : x = y
        · have e3 : (x != y) = false := by simpa using he
          have He := Lib.hid he
          clear he
          go_wp2
          go_quiet (fail)
          go_wp2
          refine ⟨⟨k + 1, by omega, by go_num, take_eq_step Htk.out Hx.out (by rw [Hy.out, He.out]), below_drewN hB _⟩, by simp [intOf]; omega⟩
        · have e3 : (x != y) = true := by simpa using he
          have He := Lib.hid he
          clear he
          go_wp2
          go_quiet (fail)
          go_wp2
          go_ret
          refine ⟨ret_bool ?_, below_drewN hB _⟩
          symm
          rw [decide_eq_false_iff_not]
          rintro rfl
          exact He.out (by have := Hx.out.symm.trans Hy.out; injection this)
      · go_wp2
        go_ret
        refine ⟨ret_bool ?_, hB⟩
        symm
        rw [decide_eq_true_iff]
        have := Htk.out
        rw [List.take_of_length_le (by omega), List.take_of_length_le (by have := HL.out; omega)] at this
        exact this
  · have e1 : ((a.length : Int) != (b.length : Int)) = true := by simp; omega
    have e2 : (a.length != b.length) = true := by simp; omega
    have HL := Lib.hid hl
    clear hl
    go_enter Try.func33, Try.ntmps33
    go_wp2
    go_ret
    exact ⟨ret_bool (by symm; rw [decide_eq_false_iff_not]; intro h; exact HL.out (by rw [h])), Below.refl _ _⟩
end Go.Proofs.Ythelogdgfhfdcaa
