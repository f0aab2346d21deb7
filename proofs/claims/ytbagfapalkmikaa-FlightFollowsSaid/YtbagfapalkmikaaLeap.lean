import Derived.Test.YtbagfapalkmikaaExp
import Derived.Test.YtbagfapalkmikaaCatches

/- The document's flight, and two lists of numbers. -/
namespace Go.Proofs.Ytbagfapalkmikaa
open Go.RowKit Go.Shelf
theorem take_eq_step {α : Type} {a b : List α} {k : Nat} {x : α} (h : a.take k = b.take k) (ha : a[k]? = some x) (hb : b[k]? = some x) : a.take (k + 1) = b.take (k + 1) := by
  rw [take_snoc' ha, take_snoc' hb, h]
set_option maxHeartbeats 400000 in
theorem ints_any (A1 A2 : Option Addr) (c1 c2 : Nat) (a b : List Int) (w : World) (ha : RS encI 1 w w.heap.size A1 a) (hb : RS encI 1 w w.heap.size A2 b) (hal : a.length ≤ maxLen) (hbl : b.length ≤ maxLen) :
    Calls Try.prog 52 #[.slice A1 a.length c1, .slice A2 b.length c2] w fun e w' => e = .returned (.bool (decide (a = b))) ∧ Below w.heap.size w w' := by
  unfold maxLen at hal hbl
  by_cases hl : a.length = b.length
  · have e1 : ((a.length : Int) != (b.length : Int)) = false := by simp; omega
    have e2 : (a.length != b.length) = false := by simp; omega
    have HL := Lib.hid hl
    clear hl
    go_enter Try.func52, Try.ntmps52
    go_wp2
    go_loopw [5] (fun i wr => ∃ k : Nat, k ≤ a.length ∧ i = .int .i64 k ∧ a.take k = b.take k ∧ Below w.heap.size w wr) (fun i _ => a.length - (intOf i).toNat)
    case atStart => exact ⟨0, Nat.zero_le _, rfl, rfl, Below.refl _ _⟩
    case round =>
      obtain ⟨k, hk, rfl, htk, hB⟩ := hrel
      have Htk := Lib.hid htk
      clear htk
      by_cases hlt : k < a.length
      · obtain ⟨x, hx⟩ := getElem?_lt hlt
        obtain ⟨y, hy⟩ := getElem?_lt (l := b) (k := k) (by have := HL.out; omega)
        have hkb : k < b.length := lt_of_getElem? hy
        have hkbI : (k : Int) < (b.length : Int) := by omega
        have hkaI : (k : Int) < (a.length : Int) := by omega
        obtain ⟨q1, o1, rfl, hq1, hc1⟩ := (ha.below hB (Nat.le_refl _)).at_ hx
        obtain ⟨q2, o2, rfl, hq2, hc2⟩ := (hb.below hB (Nat.le_refl _)).at_ hy
        have x0 := hc1 0 _ rfl
        have y0 := hc2 0 _ rfl
        simp only [Nat.add_zero, Nat.mul_one] at x0 y0
        have Hx := Lib.hid hx
        have Hy := Lib.hid hy
        clear hx hy hc1 hc2 ha hb
        by_cases he : x = y
        · have e3 : (x != y) = false := by simpa using he
          have He := Lib.hid he
          clear he
          go_wp2
          go_quiet (fail)
          go_wp2
          refine ⟨⟨k + 1, by omega, by go_num, take_eq_step Htk.out Hx.out (by rw [Hy.out, He.out]), below_drewN hB _⟩, by simp [intOf]; omega⟩
        · have e3 : (x != y) = true := by simpa using he
          have He := Lib.hid he
          clear he
          go_wp2
          go_quiet (fail)
          go_wp2
          go_ret
          refine ⟨ret_bool ?_, below_drewN hB _⟩
          symm
          rw [decide_eq_false_iff_not]
          rintro rfl
          exact He.out (by have := Hx.out.symm.trans Hy.out; injection this)
      · go_wp2
        go_ret
        refine ⟨ret_bool ?_, hB⟩
        symm
        rw [decide_eq_true_iff]
        have := Htk.out
        rw [List.take_of_length_le (by omega), List.take_of_length_le (by have := HL.out; omega)] at this
        exact this
  · have e1 : ((a.length : Int) != (b.length : Int)) = true := by simp; omega
    have e2 : (a.length != b.length) = true := by simp; omega
    have HL := Lib.hid hl
    clear hl
    go_enter Try.func52, Try.ntmps52
    go_wp2
    go_ret
    exact ⟨ret_bool (by symm; rw [decide_eq_false_iff_not]; intro h; exact HL.out (by rw [h])), Below.refl _ _⟩
end Go.Proofs.Ytbagfapalkmikaa

namespace Go.Proofs.Ytbagfapalkmikaa
open Go.RowKit

theorem RS.of_blk {α : Type} {enc : α → List Value} {sz : Nat} (hs : ∀ x, (enc x).length = sz) {w : World} {g t : Nat} {l : List α} (h : Blk w g t (l.flatMap enc).toArray) : RS enc sz w w.heap.size (some ⟨g, 0, none⟩) l := by
  refine .inr ⟨g, 0, rfl, h.lt, fun k x hk j v hv => ?_⟩
  have := h.cell (k * sz + j)
  rw [Nat.zero_add, this]
  simpa using flat_get hs l k x hk j v hv
def leapF : Flt := ⟨⟨⟨⟨0, 1000⟩, ⟨500000, 500000⟩⟩, ⟨⟨3000, 3000⟩, ⟨2000, 2010⟩⟩, 60⟩, [⟨⟨115000, 116000⟩, ⟨501000, 503000⟩⟩], 6000, 10, 30000, 30, 50⟩
set_option maxHeartbeats 4000000 in
theorem leap_any (w : World) : Calls Try.prog 51 #[] w fun e w' => ∃ (A : Option Addr) (c : Nat), e = .returned (.agg #[.int .i64 leapF.fly.pos.x.lo, .int .i64 leapF.fly.pos.x.hi, .int .i64 leapF.fly.pos.z.lo, .int .i64 leapF.fly.pos.z.hi, .int .i64 leapF.fly.speed.x.lo, .int .i64 leapF.fly.speed.x.hi, .int .i64 leapF.fly.speed.z.lo, .int .i64 leapF.fly.speed.z.hi, .int .i64 leapF.fly.mass, .slice A leapF.cycle.length c, .int .i64 leapF.reach, .int .i64 leapF.soft, .int .i64 leapF.bears, .int .i64 leapF.least, .int .i64 leapF.most]) ∧ RS encB 4 w' w'.heap.size A leapF.cycle ∧ Below w.heap.size w w' := by
  go_enter Try.func51, Try.ntmps51
  go_wp2
  have kL := Blk.new ((w.alloc (.cells #[.int .i64 0, .int .i64 1000, .int .i64 500000, .int .i64 500000, .int .i64 3000, .int .i64 3000, .int .i64 2000, .int .i64 2010, .int .i64 60, .slice (some ⟨w.heap.size + 1 + 1, 0, none⟩) 1 1, .int .i64 6000, .int .i64 10, .int .i64 30000, .int .i64 30, .int .i64 50] 50)).alloc (.cells #[.int .i64 0, .int .i64 1000, .int .i64 500000, .int .i64 500000, .int .i64 3000, .int .i64 3000, .int .i64 2000, .int .i64 2010, .int .i64 60] 42)) 37 #[.int .i64 115000, .int .i64 116000, .int .i64 501000, .int .i64 503000]
  simp only [World.size_alloc] at kL
  refine bodyPost_ret (v := .agg #[.int .i64 0, .int .i64 1000, .int .i64 500000, .int .i64 500000, .int .i64 3000, .int .i64 3000, .int .i64 2000, .int .i64 2010, .int .i64 60, .slice (some ⟨w.heap.size + 1 + 1, 0, none⟩) 1 1, .int .i64 6000, .int .i64 10, .int .i64 30000, .int .i64 30, .int .i64 50]) (by simp [results, Try.results51, go_sem]) rfl ⟨some ⟨w.heap.size + 1 + 1, 0, none⟩, 1, rfl, RS.of_blk (enc := encB) (sz := 4) (l := leapF.cycle) (fun _ => rfl) (kL.alloc _), ?_⟩
  exact ((((Below.refl _ w).alloc (Nat.le_refl _) _).alloc (by simp) _).alloc (by simp <;> omega) _).alloc (by simp <;> omega) _
theorem leap_ok : leapF.ok = true := by decide +kernel
theorem leap_flyer : leapF.fly.ok = true := by decide +kernel
theorem leap_swing : swing 10000 20 = ⟨634, 648⟩ := by decide +kernel
theorem leap_after : leapF.fly.after 40 = ⟨⟨120000, 121000⟩, ⟨501600, 502000⟩⟩ := by decide +kernel
theorem leap_sure : sureL leapF 100 = [138, 139, 140] := by decide +kernel
def netF : Net := ⟨⟨300000, 600000⟩, 0⟩
theorem leap_net : netF.ok = true := by decide +kernel
theorem leap_takes : takesB leapF.fly netF = true := by decide +kernel
end Go.Proofs.Ytbagfapalkmikaa
