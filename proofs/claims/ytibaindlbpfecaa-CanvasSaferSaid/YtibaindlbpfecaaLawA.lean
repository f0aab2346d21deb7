import Derived.Test.YtibaindlbpfecaaCanE
import Derived.Test.YtibaindlbpfecaaCanC
import Derived.Test.YtibaindlbpfecaaCanF

namespace Go.Proofs.Ytibaindlbpfecaa
open Go.RowKit

def soilM : List Tst := [⟨0, 1000, 800, true⟩, ⟨0, 500, 600, false⟩]
theorem soil_any (w : World) : Calls Try.prog 34 #[] w fun e w' => e = .returned (.slice (some ⟨w.heap.size, 0, none⟩) 2 2) ∧ w' = w.alloc (.cells (soilM.flatMap encT).toArray 79) := by
  go_enter Try.func34, Try.ntmps34
  go_wp2
  go_ret
  exact ⟨rfl, rfl⟩
/-- The tests of the document's examples, in new memory. -/
theorem soil_rs (w : World) : Calls Try.prog 34 #[] w fun e w' => ∃ A, e = .returned (.slice A soilM.length 2) ∧ RS encT 4 w' w'.heap.size A soilM ∧ Below w.heap.size w w' := by
  refine (soil_any w).mono ?_
  rintro e w' ⟨rfl, rfl⟩
  exact ⟨_, rfl, RS.of_blk (enc := encT) (sz := 4) (l := soilM) (fun _ => rfl) (Blk.new w _ _), (Below.refl _ _).alloc (Nat.le_refl _) _⟩

theorem take_eq_step {α : Type} {a b : List α} {k : Nat} {x : α} (h : a.take k = b.take k) (ha : a[k]? = some x) (hb : b[k]? = some x) : a.take (k + 1) = b.take (k + 1) := by
  rw [take_snoc' ha, take_snoc' hb, h]
set_option maxHeartbeats 400000 in
theorem ints_any (A1 A2 : Option Addr) (c1 c2 : Nat) (a b : List Int) (w : World) (ha : RS encI 1 w w.heap.size A1 a) (hb : RS encI 1 w w.heap.size A2 b) (hal : a.length ≤ maxLen) (hbl : b.length ≤ maxLen) :
    Calls Try.prog 39 #[.slice A1 a.length c1, .slice A2 b.length c2] w fun e w' => e = .returned (.bool (decide (a = b))) ∧ Below w.heap.size w w' := by
  unfold maxLen at hal hbl
  by_cases hl : a.length = b.length
  · have e1 : ((a.length : Int) != (b.length : Int)) = false := by simp; omega
    have e2 : (a.length != b.length) = false := by simp; omega
    have HL := Lib.hid hl
    clear hl
    go_enter Try.func39, Try.ntmps39
    go_wp2
    go_loopw [5] (fun i wr => ∃ k : Nat, k ≤ a.length ∧ i = .int .i64 k ∧ a.take k = b.take k ∧ Below w.heap.size w wr) (fun i _ => a.length - (intOf i).toNat)
    case atStart => exact ⟨0, Nat.zero_le _, rfl, rfl, Below.refl _ _⟩
    case round =>
      obtain ⟨k, hk, rfl, htk, hB⟩ := hrel
      have Htk := Lib.hid htk
      clear htk
      by_cases hlt : k < a.length
      · obtain ⟨x, hx⟩ := getElem?_lt hlt
        obtain ⟨y, hy⟩ := getElem?_lt (l := b) (k := k) (by have := HL.out; omega)
        have hkb : k < b.length := lt_of_getElem? hy
        have hkbI : (k : Int) < (b.length : Int) := by omega
        have hkaI : (k : Int) < (a.length : Int) := by omega
        obtain ⟨q1, o1, rfl, hq1, hc1⟩ := (ha.below hB (Nat.le_refl _)).at_ hx
        obtain ⟨q2, o2, rfl, hq2, hc2⟩ := (hb.below hB (Nat.le_refl _)).at_ hy
        have x0 := hc1 0 _ rfl
        have y0 := hc2 0 _ rfl
        simp only [Nat.add_zero, Nat.mul_one] at x0 y0
        have Hx := Lib.hid hx
        have Hy := Lib.hid hy
        clear hx hy hc1 hc2 ha hb
        by_cases he : x = y
        · have e3 : (x != y) = false := by simpa using he
          have He := Lib.hid he
          clear he
          go_wp2
          go_quiet (fail)
          go_wp2
          refine ⟨⟨k + 1, by omega, by go_num, take_eq_step Htk.out Hx.out (by rw [Hy.out, He.out]), below_drewN hB _⟩, by simp [intOf]; omega⟩
        · have e3 : (x != y) = true := by simpa using he
          have He := Lib.hid he
          clear he
          go_wp2
          go_quiet (fail)
          go_wp2
          go_ret
          refine ⟨ret_bool ?_, below_drewN hB _⟩
          symm
          rw [decide_eq_false_iff_not]
          rintro rfl
          exact He.out (by have := Hx.out.symm.trans Hy.out; injection this)
      · go_wp2
        go_ret
        refine ⟨ret_bool ?_, hB⟩
        symm
        rw [decide_eq_true_iff]
        have := Htk.out
        rw [List.take_of_length_le (by omega), List.take_of_length_le (by have := HL.out; omega)] at this
        exact this
  · have e1 : ((a.length : Int) != (b.length : Int)) = true := by simp; omega
    have e2 : (a.length != b.length) = true := by simp; omega
    have HL := Lib.hid hl
    clear hl
    go_enter Try.func39, Try.ntmps39
    go_wp2
    go_ret
    exact ⟨ret_bool (by symm; rw [decide_eq_false_iff_not]; intro h; exact HL.out (by rw [h])), Below.refl _ _⟩
end Go.Proofs.Ytibaindlbpfecaa

namespace Go.Proofs.Ytibaindlbpfecaa
open Go.RowKit

theorem infoCG : (Try.prog.info? 45).map (fun i => (i.zero, i.size, i.bytes)) = some (some (.agg #[.int .i64 0, .int .i64 0, .int .i64 0, .int .i64 0, .int .i64 0]), 5, 40) := by kernel_rfl
def guysM : List Guy := [⟨1000, 0, 600, 0, 700⟩, ⟨0, 1000, 600, 0, 700⟩, ⟨-1000, 0, 600, 0, 700⟩, ⟨0, -1000, 600, 0, 700⟩]
def fourM : List Head := [⟨100, 2000, guysM⟩]
theorem index_four (w : World) : ((Instr.index 138 (.agg #[.int .i64 1000, .int .i64 0, .int .i64 0, .int .i64 1000, .int .i64 (-1000), .int .i64 0, .int .i64 0, .int .i64 (-1000)]) (.int .i64 0)).run Try.prog w = .ok (.agg #[.int .i64 (1000), .int .i64 (0)]) w) ∧ ((Instr.index 138 (.agg #[.int .i64 1000, .int .i64 0, .int .i64 0, .int .i64 1000, .int .i64 (-1000), .int .i64 0, .int .i64 0, .int .i64 (-1000)]) (.int .i64 1)).run Try.prog w = .ok (.agg #[.int .i64 (0), .int .i64 (1000)]) w) ∧ ((Instr.index 138 (.agg #[.int .i64 1000, .int .i64 0, .int .i64 0, .int .i64 1000, .int .i64 (-1000), .int .i64 0, .int .i64 0, .int .i64 (-1000)]) (.int .i64 2)).run Try.prog w = .ok (.agg #[.int .i64 (-1000), .int .i64 (0)]) w) ∧ ((Instr.index 138 (.agg #[.int .i64 1000, .int .i64 0, .int .i64 0, .int .i64 1000, .int .i64 (-1000), .int .i64 0, .int .i64 0, .int .i64 (-1000)]) (.int .i64 3)).run Try.prog w = .ok (.agg #[.int .i64 (0), .int .i64 (-1000)]) w) := by
  refine ⟨?_, ?_, ?_, ?_⟩ <;> simp [Instr.index, go_sem]
def fourRow (w : World) (v : Value) (k : Nat) : Prop := w.ownsRow 0 45 5 v k ((guysM.take k).flatMap encG)
def FourPost (w : World) (e : Ending) (w' : World) : Prop := ∃ A, e = .returned (.slice A fourM.length 1) ∧ RH w' w'.heap.size A fourM ∧ Below w.heap.size w w'

set_option maxRecDepth 100000 in
set_option maxHeartbeats 1000000 in
theorem four_any (w : World) : Calls Try.prog 38 #[] w (FourPost w) := by
  obtain ⟨i0, hi0, hz0, hz1, hz2⟩ := info_parts infoCG
  have hB0 := (Below.refl w.heap.size w).alloc (Nat.le_refl _) (.cells #[.int .i64 100, .int .i64 2000, .slice none 0 0] 43)
  have b0 := Blk.new w 43 #[.int .i64 100, .int .i64 2000, .slice none 0 0]
  go_enter Try.func38, Try.ntmps38
  go_wp2
  go_loopw [2] (fun i wr => ∃ (z : Int) (v : Value), 0 ≤ z ∧ z ≤ 4 ∧ i = .int .i64 z ∧ wr.ownsRow (w.heap.size + 1) 45 5 v z.toNat ((guysM.take z.toNat).flatMap encG) ∧ Blk wr w.heap.size 43 #[.int .i64 100, .int .i64 2000, v] ∧ (w.alloc (.cells #[.int .i64 100, .int .i64 2000, .slice none 0 0] 43)).grownBy wr (some w.heap.size)) (fun i _ => 4 - (intOf i).toNat)
  case atStart => exact ⟨0, .slice none 0 0, by omega, by omega, rfl, World.ownsRow_nil _ _ _ _, b0, World.grownBy.refl _ _⟩
  case round =>
    obtain ⟨z, v, hz0', hz4, rfl, hown, hM, hO⟩ := hrel
    have hM0 := hM.cell 0
    have hM1 := hM.cell 1
    have hM2 := hM.cell 2
    have hMf := hM.frozen 2
    have hMz := hM.lt
    have hOz := hO.size
    simp at hM0 hM1 hM2 hOz
    have hgM : some w.heap.size ≠ v.ownBlock := fun e => by have := (hown.lt _ e.symm).1; omega
    by_cases hlt : z < 4
    · obtain ⟨ix0, ix1, ix2, ix3⟩ := index_four wr
      have Hown := Lib.hid hown
      clear hown
      have hzs : z = 0 ∨ z = 1 ∨ z = 2 ∨ z = 3 := by omega
      rcases hzs with rfl | rfl | rfl | rfl
      · go_wp2_with (at_builtin; refine wpList_append_own _ rfl _ _ 41 rfl (w.heap.size + 1) 45 i0 _ 5 40 Try.underlying41 hi0 hz0 hz1 hz2 rfl (by decide) v 0 _ rfl ((Hown.out.alloc (.cells #[.int .i64 (1000), .int .i64 (0)] 58)).alloc (.cells #[.int .i64 (1000), .int .i64 (0), .int .i64 600, .int .i64 0, .int .i64 700] 45)) ⟨wr.heap.size + 1, 0, none⟩ 1 1 [.int .i64 (1000), .int .i64 (0), .int .i64 600, .int .i64 0, .int .i64 700] rfl rfl ?c10 ?c20 ?c30 ?c40 ?c50 ?_)
        case c10 => exact World.news_of_block (cs := #[.int .i64 (1000), .int .i64 (0), .int .i64 600, .int .i64 0, .int .i64 700]) (t := 45) (fr := (0, 0)) (by simpa using heap_alloc_new (wr.alloc (.cells #[.int .i64 (1000), .int .i64 (0)] 58)) (.cells #[.int .i64 (1000), .int .i64 (0), .int .i64 600, .int .i64 0, .int .i64 700] 45))
        case c20 => simp [Value.oneCell']
        case c30 => unfold maxLen; omega
        case c40 => omega
        case c50 => simp; omega
        intro v2 w2 hown2 hgrow2 _
        obtain ⟨A2, c2, rfl, _, _⟩ := own_slice hown2
        have hM2' := ((hM.alloc (.cells #[.int .i64 (1000), .int .i64 (0)] 58)).alloc (.cells #[.int .i64 (1000), .int .i64 (0), .int .i64 600, .int .i64 0, .int .i64 700] 45)).grown hgrow2 hgM
        have m2 := hM2'.cell 2
        have mf := hM2'.frozen 2
        have mz := hM2'.lt
        simp at m2
        have hO2 := only_append (only_alloc (only_alloc hO (.cells #[.int .i64 (1000), .int .i64 (0)] 58)) (.cells #[.int .i64 (1000), .int .i64 (0), .int .i64 600, .int .i64 0, .int .i64 700] 45)) (by rw [World.size_alloc]; exact (Hown.out.alloc _).alloc _) hgrow2
        clear hgrow2
        go_wp2
        refine ⟨⟨1, .slice A2 (0 + 1) c2, by omega, by omega, rfl, ownsRow_setCell_below hown2 (by show w.heap.size < _; omega) _, (show Blk _ _ _ #[_, _, _] from by simpa using hM2'.set_ 2 _), only_setCell hO2 (.inl rfl) _⟩, by simp [intOf]⟩
      · go_wp2_with (at_builtin; refine wpList_append_own _ rfl _ _ 41 rfl (w.heap.size + 1) 45 i0 _ 5 40 Try.underlying41 hi0 hz0 hz1 hz2 rfl (by decide) v 1 _ rfl ((Hown.out.alloc (.cells #[.int .i64 (0), .int .i64 (1000)] 58)).alloc (.cells #[.int .i64 (0), .int .i64 (1000), .int .i64 600, .int .i64 0, .int .i64 700] 45)) ⟨wr.heap.size + 1, 0, none⟩ 1 1 [.int .i64 (0), .int .i64 (1000), .int .i64 600, .int .i64 0, .int .i64 700] rfl rfl ?c11 ?c21 ?c31 ?c41 ?c51 ?_)
        case c11 => exact World.news_of_block (cs := #[.int .i64 (0), .int .i64 (1000), .int .i64 600, .int .i64 0, .int .i64 700]) (t := 45) (fr := (0, 0)) (by simpa using heap_alloc_new (wr.alloc (.cells #[.int .i64 (0), .int .i64 (1000)] 58)) (.cells #[.int .i64 (0), .int .i64 (1000), .int .i64 600, .int .i64 0, .int .i64 700] 45))
        case c21 => simp [Value.oneCell']
        case c31 => unfold maxLen; omega
        case c41 => omega
        case c51 => simp; omega
        intro v2 w2 hown2 hgrow2 _
        obtain ⟨A2, c2, rfl, _, _⟩ := own_slice hown2
        have hM2' := ((hM.alloc (.cells #[.int .i64 (0), .int .i64 (1000)] 58)).alloc (.cells #[.int .i64 (0), .int .i64 (1000), .int .i64 600, .int .i64 0, .int .i64 700] 45)).grown hgrow2 hgM
        have m2 := hM2'.cell 2
        have mf := hM2'.frozen 2
        have mz := hM2'.lt
        simp at m2
        have hO2 := only_append (only_alloc (only_alloc hO (.cells #[.int .i64 (0), .int .i64 (1000)] 58)) (.cells #[.int .i64 (0), .int .i64 (1000), .int .i64 600, .int .i64 0, .int .i64 700] 45)) (by rw [World.size_alloc]; exact (Hown.out.alloc _).alloc _) hgrow2
        clear hgrow2
        go_wp2
        refine ⟨⟨2, .slice A2 (1 + 1) c2, by omega, by omega, rfl, ownsRow_setCell_below hown2 (by show w.heap.size < _; omega) _, (show Blk _ _ _ #[_, _, _] from by simpa using hM2'.set_ 2 _), only_setCell hO2 (.inl rfl) _⟩, by simp [intOf]⟩
      · go_wp2_with (at_builtin; refine wpList_append_own _ rfl _ _ 41 rfl (w.heap.size + 1) 45 i0 _ 5 40 Try.underlying41 hi0 hz0 hz1 hz2 rfl (by decide) v 2 _ rfl ((Hown.out.alloc (.cells #[.int .i64 (-1000), .int .i64 (0)] 58)).alloc (.cells #[.int .i64 (-1000), .int .i64 (0), .int .i64 600, .int .i64 0, .int .i64 700] 45)) ⟨wr.heap.size + 1, 0, none⟩ 1 1 [.int .i64 (-1000), .int .i64 (0), .int .i64 600, .int .i64 0, .int .i64 700] rfl rfl ?c12 ?c22 ?c32 ?c42 ?c52 ?_)
        case c12 => exact World.news_of_block (cs := #[.int .i64 (-1000), .int .i64 (0), .int .i64 600, .int .i64 0, .int .i64 700]) (t := 45) (fr := (0, 0)) (by simpa using heap_alloc_new (wr.alloc (.cells #[.int .i64 (-1000), .int .i64 (0)] 58)) (.cells #[.int .i64 (-1000), .int .i64 (0), .int .i64 600, .int .i64 0, .int .i64 700] 45))
        case c22 => simp [Value.oneCell']
        case c32 => unfold maxLen; omega
        case c42 => omega
        case c52 => simp; omega
        intro v2 w2 hown2 hgrow2 _
        obtain ⟨A2, c2, rfl, _, _⟩ := own_slice hown2
        have hM2' := ((hM.alloc (.cells #[.int .i64 (-1000), .int .i64 (0)] 58)).alloc (.cells #[.int .i64 (-1000), .int .i64 (0), .int .i64 600, .int .i64 0, .int .i64 700] 45)).grown hgrow2 hgM
        have m2 := hM2'.cell 2
        have mf := hM2'.frozen 2
        have mz := hM2'.lt
        simp at m2
        have hO2 := only_append (only_alloc (only_alloc hO (.cells #[.int .i64 (-1000), .int .i64 (0)] 58)) (.cells #[.int .i64 (-1000), .int .i64 (0), .int .i64 600, .int .i64 0, .int .i64 700] 45)) (by rw [World.size_alloc]; exact (Hown.out.alloc _).alloc _) hgrow2
        clear hgrow2
        go_wp2
        refine ⟨⟨3, .slice A2 (2 + 1) c2, by omega, by omega, rfl, ownsRow_setCell_below hown2 (by show w.heap.size < _; omega) _, (show Blk _ _ _ #[_, _, _] from by simpa using hM2'.set_ 2 _), only_setCell hO2 (.inl rfl) _⟩, by simp [intOf]⟩
      · go_wp2_with (at_builtin; refine wpList_append_own _ rfl _ _ 41 rfl (w.heap.size + 1) 45 i0 _ 5 40 Try.underlying41 hi0 hz0 hz1 hz2 rfl (by decide) v 3 _ rfl ((Hown.out.alloc (.cells #[.int .i64 (0), .int .i64 (-1000)] 58)).alloc (.cells #[.int .i64 (0), .int .i64 (-1000), .int .i64 600, .int .i64 0, .int .i64 700] 45)) ⟨wr.heap.size + 1, 0, none⟩ 1 1 [.int .i64 (0), .int .i64 (-1000), .int .i64 600, .int .i64 0, .int .i64 700] rfl rfl ?c13 ?c23 ?c33 ?c43 ?c53 ?_)
        case c13 => exact World.news_of_block (cs := #[.int .i64 (0), .int .i64 (-1000), .int .i64 600, .int .i64 0, .int .i64 700]) (t := 45) (fr := (0, 0)) (by simpa using heap_alloc_new (wr.alloc (.cells #[.int .i64 (0), .int .i64 (-1000)] 58)) (.cells #[.int .i64 (0), .int .i64 (-1000), .int .i64 600, .int .i64 0, .int .i64 700] 45))
        case c23 => simp [Value.oneCell']
        case c33 => unfold maxLen; omega
        case c43 => omega
        case c53 => simp; omega
        intro v2 w2 hown2 hgrow2 _
        obtain ⟨A2, c2, rfl, _, _⟩ := own_slice hown2
        have hM2' := ((hM.alloc (.cells #[.int .i64 (0), .int .i64 (-1000)] 58)).alloc (.cells #[.int .i64 (0), .int .i64 (-1000), .int .i64 600, .int .i64 0, .int .i64 700] 45)).grown hgrow2 hgM
        have m2 := hM2'.cell 2
        have mf := hM2'.frozen 2
        have mz := hM2'.lt
        simp at m2
        have hO2 := only_append (only_alloc (only_alloc hO (.cells #[.int .i64 (0), .int .i64 (-1000)] 58)) (.cells #[.int .i64 (0), .int .i64 (-1000), .int .i64 600, .int .i64 0, .int .i64 700] 45)) (by rw [World.size_alloc]; exact (Hown.out.alloc _).alloc _) hgrow2
        clear hgrow2
        go_wp2
        refine ⟨⟨4, .slice A2 (3 + 1) c2, by omega, by omega, rfl, ownsRow_setCell_below hown2 (by show w.heap.size < _; omega) _, (show Blk _ _ _ #[_, _, _] from by simpa using hM2'.set_ 2 _), only_setCell hO2 (.inl rfl) _⟩, by simp [intOf]⟩
    · obtain rfl : z = 4 := by omega
      obtain ⟨A2, c2, rfl, hc1, hc2⟩ := own_slice hown
      have hBw := below_of_only hB0 hO (Nat.le_refl _) (by simp)
      have hrs : RS encG 5 wr wr.heap.size A2 guysM := RS.of_own (enc := encG) (sz := 5) (fun _ => rfl) hown rfl
      go_wp2
      go_ret
      refine ⟨some ⟨wr.heap.size, 0, none⟩, rfl, ?_, hBw.alloc (by omega) _⟩
      have hk := Blk.new wr 43 #[.int .i64 100, .int .i64 2000, .slice A2 4 c2]
      refine .inr ⟨wr.heap.size, 0, rfl, by simp, fun k h hh => ?_⟩
      rcases k with _ | k
      · simp only [fourM, List.getElem?_cons_zero, Option.some.injEq] at hh
        subst hh
        exact ⟨A2, c2, hk.cell 0, hk.cell 1, hk.cell 2, hc1, hc2, hrs.to ((Below.refl _ _).alloc (Nat.le_refl _) _)⟩
      · simp [fourM] at hh
end Go.Proofs.Ytibaindlbpfecaa
