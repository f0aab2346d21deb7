import Derived.Test.YthelogdgfhfdcaaLaw1
import Derived.Test.YthelogdgfhfdcaaCan31
namespace Go.Proofs.Ythelogdgfhfdcaa
open Go.RowKit

theorem infoCG : (Try.prog.info? 117).map (fun i => (i.zero, i.size, i.bytes)) = some (some (.agg #[.int .i64 0, .int .i64 0, .int .i64 0, .int .i64 0, .int .i64 0]), 5, 40) := by kernel_rfl
def guysM : List Guy := [⟨1000, 0, 600, 0, 700⟩, ⟨0, 1000, 600, 0, 700⟩, ⟨-1000, 0, 600, 0, 700⟩, ⟨0, -1000, 600, 0, 700⟩]
def fourM : List Head := [⟨100, 2000, guysM⟩]
theorem index_four (w : World) : ((Instr.index 149 (.agg #[.int .i64 1000, .int .i64 0, .int .i64 0, .int .i64 1000, .int .i64 (-1000), .int .i64 0, .int .i64 0, .int .i64 (-1000)]) (.int .i64 0)).run Try.prog w = .ok (.agg #[.int .i64 (1000), .int .i64 (0)]) w) ∧ ((Instr.index 149 (.agg #[.int .i64 1000, .int .i64 0, .int .i64 0, .int .i64 1000, .int .i64 (-1000), .int .i64 0, .int .i64 0, .int .i64 (-1000)]) (.int .i64 1)).run Try.prog w = .ok (.agg #[.int .i64 (0), .int .i64 (1000)]) w) ∧ ((Instr.index 149 (.agg #[.int .i64 1000, .int .i64 0, .int .i64 0, .int .i64 1000, .int .i64 (-1000), .int .i64 0, .int .i64 0, .int .i64 (-1000)]) (.int .i64 2)).run Try.prog w = .ok (.agg #[.int .i64 (-1000), .int .i64 (0)]) w) ∧ ((Instr.index 149 (.agg #[.int .i64 1000, .int .i64 0, .int .i64 0, .int .i64 1000, .int .i64 (-1000), .int .i64 0, .int .i64 0, .int .i64 (-1000)]) (.int .i64 3)).run Try.prog w = .ok (.agg #[.int .i64 (0), .int .i64 (-1000)]) w) := by
  refine ⟨?_, ?_, ?_, ?_⟩ <;> simp [Instr.index, go_sem]
def fourRow (w : World) (v : Value) (k : Nat) : Prop := w.ownsRow 0 117 5 v k ((guysM.take k).flatMap encG)
def FourPost (w : World) (e : Ending) (w' : World) : Prop := ∃ A, e = .returned (.slice A fourM.length 1) ∧ RH w' w'.heap.size A fourM ∧ Below w.heap.size w w'

set_option maxRecDepth 100000 in
set_option maxHeartbeats 1000000 in
theorem four_any (w : World) : Calls Try.prog 54 #[] w (FourPost w) := by
  obtain ⟨i0, hi0, hz0, hz1, hz2⟩ := info_parts infoCG
  have hB0 := (Below.refl w.heap.size w).alloc (Nat.le_refl _) (.cells #[.int .i64 100, .int .i64 2000, .slice none 0 0] 115)
  have b0 := Blk.new w 115 #[.int .i64 100, .int .i64 2000, .slice none 0 0]
  go_enter Try.func54, Try.ntmps54
  go_wp2
  go_loopw [2] (fun i wr => ∃ (z : Int) (v : Value), 0 ≤ z ∧ z ≤ 4 ∧ i = .int .i64 z ∧ wr.ownsRow (w.heap.size + 1) 117 5 v z.toNat ((guysM.take z.toNat).flatMap encG) ∧ Blk wr w.heap.size 115 #[.int .i64 100, .int .i64 2000, v] ∧ (w.alloc (.cells #[.int .i64 100, .int .i64 2000, .slice none 0 0] 115)).grownBy wr (some w.heap.size)) (fun i _ => 4 - (intOf i).toNat)
  case atStart => exact ⟨0, .slice none 0 0, by omega, by omega, rfl, World.ownsRow_nil _ _ _ _, b0, World.grownBy.refl _ _⟩
  case round =>
    obtain ⟨z, v, hz0', hz4, rfl, hown, hM, hO⟩ := hrel
    have hM0 := hM.cell 0
    have hM1 := hM.cell 1
    have hM2 := hM.cell 2
    have hMf := hM.frozen 2
    have hMz := hM.lt
    have hOz := hO.size
    simp at hM0 hM1 hM2 hOz
    have hgM : some w.heap.size ≠ v.ownBlock := fun e => by have := (hown.lt _ e.symm).1; omega
    by_cases hlt : z < 4
    · obtain ⟨ix0, ix1, ix2, ix3⟩ := index_four wr
      have Hown := Lib.hid hown
      clear hown
      have hzs : z = 0 ∨ z = 1 ∨ z = 2 ∨ z = 3 := by omega
      rcases hzs with rfl | rfl | rfl | rfl
      · go_wp2_with (at_builtin; refine wpList_append_own _ rfl _ _ 113 rfl (w.heap.size + 1) 117 i0 _ 5 40 Try.underlying113 hi0 hz0 hz1 hz2 rfl (by decide) v 0 _ rfl ((Hown.out.alloc (.cells #[.int .i64 (1000), .int .i64 (0)] 74)).alloc (.cells #[.int .i64 (1000), .int .i64 (0), .int .i64 600, .int .i64 0, .int .i64 700] 117)) ⟨wr.heap.size + 1, 0, none⟩ 1 1 [.int .i64 (1000), .int .i64 (0), .int .i64 600, .int .i64 0, .int .i64 700] rfl rfl ?c10 ?c20 ?c30 ?c40 ?c50 ?_)
        case c10 => exact World.news_of_block (cs := #[.int .i64 (1000), .int .i64 (0), .int .i64 600, .int .i64 0, .int .i64 700]) (t := 117) (fr := (0, 0)) (by simpa using heap_alloc_new (wr.alloc (.cells #[.int .i64 (1000), .int .i64 (0)] 74)) (.cells #[.int .i64 (1000), .int .i64 (0), .int .i64 600, .int .i64 0, .int .i64 700] 117))
        case c20 => simp [Value.oneCell']
        case c30 => unfold maxLen; omega
        case c40 => omega
        case c50 => simp; omega
        intro v2 w2 hown2 hgrow2 _
        obtain ⟨A2, c2, rfl, _, _⟩ := own_slice hown2
        have hM2' := ((hM.alloc (.cells #[.int .i64 (1000), .int .i64 (0)] 74)).alloc (.cells #[.int .i64 (1000), .int .i64 (0), .int .i64 600, .int .i64 0, .int .i64 700] 117)).grown hgrow2 hgM
        have m2 := hM2'.cell 2
        have mf := hM2'.frozen 2
        have mz := hM2'.lt
        simp at m2
        have hO2 := only_append (only_alloc (only_alloc hO (.cells #[.int .i64 (1000), .int .i64 (0)] 74)) (.cells #[.int .i64 (1000), .int .i64 (0), .int .i64 600, .int .i64 0, .int .i64 700] 117)) (by rw [World.size_alloc]; exact (Hown.out.alloc _).alloc _) hgrow2
        clear hgrow2
        go_wp2
        refine ⟨⟨1, .slice A2 (0 + 1) c2, by omega, by omega, rfl, ownsRow_setCell_below hown2 (by show w.heap.size < _; omega) _, (show Blk _ _ _ #[_, _, _] from by simpa using hM2'.set_ 2 _), only_setCell hO2 (.inl rfl) _⟩, by simp [intOf]⟩
      · go_wp2_with (at_builtin; refine wpList_append_own _ rfl _ _ 113 rfl (w.heap.size + 1) 117 i0 _ 5 40 Try.underlying113 hi0 hz0 hz1 hz2 rfl (by decide) v 1 _ rfl ((Hown.out.alloc (.cells #[.int .i64 (0), .int .i64 (1000)] 74)).alloc (.cells #[.int .i64 (0), .int .i64 (1000), .int .i64 600, .int .i64 0, .int .i64 700] 117)) ⟨wr.heap.size + 1, 0, none⟩ 1 1 [.int .i64 (0), .int .i64 (1000), .int .i64 600, .int .i64 0, .int .i64 700] rfl rfl ?c11 ?c21 ?c31 ?c41 ?c51 ?_)
        case c11 => exact World.news_of_block (cs := #[.int .i64 (0), .int .i64 (1000), .int .i64 600, .int .i64 0, .int .i64 700]) (t := 117) (fr := (0, 0)) (by simpa using heap_alloc_new (wr.alloc (.cells #[.int .i64 (0), .int .i64 (1000)] 74)) (.cells #[.int .i64 (0), .int .i64 (1000), .int .i64 600, .int .i64 0, .int .i64 700] 117))
        case c21 => simp [Value.oneCell']
        case c31 => unfold maxLen; omega
        case c41 => omega
        case c51 => simp; omega
        intro v2 w2 hown2 hgrow2 _
        obtain ⟨A2, c2, rfl, _, _⟩ := own_slice hown2
        have hM2' := ((hM.alloc (.cells #[.int .i64 (0), .int .i64 (1000)] 74)).alloc (.cells #[.int .i64 (0), .int .i64 (1000), .int .i64 600, .int .i64 0, .int .i64 700] 117)).grown hgrow2 hgM
        have m2 := hM2'.cell 2
        have mf := hM2'.frozen 2
        have mz := hM2'.lt
        simp at m2
        have hO2 := only_append (only_alloc (only_alloc hO (.cells #[.int .i64 (0), .int .i64 (1000)] 74)) (.cells #[.int .i64 (0), .int .i64 (1000), .int .i64 600, .int .i64 0, .int .i64 700] 117)) (by rw [World.size_alloc]; exact (Hown.out.alloc _).alloc _) hgrow2
        clear hgrow2
        go_wp2
        refine ⟨⟨2, .slice A2 (1 + 1) c2, by omega, by omega, rfl, ownsRow_setCell_below hown2 (by show w.heap.size < _; omega) _, (show Blk _ _ _ #[_, _, _] from by simpa using hM2'.set_ 2 _), only_setCell hO2 (.inl rfl) _⟩, by simp [intOf]⟩
      · go_wp2_with (at_builtin; refine wpList_append_own _ rfl _ _ 113 rfl (w.heap.size + 1) 117 i0 _ 5 40 Try.underlying113 hi0 hz0 hz1 hz2 rfl (by decide) v 2 _ rfl ((Hown.out.alloc (.cells #[.int .i64 (-1000), .int .i64 (0)] 74)).alloc (.cells #[.int .i64 (-1000), .int .i64 (0), .int .i64 600, .int .i64 0, .int .i64 700] 117)) ⟨wr.heap.size + 1, 0, none⟩ 1 1 [.int .i64 (-1000), .int .i64 (0), .int .i64 600, .int .i64 0, .int .i64 700] rfl rfl ?c12 ?c22 ?c32 ?c42 ?c52 ?_)
        case c12 => exact World.news_of_block (cs := #[.int .i64 (-1000), .int .i64 (0), .int .i64 600, .int .i64 0, .int .i64 700]) (t := 117) (fr := (0, 0)) (by simpa using heap_alloc_new (wr.alloc (.cells #[.int .i64 (-1000), .int .i64 (0)] 74)) (.cells #[.int .i64 (-1000), .int .i64 (0), .int .i64 600, .int .i64 0, .int .i64 700] 117))
        case c22 => simp [Value.oneCell']
        case c32 => unfold maxLen; omega
        case c42 => omega
        case c52 => simp; omega
        intro v2 w2 hown2 hgrow2 _
        obtain ⟨A2, c2, rfl, _, _⟩ := own_slice hown2
        have hM2' := ((hM.alloc (.cells #[.int .i64 (-1000), .int .i64 (0)] 74)).alloc (.cells #[.int .i64 (-1000), .int .i64 (0), .int .i64 600, .int .i64 0, .int .i64 700] 117)).grown hgrow2 hgM
        have m2 := hM2'.cell 2
        have mf := hM2'.frozen 2
        have mz := hM2'.lt
        simp at m2
        have hO2 := only_append (only_alloc (only_alloc hO (.cells #[.int .i64 (-1000), .int .i64 (0)] 74)) (.cells #[.int .i64 (-1000), .int .i64 (0), .int .i64 600, .int .i64 0, .int .i64 700] 117)) (by rw [World.size_alloc]; exact (Hown.out.alloc _).alloc _) hgrow2
        clear hgrow2
        go_wp2
        refine ⟨⟨3, .slice A2 (2 + 1) c2, by omega, by omega, rfl, ownsRow_setCell_below hown2 (by show w.heap.size < _; omega) _, (show Blk _ _ _ #[_, _, _] from by simpa using hM2'.set_ 2 _), only_setCell hO2 (.inl rfl) _⟩, by simp [intOf]⟩
      · go_wp2_with (at_builtin; refine wpList_append_own _ rfl _ _ 113 rfl (w.heap.size + 1) 117 i0 _ 5 40 Try.underlying113 hi0 hz0 hz1 hz2 rfl (by decide) v 3 _ rfl ((Hown.out.alloc (.cells #[.int .i64 (0), .int .i64 (-1000)] 74)).alloc (.cells #[.int .i64 (0), .int .i64 (-1000), .int .i64 600, .int .i64 0, .int .i64 700] 117)) ⟨wr.heap.size + 1, 0, none⟩ 1 1 [.int .i64 (0), .int .i64 (-1000), .int .i64 600, .int .i64 0, .int .i64 700] rfl rfl ?c13 ?c23 ?c33 ?c43 ?c53 ?_)
        case c13 => exact World.news_of_block (cs := #[.int .i64 (0), .int .i64 (-1000), .int .i64 600, .int .i64 0, .int .i64 700]) (t := 117) (fr := (0, 0)) (by simpa using heap_alloc_new (wr.alloc (.cells #[.int .i64 (0), .int .i64 (-1000)] 74)) (.cells #[.int .i64 (0), .int .i64 (-1000), .int .i64 600, .int .i64 0, .int .i64 700] 117))
        case c23 => simp [Value.oneCell']
        case c33 => unfold maxLen; omega
        case c43 => omega
        case c53 => simp; omega
        intro v2 w2 hown2 hgrow2 _
        obtain ⟨A2, c2, rfl, _, _⟩ := own_slice hown2
        have hM2' := ((hM.alloc (.cells #[.int .i64 (0), .int .i64 (-1000)] 74)).alloc (.cells #[.int .i64 (0), .int .i64 (-1000), .int .i64 600, .int .i64 0, .int .i64 700] 117)).grown hgrow2 hgM
        have m2 := hM2'.cell 2
        have mf := hM2'.frozen 2
        have mz := hM2'.lt
        simp at m2
        have hO2 := only_append (only_alloc (only_alloc hO (.cells #[.int .i64 (0), .int .i64 (-1000)] 74)) (.cells #[.int .i64 (0), .int .i64 (-1000), .int .i64 600, .int .i64 0, .int .i64 700] 117)) (by rw [World.size_alloc]; exact (Hown.out.alloc _).alloc _) hgrow2
        clear hgrow2
        go_wp2
        refine ⟨⟨4, .slice A2 (3 + 1) c2, by omega, by omega, rfl, ownsRow_setCell_below hown2 (by show w.heap.size < _; omega) _, (show Blk _ _ _ #[_, _, _] from by simpa using hM2'.set_ 2 _), only_setCell hO2 (.inl rfl) _⟩, by simp [intOf]⟩
    · obtain rfl : z = 4 := by omega
      obtain ⟨A2, c2, rfl, hc1, hc2⟩ := own_slice hown
      have hBw := below_of_only hB0 hO (Nat.le_refl _) (by simp)
      have hrs : RS encG 5 wr wr.heap.size A2 guysM := RS.of_own (enc := encG) (sz := 5) (fun _ => rfl) hown rfl
      go_wp2
      go_ret
      refine ⟨some ⟨wr.heap.size, 0, none⟩, rfl, ?_, hBw.alloc (by omega) _⟩
      have hk := Blk.new wr 115 #[.int .i64 100, .int .i64 2000, .slice A2 4 c2]
      refine .inr ⟨wr.heap.size, 0, rfl, by simp, fun k h hh => ?_⟩
      rcases k with _ | k
      · simp only [fourM, List.getElem?_cons_zero, Option.some.injEq] at hh
        subst hh
        exact ⟨A2, c2, hk.cell 0, hk.cell 1, hk.cell 2, hc1, hc2, hrs.to ((Below.refl _ _).alloc (Nat.le_refl _) _)⟩
      · simp [fourM] at hh
end Go.Proofs.Ythelogdgfhfdcaa
