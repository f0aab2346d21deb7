import Derived.Test.YthelogdgfhfdcaaCan12
import Derived.Test.YthelogdgfhfdcaaCan6
import Derived.Deep.RegionLaw
namespace Go.Proofs.Ythelogdgfhfdcaa
open Go.RowKit

/-- What a measured head is in a slot: its own cells, its guys' slice, its forces' slice. -/
def MeasPost (l : List Tst) (h : Head) (A' : Option Addr) (c' : Nat) (w : World) (e : Ending) (w' : World) : Prop :=
  ∃ A1 c1, e = .returned (.agg #[.int .i64 h.area, .int .i64 h.bears, .slice A' h.guys.length c', .slice A1 h.guys.length c1]) ∧ RS encV 2 w' w'.heap.size A1 (forcesM l h) ∧ h.guys.length ≤ c1 ∧ c1 ≤ maxLen ∧ Below w.heap.size w w'

set_option maxRecDepth 100000 in
set_option maxHeartbeats 2000000 in
theorem measure_any (A : Option Addr) (c : Nat) (l : List Tst) (A' : Option Addr) (c' : Nat) (h : Head) (w : World) (hr : RS encT 4 w w.heap.size A l) (hl : l.length ≤ maxLen) (hok : ∀ x ∈ l, x.ok = true) (hh : h.ok = true) (hg : RS encG 5 w w.heap.size A' h.guys) :
    Calls Try.prog 76 #[.slice A l.length c, .agg #[.int .i64 h.area, .int .i64 h.bears, .slice A' h.guys.length c']] w (MeasPost l h A' c' w) := by
  obtain ⟨i0, hi0, hz0, hz1, hz2⟩ := info_parts infoCV
  have hgl := Head.guys_le hh
  have Hgs := Lib.hid (Head.guys_ok hh)
  have Hh := Lib.hid hh
  have Hok := Lib.hid hok
  have hB3 := (((Below.refl w.heap.size w).alloc (Nat.le_refl _) (.cells #[.int .i64 h.area, .int .i64 h.bears, .slice A' h.guys.length c'] 115)).alloc (by simp) (.cells #[.int .i64 0, .int .i64 0, .slice none 0 0, .slice none 0 0] 137)).alloc (by simp <;> omega) (.cells #[.int .i64 h.area, .int .i64 h.bears, .slice A' h.guys.length c', .slice none 0 0] 137)
  have hr3 := (hr.below hB3 (Nat.le_refl _)).more hB3.size
  have hg3 := (hg.below hB3 (Nat.le_refl _)).more hB3.size
  clear hh hok
  go_enter Try.func76, Try.ntmps76
  go_wp2_with fail
  refine (partsOf_any A c l A' c' h _ hr3 hl Hok.out Hh.out hg3).mono ?_
  rintro e wp ⟨A1, c1, rfl, hp, hpf, hc1, hc2, hbp⟩
  obtain ⟨hcp, hfp⟩ := bcell hbp
  have hyp := hbp.size
  simp only [World.size_alloc] at hyp hpf
  have hBp : Below w.heap.size w wp := hB3.trans (hbp.mono (by simp <;> omega))
  have kh := (((Blk.new w 115 #[.int .i64 h.area, .int .i64 h.bears, .slice A' h.guys.length c']).alloc (.cells #[.int .i64 0, .int .i64 0, .slice none 0 0, .slice none 0 0] 137)).alloc (.cells #[.int .i64 h.area, .int .i64 h.bears, .slice A' h.guys.length c', .slice none 0 0] 137)).below hbp (by simp <;> omega)
  have kr := ((Blk.new (w.alloc (.cells #[.int .i64 h.area, .int .i64 h.bears, .slice A' h.guys.length c'] 115)) 137 #[.int .i64 0, .int .i64 0, .slice none 0 0, .slice none 0 0]).alloc (.cells #[.int .i64 h.area, .int .i64 h.bears, .slice A' h.guys.length c', .slice none 0 0] 137)).below hbp (by simp <;> omega)
  have km := (Blk.new ((w.alloc (.cells #[.int .i64 h.area, .int .i64 h.bears, .slice A' h.guys.length c'] 115)).alloc (.cells #[.int .i64 0, .int .i64 0, .slice none 0 0, .slice none 0 0] 137)) 137 #[.int .i64 h.area, .int .i64 h.bears, .slice A' h.guys.length c', .slice none 0 0]).below hbp (by simp <;> omega)
  simp only [World.size_alloc] at kr km
  have hgw : RS encG 5 wp w.heap.size A' h.guys := hg.below hBp (Nat.le_refl _)
  clear hcp hfp hbp hr3 hg3 hr hg hB3
  go_wp2
  go_loopw [14] (fun i wr => ∃ (k : Nat) (v : Value), k ≤ h.guys.length ∧ i = .int .i64 k ∧ wr.ownsRow wp.heap.size 74 2 v k (((forcesM l h).take k).flatMap encV) ∧ Blk wr (w.heap.size + 1 + 1) 137 #[.int .i64 h.area, .int .i64 h.bears, .slice A' h.guys.length c', v] ∧ wp.grownBy wr (some (w.heap.size + 1 + 1))) (fun i _ => h.guys.length - (intOf i).toNat)
  case atStart => exact ⟨0, .slice none 0 0, Nat.zero_le _, rfl, World.ownsRow_nil _ _ _ _, km, World.grownBy.refl _ _⟩
  case round =>
    obtain ⟨k, v, hk, rfl, hown, hM, hO⟩ := hrel
    have hM0 := hM.cell 0
    have hM1 := hM.cell 1
    have hM2 := hM.cell 2
    have hM3 := hM.cell 3
    have hMf := hM.frozen 3
    have hMz := hM.lt
    simp at hM0 hM1 hM2 hM3
    have hH := kh.grown hO (by simp <;> omega)
    have hH2 := hH.cell 2
    have hHz := hH.lt
    simp at hH2
    by_cases hlt : k < h.guys.length
    · obtain ⟨g, hgk⟩ := getElem?_lt hlt
      have gok := Hgs.out g (List.mem_of_getElem? hgk)
      have gb := force_vb Hok.out gok
      obtain ⟨b, off, rfl, hb, hc⟩ := (hgw.only hO (by omega) (by
        rintro ad rfl e
        rcases hgw with h0 | ⟨b, off, h1, h2, _⟩
        · rw [h0] at hlt; simp at hlt
        · injection h1 with h1; subst h1; simp at e; omega)).at_ hgk
      obtain ⟨c0, c1, c2, c3, c4⟩ := five_cells hc
      have HF : Hid ((forcesM l h)[k]? = some (g.force l)) := by
        show (h.guys.map (Guy.force l))[k]? = _
        rw [List.getElem?_map, hgk]; rfl
      have hpk : (partsM l h)[k]? = some (g.part l) := by
        show (h.guys.map (Guy.part l))[k]? = _
        rw [List.getElem?_map, hgk]; rfl
      obtain ⟨b2, off2, rfl, hb2, hp2⟩ := (hp.only hO (Nat.le_refl _) (fun ad ha e => by have := hpf ad ha; omega)).at_ hpk
      have p0 := hp2 0 _ rfl
      simp only [Nat.add_zero, Nat.mul_one] at p0
      have hOz := hO.size
      have hbz : b < wr.heap.size := by omega
      have gb1 := gb.1
      have gb2 := gb.2
      simp only [Guy.force] at gb1 gb2
      have s1 : Sm (g.part l * g.x) := by unfold Sm; omega
      have s2 : Sm (g.part l * g.y) := by unfold Sm; omega
      clear hgk hc hp2 hpk hp hgw gok gb gb1 gb2 hH kh
      go_wp2
      go_region_law (first | (refine step_append_lies _ (by rfl) _ _ _ (by rfl) wp.heap.size 74 i0 _ 2 16 Try.underlying91 hi0 hz0 hz1 hz2 rfl (by omega) v k _ (by rfl) (hown2.alloc _) ⟨w2.heap.size, 0, none⟩ 1 1 [.int .i64 (g.part l * g.x), .int .i64 (g.part l * g.y)] (by rfl) (by rfl) (World.news_of_block (cs := #[.int .i64 (g.part l * g.x), .int .i64 (g.part l * g.y)]) (t := 74) (fr := (0, 0)) (heap_alloc_new w2 _)) (by simp [Value.oneCell']) (by omega) (by unfold maxLen; omega) (by omega) (by simp <;> omega) (w2.heap.size + 1) (by simp) ?_; intro gg cap w3 hown3 hgrow hat hlt3; have hM' := (hM2.alloc (.cells #[.int .i64 (g.part l * g.x), .int .i64 (g.part l * g.y)] 74)).grown hgrow hgM; have r3 := hM'.cell 3; have rf := hM'.frozen 3; have rz := hM'.lt; simp at r3) | (go_simp; go_at_call 98; refine (pull_any g _).mono ?_; rintro e w1 ⟨rfl, hb1⟩; obtain ⟨hc1, hf1⟩ := bcell hb1; have m1 : w1.cell? ⟨w.heap.size + 1 + 1, 3, none⟩ = some v := (hc1 _ _ hMz).trans hM3; clear hc1 hf1; have hg1 : w.heap.size + 1 + 1 < w1.heap.size := (by have := hb1.size; simp at this; omega); have hh1 : w.heap.size < w1.heap.size := (by omega); have hb1' : b < w1.heap.size := (by have := hb1.size; simp at this; omega)) | (go_simp; go_at_call 99; refine (times_any ⟨g.x, g.y⟩ (g.part l) _ s1 s2).mono ?_; rintro e w2 ⟨rfl, hb2⟩; obtain ⟨hc2, hf2⟩ := bcell hb2; have m2 : w2.cell? ⟨w.heap.size + 1 + 1, 3, none⟩ = some v := (hc2 _ _ hg1).trans m1; clear hc2 hf2; have hg2 : w.heap.size + 1 + 1 < w2.heap.size := (by have := hb2.size; omega); have hown2 := own_below (own_below (w := wr.drew) hown hb1) hb2; have hM2 := (Blk.below (w := wr.drew) hM hb1 hMz).below hb2 hg1; have hz2' : wp.heap.size ≤ w2.heap.size := (by have h1 := hb1.size; have h2 := hb2.size; simp at h1; omega); have hgM : some (w.heap.size + 1 + 1) ≠ v.ownBlock := (fun e => by have := (hown.lt _ e.symm).1; omega)))
      all_goals go_wp2
      all_goals
        refine ⟨⟨k + 1, .slice (some ⟨gg, 0, none⟩) (k + 1) cap, by omega, by go_num, ?_, (show Blk _ _ _ #[_, _, _, _] from by simpa using hM'.set_ 3 _), only_setCell (only_append (only_alloc (only_below (only_below (only_drew hO) hb1) hb2) _) (hown2.alloc _) hgrow) (.inl rfl) _⟩, by simp [intOf]; omega⟩
        rw [flat_snoc HF.out]
        exact ownsRow_setCell_below hown3 (by show w.heap.size + 1 + 1 < _; omega) _
    · have hR := kr.grown hO (by simp <;> omega)
      have hBw := below_of_only hBp hO (by omega) (by omega)
      obtain ⟨A2, c2', rfl, hc3, hc4⟩ := own_slice hown
      obtain rfl : k = h.guys.length := by omega
      rw [List.take_of_length_le (by rw [forcesM_length]; omega)] at hown
      have hR0 := hR.cell 0
      have hR1 := hR.cell 1
      have hR2 := hR.cell 2
      have hR3 := hR.cell 3
      have hRf0 := hR.frozen 0
      have hRf1 := hR.frozen 1
      have hRf2 := hR.frozen 2
      have hRf3 := hR.frozen 3
      have hRz := hR.lt
      simp at hR0 hR1 hR2 hR3
      go_wp2
      have bf := (((hR.set_ 0 (.int .i64 h.area)).set_ 1 (.int .i64 h.bears)).set_ 2 (.slice A' h.guys.length c')).set_ 3 (.slice A2 h.guys.length c2')
      have v0 := bf.cell 0
      have v1 := bf.cell 1
      have v2 := bf.cell 2
      have v3 := bf.cell 3
      simp at v0 v1 v2 v3
      refine bodyPost_ret (v := .agg #[.int .i64 h.area, .int .i64 h.bears, .slice A' h.guys.length c', .slice A2 h.guys.length c2']) (by simp [results, Try.results76, go_sem, v0, v1, v2, v3]) rfl ⟨A2, c2', rfl, ?_, hc3, hc4, ?_⟩
      · refine RS.of_own (enc := encV) (sz := 2) (fun _ => rfl) (base := wp.heap.size) (e := 74) (c := c2') ?_ forcesM_length.symm
        exact ownsRow_setCell_below (ownsRow_setCell_below (ownsRow_setCell_below (ownsRow_setCell_below hown (by show w.heap.size + 1 < _; omega) _) (by show w.heap.size + 1 < _; omega) _) (by show w.heap.size + 1 < _; omega) _) (by show w.heap.size + 1 < _; omega) _
      · exact (((hBw.setCell (by show w.heap.size ≤ w.heap.size + 1; omega) _).setCell (by show w.heap.size ≤ w.heap.size + 1; omega) _).setCell (by show w.heap.size ≤ w.heap.size + 1; omega) _).setCell (by show w.heap.size ≤ w.heap.size + 1; omega) _
end Go.Proofs.Ythelogdgfhfdcaa
