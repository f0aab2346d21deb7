import Derived.Test.YthelogdgfhfdcaaCan14
namespace Go.Proofs.Ythelogdgfhfdcaa
open Go.RowKit

def vecZ : Vec := ⟨0, 0⟩
def turnsM (f : List Vec) : List Vec := f.flatMap fun v => [v.turned, v.turned.times (-1)]
/-- The directions that decide, after the forces f, in an array of twenty. -/
def waysL (f : List Vec) : List Vec := [⟨1, 0⟩, ⟨0, 1⟩, ⟨-1, 0⟩, ⟨0, -1⟩] ++ turnsM f ++ List.replicate (16 - 2 * f.length) vecZ
theorem turnsM_length (f : List Vec) : (turnsM f).length = 2 * f.length := by
  induction f with
  | nil => rfl
  | cons a f ih => simp [turnsM] at *; omega
theorem waysL_length {f : List Vec} (h : f.length ≤ 8) : (waysL f).length = 20 := by simp [waysL, turnsM_length]; omega
theorem turnsM_snoc {f : List Vec} {k : Nat} {v : Vec} (h : f[k]? = some v) : turnsM (f.take (k + 1)) = turnsM (f.take k) ++ [v.turned, v.turned.times (-1)] := by
  unfold turnsM; rw [List.take_add_one, h]; simp
theorem set_two {α : Type} (P : List α) (x y z z' : α) (R : List α) (n : Nat) (hn : n = P.length) : ((P ++ z :: z' :: R).set n x).set (n + 1) y = P ++ x :: y :: R := by
  subst hn
  rw [List.set_append_right _ _ (Nat.le_refl _), List.set_append_right _ _ (by omega)]
  simp
theorem waysL_step {f : List Vec} {k : Nat} {v : Vec} (hf : f.length ≤ 8) (h : f[k]? = some v) :
    ((waysL (f.take k)).set (4 + 2 * k) v.turned).set (4 + 2 * k + 1) (v.turned.times (-1)) = waysL (f.take (k + 1)) := by
  have hk := lt_of_getElem? h
  unfold waysL
  rw [turnsM_snoc h, List.length_take, List.length_take, Nat.min_eq_left (by omega), Nat.min_eq_left (by omega), show 16 - 2 * k = (16 - 2 * (k + 1)) + 1 + 1 from by omega, List.replicate_succ, List.replicate_succ,
    set_two _ _ _ _ _ _ _ (by simp [turnsM_length, Nat.min_eq_left (show k ≤ f.length by omega)]; omega)]
  simp
theorem flat_set (L : List Vec) (i : Nat) (v : Vec) (hi : i < L.length) : (L.set i v).flatMap encV = ((L.flatMap encV).set (i * 2) (.int .i64 v.x)).set (i * 2 + 1) (.int .i64 v.y) := by
  induction L generalizing i with
  | nil => simp at hi
  | cons a L ih =>
    cases i with
    | zero => rfl
    | succ i =>
      simp only [List.set_cons_succ, List.flatMap_cons, encV, List.cons_append, List.nil_append]
      rw [ih i (by simpa using hi), show (i + 1) * 2 = i * 2 + 1 + 1 from by omega]
      simp
theorem flat_len2 (L : List Vec) : (L.flatMap encV).length = L.length * 2 := by
  induction L with
  | nil => rfl
  | cons a L ih => simp [encV] at *; omega
theorem blk_set2 {w : World} {g t : Nat} {L : List Vec} (h : Blk w g t (L.flatMap encV).toArray) (i : Nat) (v : Vec) (hi : i < L.length) :
    Blk ((w.setCell ⟨g, i * 2, none⟩ (.int .i64 v.x)).setCell ⟨g, i * 2 + 1, none⟩ (.int .i64 v.y)) g t ((L.set i v).flatMap encV).toArray := by
  have := (h.set_ (i * 2) (.int .i64 v.x)).set_ (i * 2 + 1) (.int .i64 v.y)
  rw [flat_set L i v hi]
  simpa using this

theorem blk_setCells {g t : Nat} : ∀ (vs : List Value) (o : Nat) (w : World) (cs : Array Value), Blk w g t cs → o + vs.length ≤ cs.size →
    Blk (w.setCells g o vs) g t (cs.toList.take o ++ vs ++ cs.toList.drop (o + vs.length)).toArray
  | [], o, w, cs, h, _ => by simpa [World.setCells] using h
  | v :: vs, o, w, cs, h, hl => by
    have h1 := blk_setCells vs (o + 1) _ _ (h.set_ o v) (by simp at hl ⊢; omega)
    unfold World.setCells
    have e : ((cs.setIfInBounds o v).toList.take (o + 1) ++ vs ++ (cs.setIfInBounds o v).toList.drop (o + 1 + vs.length)) = cs.toList.take o ++ v :: vs ++ cs.toList.drop (o + (v :: vs).length) := by
      have hlt : o < cs.toList.length := by simp at hl ⊢; omega
      rw [Array.toList_setIfInBounds, List.take_set, List.drop_set_of_lt (by omega), List.take_succ_eq_append_getElem hlt, List.set_append_right _ _ (by rw [List.length_take]; omega), List.length_take, Nat.min_eq_left (by omega)]
      simp only [Nat.sub_self, List.set_cons_zero, List.append_assoc, List.cons_append, List.nil_append, List.length_cons]
      rw [show o + 1 + vs.length = o + (vs.length + 1) from by omega]
    rw [e] at h1
    exact h1
theorem blk_whole {w : World} {g t : Nat} {cs cells : Array Value} (h : Blk w g t cs) (hs : cells.size = cs.size) : Blk (w.setCells g 0 cells.toList) g t cells := by
  have := blk_setCells cells.toList 0 w cs h (by simp [hs])
  rw [List.take_zero, List.nil_append, List.drop_of_length_le (by simp [hs]), List.append_nil] at this
  simpa using this
theorem setCells_far {g k : Nat} (hk : k ≠ g) : ∀ (vs : List Value) (o : Nat) (w : World), (w.setCells g o vs).heap[k]? = w.heap[k]?
  | [], _, _ => rfl
  | v :: vs, o, w => (setCells_far hk vs (o + 1) _).trans (Below.heap_setCell w ⟨g, o, none⟩ v k hk)
theorem Blk.farCells {w : World} {g g' t : Nat} {cs : Array Value} (h : Blk w g t cs) (hk : g ≠ g') (o : Nat) (vs : List Value) : Blk (w.setCells g' o vs) g t cs := (setCells_far hk vs o w).trans h
theorem below_setCells {B g : Nat} (hg : B ≤ g) : ∀ (vs : List Value) (o : Nat) (a w : World), Below B a w → Below B a (w.setCells g o vs)
  | [], _, _, _, h => h
  | v :: vs, o, a, _, h => below_setCells hg vs (o + 1) a _ (h.setCell (p := ⟨g, o, none⟩) hg v)
theorem Blk.there {w : World} {g t : Nat} {cs : Array Value} (h : Blk w g t cs) {n : Nat} (hn : n ≤ cs.size) : w.there g 0 n := fun j hj => by
  rw [h.cell, h.frozen, Nat.zero_add]
  exact ⟨by rw [Array.getElem?_eq_getElem (by omega)]; rfl, rfl⟩
theorem one_flat (L : List Vec) : (L.flatMap encV).toArray.all (·.oneCell') = true := by
  refine all_oneCell_toArray fun v hv => ?_
  obtain ⟨a, _, h⟩ := List.mem_flatMap.1 hv
  simp only [encV, List.mem_cons, List.not_mem_nil, or_false] at h
  rcases h with rfl | rfl <;> rfl
theorem Blk.two {w : World} {g t : Nat} {L : List Vec} (h : Blk w g t (L.flatMap encV).toArray) (hL : L.length = 20) (i : Nat) (hi : i < 20) :
    (∃ z0 z1, w.cell? ⟨g, i * 2, none⟩ = some z0 ∧ w.cell? ⟨g, i * 2 + 1, none⟩ = some z1) ∧ w.frozen? ⟨g, i * 2, none⟩ = false ∧ w.frozen? ⟨g, i * 2 + 1, none⟩ = false := by
  have key : ∀ X, X < 40 → ∃ z, w.cell? ⟨g, X, none⟩ = some z := fun X hX => ⟨_, (h.cell X).trans (Array.getElem?_eq_getElem (by simp only [List.size_toArray]; rw [flat_len2, hL]; omega))⟩
  obtain ⟨z0, y0⟩ := key (i * 2) (by omega)
  obtain ⟨z1, y1⟩ := key (i * 2 + 1) (by omega)
  exact ⟨⟨z0, z1, y0, y1⟩, h.frozen _, h.frozen _⟩
theorem size177 : (Try.prog.info? 177).map (·.size) = some 40 := by kernel_rfl

set_option maxRecDepth 100000 in
set_option maxHeartbeats 1000000 in
theorem ways_any (h : Head) (A1 A2 : Option Addr) (c1 c2 : Nat) (f : List Vec) (w : World) (hr : RS encV 2 w w.heap.size A1 f) (hl : f.length ≤ 8) (hf : ∀ v ∈ f, VB v 500000) :
    Calls Try.prog 114 #[.agg #[.int .i64 h.area, .int .i64 h.bears, .slice A2 h.guys.length c2, .slice A1 f.length c1]] w fun e w' => e = .returned (.agg ((waysL f).flatMap encV).toArray) ∧ Below w.heap.size w w' := by
  have Hf := Lib.hid hf
  clear hf
  go_enter Try.func114, Try.ntmps114
  go_upto_region 2 with (refine wpList_store_mid rfl 177 _ _ rfl _ 0 ((waysL []).flatMap encV).toArray rfl rfl ?h1 (by kernel_rfl) ?h2 ?_)
  case h2 => exact one_flat _
  case h1 =>
    have := Blk.new ((w.alloc (.cells #[.int .i64 h.area, .int .i64 h.bears, .slice A2 h.guys.length c2, .slice A1 f.length c1] 137)).alloc (.cells ((List.replicate 20 vecZ).flatMap encV).toArray 177)) 177 ((List.replicate 20 vecZ).flatMap encV).toArray
    simp only [World.size_alloc] at this
    exact this.there (by decide)
  have kM0 := ((Blk.new w 137 #[.int .i64 h.area, .int .i64 h.bears, .slice A2 h.guys.length c2, .slice A1 f.length c1]).alloc (.cells ((List.replicate 20 vecZ).flatMap encV).toArray 177)).alloc (.cells ((List.replicate 20 vecZ).flatMap encV).toArray 177)
  have kR0 := (Blk.new (w.alloc (.cells #[.int .i64 h.area, .int .i64 h.bears, .slice A2 h.guys.length c2, .slice A1 f.length c1] 137)) 177 ((List.replicate 20 vecZ).flatMap encV).toArray).alloc (.cells ((List.replicate 20 vecZ).flatMap encV).toArray 177)
  have kW0 := Blk.new ((w.alloc (.cells #[.int .i64 h.area, .int .i64 h.bears, .slice A2 h.guys.length c2, .slice A1 f.length c1] 137)).alloc (.cells ((List.replicate 20 vecZ).flatMap encV).toArray 177)) 177 ((List.replicate 20 vecZ).flatMap encV).toArray
  have hB0 := (((Below.refl w.heap.size w).alloc (Nat.le_refl _) (.cells #[.int .i64 h.area, .int .i64 h.bears, .slice A2 h.guys.length c2, .slice A1 f.length c1] 137)).alloc (by simp) (.cells ((List.replicate 20 vecZ).flatMap encV).toArray 177)).alloc (by simp <;> omega) (.cells ((List.replicate 20 vecZ).flatMap encV).toArray 177)
  simp only [World.size_alloc] at kR0 kW0
  have kM1 := kM0.farCells (g' := w.heap.size + 1 + 1) (by omega) 0 ((waysL []).flatMap encV)
  have kR1 := kR0.farCells (g' := w.heap.size + 1 + 1) (by omega) 0 ((waysL []).flatMap encV)
  have kW1 := blk_whole (cells := ((waysL []).flatMap encV).toArray) kW0 (by decide)
  have hB1 := below_setCells (g := w.heap.size + 1 + 1) (by omega) ((waysL []).flatMap encV) 0 _ _ hB0
  clear kM0 kR0 kW0 hB0
  refine name_world (motive := fun W => Code.wp _ _ _ _ W) _ ?_
  intro W0 hW
  have hWb := hW.below hB1
  have kM := hW.blk kM1
  have kR := hW.blk kR1
  have kW := hW.blk kW1
  clear hW hB1 kM1 kR1 kW1
  have hr0 := (hr.below hWb (Nat.le_refl _)).more hWb.size
  have q0 := kM.cell 0
  have q1 := kM.cell 1
  have q2 := kM.cell 2
  have q3 := kM.cell 3
  have qz := kM.lt
  simp at q0 q1 q2 q3
  go_wp2
  go_loopw [14] (fun i wr => ∃ k : Nat, k ≤ f.length ∧ i = .int .i64 k ∧ Blk wr (w.heap.size + 1 + 1) 177 ((waysL (f.take k)).flatMap encV).toArray ∧ W0.grownBy wr (some (w.heap.size + 1 + 1))) (fun i _ => f.length - (intOf i).toNat)
  case atStart => exact ⟨0, Nat.zero_le _, rfl, kW, World.grownBy.refl _ _⟩
  case round =>
    obtain ⟨k, hk, rfl, hK, hO⟩ := hrel
    have hOz := hO.size
    have kz := hK.lt
    by_cases hlt : k < f.length
    · obtain ⟨v, hv⟩ := getElem?_lt hlt
      have vb := Hf.out v (List.mem_of_getElem? hv)
      have s1 : Sm v.y := by have := vb.2; unfold Sm; omega
      have s2 : Sm (-1 * v.turned.x) := by have := vb.2; simp only [Vec.turned]; unfold Sm; omega
      have s3 : Sm (-1 * v.turned.y) := by have := vb.1; simp only [Vec.turned]; unfold Sm; omega
      have HL : Hid ((waysL (f.take k)).length = 20) := waysL_length (by rw [List.length_take]; omega)
      have hle : (waysL (f.take k)).length = 20 := HL.out
      obtain ⟨b, off, rfl, hb, hc⟩ := (hr0.only hO (Nat.le_refl _) (by
        rintro ad rfl e
        rcases hr with h0 | ⟨b, off, h1, h2, _⟩
        · rw [h0] at hlt; simp at hlt
        · injection h1 with h1; subst h1; simp at e; omega)).at_ hv
      have c0 := hc 0 _ rfl
      have c1 := hc 1 _ rfl
      simp only [Nat.add_zero] at c0
      have hbz : b < wr.heap.size := by omega
      have Hv := Lib.hid hv
      clear hv hc hr0 hr vb
      go_wp2_with fail
      refine (turned_any v _ s1).mono ?_
      rintro e w1 ⟨rfl, hb1⟩
      have hK1 := (hK.alloc (.cells #[.int .i64 v.x, .int .i64 v.y] 74)).below hb1 (by simp; omega)
      have hV1 := (Blk.new wr 74 #[.int .i64 v.x, .int .i64 v.y]).below hb1 (by simp)
      have hy1 := hb1.size
      rw [World.size_alloc] at hy1
      obtain ⟨⟨z0, z1, y0, y1⟩, g0, g1⟩ := hK1.two hle (4 + 2 * k) (by omega)
      have x0 := hV1.cell 0
      have x1 := hV1.cell 1
      simp at x0 x1
      have hne : wr.heap.size ≠ w.heap.size + 1 + 1 := by omega
      have hK2 := blk_set2 hK1 (4 + 2 * k) v.turned (by omega)
      have hV2 := (hV1.far (p := ⟨w.heap.size + 1 + 1, (4 + 2 * k) * 2, none⟩) hne (.int .i64 v.turned.x)).far (p := ⟨w.heap.size + 1 + 1, (4 + 2 * k) * 2 + 1, none⟩) hne (.int .i64 v.turned.y)
      have hO2 := only_setCell (only_setCell (only_below (only_alloc hO (.cells #[.int .i64 v.x, .int .i64 v.y] 74)) hb1) (p := ⟨w.heap.size + 1 + 1, (4 + 2 * k) * 2, none⟩) (.inl rfl) (.int .i64 v.turned.x)) (p := ⟨w.heap.size + 1 + 1, (4 + 2 * k) * 2 + 1, none⟩) (.inl rfl) (.int .i64 v.turned.y)
      have u0 := hV2.cell 0
      have u1 := hV2.cell 1
      simp at u0 u1
      have K2 := Lib.hid hK2
      have O2 := Lib.hid hO2
      clear hK2 hV2 hO2 hK1 hV1 hK
      go_wp2_with fail
      refine (turned_any v _ s1).mono ?_
      rintro e w2 ⟨rfl, hb2⟩
      go_wp2_with fail
      refine (times_any v.turned (-1) _ s2 s3).mono ?_
      rintro e w3 ⟨rfl, hb3⟩
      have hz2 := hb2.size
      have hz3 := hb3.size
      simp only [World.size_setCell] at hz2
      have hK3 := (K2.out.below hb2 (by simp; omega)).below hb3 (by omega)
      obtain ⟨⟨z2, z3, y2, y3⟩, g2, g3⟩ := hK3.two (by simp [hle]) (5 + 2 * k) (by omega)
      have hK4 := blk_set2 hK3 (5 + 2 * k) (v.turned.times (-1)) (by simp [hle]; omega)
      have hO4 := only_setCell (only_setCell (only_below (only_below O2.out hb2) hb3) (p := ⟨w.heap.size + 1 + 1, (5 + 2 * k) * 2, none⟩) (.inl rfl) (.int .i64 (v.turned.times (-1)).x)) (p := ⟨w.heap.size + 1 + 1, (5 + 2 * k) * 2 + 1, none⟩) (.inl rfl) (.int .i64 (v.turned.times (-1)).y)
      rw [show 5 + 2 * k = 4 + 2 * k + 1 from by omega, waysL_step hl Hv.out] at hK4
      rw [show 5 + 2 * k = 4 + 2 * k + 1 from by omega] at hO4
      have K4 := Lib.hid hK4
      have O4 := Lib.hid hO4
      clear hK3 hK4 hO4
      go_wp2
      rw [show 5 + 2 * k = 4 + 2 * k + 1 from by omega]
      exact ⟨⟨k + 1, by omega, by go_num, K4.out, O4.out⟩, by simp [intOf]; omega⟩
    · have hR := kR.grown hO (by simp)
      rw [List.take_of_length_le (by omega)] at hK
      have hBw := below_of_only hWb hO (by omega) (by omega)
      have hz : ((waysL f).flatMap encV).toArray.size = 40 := by simp only [List.size_toArray]; rw [flat_len2, waysL_length hl]
      have hz2 : ((List.replicate 20 vecZ).flatMap encV).toArray.size = 40 := by decide
      go_wp2_with (first | refine wpList_load_row rfl 177 _ rfl _ rfl _ _ _ _ hK Try.underlying177 rfl (size177.trans (congrArg some hz.symm)) ?_ | refine wpList_store_mid rfl 177 _ _ rfl _ 0 ((waysL f).flatMap encV).toArray rfl rfl (hR.there (by omega)) (size177.trans (congrArg some hz.symm)) (one_flat _) ?_)
      have bf := blk_whole (cells := ((waysL f).flatMap encV).toArray) hR (by omega)
      exact bodyPost_ret (v := .agg ((waysL f).flatMap encV).toArray) (results_cell_row Try.results114 _ _ _ _ _ _ _ rfl bf Try.underlying177 rfl (size177.trans (congrArg some hz.symm))) rfl ⟨rfl, below_setCells (by omega) _ 0 _ _ hBw⟩
end Go.Proofs.Ythelogdgfhfdcaa
