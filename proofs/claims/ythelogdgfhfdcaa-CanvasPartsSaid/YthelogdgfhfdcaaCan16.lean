import Derived.Test.YthelogdgfhfdcaaCan15
import Derived.Test.YthelogdgfhfdcaaCan11
namespace Go.Proofs.Ythelogdgfhfdcaa
open Go.RowKit

theorem flat_take {L : List Vec} {k : Nat} {v : Vec} (h : L[k]? = some v) : ((L.flatMap encV).drop (k * 2)).take 2 = [.int .i64 v.x, .int .i64 v.y] := by
  have key : ∀ (L : List Vec) (k : Nat), L[k]? = some v → ((L.flatMap encV).drop (k * 2)).take 2 = [.int .i64 v.x, .int .i64 v.y] := by
    intro L
    induction L with
    | nil => intro k h; simp at h
    | cons a L ih =>
      intro k h
      cases k with
      | zero => simp at h; subst h; rfl
      | succ k =>
        rw [List.flatMap_cons, show (k + 1) * 2 = (encV a).length + k * 2 from by simp [encV]; omega, List.drop_append, List.drop_of_length_le (by omega), List.nil_append, Nat.add_sub_cancel_left]
        exact ih k (by simpa using h)
  exact key L k h
theorem index_ways {L : List Vec} {k : Nat} {v : Vec} (hL : L.length = 20) (h : L[k]? = some v) (w : World) :
    (Instr.index 177 (.agg (L.flatMap encV).toArray) (.int .i64 k)).run Try.prog w = .ok (.agg #[.int .i64 v.x, .int .i64 v.y]) w := by
  have hk := lt_of_getElem? h
  simp [Instr.index, go_sem]
  rw [if_pos (by omega), flat_take h]

def reachStep (area : Int) (f : List Vec) (way : Vec) (most : Int) (d : Vec) : Int :=
  if 0 < d.dot (way.times area) then min most (helpM f d / d.dot (way.times area)) else most
/-- The greatest multiple of a direction, up to 10000, that no direction of the forces forbids. -/
def reachM (area : Int) (f : List Vec) (way : Vec) : Int := (waysL f).foldl (reachStep area f way) 10000
theorem waysL_vb {f : List Vec} {p : Int} (hp : 1 ≤ p) (hf : ∀ v ∈ f, VB v p) : ∀ v ∈ waysL f, VB v p := by
  intro v hv
  simp only [waysL, turnsM, List.mem_append, List.mem_cons, List.not_mem_nil, or_false, List.mem_flatMap, List.mem_replicate] at hv
  rcases hv with ((rfl | rfl | rfl | rfl) | ⟨a, ha, rfl | rfl⟩) | ⟨_, rfl⟩
  · unfold VB; simp only; omega
  · unfold VB; simp only; omega
  · unfold VB; simp only; omega
  · unfold VB; simp only; omega
  · exact (hf a ha).turned
  · exact (hf a ha).turned.neg
  · unfold VB vecZ; simp only; omega

theorem helpM_le {f : List Vec} {way : Vec} (hf : ∀ v ∈ f, VB v 500000) (hw : VB way 1000000) : helpM f way ≤ 1000000000000 * f.length := by
  have key : ∀ (f : List Vec) (n : Int), (∀ v ∈ f, VB v 500000) → f.foldl (fun n v => n + max 0 (-(way.dot v))) n ≤ n + 1000000000000 * f.length := by
    intro f
    induction f with
    | nil => intro n _; simp
    | cons a f ih =>
      intro n h
      have h1 := hw.dot' (h a (by simp))
      have h2 := ih (n + max 0 (-(way.dot a))) (fun v hv => h v (by simp [hv]))
      simp only [List.foldl_cons, List.length_cons]
      omega
  have := key f 0 hf
  unfold helpM
  omega
set_option maxRecDepth 100000 in
set_option maxHeartbeats 1000000 in
theorem reach_any (h : Head) (A1 A2 : Option Addr) (c1 c2 : Nat) (f : List Vec) (way : Vec) (w : World) (hr : RS encV 2 w w.heap.size A1 f) (hl : f.length ≤ 8) (hf : ∀ v ∈ f, VB v 500000) (ha : 0 ≤ h.area ∧ h.area ≤ 1000) (hw : VB way 10000) :
    Calls Try.prog 85 #[.agg #[.int .i64 h.area, .int .i64 h.bears, .slice A2 h.guys.length c2, .slice A1 f.length c1], .agg #[.int .i64 way.x, .int .i64 way.y]] w fun e w' => e = .returned (.int .i64 (reachM h.area f way)) ∧ Below w.heap.size w w' := by
  have hpt := hw.times (n := h.area) (q := 1000) (by omega)
  have p1 : Sm (h.area * way.x) := by have := hpt.1; simp only [Vec.times] at this; unfold Sm; omega
  have p2 : Sm (h.area * way.y) := by have := hpt.2; simp only [Vec.times] at this; unfold Sm; omega
  have Hpt := Lib.hid hpt
  have Hf := Lib.hid hf
  have Hwl := Lib.hid (waysL_vb (by omega) hf)
  have HL : Hid ((waysL f).length = 20) := waysL_length hl
  have hB := ((Below.refl w.heap.size w).alloc (Nat.le_refl _) (.cells #[.int .i64 h.area, .int .i64 h.bears, .slice A2 h.guys.length c2, .slice A1 f.length c1] 137)).alloc (by simp) (.cells #[.int .i64 way.x, .int .i64 way.y] 74)
  have hr1 := (hr.below hB (Nat.le_refl _)).more hB.size
  clear hf hpt
  go_enter Try.func85, Try.ntmps85
  go_wp2_with fail
  refine (ways_any h A1 A2 c1 c2 f _ hr1 hl Hf.out).mono ?_
  rintro e wo ⟨rfl, hbo⟩
  have kM := ((Blk.new w 137 #[.int .i64 h.area, .int .i64 h.bears, .slice A2 h.guys.length c2, .slice A1 f.length c1]).alloc (.cells #[.int .i64 way.x, .int .i64 way.y] 74)).below hbo (by simp <;> omega)
  have kV := (Blk.new (w.alloc (.cells #[.int .i64 h.area, .int .i64 h.bears, .slice A2 h.guys.length c2, .slice A1 f.length c1] 137)) 74 #[.int .i64 way.x, .int .i64 way.y]).below hbo (by simp)
  have hro := hr1.to hbo
  have hBo := hB.trans (hbo.mono hB.size)
  simp only [World.size_alloc] at kV
  clear hbo hr1 hr hB
  go_wp2
  go_loopw [5, 11] (fun m i wr => ∃ (k : Nat) (most : Int), k ≤ 20 ∧ i = .int .i64 k ∧ m = .int .i64 most ∧ ((waysL f).take k).foldl (reachStep h.area f way) 10000 = most ∧ Below wo.heap.size wo wr) (fun _ i _ => 20 - (intOf i).toNat)
  case atStart => exact ⟨0, 10000, by omega, rfl, rfl, rfl, Below.refl _ _⟩
  case round =>
    obtain ⟨k, most, hk, rfl, rfl, hfold, hB⟩ := hrel
    have Hfold := Lib.hid hfold
    clear hfold
    have hbz := hB.size
    by_cases hlt : k < 20
    · obtain ⟨d, hd⟩ := getElem?_lt (l := waysL f) (k := k) (by rw [HL.out]; exact hlt)
      have db := Hwl.out d (List.mem_of_getElem? hd)
      obtain ⟨s1, s2⟩ := db.sm Hpt.out (by omega)
      have hdd := db.dot' Hpt.out
      have hix := index_ways HL.out hd
      have Hd := Lib.hid hd
      have hh0 := helpM_nonneg (f := f) (way := d)
      have kMw := kM.below hB kM.lt
      have kVw := kV.below hB kV.lt
      have m0 := kMw.cell 0
      have m1 := kMw.cell 1
      have m2 := kMw.cell 2
      have m3 := kMw.cell 3
      have n0 := kVw.cell 0
      have n1 := kVw.cell 1
      simp at m0 m1 m2 m3 n0 n1
      have mz := kMw.lt
      have nz := kVw.lt
      have hrr := (hro.to hB).to ((Below.refl _ wr).alloc (Nat.le_refl _) (.cells #[.int .i64 d.x, .int .i64 d.y] 74))
      have HS : Hid (reachStep h.area f way most d = if 0 < d.dot (way.times h.area) then min most (helpM f d / d.dot (way.times h.area)) else most) := rfl
      have Hdd := Lib.hid hdd
      clear hd hdd kMw kVw kM kV hro
      go_wp2
      refine name_world (motive := fun W => Code.wp _ _ _ _ W) _ ?_
      intro W0 hW
      have hWc := hW.cell
      have hWz := hW.size
      have hWb := hW.below ((Below.refl wr.heap.size wr).alloc (Nat.le_refl _) (.cells #[.int .i64 d.x, .int .i64 d.y] 74))
      have hrW : RS encV 2 W0 W0.heap.size A1 f := by rw [hW.eq.out]; exact hrr
      rw [World.size_alloc] at hWz
      have mz' : w.heap.size < W0.heap.size := by omega
      have nz' : w.heap.size + 1 < W0.heap.size := by omega
      have dz' : wr.heap.size < W0.heap.size := by omega
      clear hWz
      have hhle := helpM_le Hf.out ((Hwl.out d (List.mem_of_getElem? Hd.out)).mono (by omega : (500000 : Int) ≤ 1000000))
      go_region_held3 (fun w' => (∀ b o, b < W0.heap.size → w'.cell? ⟨b, o, none⟩ = W0.cell? ⟨b, o, none⟩) ∧ Below W0.heap.size W0 w') (first | with_reducible exact sh_refl _ | (with_reducible refine sh_of ?_; with_reducible assumption) | (with_reducible refine sh_alloc ?_ _; with_reducible assumption) | with_reducible exact sh_first _ _)
        (first | (go_at_call 108; go_split_ands; have hS1 : Below W0.heap.size W0 _ := (by with_reducible assumption); refine (pushed_any h A1 A2 c1 c2 f way _ p1 p2).mono ?_; rintro e w1 ⟨rfl, hb1⟩; have hB1 := sh_next hS1 hb1) | (go_at_call 110; go_split_ands; have hS2 : Below W0.heap.size W0 _ := (by with_reducible assumption); refine (dot_any d (way.times h.area) _ s1 s2).mono ?_; rintro e w2 ⟨rfl, hb2⟩; have hB2 := sh_next hS2 hb2))
      have hB3 := hB.trans (hWb.mono hbz) |>.trans (hB2.mono (by have := hWb.size; omega))
      have hz2 := hB2.size
      by_cases ho : 0 < d.dot (way.times h.area)
      · have e0 : (d.dot (way.times h.area) == 0) = false := by simp; omega
        have e1 : d.dot (way.times h.area) ≠ 0 := by omega
        have hdb := Hdd.out
        have q0 := IntWalk.tdiv_le (helpM f d) (d.dot (way.times h.area)) hh0 (by omega)
        have hr2 := hrW.to hB2
        have hvb := (Hwl.out d (List.mem_of_getElem? Hd.out)).mono (by omega : (500000 : Int) ≤ 1000000)
        have Hvb := Lib.hid hvb
        clear hvb
        go_wp2_with (go_at_call 111; refine (strength_any h A1 A2 c1 c2 f d _ hr2 (by omega) Hf.out Hvb.out).mono ?_; rintro e w4 ⟨rfl, hb4⟩)
        all_goals
          refine ⟨⟨k + 1, _, by omega, by go_num, rfl, ?_, hB3.trans (hb4.mono (by have := hB3.size; omega))⟩, by simp [intOf]; omega⟩
          rw [foldl_snoc Hd.out, Hfold.out, HS.out, if_pos ho]
          omega
      · go_wp2
        refine ⟨⟨k + 1, most, by omega, by go_num, rfl, ?_, hB3⟩, by simp [intOf]; omega⟩
        rw [foldl_snoc Hd.out, Hfold.out, HS.out, if_neg (by omega)]
    · go_wp2
      go_ret
      obtain rfl : k = 20 := by omega
      exact ⟨ret_int (by unfold reachM; rw [← Hfold.out, foldl_end (by rw [HL.out]; omega)]), hBo.trans (hB.mono hBo.size)⟩
end Go.Proofs.Ythelogdgfhfdcaa
