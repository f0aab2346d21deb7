import Derived.Test.YthelogdgfhfdcaaCan16
namespace Go.Proofs.Ythelogdgfhfdcaa
open Go.RowKit

/-- The first direction in which the forces are too weak; (0, 0) if there is none. -/
def weakM (f : List Vec) (p : Vec) : Vec := ((waysL f).find? (weakInB f p)).getD vecZ
theorem vecZ_ne {v : Vec} : v ≠ vecZ ↔ ¬ (v.x = 0 ∧ v.y = 0) := by
  obtain ⟨x, y⟩ := v
  simp [vecZ]
theorem find_snoc {α : Type} {p : α → Bool} {l : List α} {k : Nat} {x : α} (h : (l.take k).find? p = none) (hx : l[k]? = some x) (hp : p x = false) : (l.take (k + 1)).find? p = none := by
  rw [take_snoc' hx, List.find?_append, h]; simp [hp]
theorem find_hit {α : Type} {p : α → Bool} {l : List α} {k : Nat} {x : α} (h : (l.take k).find? p = none) (hx : l[k]? = some x) (hp : p x = true) : l.find? p = some x := by
  have h1 : l = l.take k ++ l.drop k := (List.take_append_drop k l).symm
  rw [h1, List.find?_append, h, drop_of_get hx]; simp [hp]
theorem find_end {α : Type} {p : α → Bool} {l : List α} {k : Nat} (h : (l.take k).find? p = none) (hk : ¬ k < l.length) : l.find? p = none := by
  rw [List.take_of_length_le (by omega)] at h; exact h

set_option maxRecDepth 100000 in
set_option maxHeartbeats 1000000 in
theorem weakness_any (h : Head) (A1 A2 : Option Addr) (c1 c2 : Nat) (f : List Vec) (push : Vec) (w : World) (hr : RS encV 2 w w.heap.size A1 f) (hl : f.length ≤ 8) (hf : ∀ v ∈ f, VB v 500000) (ha : 0 ≤ h.area ∧ h.area ≤ 1000) (hp : VB push 10000) :
    Calls Try.prog 113 #[.agg #[.int .i64 h.area, .int .i64 h.bears, .slice A2 h.guys.length c2, .slice A1 f.length c1], .agg #[.int .i64 push.x, .int .i64 push.y]] w fun e w' => e = .returned (.agg #[.int .i64 (weakM f (push.times h.area)).x, .int .i64 (weakM f (push.times h.area)).y]) ∧ Below w.heap.size w w' := by
  have Hf := Lib.hid hf
  have Hp : Hid (VB push 100000000) := hp.mono (by omega)
  have Hwl := Lib.hid (waysL_vb (by omega) hf)
  have HL : Hid ((waysL f).length = 20) := waysL_length hl
  have HW : Hid (weakM f (push.times h.area) = ((waysL f).find? (weakInB f (push.times h.area))).getD vecZ) := rfl
  have hB := (((Below.refl w.heap.size w).alloc (Nat.le_refl _) (.cells #[.int .i64 h.area, .int .i64 h.bears, .slice A2 h.guys.length c2, .slice A1 f.length c1] 137)).alloc (by simp) (.cells #[.int .i64 push.x, .int .i64 push.y] 74)).alloc (by simp <;> omega) (.cells #[.int .i64 0, .int .i64 0] 74)
  have hr1 := (hr.below hB (Nat.le_refl _)).more hB.size
  clear hf hp
  go_enter Try.func113, Try.ntmps113
  go_wp2_with fail
  refine (ways_any h A1 A2 c1 c2 f _ hr1 hl Hf.out).mono ?_
  rintro e wo ⟨rfl, hbo⟩
  have kM := (((Blk.new w 137 #[.int .i64 h.area, .int .i64 h.bears, .slice A2 h.guys.length c2, .slice A1 f.length c1]).alloc (.cells #[.int .i64 push.x, .int .i64 push.y] 74)).alloc (.cells #[.int .i64 0, .int .i64 0] 74)).below hbo (by simp <;> omega)
  have kV := ((Blk.new (w.alloc (.cells #[.int .i64 h.area, .int .i64 h.bears, .slice A2 h.guys.length c2, .slice A1 f.length c1] 137)) 74 #[.int .i64 push.x, .int .i64 push.y]).alloc (.cells #[.int .i64 0, .int .i64 0] 74)).below hbo (by simp <;> omega)
  have kR := (Blk.new ((w.alloc (.cells #[.int .i64 h.area, .int .i64 h.bears, .slice A2 h.guys.length c2, .slice A1 f.length c1] 137)).alloc (.cells #[.int .i64 push.x, .int .i64 push.y] 74)) 74 #[.int .i64 0, .int .i64 0]).below hbo (by simp <;> omega)
  have hro := hr1.to hbo
  have hBo := hB.trans (hbo.mono hB.size)
  simp only [World.size_alloc] at kV kR
  clear hbo hr1 hr hB
  go_wp2
  go_loopw [9] (fun i wr => ∃ k : Nat, k ≤ 20 ∧ i = .int .i64 k ∧ ((waysL f).take k).find? (weakInB f (push.times h.area)) = none ∧ Below wo.heap.size wo wr) (fun i _ => 20 - (intOf i).toNat)
  case atStart => exact ⟨0, by omega, rfl, rfl, Below.refl _ _⟩
  case round =>
    obtain ⟨k, hk, rfl, hfind, hB⟩ := hrel
    have Hfind := Lib.hid hfind
    clear hfind
    have hbz := hB.size
    have kMw := kM.below hB kM.lt
    have kVw := kV.below hB kV.lt
    have kRw := kR.below hB kR.lt
    have mz := kMw.lt
    have nz := kVw.lt
    have rz := kRw.lt
    by_cases hlt : k < 20
    · obtain ⟨d, hd⟩ := getElem?_lt (l := waysL f) (k := k) (by rw [HL.out]; exact hlt)
      have db := Lib.hid ((Hwl.out d (List.mem_of_getElem? hd)).mono (by omega : (500000 : Int) ≤ 1000000))
      have hix := index_ways HL.out hd
      have Hd := Lib.hid hd
      have m0 := kMw.cell 0
      have m1 := kMw.cell 1
      have m2 := kMw.cell 2
      have m3 := kMw.cell 3
      have n0 := kVw.cell 0
      have n1 := kVw.cell 1
      simp at m0 m1 m2 m3 n0 n1
      have hBa := (Below.refl _ wr).alloc (Nat.le_refl _) (.cells #[.int .i64 d.x, .int .i64 d.y] 74)
      have hrr := (hro.to hB).to hBa
      have kRa := kRw.alloc (.cells #[.int .i64 d.x, .int .i64 d.y] 74)
      have kDa := Blk.new wr 74 #[.int .i64 d.x, .int .i64 d.y]
      clear hd kMw kVw kM kV kR kRw hro
      have hv := fun W hW => weakIn_any h A1 A2 c1 c2 f push d W hW (by omega) Hf.out db.out ha Hp.out
      cases hwk : weakInB f (push.times h.area) d
      all_goals
        rw [hwk] at hv
        have Hv := Lib.hid hv
        clear hv
        go_wp2_with (go_at_call 81; refine (Hv.out _ hrr).mono ?_; rintro e w1 ⟨rfl, hb1⟩; have kR1 := kRa.below hb1 kRa.lt; have kD1 := kDa.below hb1 kDa.lt; have d0 := kD1.cell 0; have d1 := kD1.cell 1; have f0 := kR1.frozen 0; have f1 := kR1.frozen 1; have q0 := kR1.cell 0; have q1 := kR1.cell 1; have dz := kD1.lt; have rz1 := kR1.lt; simp at d0 d1 q0 q1)
      · go_roundw
        case rel => exact ⟨k + 1, by omega, by go_num, find_snoc Hfind.out Hd.out hwk, (hB.trans (hBa.mono hbz)).trans (hb1.mono (by have := hBa.size; omega))⟩
        case measure => simp [intOf]; omega
      · have bf := (kR1.set_ 0 (.int .i64 d.x)).set_ 1 (.int .i64 d.y)
        have v0 := bf.cell 0
        have v1 := bf.cell 1
        simp at v0 v1
        have he : weakM f (push.times h.area) = d := by rw [HW.out, find_hit Hfind.out Hd.out hwk]; rfl
        refine bodyPost_ret (v := .agg #[.int .i64 d.x, .int .i64 d.y]) (by simp [results, Try.results113, go_sem, v0, v1]) rfl ⟨by rw [he], ?_⟩
        have hBt := hBo.trans (((hB.trans (hBa.mono hbz)).trans (hb1.mono (by have := hBa.size; omega))).mono hBo.size)
        exact (hBt.setCell (by show w.heap.size ≤ w.heap.size + 1 + 1; omega) _).setCell (by show w.heap.size ≤ w.heap.size + 1 + 1; omega) _
    · obtain rfl : k = 20 := by omega
      have f0 := kRw.frozen 0
      have f1 := kRw.frozen 1
      have q0 := kRw.cell 0
      have q1 := kRw.cell 1
      simp at q0 q1
      go_wp2
      have bf := (kRw.set_ 0 (.int .i64 0)).set_ 1 (.int .i64 0)
      have v0 := bf.cell 0
      have v1 := bf.cell 1
      simp at v0 v1
      have he : weakM f (push.times h.area) = vecZ := by rw [HW.out, find_end Hfind.out (by rw [HL.out]; omega)]; rfl
      refine bodyPost_ret (v := .agg #[.int .i64 0, .int .i64 0]) (by simp [results, Try.results113, go_sem, v0, v1]) rfl ⟨by rw [he]; rfl, ?_⟩
      have hBt := hBo.trans (hB.mono hBo.size)
      exact (hBt.setCell (by show w.heap.size ≤ w.heap.size + 1 + 1; omega) _).setCell (by show w.heap.size ≤ w.heap.size + 1 + 1; omega) _
end Go.Proofs.Ythelogdgfhfdcaa
