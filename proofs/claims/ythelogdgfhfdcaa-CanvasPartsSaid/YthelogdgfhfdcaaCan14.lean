import Derived.Test.YthelogdgfhfdcaaCan13
namespace Go.Proofs.Ythelogdgfhfdcaa
open Go.RowKit

theorem pushed_any (h : Head) (A1 A2 : Option Addr) (c1 c2 : Nat) (f : List Vec) (push : Vec) (w : World) (s1 : Sm (h.area * push.x)) (s2 : Sm (h.area * push.y)) :
    Calls Try.prog 108 #[.agg #[.int .i64 h.area, .int .i64 h.bears, .slice A2 h.guys.length c2, .slice A1 f.length c1], .agg #[.int .i64 push.x, .int .i64 push.y]] w fun e w' => e = .returned (.agg #[.int .i64 (push.times h.area).x, .int .i64 (push.times h.area).y]) ∧ Below w.heap.size w w' := by
  go_enter Try.func108, Try.ntmps108
  go_wp2_with ((go_at_call 99; refine (times_any push h.area _ s1 s2).mono ?_; rintro e w1 ⟨rfl, hb1⟩; obtain ⟨hc1, hf1⟩ := bcell hb1; have hz1 : w.heap.size < w1.heap.size := (by have := hb1.size; (try simp at this); omega)))
  have hB := (((Below.refl w.heap.size w).alloc (Nat.le_refl _) (.cells #[.int .i64 h.area, .int .i64 h.bears, .slice A2 h.guys.length c2, .slice A1 f.length c1] 137)).alloc (by simp) (.cells #[.int .i64 push.x, .int .i64 push.y] 74)).alloc (by simp <;> omega) (.cells #[.int .i64 0, .int .i64 0] 74)
  have hK := (Blk.new ((w.alloc (.cells #[.int .i64 h.area, .int .i64 h.bears, .slice A2 h.guys.length c2, .slice A1 f.length c1] 137)).alloc (.cells #[.int .i64 push.x, .int .i64 push.y] 74)) 74 #[.int .i64 0, .int .i64 0]).below hb1 (by simp)
  simp only [World.size_alloc] at hK
  have hKz := hK.lt
  have k0 := hK.cell 0
  have k1 := hK.cell 1
  have f0 := hK.frozen 0
  have f1 := hK.frozen 1
  simp at k0 k1
  have bf := (hK.set_ 0 (.int .i64 (push.times h.area).x)).set_ 1 (.int .i64 (push.times h.area).y)
  have v0 := bf.cell 0
  have v1 := bf.cell 1
  simp at v0 v1
  exact bodyPost_ret (v := .agg #[.int .i64 (push.times h.area).x, .int .i64 (push.times h.area).y]) (by simp [results, Try.results108, go_sem, v0, v1]) rfl ⟨rfl, ((hB.trans (hb1.mono hB.size)).setCell (by show w.heap.size ≤ w.heap.size + 1 + 1; omega) _).setCell (by show w.heap.size ≤ w.heap.size + 1 + 1; omega) _⟩

theorem totalV_any (A : Option Addr) (c : Nat) (f : List Vec) (way : Vec) (w : World) (hr : RS encV 2 w w.heap.size A f) (hl : f.length ≤ 100) (hf : ∀ v ∈ f, VB v 500000) (hw : VB way 1000000) :
    Calls Try.prog 122 #[.slice A f.length c, .func (.func 123) #[.agg #[.int .i64 way.x, .int .i64 way.y]] #[]] w fun e w' => e = .returned (.int .i64 (helpM f way)) ∧ Below w.heap.size w w' := by
  have Hf := Lib.hid hf
  have Hw := Lib.hid hw
  clear hf hw
  go_enter Try.func122, Try.ntmps122
  go_wp2
  go_loopw [5, 10] (fun n i wr => ∃ (k : Nat) (m : Int), k ≤ f.length ∧ i = .int .i64 k ∧ n = .int .i64 m ∧ (f.take k).foldl (fun n v => n + max 0 (-(way.dot v))) 0 = m ∧ 0 ≤ m ∧ m ≤ 1000000000000 * k ∧ Below w.heap.size w wr) (fun _ i _ => f.length - (intOf i).toNat)
  case atStart => exact ⟨0, 0, Nat.zero_le _, rfl, rfl, rfl, by omega, by omega, Below.refl _ _⟩
  case round =>
    obtain ⟨k, m, hk, rfl, rfl, hfold, hm1, hm2, hB⟩ := hrel
    have Hfold := Lib.hid hfold
    clear hfold
    have hbz := hB.size
    by_cases hlt : k < f.length
    · obtain ⟨v, hv⟩ := getElem?_lt hlt
      have vb := Hf.out v (List.mem_of_getElem? hv)
      have db := Hw.out.dot' vb
      obtain ⟨s1, s2⟩ := Hw.out.sm vb (by omega)
      have Hv := Lib.hid hv
      obtain ⟨b, off, rfl, hb, hc⟩ := (hr.below hB (Nat.le_refl _)).at_ hv
      have c0 := hc 0 _ rfl
      have c1 := hc 1 _ rfl
      simp only [Nat.add_zero] at c0
      have x1 : 0 ≤ max 0 (-(way.dot v)) := by omega
      have x2 : max 0 (-(way.dot v)) ≤ 1000000000000 := by omega
      have db' := Lib.hid db
      clear hv hc vb hr db
      go_wp2_with ((go_at_call 123; refine (help_any way v _ (by have := db'.out; omega) s1 s2).mono ?_; rintro e w1 ⟨rfl, hb1⟩; obtain ⟨hc1, hf1⟩ := bcell hb1))
      refine ⟨⟨k + 1, m + max 0 (-(way.dot v)), by omega, by go_num, rfl, by rw [foldl_snoc Hv.out, Hfold.out], by omega, by omega, (hB.alloc hbz _).trans (hb1.mono (by simp <;> omega))⟩, by simp [intOf]; omega⟩
    · go_wp2
      go_ret
      exact ⟨ret_int (by unfold helpM; rw [← Hfold.out, foldl_end hlt]), hB⟩

theorem strength_any (h : Head) (A1 A2 : Option Addr) (c1 c2 : Nat) (f : List Vec) (way : Vec) (w : World) (hr : RS encV 2 w w.heap.size A1 f) (hl : f.length ≤ 100) (hf : ∀ v ∈ f, VB v 500000) (hw : VB way 1000000) :
    Calls Try.prog 111 #[.agg #[.int .i64 h.area, .int .i64 h.bears, .slice A2 h.guys.length c2, .slice A1 f.length c1], .agg #[.int .i64 way.x, .int .i64 way.y]] w fun e w' => e = .returned (.int .i64 (helpM f way)) ∧ Below w.heap.size w w' := by
  have Hf := Lib.hid hf
  have Hw := Lib.hid hw
  have hB := ((Below.refl w.heap.size w).alloc (Nat.le_refl _) (.cells #[.int .i64 h.area, .int .i64 h.bears, .slice A2 h.guys.length c2, .slice A1 f.length c1] 137)).alloc (by simp) (.cells #[.int .i64 way.x, .int .i64 way.y] 74)
  have hr1 := (hr.below hB (Nat.le_refl _)).more hB.size
  clear hf hw
  go_enter Try.func111, Try.ntmps111
  go_wp2_with ((go_at_call 122; refine (totalV_any A1 c1 f way _ hr1 hl Hf.out Hw.out).mono ?_; rintro e w1 ⟨rfl, hb1⟩; obtain ⟨hc1, hf1⟩ := bcell hb1; have hz1 : w.heap.size < w1.heap.size := (by have := hb1.size; (try simp at this); omega)))
  go_ret
  exact ⟨rfl, hB.trans (hb1.mono hB.size)⟩

theorem weakIn_any (h : Head) (A1 A2 : Option Addr) (c1 c2 : Nat) (f : List Vec) (push way : Vec) (w : World) (hr : RS encV 2 w w.heap.size A1 f) (hl : f.length ≤ 100) (hf : ∀ v ∈ f, VB v 500000) (hw : VB way 1000000) (ha : 0 ≤ h.area ∧ h.area ≤ 1000) (hp : VB push 100000000) :
    Calls Try.prog 81 #[.agg #[.int .i64 h.area, .int .i64 h.bears, .slice A2 h.guys.length c2, .slice A1 f.length c1], .agg #[.int .i64 push.x, .int .i64 push.y], .agg #[.int .i64 way.x, .int .i64 way.y]] w fun e w' => e = .returned (.bool (weakInB f (push.times h.area) way)) ∧ Below w.heap.size w w' := by
  have hpt := hp.times (n := h.area) (q := 1000) (by omega)
  obtain ⟨s1, s2⟩ := hw.sm hpt (by omega)
  have p1 : Sm (h.area * push.x) := by have := hpt.1; simp only [Vec.times] at this; unfold Sm; omega
  have p2 : Sm (h.area * push.y) := by have := hpt.2; simp only [Vec.times] at this; unfold Sm; omega
  have HW2 : Hid (weakInB f (push.times h.area) way = decide (helpM f way < way.dot (push.times h.area))) := rfl
  have Hf := Lib.hid hf
  have Hw := Lib.hid hw
  clear hf hw hpt hp
  go_enter Try.func81, Try.ntmps81
  go_wp2
  refine name_world (motive := fun W => Code.wp _ _ _ _ W) _ ?_
  intro W0 hW
  have hWc := hW.cell
  have hWz := hW.size
  have hWb := hW.below (((Below.refl w.heap.size w).alloc (Nat.le_refl _) _).alloc (by simp) _ |>.alloc (by simp <;> omega) _)
  have hr0 := (hr.below hWb (Nat.le_refl _)).more hWb.size
  simp only [World.size_alloc] at hWz
  go_region_held3 (fun w' => (∀ b o, b < W0.heap.size → w'.cell? ⟨b, o, none⟩ = W0.cell? ⟨b, o, none⟩) ∧ Below W0.heap.size W0 w') (first | with_reducible exact sh_refl _ | (with_reducible refine sh_of ?_; with_reducible assumption) | (with_reducible refine sh_alloc ?_ _; with_reducible assumption) | with_reducible exact sh_first _ _)
    (first | (go_at_call 108; go_split_ands; have hS1 : Below W0.heap.size W0 _ := (by with_reducible assumption); refine (pushed_any h A1 A2 c1 c2 f push _ p1 p2).mono ?_; rintro e w1 ⟨rfl, hb1⟩; have hB1 := sh_next hS1 hb1) | (go_at_call 110; go_split_ands; have hS2 : Below W0.heap.size W0 _ := (by with_reducible assumption); refine (dot_any way (push.times h.area) _ s1 s2).mono ?_; rintro e w2 ⟨rfl, hb2⟩; have hB2 := sh_next hS2 hb2) | (go_at_call 111; go_split_ands; have hS3 : Below W0.heap.size W0 _ := (by with_reducible assumption); refine (strength_any h A1 A2 c1 c2 f way _ (hr0.to hS3) hl Hf.out Hw.out).mono ?_; rintro e w3 ⟨rfl, hb3⟩; have hB3 := sh_next hS3 hb3))
  go_wp2
  go_ret
  exact ⟨ret_bool (by rw [HW2.out]), hWb.trans (hB3.mono hWb.size)⟩
end Go.Proofs.Ythelogdgfhfdcaa
