import Derived.Test.YtbagfapalkmikaaFlB

/- Joins, and what a range or a box has. -/
namespace Go.Proofs.Ytbagfapalkmikaa
open Go.RowKit

set_option maxHeartbeats 1000000 in
theorem join_any (r o : Rng) (w : World) :
    Calls Try.prog 106 #[.agg #[.int .i64 r.lo, .int .i64 r.hi], .agg #[.int .i64 o.lo, .int .i64 o.hi]] w fun e w' => e = .returned (.agg #[.int .i64 (r.join o).lo, .int .i64 (r.join o).hi]) ∧ Below w.heap.size w w' := by
  have hmin : ∀ (ts : Array TypeId) (t : TypeId) (W : World), (Builtin.min_ ts t #[.int .i64 r.lo, .int .i64 o.lo]).run Try.prog W = .ok (.int .i64 (r.join o).lo) W := by
    intro ts t W
    have : (if o.lo < r.lo then o.lo else r.lo) = min r.lo o.lo := by split <;> omega
    show _ = Result.ok (Value.int .i64 (min r.lo o.lo)) W
    rw [← this]
    simp [Builtin.min_, Builtin.min2]
  have hmax : ∀ (ts : Array TypeId) (t : TypeId) (W : World), (Builtin.max_ ts t #[.int .i64 r.hi, .int .i64 o.hi]).run Try.prog W = .ok (.int .i64 (r.join o).hi) W := by
    intro ts t W
    have : (if o.hi > r.hi then o.hi else r.hi) = max r.hi o.hi := by split <;> omega
    show _ = Result.ok (Value.int .i64 (max r.hi o.hi)) W
    rw [← this]
    simp [Builtin.max_, Builtin.max2]
  go_enter Try.func106, Try.ntmps106
  go_wp2
  refine bodyPost_ret (v := .agg #[.int .i64 (r.join o).lo, .int .i64 (r.join o).hi]) (by simp [results, Try.results106, go_sem]) rfl ⟨rfl, ?_⟩
  exact (((Below.refl _ _).alloc (Nat.le_refl _) _).alloc (by simp) _).alloc (by simp <;> omega) _
def Bx.join (b o : Bx) : Bx := ⟨b.x.join o.x, b.z.join o.z⟩
theorem Bx.join_eq {b o : Bx} : b.join o = b ↔ b.hasB o = true := by
  rw [Bx.hasB, Bool.and_eq_true, ← Rng.join_eq, ← Rng.join_eq]
  cases b; cases o
  simp [Bx.join]
set_option maxHeartbeats 4000000 in
theorem bothJoin_any (b o : Bx) (w : World) :
    Calls Try.prog 84 #[.func (.func 106) #[] #[], .agg #[.int .i64 b.x.lo, .int .i64 b.x.hi, .int .i64 b.z.lo, .int .i64 b.z.hi], .agg #[.int .i64 o.x.lo, .int .i64 o.x.hi, .int .i64 o.z.lo, .int .i64 o.z.hi]] w fun e w' => e = .returned (.agg #[.int .i64 (b.join o).x.lo, .int .i64 (b.join o).x.hi, .int .i64 (b.join o).z.lo, .int .i64 (b.join o).z.hi]) ∧ Below w.heap.size w w' := by
  have hK0 := Blk.new ((w.alloc (.cells #[.int .i64 b.x.lo, .int .i64 b.x.hi, .int .i64 b.z.lo, .int .i64 b.z.hi] 37)).alloc (.cells #[.int .i64 o.x.lo, .int .i64 o.x.hi, .int .i64 o.z.lo, .int .i64 o.z.hi] 37)) 37 #[.int .i64 0, .int .i64 0, .int .i64 0, .int .i64 0]
  simp only [World.size_alloc] at hK0
  go_enter Try.func84, Try.ntmps84
  go_wp2
  refine name_world (motive := fun W => Code.wp _ _ _ _ W) _ ?_
  intro W0 hW
  have hWc := hW.cell
  have hWz := hW.size
  have hWb := hW.below ((((Below.refl w.heap.size w).alloc (Nat.le_refl _) _).alloc (by simp) _).alloc (by simp <;> omega) _)
  have kR := hW.blk hK0
  simp only [World.size_alloc] at hWz
  have hlt : w.heap.size < W0.heap.size := by omega
  have hlt1 : w.heap.size + 1 < W0.heap.size := by omega
  have hle : w.heap.size ≤ W0.heap.size := by omega
  have hne0 : ¬ w.heap.size = w.heap.size + 1 + 1 := by omega
  have hne1 : ¬ w.heap.size + 1 = w.heap.size + 1 + 1 := by omega
  clear hWz
  have tok1 : True := trivial
  go_region_held3 (fun w' => (∀ b o, b < W0.heap.size → b ≠ w.heap.size + 1 + 1 → w'.cell? ⟨b, o, none⟩ = W0.cell? ⟨b, o, none⟩) ∧ W0.grownBy w' (some (w.heap.size + 1 + 1))) (first | with_reducible exact gr_first _ _ | (with_reducible refine gr_cells ?_; with_reducible assumption) | (refine gr_cells ?_; repeat' (first | with_reducible assumption | with_reducible exact gr_refl _ _ | with_reducible refine gr_drew ?_ | with_reducible refine gr_alloc ?_ _ | with_reducible refine gr_set ?_ _ _)))
    (first | (go_at_call 106; have := tok1; clear this tok1; go_split_ands; have hG1 : W0.grownBy _ (some (w.heap.size + 1 + 1)) := (by with_reducible assumption); (with_reducible refine (join_any b.x o.x _).mono ?_); rintro e w1 ⟨rfl, hb1⟩; have hF1 := gr_call hG1 hb1; obtain ⟨hc1, hf1⟩ := bcell hb1; have hy1 := hb1.size; have hz1 := hF1.size; have kR1 := Blk.below (Blk.drew kR) hb1 (Blk.lt (Blk.drew kR))) | (go_at_call 106; go_split_ands; have hG2 : W0.grownBy _ (some (w.heap.size + 1 + 1)) := (by with_reducible assumption); (with_reducible refine (join_any b.z o.z _).mono ?_); rintro e w2 ⟨rfl, hb2⟩; have hF2 := gr_call hG2 hb2; obtain ⟨hc2, hf2⟩ := bcell hb2; have hy2 := hb2.size; have hz2 := hF2.size; have kR2 := Blk.below kR1 hb2 (Blk.lt kR1); have ckR2_0 := kR2.cell 0; have fkR2_0 := kR2.frozen 0; have ckR2_1 := kR2.cell 1; have fkR2_1 := kR2.frozen 1; have ckR2_2 := kR2.cell 2; have fkR2_2 := kR2.frozen 2; have ckR2_3 := kR2.cell 3; have fkR2_3 := kR2.frozen 3; have lkR2 := kR2.lt; simp at ckR2_0 ckR2_1 ckR2_2 ckR2_3))
  all_goals go_wp2
  rename_i hh
  have kF := ((((kR2.set_ 0 (.int .i64 (b.x.join o.x).lo)).set_ 1 (.int .i64 (b.x.join o.x).hi)).set_ 2 (.int .i64 (b.z.join o.z).lo)).set_ 3 (.int .i64 (b.z.join o.z).hi))
  have r0 := kF.cell 0
  have r1 := kF.cell 1
  have r2 := kF.cell 2
  have r3 := kF.cell 3
  simp at r0 r1 r2 r3
  refine bodyPost_ret (v := .agg #[.int .i64 (b.x.join o.x).lo, .int .i64 (b.x.join o.x).hi, .int .i64 (b.z.join o.z).lo, .int .i64 (b.z.join o.z).hi]) (by simp [results, Try.results84, go_sem, r0, r1, r2, r3]) rfl ⟨rfl, ?_⟩
  exact gr_below hh.2 hWb hle (by omega)
end Go.Proofs.Ytbagfapalkmikaa
