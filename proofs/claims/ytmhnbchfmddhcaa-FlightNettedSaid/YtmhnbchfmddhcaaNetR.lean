import Derived.Test.YtmhnbchfmddhcaaLandM
import Derived.Test.YtmhnbchfmddhcaaConv
import Derived.Test.YtmhnbchfmddhcaaDecFl

/- Nets, by the document's words, the law's copy of one, and how one is read. -/
namespace Go.Proofs.Ytmhnbchfmddhcaa
open Go.RowKit Go.Shelf
set_option maxHeartbeats 1000000 in
theorem rightNet_any (n : Net) (w : World) : Calls Try.prog 30 #[.agg #[.int .i64 n.x.lo, .int .i64 n.x.hi, .int .i64 n.height]] w fun e w' => e = .returned (.bool n.ok) ∧ Below w.heap.size w w' := by
  have HK : Hid (n.ok = (n.x.inside 10000000 && inB n.height (-10000000) 10000000)) := rfl
  cases h1 : n.x.inside 10000000 <;> cases h2 : inB n.height (-10000000) 10000000
  all_goals
    rw [h1, h2] at HK
    go_enter Try.func30, Try.ntmps30
    go_wp2_with (first | (go_at_call 20; refine (in_any _ _ _ _).mono ?_; rintro e w' ⟨rfl, rfl⟩) | (go_at_call 63; refine (between_any _ _ _ (by omega)).mono ?_; rintro e w1 ⟨rfl, hb1⟩; obtain ⟨hc1, hf1⟩ := bcell hb1; have hz1 : w.heap.size < w1.heap.size := (by have := hb1.size; (try simp at this); omega)))
    go_ret
    exact ⟨ret_bool HK.out.symm, ((Below.refl _ _).alloc (Nat.le_refl _) _).trans (hb1.mono (by simp))⟩
set_option maxHeartbeats 2000000 in
theorem lawNet_any (n : Net) (w : World) : Calls Try.prog 28 #[.agg #[.int .i64 n.x.lo, .int .i64 n.x.hi, .int .i64 n.height]] w fun e w' => e = .returned (.agg #[.int .i64 n.x.lo, .int .i64 n.x.hi, .int .i64 n.height]) ∧ Below w.heap.size w w' := by
  have hK0 := Blk.new (w.alloc (.cells #[.int .i64 n.x.lo, .int .i64 n.x.hi, .int .i64 n.height] 60)) 64 #[.int .i64 0, .int .i64 0, .int .i64 0]
  simp only [World.size_alloc] at hK0
  go_enter Try.func28, Try.ntmps28
  go_wp2
  refine name_world (motive := fun W => Code.wp _ _ _ _ W) _ ?_
  intro W0 hW
  have hWc := hW.cell
  have hWz := hW.size
  have hWb := hW.below (((Below.refl w.heap.size w).alloc (Nat.le_refl _) _).alloc (by simp) _)
  have kR := hW.blk hK0
  simp only [World.size_alloc] at hWz
  have hlt : w.heap.size < W0.heap.size := by omega
  have hle : w.heap.size ≤ W0.heap.size := by omega
  have hne0 : ¬ w.heap.size = w.heap.size + 1 := by omega
  clear hWz
  have tok1 : True := trivial
  go_region_held3 (fun w' => (∀ b o, b < W0.heap.size → b ≠ w.heap.size + 1 → w'.cell? ⟨b, o, none⟩ = W0.cell? ⟨b, o, none⟩) ∧ W0.grownBy w' (some (w.heap.size + 1))) (first | with_reducible exact gr_first _ _ | (with_reducible refine gr_cells ?_; with_reducible assumption) | (refine gr_cells ?_; repeat' (first | with_reducible assumption | with_reducible exact gr_refl _ _ | with_reducible refine gr_drew ?_ | with_reducible refine gr_alloc ?_ _ | with_reducible refine gr_set ?_ _ _)))
    (first | (go_at_call 33; have := tok1; clear this tok1; go_split_ands; have hG1 : W0.grownBy _ (some (w.heap.size + 1)) := (by with_reducible assumption); (with_reducible refine (lawRange_any n.x.lo n.x.hi _).mono ?_); rintro e w1 ⟨rfl, hb1⟩; have hF1 := gr_call hG1 hb1; obtain ⟨hc1, hf1⟩ := bcell hb1; have hy1 := hb1.size; have hz1 := hF1.size; have kR1 := Blk.below (Blk.drew kR) hb1 (Blk.lt (Blk.drew kR)); have ckR1_0 := kR1.cell 0; have fkR1_0 := kR1.frozen 0; have ckR1_1 := kR1.cell 1; have fkR1_1 := kR1.frozen 1; have ckR1_2 := kR1.cell 2; have fkR1_2 := kR1.frozen 2; have lkR1 := kR1.lt; simp at ckR1_0 ckR1_1 ckR1_2))
  all_goals go_wp2
  rename_i hh
  have kF := (((kR1.set_ 0 (.int .i64 n.x.lo)).set_ 1 (.int .i64 n.x.hi)).set_ 2 (.int .i64 n.height))
  have r0 := kF.cell 0
  have r1 := kF.cell 1
  have r2 := kF.cell 2
  simp at r0 r1 r2
  refine bodyPost_ret (v := .agg #[.int .i64 n.x.lo, .int .i64 n.x.hi, .int .i64 n.height]) (by simp [results, Try.results28, go_sem, r0, r1, r2]) rfl ⟨rfl, ?_⟩
  exact gr_below hh.2 hWb hle (by omega)
end Go.Proofs.Ytmhnbchfmddhcaa
namespace Go.Proofs.Ytmhnbchfmddhcaa
open Go.RowKit Go.ChangeShapes Go.WideShapes Go.ChangeAt Go.Deep
section
variable {H : Type} {enc : TypeId × Value → H} {W : World} {base : Nat}
theorem cellsN : Try.prog.cellsOf 60 = 3 := by kernel_rfl
set_option maxRecDepth 100000 in
theorem open_net {v : Value} {d : DataW H} {p : List MemPlace} (hv : Value.okWide Try.prog W .any base 60 v) (h : DataW.Trod enc Try.prog W 0 (fun _ => true) true 60 v d p) :
    ∃ n : Net, v = .agg #[.int .i64 n.x.lo, .int .i64 n.x.hi, .int .i64 n.height] := by
  obtain ⟨cs, rfl, _⟩ := okWide_struct Try.underlying60 hv
  obtain ⟨fuel, hf⟩ := h
  simp only [Value.cells] at hf
  obtain ⟨xs, m, _, _, hlen, hxl, hf⟩ := DataW.trod_struct Try.underlying60 hf
  rw [cellsN] at hlen
  rw [show cs = cs.toList.toArray from by simp]
  generalize cs.toList = l at *
  match l, hlen with
  | [c0, c1, c2], _ =>
    obtain ⟨y0, hy0⟩ := some_of_lt (i := 0) hxl (by decide)
    obtain ⟨y1, hy1⟩ := some_of_lt (i := 1) hxl (by decide)
    obtain ⟨r0, e0⟩ := dec_range _ _ _ ((hf 0 _ rfl).trans hy0)
    obtain ⟨z2, e2⟩ := one_int Try.underlying3 (one_field (o := 2) (t := 3) rfl cells_int ((hf 1 _ rfl).trans hy1))
    have f0 := sub_eq (t := 23) (o := 0) cellsR e0
    cases f0
    cases e2
    exact ⟨⟨r0, z2⟩, rfl⟩
set_option maxRecDepth 100000 in
theorem open_flyer {v : Value} {d : DataW H} {p : List MemPlace} (hv : Value.okWide Try.prog W .any base 27 v) (h : DataW.Trod enc Try.prog W 0 (fun _ => true) true 27 v d p) :
    ∃ f : Fly, v = .agg #[.int .i64 f.pos.x.lo, .int .i64 f.pos.x.hi, .int .i64 f.pos.z.lo, .int .i64 f.pos.z.hi, .int .i64 f.speed.x.lo, .int .i64 f.speed.x.hi, .int .i64 f.speed.z.lo, .int .i64 f.speed.z.hi, .int .i64 f.mass] := by
  obtain ⟨cs, rfl, _⟩ := okWide_struct Try.underlying27 hv
  obtain ⟨fuel, hf⟩ := h
  obtain ⟨f, hu⟩ := dec_flyer _ _ _ hf
  refine ⟨f, ?_⟩
  simp only [Value.cells] at hu
  rw [show cs = cs.toList.toArray from by simp, hu]
end
end Go.Proofs.Ytmhnbchfmddhcaa
