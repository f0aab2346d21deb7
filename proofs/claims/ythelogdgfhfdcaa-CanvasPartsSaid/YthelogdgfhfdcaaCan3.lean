import Derived.Test.YthelogdgfhfdcaaCan2
namespace Go.Proofs.Ythelogdgfhfdcaa
open Go.RowKit

set_option maxRecDepth 100000 in
set_option maxHeartbeats 600000 in
theorem holds_any (A : Option Addr) (c : Nat) (l : List Tst) (w : World) (soil depth : Int) (hr : RS encT 4 w w.heap.size A l) (hl : l.length ≤ maxLen) (hok : ∀ x ∈ l, x.ok = true)
    (hd1 : 1 ≤ depth) (hd2 : depth ≤ 3000) :
    Calls Try.prog 63 #[.slice A l.length c, .int .i64 soil, .int .i64 depth] w fun e w' => e = .returned (.agg #[.int .i64 (holdsM l soil depth).1, .int .i64 (holdsM l soil depth).2]) ∧ Below w.heap.size w w' := by
  unfold maxLen at hl
  have Hok := Lib.hid hok
  clear hok
  go_enter Try.func63, Try.ntmps63
  go_wp2
  go_loopw [13] (fun i wr => ∃ (k : Nat) (lo hi : Int), k ≤ l.length ∧ i = .int .i64 k ∧ (l.take k).foldl (holdsStep soil depth) (0, 10000000) = (lo, hi) ∧ Below w.heap.size w wr ∧ Blk wr w.heap.size 31 #[.int .i64 0, .int .i64 0] ∧ Blk wr (w.heap.size + 1) 31 #[.int .i64 lo, .int .i64 hi]) (fun i _ => l.length - (intOf i).toNat)
  case atStart =>
    exact ⟨0, 0, 10000000, Nat.zero_le _, rfl, rfl, ((Below.refl _ _).alloc (Nat.le_refl _) _).alloc (by simp) _, (Blk.new _ _ _).alloc _, by simpa using Blk.new (w.alloc (.cells #[.int .i64 0, .int .i64 0] 31)) 31 #[.int .i64 0, .int .i64 10000000]⟩
  case round =>
    obtain ⟨k, lo, hi, hk, rfl, hfold, hB, b0, b1⟩ := hrel
    have Hfold := Lib.hid hfold
    clear hfold
    have s0 := b0.cell 0
    have s1 := b0.cell 1
    have f0 := b0.frozen 0
    have f1 := b0.frozen 1
    have r0 := b1.cell 0
    have r1 := b1.cell 1
    have g0 := b1.frozen 0
    have g1 := b1.frozen 1
    have z := b1.lt
    simp at s0 s1 r0 r1
    by_cases hlt : k < l.length
    · obtain ⟨x, hx⟩ := getElem?_lt hlt
      have xo := Tst.ok_iff.1 (Hok.out x (List.mem_of_getElem? hx))
      obtain ⟨⟨x1, x2⟩, ⟨x3, x4⟩, x5, x6⟩ := xo
      obtain ⟨b, off, rfl, hb, hc⟩ := (hr.below hB (Nat.le_refl _)).at_ hx
      have c0 := hc 0 _ rfl
      have c1 := hc 1 _ rfl
      have c2 := hc 2 _ rfl
      have c3 := hc 3 _ rfl
      simp only [Nat.add_zero] at c0
      have Hx := Lib.hid hx
      have p1 : 0 ≤ x.force * depth := Int.mul_nonneg (by omega) (by omega)
      have p2 : x.force * depth ≤ 15000000 := by have := Int.mul_le_mul x6 hd2 (by omega) (by omega); omega
      have q1 : 0 ≤ x.force * depth / x.depth := Int.ediv_nonneg p1 (by omega)
      have q2 : x.force * depth / x.depth ≤ 15000000 := by have := Int.ediv_le_self x.depth p1; omega
      have e0 : (x.depth == 0) = false := by simp; omega
      have e1 : x.depth ≠ 0 := by omega
      have v1 : IntKind.i64.wrap (x.force * depth) = x.force * depth := IntWalk.i64_in _ (by omega)
      have v2 : IntKind.i64.wrap ((x.force * depth).tdiv x.depth) = x.force * depth / x.depth := IntWalk.i64_quo _ _ (by omega)
      clear hx hc hr
      by_cases hs : x.soil = soil
      · have e3 : (x.soil != soil) = false := by simpa using hs
        cases h1 : x.held with
        | true =>
          rw [h1] at c3
          have HF : Hid (holdsStep soil depth (lo, hi) x = (max lo (x.force * depth / x.depth), hi)) := by
            show _ = _
            rw [holdsStep, if_pos hs, h1]; rfl
          go_wp2
          refine wp_region_still_tail 10 (by kernel_rfl) (by kernel_rfl) ?_
          change wpStill _ _ (World.drew _) _ _ _
          simp only [List.take_succ_cons, List.take_zero, List.drop_succ_cons, List.drop_zero]
          repeat still_step
          refine wpStill_nil ?_
          change wpList _ _ _ _ _ (World.drew _)
          go_wp2
          refine ⟨⟨k + 1, _, _, by omega, by go_num, ?_, ((hB.setCell (by show w.heap.size ≤ w.heap.size + 1; omega) _).alloc (by have := hB.size; simp; omega) _).drew, ((b0.far (by simp) _).alloc _).drew, ((show Blk _ _ _ #[_, _] from by simpa using b1.set_ 0 _).alloc _).drew⟩, by simp [intOf]; omega⟩
          rw [foldl_snoc Hx.out, Hfold.out, HF.out]
          simp only [Prod.mk.injEq, and_true]
          split <;> omega
        | false =>
          rw [h1] at c3
          have HF : Hid (holdsStep soil depth (lo, hi) x = (lo, min hi (cdiv (x.force * depth) x.depth - 1))) := by
            show _ = _
            rw [holdsStep, if_pos hs, h1]; rfl
          have w1 : 0 ≤ cdiv (x.force * depth) x.depth := Int.ediv_nonneg (by omega) (by omega)
          have w2 : cdiv (x.force * depth) x.depth ≤ 20000000 := by have := Int.ediv_le_self (a := x.force * depth + x.depth - 1) x.depth (by omega); unfold cdiv; omega
          have v3 : IntKind.i64.wrap (cdiv (x.force * depth) x.depth - 1) = cdiv (x.force * depth) x.depth - 1 := IntWalk.i64_in _ (by omega)
          go_wp2
          refine wp_region_still_tail 11 (by kernel_rfl) (by kernel_rfl) ?_
          change wpStill _ _ (World.drew _) _ _ _
          simp only [List.take_succ_cons, List.take_zero, List.drop_succ_cons, List.drop_zero]
          repeat still_step
          still_call ((quotientUp_any (x.force * depth) x.depth _ (by omega) (by omega)).mono fun _ _ h => ⟨h.1, h.2.symm⟩)
          repeat still_step
          refine wpStill_nil ?_
          change wpList _ _ _ _ _ (World.drew _)
          go_wp2
          refine ⟨⟨k + 1, _, _, by omega, by go_num, ?_, ((hB.setCell (by show w.heap.size ≤ w.heap.size + 1; omega) _).alloc (by have := hB.size; simp; omega) _).drew, ((b0.far (by simp) _).alloc _).drew, ((show Blk _ _ _ #[_, _] from by simpa using b1.set_ 1 _).alloc _).drew⟩, by simp [intOf]; omega⟩
          rw [foldl_snoc Hx.out, Hfold.out, HF.out]
          simp only [Prod.mk.injEq, true_and]
          split <;> omega
      · have e3 : (x.soil != soil) = true := by simpa using hs
        go_wp2
        refine ⟨⟨k + 1, _, _, by omega, by go_num, ?_, hB.alloc (by have := hB.size; omega) _, b0.alloc _, b1.alloc _⟩, by simp [intOf]; omega⟩
        rw [foldl_snoc Hx.out, Hfold.out, holdsStep, if_neg hs]
    · go_wp2
      have bf := (b0.set_ 0 (.int .i64 lo)).set_ 1 (.int .i64 hi)
      have v0 := bf.cell 0
      have v1 := bf.cell 1
      simp at v0 v1
      refine bodyPost_ret (v := .agg #[.int .i64 lo, .int .i64 hi]) (by simp [results, Try.results63, go_sem, v0, v1]) rfl ⟨?_, ?_⟩
      · have hf : holdsM l soil depth = (lo, hi) := by rw [← Hfold.out, foldl_end hlt]; rfl
        rw [hf]
      · exact (hB.setCell (Nat.le_refl _) _).setCell (Nat.le_refl _) _
end Go.Proofs.Ythelogdgfhfdcaa
