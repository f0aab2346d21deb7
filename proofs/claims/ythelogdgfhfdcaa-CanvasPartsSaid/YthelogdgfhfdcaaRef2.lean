import Derived.Test.YthelogdgfhfdcaaRef1
namespace Go.Proofs.Ythelogdgfhfdcaa
open Go.RowKit

theorem cdiv_up {a b : Int} (hb : 0 < b) (h : a / b * b < a) : cdiv a b = a / b + 1 := by
  unfold cdiv
  have h1 := Int.lt_ediv_add_one_mul_self a hb
  rw [Int.add_mul, Int.one_mul] at h1
  rw [show a + b - 1 = (a - a / b * b - 1) + (a / b + 1) * b from by rw [Int.add_mul, Int.one_mul]; omega, Int.add_mul_ediv_right _ _ (by omega), Int.ediv_eq_zero_of_lt (by omega) (by omega)]
  omega
theorem cdiv_even {a b : Int} (hb : 0 < b) (h : a ≤ a / b * b) : cdiv a b = a / b := by
  unfold cdiv
  have h2 := Int.ediv_mul_le a (b := b) (by omega)
  rw [show a + b - 1 = (b - 1) + (a / b) * b from by omega, Int.add_mul_ediv_right _ _ (by omega), Int.ediv_eq_zero_of_lt (by omega) (by omega)]
  omega
set_option maxHeartbeats 400000 in
theorem refHolds_any (A : Option Addr) (c : Nat) (l : List Tst) (w : World) (soil depth : Int) (hr : RS encT 4 w w.heap.size A l) (hl : l.length ≤ maxLen) (hok : ∀ x ∈ l, x.ok = true)
    (hd1 : 1 ≤ depth) (hd2 : depth ≤ 3000) :
    Calls Try.prog 25 #[.slice A l.length c, .int .i64 soil, .int .i64 depth] w fun e w' => e = .returned (.agg #[.int .i64 (holdsM l soil depth).1, .int .i64 (holdsM l soil depth).2]) ∧ Below w.heap.size w w' := by
  unfold maxLen at hl
  have Hok := Lib.hid hok
  clear hok
  go_enter Try.func25, Try.ntmps25
  go_wp2
  go_loopw [8] (fun i wr => ∃ (k : Nat) (lo hi : Int), k ≤ l.length ∧ i = .int .i64 k ∧ (l.take k).foldl (holdsStep soil depth) (0, 10000000) = (lo, hi) ∧ Below w.heap.size w wr ∧ Blk wr w.heap.size 42 #[.int .i64 0, .int .i64 0] ∧ Blk wr (w.heap.size + 1) 42 #[.int .i64 lo, .int .i64 hi]) (fun i _ => l.length - (intOf i).toNat)
  case atStart =>
    exact ⟨0, 0, 10000000, Nat.zero_le _, rfl, rfl, ((Below.refl _ _).alloc (Nat.le_refl _) _).alloc (by simp) _, (Blk.new _ _ _).alloc _, by simpa using Blk.new (w.alloc (.cells #[.int .i64 0, .int .i64 0] 42)) 42 #[.int .i64 0, .int .i64 10000000]⟩
  case round =>
    obtain ⟨k, lo, hi, hk, rfl, hfold, hB, b0, b1⟩ := hrel
    have Hfold := Lib.hid hfold
    clear hfold
    have s0 := b0.cell 0
    have s1 := b0.cell 1
    have f0 := b0.frozen 0
    have f1 := b0.frozen 1
    have r0 := b1.cell 0
    have r1 := b1.cell 1
    have g0 := b1.frozen 0
    have g1 := b1.frozen 1
    have z := b1.lt
    simp at s0 s1 r0 r1
    by_cases hlt : k < l.length
    · obtain ⟨x, hx⟩ := getElem?_lt hlt
      have xo := Tst.ok_iff.1 (Hok.out x (List.mem_of_getElem? hx))
      obtain ⟨⟨x1, x2⟩, ⟨x3, x4⟩, x5, x6⟩ := xo
      obtain ⟨b, off, rfl, hb, hc⟩ := (hr.below hB (Nat.le_refl _)).at_ hx
      have c0 := hc 0 _ rfl
      have c1 := hc 1 _ rfl
      have c2 := hc 2 _ rfl
      have c3 := hc 3 _ rfl
      simp only [Nat.add_zero] at c0
      have Hx := Lib.hid hx
      have p1 : 0 ≤ x.force * depth := Int.mul_nonneg (by omega) (by omega)
      have p2 : x.force * depth ≤ 15000000 := by have := Int.mul_le_mul x6 hd2 (by omega) (by omega); omega
      have q1 : 0 ≤ x.force * depth / x.depth := Int.ediv_nonneg p1 (by omega)
      have q2 : x.force * depth / x.depth ≤ 15000000 := by have := Int.ediv_le_self x.depth p1; omega
      have q3 : x.force * depth / x.depth * x.depth ≤ x.force * depth := Int.ediv_mul_le _ (by omega)
      have q4 : 0 ≤ x.force * depth / x.depth * x.depth := Int.mul_nonneg q1 (by omega)
      clear hx hc hr
      by_cases hs : x.soil = soil
      · have e3 : (x.soil != soil) = false := by simpa using hs
        cases h1 : x.held with
        | true =>
          rw [h1] at c3
          go_wp2
          refine ⟨⟨k + 1, _, _, by omega, by go_num, ?_, (hB.setCell (by show w.heap.size ≤ w.heap.size + 1; omega) _).alloc (by have := hB.size; simp; omega) _, (b0.far (by simp) _).alloc _, (show Blk _ _ _ #[_, _] from by simpa using b1.set_ 0 _).alloc _⟩, by simp [intOf]; omega⟩
          rw [foldl_snoc Hx.out, Hfold.out, holdsStep, if_pos hs, if_pos h1]
          simp only [Prod.mk.injEq, and_true]
          rw [hs] at *
          omega
        | false =>
          rw [h1] at c3
          have HF : Hid (holdsStep soil depth (lo, hi) x = (lo, min hi (cdiv (x.force * depth) x.depth - 1))) := by
            show _ = _
            rw [holdsStep, if_pos hs, h1]; rfl
          by_cases h4 : x.force * depth / x.depth * x.depth < x.force * depth
          · have HC := Lib.hid (cdiv_up (a := x.force * depth) (b := x.depth) (by omega) h4)
            go_wp2
            refine ⟨⟨k + 1, _, _, by omega, by go_num, ?_, (hB.setCell (by show w.heap.size ≤ w.heap.size + 1; omega) _).alloc (by have := hB.size; simp; omega) _, (b0.far (by simp) _).alloc _, (show Blk _ _ _ #[_, _] from by simpa using b1.set_ 1 _).alloc _⟩, by simp [intOf]; omega⟩
            rw [foldl_snoc Hx.out, Hfold.out, HF.out, HC.out]
            simp only [Prod.mk.injEq, true_and]
            omega
          · have HC := Lib.hid (cdiv_even (a := x.force * depth) (b := x.depth) (by omega) (by omega))
            go_wp2
            refine ⟨⟨k + 1, _, _, by omega, by go_num, ?_, (hB.setCell (by show w.heap.size ≤ w.heap.size + 1; omega) _).alloc (by have := hB.size; simp; omega) _, (b0.far (by simp) _).alloc _, (show Blk _ _ _ #[_, _] from by simpa using b1.set_ 1 _).alloc _⟩, by simp [intOf]; omega⟩
            rw [foldl_snoc Hx.out, Hfold.out, HF.out, HC.out]
            simp only [Prod.mk.injEq, true_and]
            omega
      · have e3 : (x.soil != soil) = true := by simpa using hs
        go_wp2
        refine ⟨⟨k + 1, _, _, by omega, by go_num, ?_, hB.alloc (by have := hB.size; omega) _, b0.alloc _, b1.alloc _⟩, by simp [intOf]; omega⟩
        rw [foldl_snoc Hx.out, Hfold.out, holdsStep, if_neg hs]
    · go_wp2
      have bf := (b0.set_ 0 (.int .i64 lo)).set_ 1 (.int .i64 hi)
      have v0 := bf.cell 0
      have v1 := bf.cell 1
      simp at v0 v1
      refine bodyPost_ret (v := .agg #[.int .i64 lo, .int .i64 hi]) (by simp [results, Try.results25, go_sem, v0, v1]) rfl ⟨?_, ?_⟩
      · have hf : holdsM l soil depth = (lo, hi) := by rw [← Hfold.out, foldl_end hlt]; rfl
        rw [hf]
      · exact (hB.setCell (Nat.le_refl _) _).setCell (Nat.le_refl _) _
end Go.Proofs.Ythelogdgfhfdcaa
