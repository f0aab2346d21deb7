import Derived.Test.YtibaindlbpfecaaProg
import Derived.Test.YtibaindlbpfecaaBase

namespace Go.Proofs.Ytibaindlbpfecaa
open Go.RowKit
def encT (x : Tst) : List Value := [.int .i64 x.soil, .int .i64 x.depth, .int .i64 x.force, .bool x.held]

theorem in_any (n lo hi : Int) (w : World) :
    Calls Try.prog 26 #[.int .i64 n, .int .i64 lo, .int .i64 hi] w fun e w' => e = .returned (.bool (inB n lo hi)) ∧ w = w' := by
  by_cases h1 : lo ≤ n
  · by_cases h2 : n ≤ hi
    · go_enter Try.func26, Try.ntmps26
      go_wp2
      go_ret
      exact ⟨ret_bool (by simp [inB, h1, h2]), rfl⟩
    · go_enter Try.func26, Try.ntmps26
      go_wp2
      go_ret
      exact ⟨ret_bool (by simp [inB]; omega), rfl⟩
  · go_enter Try.func26, Try.ntmps26
    go_wp2
    go_ret
    exact ⟨ret_bool (by simp [inB]; omega), rfl⟩

theorem testsFault_any (A : Option Addr) (c : Nat) (l : List Tst) (w : World) (B : Nat) (hr : RS encT 4 w B A l) (hl : l.length ≤ maxLen) :
    Calls Try.prog 47 #[.slice A l.length c] w fun e w' => e = .returned (.int .i64 (testsFault l)) ∧ w = w' := by
  unfold maxLen at hl
  by_cases h40 : 40 < l.length
  · go_enter Try.func47, Try.ntmps47
    go_wp2
    go_ret
    exact ⟨ret_int (by simp [testsFault, h40]), rfl⟩
  · go_enter Try.func47, Try.ntmps47
    go_wp2
    go_loop [3] (fun i => ∃ k : Nat, k ≤ l.length ∧ i = .int .i64 k ∧ (l.take k).all Tst.ok = true) (fun i => l.length - (intOf i).toNat)
    case atStart => exact ⟨0, Nat.zero_le _, rfl, rfl⟩
    case round =>
      obtain ⟨k, hk, rfl, hall⟩ := hrel
      have Hall := Lib.hid hall
      clear hall
      by_cases hlt : k < l.length
      · obtain ⟨x, hx⟩ := getElem?_lt hlt
        obtain ⟨b, off, rfl, hb, hc⟩ := hr.at_ hx
        have c0 := hc 0 _ rfl
        have c1 := hc 1 _ rfl
        have c2 := hc 2 _ rfl
        have Hx := Lib.hid hx
        clear hx hc hr
        simp only [Nat.add_zero] at c0
        have Hok : Hid (x.ok = (inB x.soil 0 9 && (inB x.depth 1 3000 && inB x.force 1 5000))) := rfl
        cases h1 : inB x.soil 0 9 <;> cases h2 : inB x.depth 1 3000 <;> cases h3 : inB x.force 1 5000
        all_goals
          rw [h1, h2, h3] at Hok
          go_wp2_with (go_at_call 26; refine (in_any _ _ _ _).mono ?_; rintro e w' ⟨rfl, rfl⟩)
          first
          | (go_ret
             exact ⟨ret_int (testsFault_bad h40 Hx.out Hok.out).symm, rfl⟩)
          | (go_round
             case rel => exact ⟨k + 1, by omega, by go_num, all_snoc Hx.out Hall.out Hok.out⟩
             case measure => simp [intOf]; omega)
      · go_wp2
        go_ret
        exact ⟨ret_int (testsFault_good h40 hlt Hall.out).symm, rfl⟩

theorem clash_bounds {a b : Tst} (ha : a.ok = true) (hb : b.ok = true) : (1 ≤ a.force * b.depth ∧ a.force * b.depth ≤ 15000000) ∧ (1 ≤ b.force * a.depth ∧ b.force * a.depth ≤ 15000000) := by
  rw [Tst.ok_iff] at ha hb
  obtain ⟨_, ⟨a1, a2⟩, a3, a4⟩ := ha
  obtain ⟨_, ⟨b1, b2⟩, b3, b4⟩ := hb
  refine ⟨⟨?_, ?_⟩, ?_, ?_⟩
  · have := Int.mul_le_mul a3 b1 (by omega) (by omega); omega
  · have := Int.mul_le_mul a4 b2 (by omega) (by omega); omega
  · have := Int.mul_le_mul b3 a1 (by omega) (by omega); omega
  · have := Int.mul_le_mul b4 a2 (by omega) (by omega); omega

/-- What a clash is told by: the two places, or -1 twice. -/
def fclA (l : List Tst) : Int := match fcl l with | some (i, _) => i | none => -1
def fclB (l : List Tst) : Int := match fcl l with | some (_, k) => k | none => -1

theorem refClash_any (A : Option Addr) (c : Nat) (l : List Tst) (w : World) (hr : RS encT 4 w w.heap.size A l) (hl : l.length ≤ maxLen) (hok : ∀ x ∈ l, x.ok = true) :
    Calls Try.prog 48 #[.slice A l.length c] w fun e w' => e = .returned (.tuple #[.int .i64 (fclA l), .int .i64 (fclB l)]) ∧ Below w.heap.size w w' := by
  unfold maxLen at hl
  have Hok := Lib.hid hok
  clear hok
  go_enter Try.func48, Try.ntmps48
  go_wp2
  go_loopw [4] (fun i wr => ∃ k : Nat, k ≤ l.length ∧ i = .int .i64 k ∧ fclFrom l (l.drop k) k = fcl l ∧ Below w.heap.size w wr) (fun i _ => l.length - (intOf i).toNat)
  case atStart => exact ⟨0, Nat.zero_le _, rfl, rfl, Below.refl _ _⟩
  case round =>
    obtain ⟨i, hi, rfl, hfi, hB⟩ := hrel
    have Hfi := Lib.hid hfi
    clear hfi
    by_cases hlt : i < l.length
    · obtain ⟨x, hx⟩ := getElem?_lt hlt
      have Hx := Lib.hid hx
      have hrr := hr.below hB (Nat.le_refl _)
      obtain ⟨b, off, rfl, hb, hc⟩ := hrr.at_ hx
      have xo := Hok.out x (List.mem_of_getElem? hx)
      have Xo := Lib.hid xo
      clear hx xo hrr
      go_wp2
      go_loopw [5] (fun j wr' => ∃ k : Nat, k ≤ l.length ∧ j = .int .i64 k ∧ find1 (clashB x) (l.drop k) k = find1 (clashB x) l 0 ∧ Below w.heap.size w wr') (fun j _ => l.length - (intOf j).toNat)
      case atStart => exact ⟨0, Nat.zero_le _, rfl, rfl, hB⟩
      case round =>
        obtain ⟨k, hk, rfl, hfk, hB2⟩ := hrel
        have Hfk := Lib.hid hfk
        clear hfk hB
        have hrr := hr.below hB2 (Nat.le_refl _)
        by_cases hlt2 : k < l.length
        · obtain ⟨y, hy⟩ := getElem?_lt hlt2
          have yo := Hok.out y (List.mem_of_getElem? hy)
          obtain ⟨⟨p1, p2⟩, p3, p4⟩ := clash_bounds Xo.out yo
          obtain ⟨b', off', hA, _, hc'⟩ := hrr.at_ hy
          obtain ⟨rfl, rfl⟩ : b = b' ∧ off = off' := by simpa using hA
          obtain ⟨b', off', hA', _, hc⟩ := hrr.at_ Hx.out
          obtain ⟨rfl, rfl⟩ : b = b' ∧ off = off' := by simpa using hA'
          have c0 := hc 0 _ rfl
          have c1 := hc 1 _ rfl
          have c2 := hc 2 _ rfl
          have c3 := hc 3 _ rfl
          have d0 := hc' 0 _ rfl
          have d1 := hc' 1 _ rfl
          have d2 := hc' 2 _ rfl
          have d3 := hc' 3 _ rfl
          simp only [Nat.add_zero] at c0 d0
          have Hy := Lib.hid hy
          clear hc hc' hA hA' hy yo hr hrr
          have Hcl : Hid (clashB x y = (x.held && (!y.held && (decide (x.soil = y.soil) && decide (y.force * x.depth ≤ x.force * y.depth))))) := rfl
          cases h1 : x.held with
          | false =>
            rw [h1] at c3
            go_wp2
            refine ⟨⟨i + 1, by omega, by go_num, ?_, hB2⟩, by simp [intOf]; omega⟩
            rw [← Hfi.out, fcl_miss Hx.out (find1_none (fun z _ => by simp [clashB, h1]) 0)]
          | true =>
            rw [h1] at c3
            cases h2 : y.held with
            | true =>
              rw [h2] at d3
              go_wp2
              go_quiet (fail)
              go_wp2
              refine ⟨⟨k + 1, by omega, by go_num, ?_, below_drewN hB2 _⟩, by simp [intOf]; omega⟩
              rw [← Hfk.out, find1_miss Hy.out (by rw [Hcl.out, h2]; simp)]
            | false =>
              rw [h2] at d3
              by_cases h3 : y.soil = x.soil
              · have e3 : (y.soil == x.soil) = true := by simpa using h3
                by_cases h4 : y.force * x.depth ≤ x.force * y.depth
                · go_wp2
                  go_quiet (fail)
                  go_wp2
                  go_ret2
                  have hf : fcl l = some (i, k) := by
                    rw [← Hfi.out, fcl_hit Hx.out]
                    rw [← Hfk.out, find1_hit Hy.out (by rw [Hcl.out, h1, h2, h3]; simp [h4])]
                  exact ⟨ret_two (by simp [fclA, hf]) (by simp [fclB, hf]), below_drewN hB2 _⟩
                · have e4 : decide (y.force * x.depth ≤ x.force * y.depth) = false := by simpa using h4
                  go_wp2
                  go_quiet (fail)
                  go_wp2
                  refine ⟨⟨k + 1, by omega, by go_num, ?_, below_drewN hB2 _⟩, by simp [intOf]; omega⟩
                  rw [← Hfk.out, find1_miss Hy.out (by rw [Hcl.out, e4]; simp)]
              · have e3 : (y.soil == x.soil) = false := by simpa using h3
                go_wp2
                go_quiet (fail)
                go_wp2
                refine ⟨⟨k + 1, by omega, by go_num, ?_, below_drewN hB2 _⟩, by simp [intOf]; omega⟩
                rw [← Hfk.out, find1_miss Hy.out (by rw [Hcl.out, decide_eq_false (fun h => h3 h.symm)]; simp)]
        · go_wp2
          refine ⟨⟨i + 1, by omega, by go_num, ?_, hB2⟩, by simp [intOf]; omega⟩
          rw [← Hfi.out, fcl_miss Hx.out (by rw [← Hfk.out, find1_end hlt2])]
    · go_wp2
      go_ret2
      have hf : fcl l = none := by rw [← Hfi.out, fcl_end hlt]
      exact ⟨ret_two (by simp [fclA, hf]) (by simp [fclB, hf]), hB⟩
end Go.Proofs.Ytibaindlbpfecaa

namespace Go.Proofs.Ytibaindlbpfecaa
open Go.RowKit

theorem cdiv_up {a b : Int} (hb : 0 < b) (h : a / b * b < a) : cdiv a b = a / b + 1 := by
  unfold cdiv
  have h1 := Int.lt_ediv_add_one_mul_self a hb
  rw [Int.add_mul, Int.one_mul] at h1
  rw [show a + b - 1 = (a - a / b * b - 1) + (a / b + 1) * b from by rw [Int.add_mul, Int.one_mul]; omega, Int.add_mul_ediv_right _ _ (by omega), Int.ediv_eq_zero_of_lt (by omega) (by omega)]
  omega
theorem cdiv_even {a b : Int} (hb : 0 < b) (h : a ≤ a / b * b) : cdiv a b = a / b := by
  unfold cdiv
  have h2 := Int.ediv_mul_le a (b := b) (by omega)
  rw [show a + b - 1 = (b - 1) + (a / b) * b from by omega, Int.add_mul_ediv_right _ _ (by omega), Int.ediv_eq_zero_of_lt (by omega) (by omega)]
  omega
set_option maxHeartbeats 400000 in
theorem refHolds_any (A : Option Addr) (c : Nat) (l : List Tst) (w : World) (soil depth : Int) (hr : RS encT 4 w w.heap.size A l) (hl : l.length ≤ maxLen) (hok : ∀ x ∈ l, x.ok = true)
    (hd1 : 1 ≤ depth) (hd2 : depth ≤ 3000) :
    Calls Try.prog 51 #[.slice A l.length c, .int .i64 soil, .int .i64 depth] w fun e w' => e = .returned (.agg #[.int .i64 (holdsM l soil depth).1, .int .i64 (holdsM l soil depth).2]) ∧ Below w.heap.size w w' := by
  unfold maxLen at hl
  have Hok := Lib.hid hok
  clear hok
  go_enter Try.func51, Try.ntmps51
  go_wp2
  go_loopw [8] (fun i wr => ∃ (k : Nat) (lo hi : Int), k ≤ l.length ∧ i = .int .i64 k ∧ (l.take k).foldl (holdsStep soil depth) (0, 10000000) = (lo, hi) ∧ Below w.heap.size w wr ∧ Blk wr w.heap.size 104 #[.int .i64 0, .int .i64 0] ∧ Blk wr (w.heap.size + 1) 104 #[.int .i64 lo, .int .i64 hi]) (fun i _ => l.length - (intOf i).toNat)
  case atStart =>
    exact ⟨0, 0, 10000000, Nat.zero_le _, rfl, rfl, ((Below.refl _ _).alloc (Nat.le_refl _) _).alloc (by simp) _, (Blk.new _ _ _).alloc _, by simpa using Blk.new (w.alloc (.cells #[.int .i64 0, .int .i64 0] 104)) 104 #[.int .i64 0, .int .i64 10000000]⟩
  case round =>
    obtain ⟨k, lo, hi, hk, rfl, hfold, hB, b0, b1⟩ := hrel
    have Hfold := Lib.hid hfold
    clear hfold
    have s0 := b0.cell 0
    have s1 := b0.cell 1
    have f0 := b0.frozen 0
    have f1 := b0.frozen 1
    have r0 := b1.cell 0
    have r1 := b1.cell 1
    have g0 := b1.frozen 0
    have g1 := b1.frozen 1
    have z := b1.lt
    simp at s0 s1 r0 r1
    by_cases hlt : k < l.length
    · obtain ⟨x, hx⟩ := getElem?_lt hlt
      have xo := Tst.ok_iff.1 (Hok.out x (List.mem_of_getElem? hx))
      obtain ⟨⟨x1, x2⟩, ⟨x3, x4⟩, x5, x6⟩ := xo
      obtain ⟨b, off, rfl, hb, hc⟩ := (hr.below hB (Nat.le_refl _)).at_ hx
      have c0 := hc 0 _ rfl
      have c1 := hc 1 _ rfl
      have c2 := hc 2 _ rfl
      have c3 := hc 3 _ rfl
      simp only [Nat.add_zero] at c0
      have Hx := Lib.hid hx
      have p1 : 0 ≤ x.force * depth := Int.mul_nonneg (by omega) (by omega)
      have p2 : x.force * depth ≤ 15000000 := by have := Int.mul_le_mul x6 hd2 (by omega) (by omega); omega
      have q1 : 0 ≤ x.force * depth / x.depth := Int.ediv_nonneg p1 (by omega)
      have q2 : x.force * depth / x.depth ≤ 15000000 := by have := Int.ediv_le_self x.depth p1; omega
      have q3 : x.force * depth / x.depth * x.depth ≤ x.force * depth := Int.ediv_mul_le _ (by omega)
      have q4 : 0 ≤ x.force * depth / x.depth * x.depth := Int.mul_nonneg q1 (by omega)
      clear hx hc hr
      by_cases hs : x.soil = soil
      · have e3 : (x.soil != soil) = false := by simpa using hs
        cases h1 : x.held with
        | true =>
          rw [h1] at c3
          go_wp2
          refine ⟨⟨k + 1, _, _, by omega, by go_num, ?_, (hB.setCell (by show w.heap.size ≤ w.heap.size + 1; omega) _).alloc (by have := hB.size; simp; omega) _, (b0.far (by simp) _).alloc _, (show Blk _ _ _ #[_, _] from by simpa using b1.set_ 0 _).alloc _⟩, by simp [intOf]; omega⟩
          rw [foldl_snoc Hx.out, Hfold.out, holdsStep, if_pos hs, if_pos h1]
          simp only [Prod.mk.injEq, and_true]
          rw [hs] at *
          omega
        | false =>
          rw [h1] at c3
          have HF : Hid (holdsStep soil depth (lo, hi) x = (lo, min hi (cdiv (x.force * depth) x.depth - 1))) := by
            show _ = _
            rw [holdsStep, if_pos hs, h1]; rfl
          by_cases h4 : x.force * depth / x.depth * x.depth < x.force * depth
          · have HC := Lib.hid (cdiv_up (a := x.force * depth) (b := x.depth) (by omega) h4)
            go_wp2
            refine ⟨⟨k + 1, _, _, by omega, by go_num, ?_, (hB.setCell (by show w.heap.size ≤ w.heap.size + 1; omega) _).alloc (by have := hB.size; simp; omega) _, (b0.far (by simp) _).alloc _, (show Blk _ _ _ #[_, _] from by simpa using b1.set_ 1 _).alloc _⟩, by simp [intOf]; omega⟩
            rw [foldl_snoc Hx.out, Hfold.out, HF.out, HC.out]
            simp only [Prod.mk.injEq, true_and]
            omega
          · have HC := Lib.hid (cdiv_even (a := x.force * depth) (b := x.depth) (by omega) (by omega))
            go_wp2
            refine ⟨⟨k + 1, _, _, by omega, by go_num, ?_, (hB.setCell (by show w.heap.size ≤ w.heap.size + 1; omega) _).alloc (by have := hB.size; simp; omega) _, (b0.far (by simp) _).alloc _, (show Blk _ _ _ #[_, _] from by simpa using b1.set_ 1 _).alloc _⟩, by simp [intOf]; omega⟩
            rw [foldl_snoc Hx.out, Hfold.out, HF.out, HC.out]
            simp only [Prod.mk.injEq, true_and]
            omega
      · have e3 : (x.soil != soil) = true := by simpa using hs
        go_wp2
        refine ⟨⟨k + 1, _, _, by omega, by go_num, ?_, hB.alloc (by have := hB.size; omega) _, b0.alloc _, b1.alloc _⟩, by simp [intOf]; omega⟩
        rw [foldl_snoc Hx.out, Hfold.out, holdsStep, if_neg hs]
    · go_wp2
      have bf := (b0.set_ 0 (.int .i64 lo)).set_ 1 (.int .i64 hi)
      have v0 := bf.cell 0
      have v1 := bf.cell 1
      simp at v0 v1
      refine bodyPost_ret (v := .agg #[.int .i64 lo, .int .i64 hi]) (by simp [results, Try.results51, go_sem, v0, v1]) rfl ⟨?_, ?_⟩
      · have hf : holdsM l soil depth = (lo, hi) := by rw [← Hfold.out, foldl_end hlt]; rfl
        rw [hf]
      · exact (hB.setCell (Nat.le_refl _) _).setCell (Nat.le_refl _) _
end Go.Proofs.Ytibaindlbpfecaa

namespace Go.Proofs.Ytibaindlbpfecaa
open Go.RowKit

theorem refLength_any (g : Guy) (hg : g.ok = true) (w : World) :
    Calls Try.prog 87 #[.agg #[.int .i64 g.x, .int .i64 g.y, .int .i64 g.down, .int .i64 g.soil, .int .i64 g.depth]] w fun e w' => e = .returned (.int .i64 g.length) ∧ Below w.heap.size w w' := by
  obtain ⟨⟨a, b⟩, ⟨c, d⟩, _⟩ := Guy.ok_iff.1 hg
  have hs := sq_bounds hg
  have hx1 : 0 ≤ g.x * g.x := by rw [← Int.natAbs_mul_self]; omega
  have hy1 : 0 ≤ g.y * g.y := by rw [← Int.natAbs_mul_self]; omega
  unfold Guy.sq at hs
  go_enter Try.func87, Try.ntmps87
  go_wp2
  go_loop [3] (fun i => ∃ k : Nat, k ≤ 7072 ∧ i = .int .i64 k ∧ rootFrom g.sq (10000 - k) k = g.length) (fun i => 7072 - (intOf i).toNat)
  case atStart => exact ⟨0, by omega, rfl, rfl⟩
  case round =>
    obtain ⟨k, hk, rfl, hroot⟩ := hrel
    have Hroot := Lib.hid hroot
    clear hroot
    have k1 : 0 ≤ (k : Int) * k := Int.mul_nonneg (by omega) (by omega)
    have k2 : (k : Int) * k ≤ 50013184 := by have := Int.mul_le_mul (show (k : Int) ≤ 7072 by omega) (show (k : Int) ≤ 7072 by omega) (by omega) (by omega); omega
    by_cases hlt : (k : Int) * k < g.x * g.x + g.y * g.y
    · have k3 := sq_lt_imp (n := (k : Int)) (by omega) (by omega)
      go_wp2
      go_round
      case rel =>
        refine ⟨k + 1, by omega, by go_num, ?_⟩
        rw [← Hroot.out, show 10000 - k = (10000 - (k + 1)) + 1 from by omega, rootFrom_step (s := g.sq) hlt]; rfl
      case measure => simp [intOf]; omega
    · go_wp2
      go_ret
      refine ⟨ret_int ?_, (Below.refl _ _).alloc (Nat.le_refl _) _⟩
      rw [← Hroot.out, rootFrom_stop (s := g.sq) (by unfold Guy.sq; omega)]

set_option maxRecDepth 100000 in
set_option maxHeartbeats 1000000 in
theorem refPart_any (A : Option Addr) (c : Nat) (l : List Tst) (w : World) (g : Guy) (hr : RS encT 4 w w.heap.size A l) (hl : l.length ≤ maxLen) (hok : ∀ x ∈ l, x.ok = true) (hg : g.ok = true) :
    Calls Try.prog 56 #[.slice A l.length c, .agg #[.int .i64 g.x, .int .i64 g.y, .int .i64 g.down, .int .i64 g.soil, .int .i64 g.depth]] w fun e w' => e = .returned (.int .i64 (g.part l)) ∧ Below w.heap.size w w' := by
  obtain ⟨_, _, _, _, _, ga, gb⟩ := Guy.ok_iff.1 hg
  have Hg := Lib.hid hg
  have Hok := Lib.hid hok
  obtain ⟨h1, h2⟩ := holds_lo (soil := g.soil) hok ga gb
  obtain ⟨h3, h4⟩ := length_bounds hg
  have h5 : 0 ≤ 100 * (holdsM l g.soil g.depth).1 / g.length := Int.ediv_nonneg (by omega) (by omega)
  have h6 : 100 * (holdsM l g.soil g.depth).1 / g.length ≤ 1500000000 := by have := Int.ediv_le_self (a := 100 * (holdsM l g.soil g.depth).1) g.length (by omega); omega
  have HP : Hid (g.part l = partOf (holdsM l g.soil g.depth).1 g.length) := rfl
  have e0 : (g.length == 0) = false := by simp; omega
  have e1 : g.length ≠ 0 := by omega
  have v1 : IntKind.i64.wrap (100 * (holdsM l g.soil g.depth).1) = 100 * (holdsM l g.soil g.depth).1 := IntWalk.i64_in _ (by omega)
  have v2 : IntKind.i64.wrap ((100 * (holdsM l g.soil g.depth).1).tdiv g.length) = 100 * (holdsM l g.soil g.depth).1 / g.length := IntWalk.i64_quo _ _ (by omega)
  clear hg hok
  go_enter Try.func56, Try.ntmps56
  go_wp2
  refine name_world (motive := fun W => Code.wp _ _ _ _ W) _ ?_
  intro W0 hW
  have hWc := hW.cell
  have hWz := hW.size
  have hWb := hW.below ((Below.refl w.heap.size w).alloc (Nat.le_refl _) _)
  have hr0 := (hr.below hWb (Nat.le_refl _)).more hWb.size
  rw [World.size_alloc] at hWz
  go_region_held3 (fun w' => (∀ b o, b < W0.heap.size → w'.cell? ⟨b, o, none⟩ = W0.cell? ⟨b, o, none⟩) ∧ Below W0.heap.size W0 w') (first | exact sh_refl _ | exact sh_of (by assumption) | exact sh_alloc (by assumption) _)
    (first | (go_at_call 51; go_split_ands; have hS : Below W0.heap.size W0 _ := (by assumption); refine (refHolds_any _ _ _ _ _ _ (hr0.to hS) hl Hok.out ga gb).mono ?_; rintro e w1 ⟨rfl, hb1⟩; have hB1 := sh_next hS hb1) | (go_at_call 87; go_split_ands; have hS2 : Below W0.heap.size W0 _ := (by assumption); refine (refLength_any _ Hg.out _).mono ?_; rintro e w2 ⟨rfl, hb2⟩; have hB2 := sh_next hS2 hb2))
  all_goals go_wp2
  all_goals
    go_ret
    clear v1 v2
    exact ⟨ret_int (by rw [HP.out, partOf]; omega), hWb.trans (hB2.mono hWb.size)⟩
end Go.Proofs.Ytibaindlbpfecaa

namespace Go.Proofs.Ytibaindlbpfecaa
open Go.RowKit


/-- Far from the bounds of an int. -/
def Sm (z : Int) : Prop := -4000000000000000000 ≤ z ∧ z ≤ 4000000000000000000
theorem Sm.wrap {z : Int} (h : Sm z) : IntKind.i64.wrap z = z := IntWalk.i64_in _ (by unfold Sm at h; omega)

theorem refTimes_any (v : Vec) (n : Int) (w : World) (h1 : Sm (n * v.x)) (h2 : Sm (n * v.y)) :
    Calls Try.prog 28 #[.agg #[.int .i64 v.x, .int .i64 v.y], .int .i64 n] w fun e w' => e = .returned (.agg #[.int .i64 (v.times n).x, .int .i64 (v.times n).y]) ∧ Below w.heap.size w w' := by
  unfold Sm at h1 h2
  go_enter Try.func28, Try.ntmps28
  go_wp2
  exact bodyPost_ret (v := .agg #[.int .i64 (n * v.x), .int .i64 (n * v.y)]) (by simp [results, Try.results28, go_sem]) rfl ⟨rfl, ((Below.refl _ _).alloc (Nat.le_refl _) _).alloc (by simp) _⟩

theorem refDot_any (v u : Vec) (w : World) (h1 : Sm (v.x * u.x)) (h2 : Sm (v.y * u.y)) :
    Calls Try.prog 65 #[.agg #[.int .i64 v.x, .int .i64 v.y], .agg #[.int .i64 u.x, .int .i64 u.y]] w fun e w' => e = .returned (.int .i64 (v.dot u)) ∧ Below w.heap.size w w' := by
  unfold Sm at h1 h2
  go_enter Try.func65, Try.ntmps65
  go_wp2
  go_ret
  exact ⟨rfl, ((Below.refl _ _).alloc (Nat.le_refl _) _).alloc (by simp) _⟩

theorem refCorner_any (v : Vec) (w : World) :
    Calls Try.prog 23 #[.agg #[.int .i64 v.x, .int .i64 v.y]] w fun e w' => e = .returned (.bool v.corner) ∧ Below w.heap.size w w' := by
  have HC : Hid (v.corner = (inB v.x (-10000) 10000 && inB v.y (-10000) 10000)) := rfl
  cases h1 : inB v.x (-10000) 10000 <;> cases h2 : inB v.y (-10000) 10000
  all_goals
    rw [h1, h2] at HC
    go_enter Try.func23, Try.ntmps23
    go_wp2_with (go_at_call 26; refine (in_any _ _ _ _).mono ?_; rintro e w' ⟨rfl, rfl⟩)
    go_ret
    exact ⟨ret_bool HC.out.symm, (Below.refl _ _).alloc (Nat.le_refl _) _⟩

theorem refRightGuy_any (g : Guy) (w : World) :
    Calls Try.prog 21 #[.agg #[.int .i64 g.x, .int .i64 g.y, .int .i64 g.down, .int .i64 g.soil, .int .i64 g.depth]] w fun e w' => e = .returned (.bool g.ok) ∧ Below w.heap.size w w' := by
  go_enter Try.func21, Try.ntmps21
  go_wp2_with (go_at_call 26; refine (in_any _ _ _ _).mono ?_; rintro e w' ⟨rfl, rfl⟩)
  all_goals
    go_ret
    exact ⟨ret_bool (by first | (simp [Guy.ok, *]; done) | (simp_all [Guy.ok, inB])), (Below.refl _ _).alloc (Nat.le_refl _) _⟩

theorem refOverloaded_any (A : Option Addr) (c : Nat) (h : Head) (hh : h.ok = true) (w : World) (hr : RS encG 5 w w.heap.size A h.guys) :
    Calls Try.prog 54 #[.agg #[.int .i64 h.area, .int .i64 h.bears, .slice A h.guys.length c]] w fun e w' => e = .returned (.bool (decide (h.bears < downM h))) ∧ Below w.heap.size w w' := by
  have hl : h.guys.length ≤ 8 := by have := hh; simp [Head.ok] at this; exact this.2.2.1
  have hgs : ∀ g ∈ h.guys, g.ok = true := by have := hh; simp [Head.ok] at this; exact this.2.2.2
  have Hgs := Lib.hid hgs
  clear hgs hh
  go_enter Try.func54, Try.ntmps54
  go_wp2
  have hr' := (hr.below (((Below.refl _ _).alloc (Nat.le_refl _) _)) (Nat.le_refl _) : RS encG 5 (w.alloc (.cells #[.int .i64 h.area, .int .i64 h.bears, .slice A h.guys.length c] 64)) w.heap.size A h.guys)
  go_loop [3, 4] (fun n i => ∃ (k : Nat) (m : Int), k ≤ h.guys.length ∧ i = .int .i64 k ∧ n = .int .i64 m ∧ (h.guys.take k).foldl (fun n g => n + g.down) 0 = m ∧ 0 ≤ m ∧ m ≤ 5000 * k) (fun _ i => h.guys.length - (intOf i).toNat)
  case atStart => exact ⟨0, 0, Nat.zero_le _, rfl, rfl, rfl, by omega, by omega⟩
  case round =>
    obtain ⟨k, m, hk, rfl, rfl, hfold, hm1, hm2⟩ := hrel
    have Hfold := Lib.hid hfold
    clear hfold
    by_cases hlt : k < h.guys.length
    · obtain ⟨g, hg⟩ := getElem?_lt hlt
      obtain ⟨_, _, _, ⟨g1, g2⟩, _⟩ := Guy.ok_iff.1 (Hgs.out g (List.mem_of_getElem? hg))
      obtain ⟨b, off, rfl, hb, hc⟩ := hr'.at_ hg
      have c2 := hc 2 _ rfl
      have c2' : w.cell? ⟨b, off + k * 5 + 2, none⟩ = some (.int .i64 g.down) := (World.cell?_alloc_lt _ _ _ (by show b < w.heap.size; omega)).symm.trans c2
      have Hg := Lib.hid hg
      clear hg hc c2 hr' hr
      go_wp2
      go_round
      case rel => exact ⟨k + 1, m + g.down, by omega, by go_num, rfl, by rw [foldl_snoc Hg.out, Hfold.out], by omega, by omega⟩
      case measure => simp [intOf]; omega
    · go_wp2
      go_ret
      exact ⟨ret_bool (by unfold downM; rw [← Hfold.out, foldl_end hlt]), (Below.refl _ _).alloc (Nat.le_refl _) _⟩

set_option maxRecDepth 20000 in
theorem refDeep_any (A : Option Addr) (c : Nat) (l : List Tst) (w : World) (soil force : Int) (hr : RS encT 4 w w.heap.size A l) (hl : l.length ≤ maxLen) (hok : ∀ x ∈ l, x.ok = true) :
    Calls Try.prog 50 #[.slice A l.length c, .int .i64 soil, .int .i64 force] w fun e w' => e = .returned (.int .i64 (deepM l soil force)) ∧ Below w.heap.size w w' := by
  go_enter Try.func50, Try.ntmps50
  go_wp2
  go_loopw [7] (fun i wr => ∃ k : Nat, k ≤ 3000 ∧ i = .int .i64 ((k : Int) + 1) ∧ deepFrom l soil force (3000 - k) ((k : Int) + 1) = deepM l soil force ∧ Below w.heap.size w wr) (fun i _ => 3001 - (intOf i).toNat)
  case atStart => exact ⟨0, Nat.zero_le _, rfl, rfl, Below.refl _ _⟩
  case round =>
    obtain ⟨k, hk, rfl, hd, hB⟩ := hrel
    have Hd := Lib.hid hd
    clear hd
    by_cases hlt : k < 3000
    · have hrr := (hr.below hB (Nat.le_refl _)).more hB.size
      by_cases hf : force ≤ (holdsM l soil ((k : Int) + 1)).1
      · go_wp2_with (go_at_call 51; refine (refHolds_any _ _ _ _ _ _ hrr hl hok (by omega) (by omega)).mono ?_; rintro e w1 ⟨rfl, hb1⟩)
        go_ret
        exact ⟨ret_int (by rw [← Hd.out, show 3000 - k = (3000 - (k + 1)) + 1 from by omega, deepFrom, if_pos hf]), hB.trans (hb1.mono hB.size)⟩
      · go_wp2_with (go_at_call 51; refine (refHolds_any _ _ _ _ _ _ hrr hl hok (by omega) (by omega)).mono ?_; rintro e w1 ⟨rfl, hb1⟩)
        go_roundw
        case rel => exact ⟨k + 1, by omega, by go_num, by rw [← Hd.out, show 3000 - k = (3000 - (k + 1)) + 1 from by omega, deepFrom, if_neg (by omega)]; rfl, hB.trans (hb1.mono hB.size)⟩
        case measure => simp [intOf]; omega
    · go_wp2
      go_ret
      exact ⟨ret_int (by rw [← Hd.out, show 3000 - k = 0 from by omega]; rfl), hB⟩
end Go.Proofs.Ytibaindlbpfecaa

namespace Go.Proofs.Ytibaindlbpfecaa
open Go.RowKit

theorem VB.sm {v u : Vec} {p q : Int} (hv : VB v p) (hu : VB u q) (h : p * q ≤ 2000000000000000000) : Sm (v.x * u.x) ∧ Sm (v.y * u.y) := by
  obtain ⟨h1, h2⟩ := hv.dot hu
  unfold Sm; omega

theorem in_val {n lo hi : Int} {b : Bool} (h : inB n lo hi = b) (w : World) :
    Calls Try.prog 26 #[.int .i64 n, .int .i64 lo, .int .i64 hi] w fun e w' => e = .returned (.bool b) ∧ w = w' := by rw [← h]; exact in_any n lo hi w

theorem quiet_lb {P : Program} {f : FuncId} {args : Array Value} {w : World} {n : Nat} {b c : Bool}
    (h : Calls P f args (w.drewN n) fun e w' => e = .returned (.bool b) ∧ w.drewN n = w') (hb : b = c) : Calls P f args (w.drewN n) fun e w'' => e = .returned (.bool c) ∧ ∃ m, w'' = w.drewN m :=
  h.mono fun _ _ ⟨he, hm⟩ => ⟨by rw [he, hb], n, hm.symm⟩

theorem refHelp_any (A : Option Addr) (c : Nat) (f : List Vec) (way : Vec) (w : World) (hr : RS encV 2 w w.heap.size A f) (hl : f.length ≤ 100) (hf : ∀ v ∈ f, VB v 500000) (hw : VB way 1000000) :
    Calls Try.prog 66 #[.slice A f.length c, .agg #[.int .i64 way.x, .int .i64 way.y]] w fun e w' => e = .returned (.int .i64 (helpM f way)) ∧ Below w.heap.size w w' := by
  have Hf := Lib.hid hf
  have Hw := Lib.hid hw
  clear hf hw
  go_enter Try.func66, Try.ntmps66
  go_wp2
  go_loopw [5, 6] (fun n i wr => ∃ (k : Nat) (m : Int), k ≤ f.length ∧ i = .int .i64 k ∧ n = .int .i64 m ∧ (f.take k).foldl (fun n v => n + max 0 (-(way.dot v))) 0 = m ∧ 0 ≤ m ∧ m ≤ 1000000000000 * k ∧ Below w.heap.size w wr ∧ Blk wr w.heap.size 49 #[.int .i64 way.x, .int .i64 way.y]) (fun _ i _ => f.length - (intOf i).toNat)
  case atStart => exact ⟨0, 0, Nat.zero_le _, rfl, rfl, rfl, by omega, by omega, (Below.refl _ _).alloc (Nat.le_refl _) _, Blk.new _ _ _⟩
  case round =>
    obtain ⟨k, m, hk, rfl, rfl, hfold, hm1, hm2, hB, hK⟩ := hrel
    have Hfold := Lib.hid hfold
    clear hfold
    have k0 := hK.cell 0
    have k1 := hK.cell 1
    have kz := hK.lt
    simp at k0 k1
    by_cases hlt : k < f.length
    · obtain ⟨v, hv⟩ := getElem?_lt hlt
      have vb := Hf.out v (List.mem_of_getElem? hv)
      have db := Hw.out.dot' vb
      obtain ⟨s1, s2⟩ := Hw.out.sm vb (by omega)
      have Hv := Lib.hid hv
      obtain ⟨b, off, rfl, hb, hc⟩ := (hr.below hB (Nat.le_refl _)).at_ hv
      have c0 := hc 0 _ rfl
      have c1 := hc 1 _ rfl
      simp only [Nat.add_zero] at c0
      clear hv hc vb hr
      have d1 : IntKind.i64.wrap (-(way.dot v)) = -(way.dot v) := IntWalk.i64_in _ (by omega)
      have d2 : IntKind.i64.wrap (m + if way.dot v < 0 then -way.dot v else 0) = m + max 0 (-(way.dot v)) := by rw [IntWalk.i64_in _ (by split <;> omega)]; split <;> omega
      have hbz : b < wr.heap.size := by have := hB.size; omega
      go_wp2
      refine name_world (motive := fun W => Code.wp _ _ _ _ W) _ ?_
      intro W0 hW
      have hWc := hW.cell
      have hWz := hW.size
      have hWb := hW.below (hB)
      go_region_held3 (fun w' => (∀ b o, b < W0.heap.size → w'.cell? ⟨b, o, none⟩ = W0.cell? ⟨b, o, none⟩) ∧ Below W0.heap.size W0 w') (first | exact sh_refl _ | exact sh_of (by assumption) | exact sh_alloc (by assumption) _)
        (first | (go_at_call 65; go_split_ands; have hS1 : Below W0.heap.size W0 _ := (by assumption); refine (refDot_any way v _ s1 s2).mono ?_; rintro e w1 ⟨rfl, hb1⟩; have hB1 := sh_next hS1 hb1))
      go_wp2
      go_roundw
      case rel =>
        have hB2 := hWb.trans (hB1.mono hWb.size)
        exact ⟨k + 1, m + max 0 (-(way.dot v)), by omega, by go_num, rfl, by rw [foldl_snoc Hv.out, Hfold.out], by omega, by omega, hB2, (hW.blk hK).below hB1 (hW.blk hK).lt⟩
      case measure => simp [intOf]; omega
    · go_wp2
      go_ret
      exact ⟨ret_int (by unfold helpM; rw [← Hfold.out, foldl_end hlt]), hB⟩

set_option maxHeartbeats 1000000 in
theorem refIsWeak_any (A : Option Addr) (c : Nat) (f : List Vec) (push way : Vec) (w : World) (hr : RS encV 2 w w.heap.size A f) (hl : f.length ≤ 100) (hf : ∀ v ∈ f, VB v 500000) (hp : VB push 1000000000000) :
    Calls Try.prog 29 #[.slice A f.length c, .agg #[.int .i64 push.x, .int .i64 push.y], .agg #[.int .i64 way.x, .int .i64 way.y]] w fun e w' => e = .returned (.bool (inB way.x (-1000000) 1000000 && (inB way.y (-1000000) 1000000 && weakInB f push way))) ∧ Below w.heap.size w w' := by
  have Hf := Lib.hid hf
  have Hp := Lib.hid hp
  clear hf hp
  have HW2 : Hid (weakInB f push way = decide (helpM f way < way.dot push)) := rfl
  cases h1 : inB way.x (-1000000) 1000000 <;> cases h2 : inB way.y (-1000000) 1000000
  case true.true =>
    have hw : VB way 1000000 := ⟨inB_true.1 h1, inB_true.1 h2⟩
    obtain ⟨s1, s2⟩ := hw.sm Hp.out (by omega)
    have Hw := Lib.hid hw
    clear hw
    go_enter Try.func29, Try.ntmps29
    go_wp2_with (go_at_call 26; refine (in_any _ _ _ _).mono ?_; rintro e w' ⟨rfl, rfl⟩)
    refine name_world (motive := fun W => Code.wp _ _ _ _ W) _ ?_
    intro W0 hW
    have hWc := hW.cell
    have hWz := hW.size
    have hWb := hW.below (((Below.refl w.heap.size w).alloc (Nat.le_refl _) _).alloc (by simp) _)
    have hr0 := (hr.below hWb (Nat.le_refl _)).more hWb.size
    simp only [World.size_alloc] at hWz
    go_region_held3 (fun w' => (∀ b o, b < W0.heap.size → w'.cell? ⟨b, o, none⟩ = W0.cell? ⟨b, o, none⟩) ∧ Below W0.heap.size W0 w') (first | exact sh_refl _ | exact sh_of (by assumption) | exact sh_alloc (by assumption) _)
      (first | (go_at_call 26; refine (in_any _ _ _ _).mono ?_; rintro e w3 ⟨rfl, rfl⟩) | (go_at_call 65; go_split_ands; have hS1 : Below W0.heap.size W0 _ := (by assumption); refine (refDot_any way push _ s1 s2).mono ?_; rintro e w1 ⟨rfl, hb1⟩; have hB1 := sh_next hS1 hb1) | (go_at_call 66; go_split_ands; have hS2 : Below W0.heap.size W0 _ := (by assumption); refine (refHelp_any _ _ f way _ (hr0.to hS2) hl Hf.out Hw.out).mono ?_; rintro e w2 ⟨rfl, hb2⟩; have hB2 := sh_next hS2 hb2))
    go_wp2
    go_ret
    exact ⟨ret_bool (by rw [HW2.out]; simp), hWb.trans (hB2.mono hWb.size)⟩
  all_goals
    go_enter Try.func29, Try.ntmps29
    go_wp2_with (go_at_call 26; refine (in_any _ _ _ _).mono ?_; rintro e w' ⟨rfl, rfl⟩)
    go_quiet ((go_at_call 26; first | (refine quiet_lb (in_any _ _ _ _) (c := false) ?_; (simp [*]; done)) | (refine quiet_lb (in_any _ _ _ _) (c := true) ?_; (simp [*]; done))))
    go_wp2
    go_ret
    exact ⟨ret_bool (by simp), below_drewN (((Below.refl _ _).alloc (Nat.le_refl _) _).alloc (by simp) _) _⟩
end Go.Proofs.Ytibaindlbpfecaa
