import Derived.Test.YtbagfapalkmikaaSwing
import Derived.Test.YtbagfapalkmikaaReg

/- Contracts of flight's boxes. -/
namespace Go.Proofs.Ytbagfapalkmikaa
open Go.RowKit

/-- A number whose sums with its like are far from the ends of int. -/
def Sml (n : Int) : Prop := -1000000000 ≤ n ∧ n ≤ 1000000000
set_option maxHeartbeats 1000000 in
theorem times_any (a b t : Int) (w : World) (ha : -10000 ≤ a ∧ a ≤ 10000) (hb : -10000 ≤ b ∧ b ≤ 10000) (ht : 0 ≤ t ∧ t ≤ 300) :
    Calls Try.prog 83 #[.agg #[.int .i64 a, .int .i64 b], .int .i64 t] w fun e w' => e = .returned (.agg #[.int .i64 (t * a), .int .i64 (t * b)]) ∧ Below w.heap.size w w' := by
  obtain ⟨p1, p2⟩ := tickb ht ha
  obtain ⟨q1, q2⟩ := tickb ht hb
  go_enter Try.func83, Try.ntmps83
  go_wp2
  refine bodyPost_ret (v := .agg #[.int .i64 (t * a), .int .i64 (t * b)]) (by simp [results, Try.results83, go_sem]) rfl ⟨rfl, ?_⟩
  exact ((Below.refl _ _).alloc (Nat.le_refl _) _).alloc (by simp) _
set_option maxHeartbeats 1000000 in
theorem plus_any (a b c d : Int) (w : World) (ha : Sml a) (hb : Sml b) (hc : Sml c) (hd : Sml d) :
    Calls Try.prog 85 #[.agg #[.int .i64 a, .int .i64 b], .agg #[.int .i64 c, .int .i64 d]] w fun e w' => e = .returned (.agg #[.int .i64 (a + c), .int .i64 (b + d)]) ∧ Below w.heap.size w w' := by
  unfold Sml at ha hb hc hd
  obtain ⟨a1, a2⟩ := ha
  obtain ⟨b1, b2⟩ := hb
  obtain ⟨c1, c2⟩ := hc
  obtain ⟨d1, d2⟩ := hd
  go_enter Try.func85, Try.ntmps85
  go_wp2
  refine bodyPost_ret (v := .agg #[.int .i64 (a + c), .int .i64 (b + d)]) (by simp [results, Try.results85, go_sem]) rfl ⟨rfl, ?_⟩
  exact (((Below.refl _ _).alloc (Nat.le_refl _) _).alloc (by simp) _).alloc (by simp <;> omega) _
theorem upright_any (z : Int) (w : World) :
    Calls Try.prog 86 #[.int .i64 z] w fun e w' => e = .returned (.agg #[.int .i64 0, .int .i64 0, .int .i64 z, .int .i64 z]) ∧ Below w.heap.size w w' := by
  go_enter Try.func86, Try.ntmps86
  go_wp2
  refine bodyPost_ret (v := .agg #[.int .i64 0, .int .i64 0, .int .i64 z, .int .i64 z]) (by simp [results, Try.results86, go_sem]) rfl ⟨rfl, ?_⟩
  exact (Below.refl _ _).alloc (Nat.le_refl _) _
set_option maxHeartbeats 4000000 in
theorem bothPlus_any (a b c d p q r s : Int) (w : World) (ha : Sml a) (hb : Sml b) (hc : Sml c) (hd : Sml d) (hp : Sml p) (hq : Sml q) (hr : Sml r) (hs : Sml s) :
    Calls Try.prog 84 #[.func (.func 85) #[] #[], .agg #[.int .i64 a, .int .i64 b, .int .i64 c, .int .i64 d], .agg #[.int .i64 p, .int .i64 q, .int .i64 r, .int .i64 s]] w fun e w' =>
      e = .returned (.agg #[.int .i64 (a + p), .int .i64 (b + q), .int .i64 (c + r), .int .i64 (d + s)]) ∧ Below w.heap.size w w' := by
  have kR : Blk (((w.alloc (.cells #[.int .i64 a, .int .i64 b, .int .i64 c, .int .i64 d] 37)).alloc (.cells #[.int .i64 p, .int .i64 q, .int .i64 r, .int .i64 s] 37)).alloc (.cells #[.int .i64 0, .int .i64 0, .int .i64 0, .int .i64 0] 37)) (w.heap.size + 1 + 1) 37 #[.int .i64 0, .int .i64 0, .int .i64 0, .int .i64 0] := by simpa using Blk.new ((w.alloc (.cells #[.int .i64 a, .int .i64 b, .int .i64 c, .int .i64 d] 37)).alloc (.cells #[.int .i64 p, .int .i64 q, .int .i64 r, .int .i64 s] 37)) 37 #[.int .i64 0, .int .i64 0, .int .i64 0, .int .i64 0]
  go_enter Try.func84, Try.ntmps84
  go_wp2
  refine name_world (motive := fun W => Code.wp _ _ _ _ W) _ ?_
  intro W0 hW
  have hWc := hW.cell
  have hWz := hW.size
  have hWb := hW.below ((((Below.refl w.heap.size w).alloc (Nat.le_refl _) _).alloc (by simp) _).alloc (by simp <;> omega) _)
  have kR := hW.blk kR
  simp only [World.size_alloc] at hWz
  have hBW : w.heap.size + 1 + 1 ≤ W0.heap.size := by omega
  have tok1 : True := trivial
  go_region_held3 (fun w' => (∀ b o, b < w.heap.size + 1 + 1 → w'.cell? ⟨b, o, none⟩ = W0.cell? ⟨b, o, none⟩) ∧ Below (w.heap.size + 1 + 1) W0 w') (first | with_reducible exact shB_refl _ _ | (with_reducible refine shB_of ?_; with_reducible assumption) | (refine shB_of ?_; repeat' (first | with_reducible assumption | with_reducible exact Below.refl _ _ | with_reducible refine Below.drew ?_ | with_reducible refine Below.alloc ?_ (by (try simp) <;> omega) _ | with_reducible refine Below.setCell ?_ (by (try simp) <;> omega) _)))
    (first | (go_at_call 85; have := tok1; clear this tok1; go_split_ands; have hS1 : Below (w.heap.size + 1 + 1) W0 _ := (by with_reducible assumption); (with_reducible refine (plus_any a b p q _ ha hb hp hq).mono ?_); rintro e w1 ⟨rfl, hb1⟩; have hB1 := hS1.trans (hb1.mono (Nat.le_trans hBW hS1.size)); obtain ⟨hc1, hf1⟩ := bcell hb1; have hy1 := hb1.size; have hz1 := hB1.size; have kR1 := Blk.below (Blk.drew kR) hb1 (Blk.lt (Blk.drew kR))) | (go_at_call 85; go_split_ands; have hS2 : Below (w.heap.size + 1 + 1) W0 _ := (by with_reducible assumption); (with_reducible refine (plus_any c d r s _ hc hd hr hs).mono ?_); rintro e w2 ⟨rfl, hb2⟩; have hB2 := hS2.trans (hb2.mono (Nat.le_trans hBW hS2.size)); obtain ⟨hc2, hf2⟩ := bcell hb2; have hy2 := hb2.size; have hz2 := hB2.size; have kR2 := Blk.below kR1 hb2 (Blk.lt kR1); have ckR2_0 := kR2.cell 0; have fkR2_0 := kR2.frozen 0; have ckR2_1 := kR2.cell 1; have fkR2_1 := kR2.frozen 1; have ckR2_2 := kR2.cell 2; have fkR2_2 := kR2.frozen 2; have ckR2_3 := kR2.cell 3; have fkR2_3 := kR2.frozen 3; have lkR2 := kR2.lt; simp at ckR2_0 ckR2_1 ckR2_2 ckR2_3))
  all_goals go_wp2
  rename_i hh
  have kF := ((((kR2.set_ 0 (.int .i64 (a + p))).set_ 1 (.int .i64 (b + q))).set_ 2 (.int .i64 (c + r))).set_ 3 (.int .i64 (d + s)))
  have r0 := kF.cell 0
  have r1 := kF.cell 1
  have r2 := kF.cell 2
  have r3 := kF.cell 3
  simp at r0 r1 r2 r3
  refine bodyPost_ret (v := .agg #[.int .i64 (a + p), .int .i64 (b + q), .int .i64 (c + r), .int .i64 (d + s)]) (by simp [results, Try.results84, go_sem, r0, r1, r2, r3]) rfl ⟨rfl, ?_⟩
  exact hWb.trans (hh.2.mono (by omega))

theorem fall_neg (t : Int) : -49 * t * t = -(49 * t * t) := by grind
set_option maxHeartbeats 4000000 in
theorem after_any (f : Fly) (t : Int) (w : World) (hf : f.ok = true) (ht : 0 ≤ t ∧ t ≤ 300) :
    Calls Try.prog 55 #[.agg #[.int .i64 f.pos.x.lo, .int .i64 f.pos.x.hi, .int .i64 f.pos.z.lo, .int .i64 f.pos.z.hi, .int .i64 f.speed.x.lo, .int .i64 f.speed.x.hi, .int .i64 f.speed.z.lo, .int .i64 f.speed.z.hi, .int .i64 f.mass], .int .i64 t] w fun e w' => e = .returned (.agg #[.int .i64 (f.after t).x.lo, .int .i64 (f.after t).x.hi, .int .i64 (f.after t).z.lo, .int .i64 (f.after t).z.hi]) ∧ Below w.heap.size w w' := by
  obtain ⟨hp, hs, _, _⟩ := Fly.ok_iff.1 hf
  obtain ⟨⟨p1, p2, p3⟩, p4, p5, p6⟩ := Bx.inside_iff.1 hp
  obtain ⟨⟨s1, s2, s3⟩, s4, s5, s6⟩ := Bx.inside_iff.1 hs
  have hK0 := Blk.new (w.alloc (.cells #[.int .i64 f.pos.x.lo, .int .i64 f.pos.x.hi, .int .i64 f.pos.z.lo, .int .i64 f.pos.z.hi, .int .i64 f.speed.x.lo, .int .i64 f.speed.x.hi, .int .i64 f.speed.z.lo, .int .i64 f.speed.z.hi, .int .i64 f.mass] 42)) 37 #[.int .i64 0, .int .i64 0, .int .i64 0, .int .i64 0]
  simp only [World.size_alloc] at hK0
  go_enter Try.func55, Try.ntmps55
  go_upto_region 1 with fail
  go_cut [5] (fun s5 wx => ∃ A : Nat, s5 = .pointer (some ⟨A, 0, none⟩) ∧ w.heap.size + 1 < A ∧ wx.cell? ⟨A, 0, none⟩ = some (.int .i64 (t * f.speed.x.lo)) ∧ wx.cell? ⟨A, 1, none⟩ = some (.int .i64 (t * f.speed.x.hi)) ∧ wx.cell? ⟨A, 2, none⟩ = some (.int .i64 (t * f.speed.z.lo)) ∧ wx.cell? ⟨A, 3, none⟩ = some (.int .i64 (t * f.speed.z.hi)) ∧ Blk wx w.heap.size 42 #[.int .i64 f.pos.x.lo, .int .i64 f.pos.x.hi, .int .i64 f.pos.z.lo, .int .i64 f.pos.z.hi, .int .i64 f.speed.x.lo, .int .i64 f.speed.x.hi, .int .i64 f.speed.z.lo, .int .i64 f.speed.z.hi, .int .i64 f.mass] ∧ Blk wx (w.heap.size + 1) 37 #[.int .i64 0, .int .i64 0, .int .i64 0, .int .i64 0] ∧ Below w.heap.size w wx)
  case first =>
    refine name_world (motive := fun W => Code.wp _ _ _ _ W) _ ?_
    intro W0 hW
    have hWc := hW.cell
    have hWz := hW.size
    have hWb := hW.below (((Below.refl w.heap.size w).alloc (Nat.le_refl _) _).alloc (by simp) _)
    simp only [World.size_alloc] at hWz
    have z0 : w.heap.size < W0.heap.size := by omega
    have z1 : w.heap.size + 1 < W0.heap.size := by omega
    have hKf : Blk W0 w.heap.size 42 #[.int .i64 f.pos.x.lo, .int .i64 f.pos.x.hi, .int .i64 f.pos.z.lo, .int .i64 f.pos.z.hi, .int .i64 f.speed.x.lo, .int .i64 f.speed.x.hi, .int .i64 f.speed.z.lo, .int .i64 f.speed.z.hi, .int .i64 f.mass] := hW.blk ((Blk.new w 42 #[.int .i64 f.pos.x.lo, .int .i64 f.pos.x.hi, .int .i64 f.pos.z.lo, .int .i64 f.pos.z.hi, .int .i64 f.speed.x.lo, .int .i64 f.speed.x.hi, .int .i64 f.speed.z.lo, .int .i64 f.speed.z.hi, .int .i64 f.mass]).alloc _)
    have hKb := hW.blk hK0
    clear hWz
    have X1 : Hid (-10000 ≤ f.speed.x.lo ∧ f.speed.x.lo ≤ 10000) := (⟨s1, by omega⟩ : _ ∧ _)
    have X2 : Hid (-10000 ≤ f.speed.x.hi ∧ f.speed.x.hi ≤ 10000) := (⟨by omega, s3⟩ : _ ∧ _)
    have X3 : Hid (-10000 ≤ f.speed.z.lo ∧ f.speed.z.lo ≤ 10000) := (⟨s4, by omega⟩ : _ ∧ _)
    have X4 : Hid (-10000 ≤ f.speed.z.hi ∧ f.speed.z.hi ≤ 10000) := (⟨by omega, s6⟩ : _ ∧ _)
    have HT := Lib.hid ht
    have tok1 : True := trivial
    go_region_held3 (fun w' => (∀ b o, b < W0.heap.size → w'.cell? ⟨b, o, none⟩ = W0.cell? ⟨b, o, none⟩) ∧ Below W0.heap.size W0 w') (first | with_reducible exact sh_refl _ | (with_reducible refine sh_of ?_; with_reducible assumption) | (with_reducible refine sh_alloc ?_ _; with_reducible assumption) | with_reducible exact sh_first _ _ | (refine sh_of ?_; repeat' (first | with_reducible assumption | with_reducible exact Below.refl _ _ | with_reducible refine Below.drew ?_ | with_reducible refine Below.alloc ?_ (by simp <;> omega) _ | with_reducible refine Below.setCell ?_ (by simp <;> omega) _)))
      (first | (go_at_call 83; have := tok1; clear this tok1; go_split_ands; have hS1 : Below W0.heap.size W0 _ := (by with_reducible assumption); (with_reducible refine (times_any f.speed.x.lo f.speed.x.hi t _ X1.out X2.out HT.out).mono ?_); rintro e w1 ⟨rfl, hb1⟩; have hB1 := sh_next hS1 hb1; obtain ⟨hc1, hf1⟩ := bcell hb1; have hy1 := hb1.size; have hz1 := hB1.size; (try have hs10 : W0.heap.size < w1.heap.size := (by (try simp at hy1); omega))) | (go_at_call 83; go_split_ands; have hS2 : Below W0.heap.size W0 _ := (by with_reducible assumption); (with_reducible refine (times_any f.speed.z.lo f.speed.z.hi t _ X3.out X4.out HT.out).mono ?_); rintro e w2 ⟨rfl, hb2⟩; have hB2 := sh_next hS2 hb2; obtain ⟨hc2, hf2⟩ := bcell hb2; have hy2 := hb2.size; have hz2 := hB2.size; (try have hs20 : W0.heap.size < w2.heap.size := (by (try simp at hy2); omega)); (try have hs21 : w1.heap.size < w2.heap.size := (by (try simp at hy2); omega))))
    all_goals
      go_wp2_with fail
      go_meet
      go_split_ands
      refine ⟨_, rfl, by omega, ?_, ?_, ?_, ?_, Blk.below hKf (by with_reducible assumption) z0, Blk.below hKb (by with_reducible assumption) z1, Below.trans hWb (Below.mono (by with_reducible assumption) (by omega))⟩ <;> first | (simp [*]; done) | (go_simp; done)
  case rest =>
    obtain ⟨A, rfl, hA, q0, q1, q2, q3, hKf, hKb, hB⟩ := hcut
    have hAz := World.block_lt_of_cell? wc _ q0
    have k0 := hKf.cell 0
    have k1 := hKf.cell 1
    have k2 := hKf.cell 2
    have k3 := hKf.cell 3
    simp at k0 k1 k2 k3 hAz
    obtain ⟨t1, t2⟩ := tickb ht ⟨s1, show f.speed.x.lo ≤ 10000 by omega⟩
    obtain ⟨t3, t4⟩ := tickb ht ⟨show -10000 ≤ f.speed.x.hi by omega, s3⟩
    obtain ⟨t5, t6⟩ := tickb ht ⟨s4, show f.speed.z.lo ≤ 10000 by omega⟩
    obtain ⟨t7, t8⟩ := tickb ht ⟨show -10000 ≤ f.speed.z.hi by omega, s6⟩
    obtain ⟨g1, g2⟩ := sqb ht
    have hn := fall_neg t
    have HE : Hid ((.agg #[.int .i64 (f.after t).x.lo, .int .i64 (f.after t).x.hi, .int .i64 (f.after t).z.lo, .int .i64 (f.after t).z.hi] : Value) = .agg #[.int .i64 (f.pos.x.lo + t * f.speed.x.lo + 0), .int .i64 (f.pos.x.hi + t * f.speed.x.hi + 0), .int .i64 (f.pos.z.lo + t * f.speed.z.lo + -49 * t * t), .int .i64 (f.pos.z.hi + t * f.speed.z.hi + -49 * t * t)]) := by
      show (_ : Value) = _
      rw [hn]
      simp only [Fly.after, Int.add_zero, Int.sub_eq_add_neg]
    have S1 : Sml (f.pos.x.lo + t * f.speed.x.lo) := by unfold Sml; omega
    have S2 : Sml (f.pos.x.hi + t * f.speed.x.hi) := by unfold Sml; omega
    have S3 : Sml (f.pos.z.lo + t * f.speed.z.lo) := by unfold Sml; omega
    have S4 : Sml (f.pos.z.hi + t * f.speed.z.hi) := by unfold Sml; omega
    have S5 : Sml (-49 * t * t) := by unfold Sml; omega
    have P1 : Sml f.pos.x.lo := by unfold Sml; omega
    have P2 : Sml f.pos.x.hi := by unfold Sml; omega
    have P3 : Sml f.pos.z.lo := by unfold Sml; omega
    have P4 : Sml f.pos.z.hi := by unfold Sml; omega
    have T1 : Sml (t * f.speed.x.lo) := by unfold Sml; omega
    have T2 : Sml (t * f.speed.x.hi) := by unfold Sml; omega
    have T3 : Sml (t * f.speed.z.lo) := by unfold Sml; omega
    have T4 : Sml (t * f.speed.z.hi) := by unfold Sml; omega
    have S0 : Sml 0 := by unfold Sml; omega
    have m1 : IntKind.i64.wrap (-49 * t) = -49 * t := IntWalk.i64_in _ (by omega)
    have m2 : IntKind.i64.wrap (-49 * t * t) = -49 * t * t := IntWalk.i64_in _ (by omega)
    clear hn
    go_upto_region 3 with (go_at_call 84; refine (bothPlus_any f.pos.x.lo f.pos.x.hi f.pos.z.lo f.pos.z.hi (t * f.speed.x.lo) (t * f.speed.x.hi) (t * f.speed.z.lo) (t * f.speed.z.hi) _ P1 P2 P3 P4 T1 T2 T3 T4).mono ?_; rintro e w1 ⟨rfl, hb1⟩)
    have hB1 := hB.trans (hb1.mono hB.size)
    have hK1 := (hKb.below hb1 hKb.lt).alloc (.cells #[.int .i64 (f.pos.x.lo + t * f.speed.x.lo), .int .i64 (f.pos.x.hi + t * f.speed.x.hi), .int .i64 (f.pos.z.lo + t * f.speed.z.lo), .int .i64 (f.pos.z.hi + t * f.speed.z.hi)] 37)
    have hN1 := Blk.new w1 37 #[.int .i64 (f.pos.x.lo + t * f.speed.x.lo), .int .i64 (f.pos.x.hi + t * f.speed.x.hi), .int .i64 (f.pos.z.lo + t * f.speed.z.lo), .int .i64 (f.pos.z.hi + t * f.speed.z.hi)]
    have hz1 := hb1.size
    refine name_world (motive := fun W => Code.wp _ _ _ _ W) _ ?_
    intro W0 hW
    have hWc := hW.cell
    have hWz := hW.size
    have hWb := hW.below (hB1.alloc hB1.size _)
    have kR := hW.blk hK1
    have kN := hW.blk hN1
    simp only [World.size_alloc] at hWz
    have n0 := kN.cell 0
    have n1 := kN.cell 1
    have n2 := kN.cell 2
    have n3 := kN.cell 3
    simp at n0 n1 n2 n3
    have hne : w1.heap.size ≠ w.heap.size + 1 := by omega
    have hlt : w1.heap.size < W0.heap.size := by omega
    have hle : w.heap.size ≤ W0.heap.size := by omega
    clear hK1 hN1 hKf hKb k0 k1 k2 k3 q0 q1 q2 q3 hWz hWc kN
    go_region_held3 (fun w' => (∀ b o, b < W0.heap.size → b ≠ w.heap.size + 1 → w'.cell? ⟨b, o, none⟩ = W0.cell? ⟨b, o, none⟩) ∧ W0.grownBy w' (some (w.heap.size + 1))) (first | with_reducible exact gr_first _ _ | (with_reducible refine gr_cells ?_; with_reducible assumption) | (refine gr_cells ?_; repeat' (first | with_reducible assumption | with_reducible exact gr_refl _ _ | with_reducible refine gr_drew ?_ | with_reducible refine gr_alloc ?_ _ | with_reducible refine gr_set ?_ _ _)))
      (first | (go_at_call 86; go_split_ands; have hG1 : W0.grownBy _ (some (w.heap.size + 1)) := (by with_reducible assumption); (with_reducible refine (upright_any (-49 * t * t) _).mono ?_); rintro e w1 ⟨rfl, hb1⟩; have hF1 := gr_call hG1 hb1; obtain ⟨hc1, hf1⟩ := bcell hb1; have hy1 := hb1.size; have hz1 := hF1.size; have kR1 := Blk.below (Blk.drew kR) hb1 (Blk.lt (Blk.drew kR))) | (go_at_call 84; go_split_ands; have hG2 : W0.grownBy _ (some (w.heap.size + 1)) := (by with_reducible assumption); (with_reducible refine (bothPlus_any (f.pos.x.lo + t * f.speed.x.lo) (f.pos.x.hi + t * f.speed.x.hi) (f.pos.z.lo + t * f.speed.z.lo) (f.pos.z.hi + t * f.speed.z.hi) 0 0 (-49 * t * t) (-49 * t * t) _ S1 S2 S3 S4 S0 S0 S5 S5).mono ?_); rintro e w2 ⟨rfl, hb2⟩; have hF2 := gr_call hG2 hb2; obtain ⟨hc2, hf2⟩ := bcell hb2; have hy2 := hb2.size; have hz2 := hF2.size; have kR2 := Blk.below kR1 hb2 (Blk.lt kR1); have ckR2_0 := kR2.cell 0; have fkR2_0 := kR2.frozen 0; have ckR2_1 := kR2.cell 1; have fkR2_1 := kR2.frozen 1; have ckR2_2 := kR2.cell 2; have fkR2_2 := kR2.frozen 2; have ckR2_3 := kR2.cell 3; have fkR2_3 := kR2.frozen 3; have lkR2 := kR2.lt; simp at ckR2_0 ckR2_1 ckR2_2 ckR2_3))
    all_goals go_wp2
    rename_i hh
    rw [HE.out]
    have kF := ((((kR2.set_ 0 (.int .i64 (f.pos.x.lo + t * f.speed.x.lo + 0))).set_ 1 (.int .i64 (f.pos.x.hi + t * f.speed.x.hi + 0))).set_ 2 (.int .i64 (f.pos.z.lo + t * f.speed.z.lo + -49 * t * t))).set_ 3 (.int .i64 (f.pos.z.hi + t * f.speed.z.hi + -49 * t * t)))
    have r0 := kF.cell 0
    have r1 := kF.cell 1
    have r2 := kF.cell 2
    have r3 := kF.cell 3
    simp at r0 r1 r2 r3
    refine bodyPost_ret (v := .agg #[.int .i64 (f.pos.x.lo + t * f.speed.x.lo + 0), .int .i64 (f.pos.x.hi + t * f.speed.x.hi + 0), .int .i64 (f.pos.z.lo + t * f.speed.z.lo + -49 * t * t), .int .i64 (f.pos.z.hi + t * f.speed.z.hi + -49 * t * t)]) (by simp [results, Try.results55, go_sem, r0, r1, r2, r3]) rfl ⟨rfl, ?_⟩
    exact gr_below hh.2 hWb hle (by omega)
end Go.Proofs.Ytbagfapalkmikaa
