import Derived.Test.YthelogdgfhfdcaaCan6
namespace Go.Proofs.Ythelogdgfhfdcaa
open Go.RowKit

structure Shr where
  first : Int
  second : Int
  whole : Int
def splitM (v f g : Vec) : Shr :=
  if f.cross g < 0 then ⟨-(v.cross g), -(f.cross v), -(f.cross g)⟩ else ⟨v.cross g, f.cross v, f.cross g⟩
theorem VB.smc {v u : Vec} {p q : Int} (hv : VB v p) (hu : VB u q) (h : p * q ≤ 2000000000000000000) : (Sm (v.x * u.y) ∧ Sm (v.y * u.x)) ∧ (-(2 * (p * q)) ≤ v.cross u ∧ v.cross u ≤ 2 * (p * q)) := by
  have h1 := mulb hv.1 hu.2
  have h2 := mulb hv.2 hu.1
  unfold Sm Vec.cross
  omega

set_option maxHeartbeats 1000000 in
theorem split_any (v f g : Vec) (w : World) (hv : VB v 100000000) (hf : VB f 500000) (hg : VB g 500000) :
    Calls Try.prog 103 #[.agg #[.int .i64 v.x, .int .i64 v.y], .agg #[.int .i64 f.x, .int .i64 f.y], .agg #[.int .i64 g.x, .int .i64 g.y]] w fun e w' => e = .returned (.agg #[.int .i64 (splitM v f g).first, .int .i64 (splitM v f g).second, .int .i64 (splitM v f g).whole]) ∧ Below w.heap.size w w' := by
  obtain ⟨⟨a1, a2⟩, a3, a4⟩ := hv.smc hg (by omega)
  obtain ⟨⟨b1, b2⟩, b3, b4⟩ := hf.smc hv (by omega)
  obtain ⟨⟨c1, c2⟩, c3, c4⟩ := hf.smc hg (by omega)
  have B3 := Lib.hid (And.intro a3 a4)
  have B4 := Lib.hid (And.intro b3 b4)
  have B5 := Lib.hid (And.intro c3 c4)
  clear hv hf hg a3 a4 b3 b4 c3 c4
  have HS : Hid (splitM v f g = if f.cross g < 0 then ⟨-(v.cross g), -(f.cross v), -(f.cross g)⟩ else ⟨v.cross g, f.cross v, f.cross g⟩) := rfl
  have n1 : IntKind.i64.wrap (-(v.cross g)) = -(v.cross g) := IntWalk.i64_in _ (by have := B3.out; omega)
  have n2 : IntKind.i64.wrap (-(f.cross v)) = -(f.cross v) := IntWalk.i64_in _ (by have := B4.out; omega)
  have n3 : IntKind.i64.wrap (-(f.cross g)) = -(f.cross g) := IntWalk.i64_in _ (by have := B5.out; omega)
  go_enter Try.func103, Try.ntmps103
  go_upto_region 1 with fail
  go_cut [7] (fun s7 wx => ∃ A : Nat, s7 = .pointer (some ⟨A, 0, none⟩) ∧ w.heap.size + 3 < A ∧ wx.cell? ⟨A, 0, none⟩ = some (.int .i64 (v.cross g)) ∧ wx.cell? ⟨A, 1, none⟩ = some (.int .i64 (f.cross v)) ∧ wx.cell? ⟨A, 2, none⟩ = some (.int .i64 (f.cross g)) ∧ Blk wx (w.heap.size + 3) 169 #[.int .i64 0, .int .i64 0, .int .i64 0] ∧ Below w.heap.size w wx)
  case first =>
    refine name_world (motive := fun W => Code.wp _ _ _ _ W) _ ?_
    intro W0 hW
    have hWc := hW.cell
    have hWz := hW.size
    have hWb := hW.below ((((Below.refl w.heap.size w).alloc (Nat.le_refl _) _).alloc (by simp) _).alloc (by simp; omega) _ |>.alloc (by simp; omega) _)
    simp only [World.size_alloc] at hWz
    have z0 : w.heap.size < W0.heap.size := by omega
    have z1 : w.heap.size + 1 < W0.heap.size := by omega
    have z2 : w.heap.size + 2 < W0.heap.size := by omega
    have z3 : w.heap.size + 3 < W0.heap.size := by omega
    have hK : Blk W0 (w.heap.size + 3) 169 #[.int .i64 0, .int .i64 0, .int .i64 0] := by
      rw [hW.eq.out]
      have := Blk.new (((w.alloc (.cells #[.int .i64 v.x, .int .i64 v.y] 74)).alloc (.cells #[.int .i64 f.x, .int .i64 f.y] 74)).alloc (.cells #[.int .i64 g.x, .int .i64 g.y] 74)) 169 #[.int .i64 0, .int .i64 0, .int .i64 0]
      simpa using this
    clear hWz
    go_region_held3 (fun w' => (∀ b o, b < W0.heap.size → w'.cell? ⟨b, o, none⟩ = W0.cell? ⟨b, o, none⟩) ∧ Below W0.heap.size W0 w') (first | with_reducible exact sh_refl _ | (with_reducible refine sh_of ?_; with_reducible assumption) | (with_reducible refine sh_alloc ?_ _; with_reducible assumption) | with_reducible exact sh_first _ _ | (refine sh_of ?_; repeat' (first | with_reducible assumption | with_reducible exact Below.refl _ _ | with_reducible refine Below.drew ?_ | with_reducible refine Below.alloc ?_ (by simp <;> omega) _ | with_reducible refine Below.setCell ?_ (by simp <;> omega) _)))
      (first | (go_at_call 120; go_split_ands; have hS1 : Below W0.heap.size W0 _ := (by with_reducible assumption); (with_reducible refine (cross_any v g _ a1 a2).mono ?_); rintro e w1 ⟨rfl, hb1⟩; have hB1 := sh_next hS1 hb1; obtain ⟨hc1, hf1⟩ := bcell hb1; have hy1 := hb1.size; have hz1 := hB1.size; (try have hs10 : W0.heap.size < w1.heap.size := (by (try simp at hy1); omega))) | (go_at_call 120; go_split_ands; have hS2 : Below W0.heap.size W0 _ := (by with_reducible assumption); (with_reducible refine (cross_any f v _ b1 b2).mono ?_); rintro e w2 ⟨rfl, hb2⟩; have hB2 := sh_next hS2 hb2; obtain ⟨hc2, hf2⟩ := bcell hb2; have hy2 := hb2.size; have hz2 := hB2.size; (try have hs20 : W0.heap.size < w2.heap.size := (by (try simp at hy2); omega)); (try have hs21 : w1.heap.size < w2.heap.size := (by (try simp at hy2); omega))) | (go_at_call 120; go_split_ands; have hS3 : Below W0.heap.size W0 _ := (by with_reducible assumption); (with_reducible refine (cross_any f g _ c1 c2).mono ?_); rintro e w3 ⟨rfl, hb3⟩; have hB3 := sh_next hS3 hb3; obtain ⟨hc3, hf3⟩ := bcell hb3; have hy3 := hb3.size; have hz3 := hB3.size; (try have hs30 : W0.heap.size < w3.heap.size := (by (try simp at hy3); omega)); (try have hs31 : w1.heap.size < w3.heap.size := (by (try simp at hy3); omega)); (try have hs32 : w2.heap.size < w3.heap.size := (by (try simp at hy3); omega))))
    all_goals
      go_wp2_with fail
      go_meet
      go_split_ands
      refine ⟨_, rfl, by omega, ?_, ?_, ?_, Blk.below hK (by with_reducible assumption) z3, Below.trans hWb (Below.mono (by with_reducible assumption) (by omega))⟩ <;> first | (simp [*]; done) | (go_simp; done)
  case rest =>
    obtain ⟨A, rfl, hA, q0, q1, q2, hK, hB⟩ := hcut
    have hAz := World.block_lt_of_cell? wc _ q0
    have k0 := hK.cell 0
    have k1 := hK.cell 1
    have k2 := hK.cell 2
    have f0 := hK.frozen 0
    have f1 := hK.frozen 1
    have f2 := hK.frozen 2
    simp at k0 k1 k2 hAz
    have hneA : w.heap.size + 3 ≠ A := by omega
    by_cases hneg : f.cross g < 0
    · rw [if_pos hneg] at HS
      go_wp2
      have bf := ((hK.set_ 0 (.int .i64 (-(v.cross g)))).set_ 1 (.int .i64 (-(f.cross v)))).set_ 2 (.int .i64 (-(f.cross g)))
      have v0 := bf.cell 0
      have v1 := bf.cell 1
      have v2 := bf.cell 2
      simp at v0 v1 v2
      rw [HS.out]
      exact bodyPost_ret (v := .agg #[(.int .i64 (-(v.cross g))), (.int .i64 (-(f.cross v))), (.int .i64 (-(f.cross g)))]) (by simp [results, Try.results103, go_sem, v0, v1, v2]) rfl ⟨rfl, ((hB.setCell (by show w.heap.size ≤ w.heap.size + 3; omega) _).setCell (by show w.heap.size ≤ w.heap.size + 3; omega) _).setCell (by show w.heap.size ≤ w.heap.size + 3; omega) _⟩
    · rw [if_neg hneg] at HS
      go_wp2
      have bf := ((hK.set_ 0 (.int .i64 (v.cross g))).set_ 1 (.int .i64 (f.cross v))).set_ 2 (.int .i64 (f.cross g))
      have v0 := bf.cell 0
      have v1 := bf.cell 1
      have v2 := bf.cell 2
      simp at v0 v1 v2
      rw [HS.out]
      exact bodyPost_ret (v := .agg #[(.int .i64 (v.cross g)), (.int .i64 (f.cross v)), (.int .i64 (f.cross g))]) (by simp [results, Try.results103, go_sem, v0, v1, v2]) rfl ⟨rfl, ((hB.setCell (by show w.heap.size ≤ w.heap.size + 3; omega) _).setCell (by show w.heap.size ≤ w.heap.size + 3; omega) _).setCell (by show w.heap.size ≤ w.heap.size + 3; omega) _⟩
end Go.Proofs.Ythelogdgfhfdcaa
