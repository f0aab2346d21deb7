import Derived.Test.YthelogdgfhfdcaaRef2
import Derived.Test.YthelogdgfhfdcaaHeads
namespace Go.Proofs.Ythelogdgfhfdcaa
open Go.RowKit

theorem refLength_any (g : Guy) (hg : g.ok = true) (w : World) :
    Calls Try.prog 73 #[.agg #[.int .i64 g.x, .int .i64 g.y, .int .i64 g.down, .int .i64 g.soil, .int .i64 g.depth]] w fun e w' => e = .returned (.int .i64 g.length) ∧ Below w.heap.size w w' := by
  obtain ⟨⟨a, b⟩, ⟨c, d⟩, _⟩ := Guy.ok_iff.1 hg
  have hs := sq_bounds hg
  have hx1 : 0 ≤ g.x * g.x := by rw [← Int.natAbs_mul_self]; omega
  have hy1 : 0 ≤ g.y * g.y := by rw [← Int.natAbs_mul_self]; omega
  unfold Guy.sq at hs
  go_enter Try.func73, Try.ntmps73
  go_wp2
  go_loop [3] (fun i => ∃ k : Nat, k ≤ 7072 ∧ i = .int .i64 k ∧ rootFrom g.sq (10000 - k) k = g.length) (fun i => 7072 - (intOf i).toNat)
  case atStart => exact ⟨0, by omega, rfl, rfl⟩
  case round =>
    obtain ⟨k, hk, rfl, hroot⟩ := hrel
    have Hroot := Lib.hid hroot
    clear hroot
    have k1 : 0 ≤ (k : Int) * k := Int.mul_nonneg (by omega) (by omega)
    have k2 : (k : Int) * k ≤ 50013184 := by have := Int.mul_le_mul (show (k : Int) ≤ 7072 by omega) (show (k : Int) ≤ 7072 by omega) (by omega) (by omega); omega
    by_cases hlt : (k : Int) * k < g.x * g.x + g.y * g.y
    · have k3 := sq_lt_imp (n := (k : Int)) (by omega) (by omega)
      go_wp2
      go_round
      case rel =>
        refine ⟨k + 1, by omega, by go_num, ?_⟩
        rw [← Hroot.out, show 10000 - k = (10000 - (k + 1)) + 1 from by omega, rootFrom_step (s := g.sq) hlt]; rfl
      case measure => simp [intOf]; omega
    · go_wp2
      go_ret
      refine ⟨ret_int ?_, (Below.refl _ _).alloc (Nat.le_refl _) _⟩
      rw [← Hroot.out, rootFrom_stop (s := g.sq) (by unfold Guy.sq; omega)]

set_option maxRecDepth 100000 in
set_option maxHeartbeats 1000000 in
theorem refPart_any (A : Option Addr) (c : Nat) (l : List Tst) (w : World) (g : Guy) (hr : RS encT 4 w w.heap.size A l) (hl : l.length ≤ maxLen) (hok : ∀ x ∈ l, x.ok = true) (hg : g.ok = true) :
    Calls Try.prog 35 #[.slice A l.length c, .agg #[.int .i64 g.x, .int .i64 g.y, .int .i64 g.down, .int .i64 g.soil, .int .i64 g.depth]] w fun e w' => e = .returned (.int .i64 (g.part l)) ∧ Below w.heap.size w w' := by
  obtain ⟨_, _, _, _, _, ga, gb⟩ := Guy.ok_iff.1 hg
  have Hg := Lib.hid hg
  have Hok := Lib.hid hok
  obtain ⟨h1, h2⟩ := holds_lo (soil := g.soil) hok ga gb
  obtain ⟨h3, h4⟩ := length_bounds hg
  have h5 : 0 ≤ 100 * (holdsM l g.soil g.depth).1 / g.length := Int.ediv_nonneg (by omega) (by omega)
  have h6 : 100 * (holdsM l g.soil g.depth).1 / g.length ≤ 1500000000 := by have := Int.ediv_le_self (a := 100 * (holdsM l g.soil g.depth).1) g.length (by omega); omega
  have HP : Hid (g.part l = partOf (holdsM l g.soil g.depth).1 g.length) := rfl
  have e0 : (g.length == 0) = false := by simp; omega
  have e1 : g.length ≠ 0 := by omega
  have v1 : IntKind.i64.wrap (100 * (holdsM l g.soil g.depth).1) = 100 * (holdsM l g.soil g.depth).1 := IntWalk.i64_in _ (by omega)
  have v2 : IntKind.i64.wrap ((100 * (holdsM l g.soil g.depth).1).tdiv g.length) = 100 * (holdsM l g.soil g.depth).1 / g.length := IntWalk.i64_quo _ _ (by omega)
  clear hg hok
  go_enter Try.func35, Try.ntmps35
  go_wp2
  refine name_world (motive := fun W => Code.wp _ _ _ _ W) _ ?_
  intro W0 hW
  have hWc := hW.cell
  have hWz := hW.size
  have hWb := hW.below ((Below.refl w.heap.size w).alloc (Nat.le_refl _) _)
  have hr0 := (hr.below hWb (Nat.le_refl _)).more hWb.size
  rw [World.size_alloc] at hWz
  go_region_held3 (fun w' => (∀ b o, b < W0.heap.size → w'.cell? ⟨b, o, none⟩ = W0.cell? ⟨b, o, none⟩) ∧ Below W0.heap.size W0 w') (first | exact sh_refl _ | exact sh_of (by assumption) | exact sh_alloc (by assumption) _)
    (first | (go_at_call 25; go_split_ands; have hS : Below W0.heap.size W0 _ := (by assumption); refine (refHolds_any _ _ _ _ _ _ (hr0.to hS) hl Hok.out ga gb).mono ?_; rintro e w1 ⟨rfl, hb1⟩; have hB1 := sh_next hS hb1) | (go_at_call 73; go_split_ands; have hS2 : Below W0.heap.size W0 _ := (by assumption); refine (refLength_any _ Hg.out _).mono ?_; rintro e w2 ⟨rfl, hb2⟩; have hB2 := sh_next hS2 hb2))
  all_goals go_wp2
  all_goals
    go_ret
    clear v1 v2
    exact ⟨ret_int (by rw [HP.out, partOf]; omega), hWb.trans (hB2.mono hWb.size)⟩
end Go.Proofs.Ythelogdgfhfdcaa
