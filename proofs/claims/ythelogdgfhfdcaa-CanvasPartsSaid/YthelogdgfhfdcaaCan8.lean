import Derived.Test.YthelogdgfhfdcaaCan4
import Derived.Test.YthelogdgfhfdcaaCan6
import Derived.Test.YthelogdgfhfdcaaRef3
namespace Go.Proofs.Ythelogdgfhfdcaa
open Go.RowKit

theorem lengthF_any (sq n : Int) (w : World) (B : Nat) (hn : 0 ≤ n ∧ n ≤ 100000) (_hB : B < w.heap.size) (k : w.cell? ⟨B, 0, none⟩ = some (.int .i64 sq)) :
    Calls Try.prog 127 #[.int .i64 n, .pointer (some ⟨B, 0, none⟩)] w fun e w' => e = .returned (.bool (decide (sq ≤ n * n))) ∧ Below w.heap.size w w' := by
  have h1 := mulb (a := n) (b := n) (p := 100000) (q := 100000) (by omega) (by omega)
  go_enter Try.func127, Try.ntmps127
  go_wp2
  go_ret
  exact ⟨rfl, Below.refl _ _⟩

theorem root_spec {g : Guy} (hg : g.ok = true) : (0 ≤ g.length ∧ g.length ≤ 10000) ∧ (∀ h, 0 ≤ h → h < g.length → decide (g.sq ≤ h * h) = false) ∧ (∀ h, g.length ≤ h → h < 10000 → decide (g.sq ≤ h * h) = true) := by
  have hs := sq_bounds hg
  have hl := length_bounds hg
  have key : ∀ (f : Nat) (n : Int), 0 ≤ n → (∀ h, n ≤ h → h < rootFrom g.sq f n → h * h < g.sq) ∧ (rootFrom g.sq f n < n + f → g.sq ≤ rootFrom g.sq f n * rootFrom g.sq f n) := by
    intro f
    induction f with
    | zero => intro n _; exact ⟨fun h h1 h2 => by simp [rootFrom] at h2; omega, fun h => by simp [rootFrom] at h⟩
    | succ f ih =>
      intro n hn
      by_cases hc : n * n < g.sq
      · rw [rootFrom_step hc]
        obtain ⟨i1, i2⟩ := ih (n + 1) (by omega)
        refine ⟨fun h h1 h2 => ?_, fun h => i2 (by omega)⟩
        by_cases he : h = n
        · subst he; exact hc
        · exact i1 h (by omega) h2
      · rw [rootFrom_stop hc]
        exact ⟨fun h h1 h2 => by omega, fun _ => by omega⟩
  obtain ⟨k1, k2⟩ := key 10000 0 (Int.le_refl _)
  change (∀ h, 0 ≤ h → h < g.length → h * h < g.sq) at k1
  change (g.length < 0 + _ → g.sq ≤ g.length * g.length) at k2
  have hlt : g.length < 10000 := by
    refine Int.not_le.1 fun hc => ?_
    have := k1 9999 (by omega) (by omega)
    omega
  have hge := k2 (by omega)
  refine ⟨by omega, fun h h1 h2 => by have := k1 h h1 h2; simp; omega, fun h h1 h2 => ?_⟩
  have := Int.mul_le_mul h1 h1 (by omega) (by omega)
  simp; omega

set_option maxHeartbeats 1000000 in
theorem length_any (g : Guy) (w : World) (hg : g.ok = true) :
    Calls Try.prog 118 #[.agg #[.int .i64 g.x, .int .i64 g.y, .int .i64 g.down, .int .i64 g.soil, .int .i64 g.depth]] w fun e w' => e = .returned (.int .i64 g.length) ∧ Below w.heap.size w w' := by
  obtain ⟨⟨a1, a2⟩, ⟨a3, a4⟩, _⟩ := Guy.ok_iff.1 hg
  obtain ⟨⟨r1, r2⟩, R3, R4⟩ := root_spec hg
  have R3 := Lib.hid R3
  have R4 := Lib.hid R4
  have gv : VB ⟨g.x, g.y⟩ 5000 := ⟨by simp only; omega, by simp only; omega⟩
  obtain ⟨s1, s2⟩ := gv.sm gv (by omega)
  have HQ : Hid (Vec.dot ⟨g.x, g.y⟩ ⟨g.x, g.y⟩ = g.sq) := rfl
  clear hg gv a1 a2 a3 a4
  go_enter Try.func118, Try.ntmps118
  go_upto_region 1 with fail
  go_cut [3] (fun s3 wx => ∃ A : Nat, s3 = .pointer (some ⟨A, 0, none⟩) ∧ w.heap.size < A ∧ wx.cell? ⟨A, 0, none⟩ = some (.int .i64 (Vec.dot ⟨g.x, g.y⟩ ⟨g.x, g.y⟩)) ∧ Below w.heap.size w wx)
  case first =>
    refine name_world (motive := fun W => Code.wp _ _ _ _ W) _ ?_
    intro W0 hW
    have hWc := hW.cell
    have hWz := hW.size
    have hWb := hW.below ((Below.refl w.heap.size w).alloc (Nat.le_refl _) _)
    simp only [World.size_alloc] at hWz
    have z0 : w.heap.size < W0.heap.size := by omega
    clear hWz
    have tok1 : True := trivial
    go_region_held3 (fun w' => (∀ b o, b < W0.heap.size → w'.cell? ⟨b, o, none⟩ = W0.cell? ⟨b, o, none⟩) ∧ Below W0.heap.size W0 w') (first | with_reducible exact sh_refl _ | (with_reducible refine sh_of ?_; with_reducible assumption) | (with_reducible refine sh_alloc ?_ _; with_reducible assumption) | with_reducible exact sh_first _ _ | (refine sh_of ?_; repeat' (first | with_reducible assumption | with_reducible exact Below.refl _ _ | with_reducible refine Below.drew ?_ | with_reducible refine Below.alloc ?_ (by simp <;> omega) _ | with_reducible refine Below.setCell ?_ (by simp <;> omega) _)))
      (first | (go_at_call 98; have := tok1; clear this tok1; go_split_ands; have hS1 : Below W0.heap.size W0 _ := (by with_reducible assumption); (with_reducible refine (pull_any g _).mono ?_); rintro e w1 ⟨rfl, hb1⟩; have hB1 := sh_next hS1 hb1; obtain ⟨hc1, hf1⟩ := bcell hb1; have hy1 := hb1.size; have hz1 := hB1.size; (try have hs10 : W0.heap.size < w1.heap.size := (by (try simp at hy1); omega))) | (go_at_call 98; go_split_ands; have hS2 : Below W0.heap.size W0 _ := (by with_reducible assumption); (with_reducible refine (pull_any g _).mono ?_); rintro e w2 ⟨rfl, hb2⟩; have hB2 := sh_next hS2 hb2; obtain ⟨hc2, hf2⟩ := bcell hb2; have hy2 := hb2.size; have hz2 := hB2.size; (try have hs20 : W0.heap.size < w2.heap.size := (by (try simp at hy2); omega)); (try have hs21 : w1.heap.size < w2.heap.size := (by (try simp at hy2); omega))) | (go_at_call 110; go_split_ands; have hS3 : Below W0.heap.size W0 _ := (by with_reducible assumption); (with_reducible refine (dot_any ⟨g.x, g.y⟩ ⟨g.x, g.y⟩ _ s1 s2).mono ?_); rintro e w3 ⟨rfl, hb3⟩; have hB3 := sh_next hS3 hb3; obtain ⟨hc3, hf3⟩ := bcell hb3; have hy3 := hb3.size; have hz3 := hB3.size; (try have hs30 : W0.heap.size < w3.heap.size := (by (try simp at hy3); omega)); (try have hs31 : w1.heap.size < w3.heap.size := (by (try simp at hy3); omega)); (try have hs32 : w2.heap.size < w3.heap.size := (by (try simp at hy3); omega))))
    all_goals
      go_wp2_with fail
      go_meet
      go_split_ands
      refine ⟨_, rfl, by omega, ?_, Below.trans hWb (Below.mono (by with_reducible assumption) (by omega))⟩
    all_goals first | (simp [*]; done) | (go_simp; done)
  case rest =>
    obtain ⟨A, rfl, hA, hK, hB⟩ := hcut
    have hAz := World.block_lt_of_cell? wc _ hK
    rw [HQ.out] at hK
    go_wp2_with fail
    refine (searchL_any 10000 g.length (fun h => decide (g.sq ≤ h * h)) _ _ ⟨r1, r2, by omega⟩ R3.out R4.out ?_).mono ?_
    · intro h W b h0 h1 hB2 hp
      subst hp
      exact lengthF_any g.sq h W A (by omega) (by have := hB2.size; omega) (by rw [hB2.cell (p := ⟨A, 0, none⟩) hAz, hK])
    · rintro e w1 ⟨rfl, hb1⟩
      go_wp2
      go_ret
      exact ⟨rfl, hB.trans (hb1.mono hB.size)⟩

set_option maxHeartbeats 1000000 in
theorem part_any (A : Option Addr) (c : Nat) (l : List Tst) (w : World) (g : Guy) (hr : RS encT 4 w w.heap.size A l) (hl : l.length ≤ maxLen) (hok : ∀ x ∈ l, x.ok = true) (hg : g.ok = true) :
    Calls Try.prog 95 #[.agg #[.int .i64 g.x, .int .i64 g.y, .int .i64 g.down, .int .i64 g.soil, .int .i64 g.depth], .slice A l.length c] w fun e w' => e = .returned (.int .i64 (g.part l)) ∧ Below w.heap.size w w' := by
  obtain ⟨_, _, _, _, _, ga, gb⟩ := Guy.ok_iff.1 hg
  have Hg := Lib.hid hg
  have Hok := Lib.hid hok
  obtain ⟨h1, h2⟩ := holds_lo (soil := g.soil) hok ga gb
  obtain ⟨h3, h4⟩ := length_bounds hg
  have h5 : 0 ≤ 100 * (holdsM l g.soil g.depth).1 / g.length := Int.ediv_nonneg (by omega) (by omega)
  have h6 : 100 * (holdsM l g.soil g.depth).1 / g.length ≤ 1500000000 := by have := Int.ediv_le_self (a := 100 * (holdsM l g.soil g.depth).1) g.length (by omega); omega
  have HP : Hid (g.part l = partOf (holdsM l g.soil g.depth).1 g.length) := rfl
  have e0 : (g.length == 0) = false := by simp; omega
  have e1 : g.length ≠ 0 := by omega
  have v1 : IntKind.i64.wrap (100 * (holdsM l g.soil g.depth).1) = 100 * (holdsM l g.soil g.depth).1 := IntWalk.i64_in _ (by omega)
  have v2 : IntKind.i64.wrap ((100 * (holdsM l g.soil g.depth).1).tdiv g.length) = 100 * (holdsM l g.soil g.depth).1 / g.length := IntWalk.i64_quo _ _ (by omega)
  clear hg hok
  go_enter Try.func95, Try.ntmps95
  go_wp2
  refine name_world (motive := fun W => Code.wp _ _ _ _ W) _ ?_
  intro W0 hW
  have hWc := hW.cell
  have hWz := hW.size
  have hWb := hW.below ((Below.refl w.heap.size w).alloc (Nat.le_refl _) _)
  have hr0 := (hr.below hWb (Nat.le_refl _)).more hWb.size
  rw [World.size_alloc] at hWz
  go_region_held3 (fun w' => (∀ b o, b < W0.heap.size → w'.cell? ⟨b, o, none⟩ = W0.cell? ⟨b, o, none⟩) ∧ Below W0.heap.size W0 w') (first | with_reducible exact sh_refl _ | (with_reducible refine sh_of ?_; with_reducible assumption) | (with_reducible refine sh_alloc ?_ _; with_reducible assumption) | with_reducible exact sh_first _ _)
    (first | (go_at_call 63; go_split_ands; have hS1 : Below W0.heap.size W0 _ := (by with_reducible assumption); refine (holds_any _ _ _ _ _ _ (hr0.to hS1) hl Hok.out ga gb).mono ?_; rintro e w1 ⟨rfl, hb1⟩; have hB1 := sh_next hS1 hb1) | (go_at_call 118; go_split_ands; have hS2 : Below W0.heap.size W0 _ := (by with_reducible assumption); refine (length_any _ _ Hg.out).mono ?_; rintro e w2 ⟨rfl, hb2⟩; have hB2 := sh_next hS2 hb2))
  all_goals go_wp2
  all_goals
    go_ret
    clear v1 v2
    exact ⟨ret_int (by rw [HP.out, partOf]; omega), hWb.trans (hB2.mono hWb.size)⟩
end Go.Proofs.Ythelogdgfhfdcaa
