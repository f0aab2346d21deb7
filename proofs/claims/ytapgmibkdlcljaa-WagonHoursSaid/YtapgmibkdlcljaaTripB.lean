import Derived.Test.YtapgmibkdlcljaaTripA

/- What a trip takes. -/
namespace Go.Proofs.Ytapgmibkdlcljaa
open Go.RowKit
set_option maxHeartbeats 4000000 in
theorem takes_ok (r : Rul) (n : Int) (w : World) (hr : r.ok = true) (h1 : 0 ≤ n) (h2 : n ≤ 201) : Calls Try.prog 47 #[.agg #[.int .i64 r.drive, .int .i64 r.stint, .int .i64 r.brk, .int .i64 r.rest], .int .i64 n] w fun e w' => e = .returned (.int .i64 (r.takes n)) ∧ Below w.heap.size w w' := by
  by_cases hn : n = 0
  · subst hn
    go_enter Try.func47, Try.ntmps47
    go_wp2
    go_ret
    exact ⟨ret_int (by simp [Rul.takes]), (Below.refl _ _).alloc (Nat.le_refl _) _⟩
  · obtain ⟨⟨d1, d2⟩, ⟨s1, s2⟩, ⟨b1, b2⟩, ⟨r1, r2⟩⟩ := Rul.ok_iff.1 hr
    have hd0 : ¬ r.drive = 0 := by omega
    obtain ⟨k1, k2, k3⟩ := shift_in hr h1
    obtain ⟨x1, x2⟩ := breaks_in hr d1 d2
    obtain ⟨y1, y2⟩ := breaks_in hr (k3 hn) (by omega)
    obtain ⟨q1, q2⟩ := div_in (n := n - 1) (m := 200) (by omega) (by omega) d1
    obtain ⟨p1, p2⟩ := mul_in q1 q2 (show 0 ≤ r.breaks r.drive + r.rest by omega) (show r.breaks r.drive + r.rest ≤ 208 by omega)
    obtain ⟨p3, p4⟩ := mul_in q1 q2 (show 0 ≤ r.drive by omega) d2
    have hl : n - (n - 1) / r.drive * r.drive = r.shift n := by rw [last_eq, Rul.shift, if_neg hn]
    have ht : r.takes n = n + (n - 1) / r.drive * (r.breaks r.drive + r.rest) + r.breaks (r.shift n) := takes_shift hn
    have B1 : Hid (∀ W : World, Calls Try.prog 68 #[.agg #[.int .i64 r.drive, .int .i64 r.stint, .int .i64 r.brk, .int .i64 r.rest], .int .i64 r.drive] W fun e w' => e = .returned (.int .i64 (r.breaks r.drive)) ∧ Below W.heap.size W w') := fun W => breaks_ok r r.drive W hr d1 d2
    have B2 : Hid (∀ W : World, Calls Try.prog 68 #[.agg #[.int .i64 r.drive, .int .i64 r.stint, .int .i64 r.brk, .int .i64 r.rest], .int .i64 (r.shift n)] W fun e w' => e = .returned (.int .i64 (r.breaks (r.shift n))) ∧ Below W.heap.size W w') := fun W => breaks_ok r (r.shift n) W hr (k3 hn) (by omega)
    have e1 : IntKind.i64.wrap (n - 1) = n - 1 := IntWalk.i64_in _ (by omega)
    have e2 : IntKind.i64.wrap ((n - 1).tdiv r.drive) = (n - 1) / r.drive := IntWalk.i64_quo _ _ ⟨by omega, by omega, d1⟩
    obtain ⟨q, hq⟩ : ∃ q, (n - 1) / r.drive = q := ⟨_, rfl⟩
    obtain ⟨x, hx⟩ : ∃ x, r.breaks r.drive = x := ⟨_, rfl⟩
    obtain ⟨y, hy⟩ : ∃ y, r.breaks (r.shift n) = y := ⟨_, rfl⟩
    obtain ⟨l, hll⟩ : ∃ l, r.shift n = l := ⟨_, rfl⟩
    obtain ⟨T, hT⟩ : ∃ T, r.takes n = T := ⟨_, rfl⟩
    rw [hx] at B1 ht p1 p2 x1 x2
    rw [hy] at B2 ht y1 y2
    rw [hq] at hl ht e2 p1 p2 p3 p4 q1 q2
    rw [hll] at B2 hl k1 k2 k3
    rw [hT] at ht ⊢
    clear hq hx hy hll hT
    have e3 : IntKind.i64.wrap (q * r.drive) = q * r.drive := IntWalk.i64_in _ (by omega)
    have e4 : IntKind.i64.wrap (n - q * r.drive) = l := by rw [hl]; exact IntWalk.i64_in _ (by omega)
    have e5 : IntKind.i64.wrap (x + r.rest) = x + r.rest := IntWalk.i64_in _ (by omega)
    have e6 : IntKind.i64.wrap (q * (x + r.rest)) = q * (x + r.rest) := IntWalk.i64_in _ (by omega)
    have e7 : IntKind.i64.wrap (n + q * (x + r.rest)) = n + q * (x + r.rest) := IntWalk.i64_in _ (by omega)
    have e8 : IntKind.i64.wrap (n + q * (x + r.rest) + y) = T := by rw [← ht]; exact IntWalk.i64_in _ (by omega)
    clear hr hl ht p1 p2 p3 p4 k1 k2 k3 x1 x2 y1 y2 q1 q2
    go_enter Try.func47, Try.ntmps47
    go_upto_region 5 with fail
    refine name_world (motive := fun W => Code.wp _ _ _ _ W) _ ?_
    intro W0 hW
    have hWc := hW.cell
    have hWz := hW.size
    have hWb := hW.below ((Below.refl _ _).alloc (Nat.le_refl _) _)
    go_region_held3 (fun w' => (∀ b o, b < W0.heap.size → w'.cell? ⟨b, o, none⟩ = W0.cell? ⟨b, o, none⟩) ∧ Below W0.heap.size W0 w') (first | with_reducible exact sh_refl _ | (with_reducible refine sh_of ?_; with_reducible assumption) | (with_reducible refine sh_alloc ?_ _; with_reducible assumption) | with_reducible exact sh_first _ _)
      (first | (go_at_call 68; go_split_ands; have hS1 : Below W0.heap.size W0 _ := (by with_reducible assumption); (with_reducible refine (B1.out _).mono ?_); rintro e w1 ⟨rfl, hb1⟩; have hB1 := sh_next hS1 hb1) | (go_at_call 68; go_split_ands; have hS2 : Below W0.heap.size W0 _ := (by with_reducible assumption); (with_reducible refine (B2.out _).mono ?_); rintro e w2 ⟨rfl, hb2⟩; have hB2 := sh_next hS2 hb2))
    all_goals go_wp2
    all_goals go_ret
    all_goals exact ⟨rfl, hWb.trans ((by with_reducible assumption : Below W0.heap.size W0 _).mono hWb.size)⟩
end Go.Proofs.Ytapgmibkdlcljaa
