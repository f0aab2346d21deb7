import Derived.Test.YtnileccnalpknaaEvG

/- append of zero elements. -/
namespace Go.Ev
set_option linter.unusedSimpArgs false
set_option linter.unusedVariables false
noncomputable section
open Go
variable {ρ ρ' ρ1 ρ2 : Ren} {F : Nat → Prop} {H H1 H2 : AH} {w w1 w2 : World} {P : Program}

def aappendZ (P : Program) (H : AH) (t tx : TypeId) (s x : Value) : Option (Value × AH) :=
  match einfo P t, s, x, P.underlying tx with
  | some (e, k, z, _), .slice none 0 0, .int _ l, some (.int _) =>
    match decide (0 < l ∧ l < 1000000), Nat.blt H.next top, z.cells.toList.all gs with
    | true, true, true => some (.slice (some ⟨H.next, 0, none⟩) l.toNat (loose + l.toNat), H.new (.cells (zrow z.cells.toList (l.toNat * k)).toArray e))
    | _, _, _ => none
  | _, _, _, _ => none

theorem zeroCells_eq (z : Array Value) (n : Nat) : Builtin.zeroCells z n = (zrow z.toList (n * z.size)).toArray := by
  unfold Builtin.zeroCells
  rw [← zrow_eq]

theorem aappendZ_ok {t tx ty : TypeId} {s x v : Value} (h : aappendZ P H t tx s x = some (v, H1)) :
    Le H H1 ∧ ∀ F ρ w s' x', Pre P F ρ H H1 w → VR ρ s s' → VR ρ x x' → Gives P F H H1 v ρ w (Builtin.append_ #[t, tx] ty #[s', x']) := by
  unfold aappendZ at h
  split at h
  case h_2 => cases h
  rename_i e k z by_ ki l kt he hu2
  obtain ⟨i, hu, hi, rfl, rfl, hz, hk0, hzk, hbytes⟩ := einfo_ok he
  split at h
  case h_2 => cases h
  rename_i hl htop hg
  have hl := of_decide_eq_true hl
  have htop := blt_lt htop
  simp only [Option.some.injEq, Prod.mk.injEq] at h
  obtain ⟨rfl, rfl⟩ := h
  refine ⟨Le.new H _ htop, fun F ρ w s' x' hp hs hx => ?_⟩
  cases hs
  cases hx
  obtain ⟨n, rfl⟩ : ∃ n : Nat, l = (n : Int) := ⟨l.toNat, by omega⟩
  simp only [Int.toNat_natCast] at hp ⊢
  have hn0 : 0 < n := by omega
  have hn1 : n < 1000000 := by omega
  have hb1 : n * i.bytes ≤ 140737488355328 := by
    rw [Nat.mul_comm]
    exact Nat.le_trans (Nat.mul_le_mul_left _ (by omega)) hbytes
  obtain ⟨C, hC⟩ : ∃ C, grownCap w n 0 e = C := ⟨_, rfl⟩
  have hCge := grownCap_ge w n 0 e
  rw [hC] at hCge
  have hrun : (Builtin.append_ #[t, tx] ty #[.slice none 0 0, .int ki n]).run P w = .ok (.slice (some ⟨w.heap.size, 0, none⟩) n C) (w.drew.alloc (.cells (([] ++ zrow z.cells.toList (n * i.size)).toArray ++ Builtin.zeroCells z.cells (C - n)) e)) := by
    have n1 : IntKind.i64.wrap (n : Int) = (n : Int) := IntWalk.i64_in _ (by omega)
    have n2 : ¬ ((n : Int) < 0) := by omega
    have n3 : ¬ ((n : Int) * (i.bytes : Int) > 2 ^ 48) := by rw [← Int.natCast_mul]; omega
    have n3' : ¬ (2 ^ 48 < (n : Int) * (i.bytes : Int)) := n3
    have n4 : ¬ (n ≤ 0) := by omega
    have n5 : ¬ (9223372036854775807 < (n : Int)) := by omega
    have n6 : ¬ (281474976710656 < Builtin.nextslicecap n 0 * i.bytes) := by
      have := growslice_fits (old := 0) hn0 hb1
      omega
    have n7 : ¬ (n * i.size = 0) := by
      intro e0
      rcases Nat.mul_eq_zero.1 e0 with h1 | h1 <;> omega
    have n8 : n ≠ 0 := by omega
    have n9 : ¬ i.size = 0 := by omega
    have n10 : ¬ (281474976710656 < (n : Int) * (i.bytes : Int)) := by rw [← Int.natCast_mul]; omega
    simp [Builtin.append_, run_und hu, run_und hu2, sizeOf, typeInfo, zeroValue, hi, hz, asInt, asIntOf, n1, n2, n5, n6, n7, n8, n9, n10, Question.forced, Builtin.firstCells, newRow, ← hC, grownCap]
    rw [zeroCells_eq z.cells n, hzk]
  have hf : ρ H.next = none := hp.fresh _ (Nat.le_refl _) (Nat.lt_succ_self _)
  have hext := Ext.ren_new hf (some ⟨w.heap.size, C * i.size, i.size⟩)
  have hti : ∀ j, P.info? e = some j → j.size = i.size := fun j hj => by rw [hi] at hj; cases hj; rfl
  have hrow : RR (ren ρ H.next (some ⟨w.heap.size, C * i.size, i.size⟩)) (zrow z.cells.toList (n * i.size)).toArray (zrow z.cells.toList (n * i.size)).toArray := row_refl (zrow_gs hg _)
  obtain ⟨q1, q2⟩ := grow_row (P := P) (t := ⟨w.heap.size, C * i.size, i.size⟩) (e := e) (olds := []) (olds' := []) ⟨rfl, fun i x x' hx => by simp at hx⟩ hrow hzk (by simp [zrow]) hCge rfl hti
  refine ⟨_, _, _, hrun, ?_, Sim.drew (Sim.alloc hp htop rfl q1 q2) (w.drawn + 1)⟩
  exact .slice _ (.inr ⟨⟨w.heap.size, C * i.size, i.size⟩, by simp [ren], rfl⟩) (.inr ⟨by omega, by omega, .inr ⟨⟨w.heap.size, C * i.size, i.size⟩, by simp [ren], by simp⟩⟩)
end
end Go.Ev
