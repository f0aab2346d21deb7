import Derived.RangeFuncNested
import Derived.RangeFuncBound
import Derived.RangeFuncCalls
import Derived.RangeFuncLeaves
import Derived.RangeFuncFrom
import Derived.Shelf.Abstract
import Derived.Shelf.RegionOpen
import Derived.OwnWalkIn
import Derived.TacticsInMore
import Derived.LoopNIn
import Derived.LoopIn
import Derived.Test.YthelogdgfhfdcaaCan19
namespace Go.Proofs.Ythelogdgfhfdcaa
open Go.RowKit Go.Shelf

theorem sets_any (g : Int) (w : World) :
    Calls Try.prog 100 #[.int .i64 g] w fun e w' => e = .returned (.func (.func 119) #[] #[.pointer (some ⟨w.heap.size, 0, none⟩)]) ∧ w' = w.alloc (.cells #[.int .i64 g] 3) := by
  go_enter Try.func100, Try.ntmps100
  go_wp2
  go_ret
  exact ⟨rfl, rfl⟩

abbrev S16 := { x : Nat // x < 65536 }
def setAt (k : Nat) : S16 := ⟨k % 65536, Nat.mod_lt _ (by omega)⟩
/-- The first k sets. -/
def setsUpto (k : Nat) : List S16 := (List.range k).map setAt
theorem setsUpto_succ (k : Nat) : setsUpto (k + 1) = setsUpto k ++ [setAt k] := by simp [setsUpto, List.range_succ]
theorem setAt_val {k : Nat} (h : k < 65536) : (setAt k).1 = k := Nat.mod_eq_of_lt h
theorem setsUpto_prefix {a b : Nat} (h : a ≤ b) : setsUpto a <+: setsUpto b := by
  obtain ⟨c, rfl⟩ := Nat.le.dest h
  induction c with
  | zero => exact List.prefix_refl _
  | succ c ih =>
    have := ih (by omega)
    rw [show a + (c + 1) = a + c + 1 from by omega, setsUpto_succ]
    exact this.trans (List.prefix_append _ _)

attribute [local go_sem] Oper.semAt_some
set_option maxRecDepth 100000 in
set_option maxHeartbeats 1000000 in
theorem sets1_in (F : Fence) (n : Nat) (hf : F.fn 119) (hro : F.round = none) (hn : 1 ≤ n) (l B g : Nat) (hg : g ≤ 15) (Kp : World → World → Prop) (J Jx : List S16 → World → Prop)
    (hY : ∀ pre x W, J pre W → pre.length < 2 ^ g → YieldAt F (n - 1) Try.prog l #[.int .i64 x.1] W fun e W' =>
      (e = .returned (.bool true) ∧ J (pre ++ [x]) W' ∧ Kp W W') ∨ (e = .returned (.bool false) ∧ Jx (pre ++ [x]) W'))
    (W : World) (hB : W.cell? ⟨B, 0, none⟩ = some (.int .i64 g)) (h0 : J [] W) :
    CallsIn F n Try.prog 119 #[.func (.yield l) #[] #[], .pointer (some ⟨B, 0, none⟩)] W fun e W' => (∃ v, e = .returned v) ∧
      ((∃ ys, ys = setsUpto (2 ^ g) ∧ J ys W') ∨ (∃ pre, pre <+: setsUpto (2 ^ g) ∧ Jx pre W')) := by
  have hp : 2 ^ g ≤ 2 ^ 15 := Nat.pow_le_pow_right (by omega) hg
  refine callsIn_of_wp Try.func119 rfl hf ?_ hro
  simp only [Try.ntmps119, List.size_toArray, List.length_cons, List.length_nil, Nat.reduceAdd, Nat.reduceSub, Array.replicate_succ, Array.replicate_zero, List.push_toArray, List.append_toArray, List.nil_append, List.cons_append]
  obtain ⟨N, hN⟩ : ∃ N : Nat, N = 2 ^ g := ⟨_, rfl⟩
  have hI : ((2 : Int) ^ g) = (N : Int) := by rw [hN]; simp
  rw [← hN] at hY hp ⊢
  have hp' : N ≤ 32768 := hp
  have hw : wrap64 ((2 : Int) ^ g) = (N : Int) := by rw [hI]; exact IntWalk.wrap64_in _ (by omega)
  clear hN hI hp
  gi_wp2
  rw [hw]
  gi_loopw [6] (fun i wr => ∃ k : Nat, k ≤ N ∧ i = .int .i64 k ∧ J (setsUpto k) wr) (fun i _ => N - (intOf i).toNat)
  case atStart => exact ⟨0, Nat.zero_le _, rfl, h0⟩
  case round =>
    obtain ⟨k, hk, rfl, hJ⟩ := hrel
    by_cases hlt : k < N
    · obtain ⟨fn, tmps, assign, body, hy, hR⟩ := hY (setsUpto k) (setAt k) wr hJ (by simp [setsUpto]; omega)
      rw [setAt_val (by omega)] at hy
      gi_wp2
      refine hR.mono ?_
      rintro e W3 (⟨rfl, hJ3, hk3⟩ | ⟨rfl, hJx3⟩)
      · rw [← setsUpto_succ] at hJ3
        gi_wp2
        go_roundw
        case rel => exact ⟨k + 1, by omega, by go_num, hJ3⟩
        case measure => simp [intOf]; omega
      · rw [← setsUpto_succ] at hJx3
        gi_wp2
        refine bodyPost_ret (results_none rfl _ _ _) rfl ?_
        exact ⟨⟨_, rfl⟩, .inr ⟨_, setsUpto_prefix (by omega), hJx3⟩⟩
    · obtain rfl : k = N := by omega
      gi_wp2
      go_end0
      exact ⟨⟨_, rfl⟩, .inl ⟨_, rfl, hJ⟩⟩

theorem sets_stops (F : Fence) (n : Nat) (hf : F.fn 119) (hro : F.round = none) (hn : 1 ≤ n) (B g : Nat) (hg : g ≤ 15) (Kp : World → World → Prop) (w : World) (hB : w.cell? ⟨B, 0, none⟩ = some (.int .i64 g)) (hBw : B < w.heap.size) :
    SeqStopsK F n Try.prog 119 #[.pointer (some ⟨B, 0, none⟩)] (fun x : S16 => #[Value.int .i64 x.1]) Kp (fun ys => ys = setsUpto (2 ^ g)) (fun pre => pre <+: setsUpto (2 ^ g)) (2 ^ g) w := fun l J Jx W hW _ _ hY h0 =>
  sets1_in F n hf hro hn l B g hg Kp J Jx hY W ((hW.cell (p := ⟨B, 0, none⟩) hBw).trans hB) h0
end Go.Proofs.Ythelogdgfhfdcaa
