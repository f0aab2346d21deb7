import Derived.Test.YtbagfapalkmikaaFlB

/- What the catcher bears: corners, sizes, loads. -/
namespace Go.Proofs.Ytbagfapalkmikaa
open Go.RowKit

def Fly.speedAt (f : Fly) (t : Int) : Bx := ⟨f.speed.x, ⟨f.speed.z.lo - 98 * t, f.speed.z.hi - 98 * t⟩⟩
set_option maxHeartbeats 4000000 in
theorem speedAfter_any (f : Fly) (t : Int) (w : World) (hf : f.ok = true) (ht : 0 ≤ t ∧ t ≤ 300) :
    Calls Try.prog 88 #[.agg #[.int .i64 f.pos.x.lo, .int .i64 f.pos.x.hi, .int .i64 f.pos.z.lo, .int .i64 f.pos.z.hi, .int .i64 f.speed.x.lo, .int .i64 f.speed.x.hi, .int .i64 f.speed.z.lo, .int .i64 f.speed.z.hi, .int .i64 f.mass], .int .i64 t] w fun e w' => e = .returned (.agg #[.int .i64 (f.speedAt t).x.lo, .int .i64 (f.speedAt t).x.hi, .int .i64 (f.speedAt t).z.lo, .int .i64 (f.speedAt t).z.hi]) ∧ Below w.heap.size w w' := by
  obtain ⟨hp, hs, _, _⟩ := Fly.ok_iff.1 hf
  obtain ⟨⟨s1, s2, s3⟩, s4, s5, s6⟩ := Bx.inside_iff.1 hs
  obtain ⟨t1, t2⟩ := ht
  have hK0 := Blk.new (w.alloc (.cells #[.int .i64 f.pos.x.lo, .int .i64 f.pos.x.hi, .int .i64 f.pos.z.lo, .int .i64 f.pos.z.hi, .int .i64 f.speed.x.lo, .int .i64 f.speed.x.hi, .int .i64 f.speed.z.lo, .int .i64 f.speed.z.hi, .int .i64 f.mass] 42)) 37 #[.int .i64 0, .int .i64 0, .int .i64 0, .int .i64 0]
  simp only [World.size_alloc] at hK0
  have HE : Hid ((.agg #[.int .i64 (f.speedAt t).x.lo, .int .i64 (f.speedAt t).x.hi, .int .i64 (f.speedAt t).z.lo, .int .i64 (f.speedAt t).z.hi] : Value) = .agg #[.int .i64 (f.speed.x.lo + 0), .int .i64 (f.speed.x.hi + 0), .int .i64 (f.speed.z.lo + -98 * t), .int .i64 (f.speed.z.hi + -98 * t)]) := by
    show (_ : Value) = _
    simp only [Fly.speedAt, Int.add_zero, Int.sub_eq_add_neg, Int.neg_mul]
  have P1 : Sml f.speed.x.lo := by unfold Sml; omega
  have P2 : Sml f.speed.x.hi := by unfold Sml; omega
  have P3 : Sml f.speed.z.lo := by unfold Sml; omega
  have P4 : Sml f.speed.z.hi := by unfold Sml; omega
  have S5 : Sml (-98 * t) := by unfold Sml; omega
  have S0 : Sml 0 := by unfold Sml; omega
  have m1 : IntKind.i64.wrap (-98 * t) = -98 * t := IntWalk.i64_in _ (by omega)
  clear hf hp hs
  go_enter Try.func88, Try.ntmps88
  go_wp2
  refine name_world (motive := fun W => Code.wp _ _ _ _ W) _ ?_
  intro W0 hW
  have hWc := hW.cell
  have hWz := hW.size
  have hWb := hW.below (((Below.refl w.heap.size w).alloc (Nat.le_refl _) _).alloc (by simp) _)
  have kR := hW.blk hK0
  simp only [World.size_alloc] at hWz
  have hlt : w.heap.size < W0.heap.size := by omega
  have hle : w.heap.size ≤ W0.heap.size := by omega
  clear hWz
  go_region_held3 (fun w' => (∀ b o, b < W0.heap.size → b ≠ w.heap.size + 1 → w'.cell? ⟨b, o, none⟩ = W0.cell? ⟨b, o, none⟩) ∧ W0.grownBy w' (some (w.heap.size + 1))) (first | with_reducible exact gr_first _ _ | (with_reducible refine gr_cells ?_; with_reducible assumption) | (refine gr_cells ?_; repeat' (first | with_reducible assumption | with_reducible exact gr_refl _ _ | with_reducible refine gr_drew ?_ | with_reducible refine gr_alloc ?_ _ | with_reducible refine gr_set ?_ _ _)))
    (first | (go_at_call 86; go_split_ands; have hG1 : W0.grownBy _ (some (w.heap.size + 1)) := (by with_reducible assumption); (with_reducible refine (upright_any (-98 * t) _).mono ?_); rintro e w1 ⟨rfl, hb1⟩; have hF1 := gr_call hG1 hb1; obtain ⟨hc1, hf1⟩ := bcell hb1; have hy1 := hb1.size; have hz1 := hF1.size; have kR1 := Blk.below (Blk.drew kR) hb1 (Blk.lt (Blk.drew kR))) | (go_at_call 84; go_split_ands; have hG2 : W0.grownBy _ (some (w.heap.size + 1)) := (by with_reducible assumption); (with_reducible refine (bothPlus_any f.speed.x.lo f.speed.x.hi f.speed.z.lo f.speed.z.hi 0 0 (-98 * t) (-98 * t) _ P1 P2 P3 P4 S0 S0 S5 S5).mono ?_); rintro e w2 ⟨rfl, hb2⟩; have hF2 := gr_call hG2 hb2; obtain ⟨hc2, hf2⟩ := bcell hb2; have hy2 := hb2.size; have hz2 := hF2.size; have kR2 := Blk.below kR1 hb2 (Blk.lt kR1); have ckR2_0 := kR2.cell 0; have fkR2_0 := kR2.frozen 0; have ckR2_1 := kR2.cell 1; have fkR2_1 := kR2.frozen 1; have ckR2_2 := kR2.cell 2; have fkR2_2 := kR2.frozen 2; have ckR2_3 := kR2.cell 3; have fkR2_3 := kR2.frozen 3; have lkR2 := kR2.lt; simp at ckR2_0 ckR2_1 ckR2_2 ckR2_3))
  all_goals go_wp2
  rename_i hh
  rw [HE.out]
  have kF := ((((kR2.set_ 0 (.int .i64 (f.speed.x.lo + 0))).set_ 1 (.int .i64 (f.speed.x.hi + 0))).set_ 2 (.int .i64 (f.speed.z.lo + -98 * t))).set_ 3 (.int .i64 (f.speed.z.hi + -98 * t)))
  have r0 := kF.cell 0
  have r1 := kF.cell 1
  have r2 := kF.cell 2
  have r3 := kF.cell 3
  simp at r0 r1 r2 r3
  refine bodyPost_ret (v := .agg #[.int .i64 (f.speed.x.lo + 0), .int .i64 (f.speed.x.hi + 0), .int .i64 (f.speed.z.lo + -98 * t), .int .i64 (f.speed.z.hi + -98 * t)]) (by simp [results, Try.results88, go_sem, r0, r1, r2, r3]) rfl ⟨rfl, ?_⟩
  exact gr_below hh.2 hWb hle (by omega)

set_option maxHeartbeats 1000000 in
theorem corners_any (b : Bx) (w : World) :
    Calls Try.prog 89 #[.agg #[.int .i64 b.x.lo, .int .i64 b.x.hi, .int .i64 b.z.lo, .int .i64 b.z.hi]] w fun e w' => e = .returned (.agg #[.int .i64 b.x.lo, .int .i64 b.z.lo, .int .i64 b.x.lo, .int .i64 b.z.hi, .int .i64 b.x.hi, .int .i64 b.z.lo, .int .i64 b.x.hi, .int .i64 b.z.hi]) ∧ Below w.heap.size w w' := by
  go_enter Try.func89, Try.ntmps89
  go_wp2
  refine bodyPost_ret (v := .agg #[.int .i64 b.x.lo, .int .i64 b.z.lo, .int .i64 b.x.lo, .int .i64 b.z.hi, .int .i64 b.x.hi, .int .i64 b.z.lo, .int .i64 b.x.hi, .int .i64 b.z.hi]) (by simp [results, Try.results89, go_sem]) rfl ⟨rfl, ?_⟩
  exact ((Below.refl _ _).alloc (Nat.le_refl _) _).alloc (by simp) _

/-- The greatest size of numbers. -/
def topM (l : List Int) : Int := l.foldl (fun m n => max m (max n (-n))) 0
theorem topM_in {l : List Int} {b : Int} (h0 : 0 ≤ b) (h : ∀ n ∈ l, -b ≤ n ∧ n ≤ b) : 0 ≤ topM l ∧ topM l ≤ b := by
  unfold topM
  have key : ∀ (l : List Int) (m : Int), 0 ≤ m ∧ m ≤ b → (∀ n ∈ l, -b ≤ n ∧ n ≤ b) → 0 ≤ l.foldl (fun m n => max m (max n (-n))) m ∧ l.foldl (fun m n => max m (max n (-n))) m ≤ b := by
    intro l
    induction l with
    | nil => intro m hm _; exact hm
    | cons a l ih =>
      intro m hm hl
      have ha := hl a (by simp)
      refine ih _ ?_ (fun n hn => hl n (by simp [hn]))
      show 0 ≤ max m (max a (-a)) ∧ max m (max a (-a)) ≤ b
      omega
  exact key l 0 ⟨by omega, h0⟩ h
set_option maxHeartbeats 2000000 in
theorem greatest_any (A : Option Addr) (c : Nat) (l : List Int) (w : World) (B : Nat) (hr : RS encI 1 w B A l) (hl : l.length ≤ maxLen) (hb : ∀ n ∈ l, -1000000000 ≤ n ∧ n ≤ 1000000000) :
    Calls Try.prog 90 #[.slice A l.length c] w fun e w' => e = .returned (.int .i64 (topM l)) ∧ w = w' := by
  unfold maxLen at hl
  have Hb := Lib.hid hb
  clear hb
  go_enter Try.func90, Try.ntmps90
  go_wp2
  go_loop [3, 8] (fun m i => ∃ k : Nat, k ≤ l.length ∧ i = .int .i64 k ∧ m = .int .i64 (topM (l.take k))) (fun _ i => l.length - (intOf i).toNat)
  case atStart => exact ⟨0, Nat.zero_le _, rfl, rfl⟩
  case round =>
    obtain ⟨k, hk, rfl, rfl⟩ := hrel
    obtain ⟨m1, m2⟩ := topM_in (l := l.take k) (b := 1000000000) (by omega) (fun n hn => Hb.out n (List.mem_of_mem_take hn))
    by_cases hlt : k < l.length
    · obtain ⟨x, hx⟩ := getElem?_lt hlt
      obtain ⟨x1, x2⟩ := Hb.out x (List.mem_of_getElem? hx)
      obtain ⟨b, off, rfl, _, hc⟩ := hr.at_ hx
      have c0 := hc 0 _ rfl
      simp only [Nat.add_zero, Nat.mul_one] at c0
      have HS : Hid (topM (l.take (k + 1)) = max (topM (l.take k)) (max x (-x))) := by
        show _ = _
        unfold topM; rw [foldl_snoc hx]
      clear hx hc hr
      obtain ⟨m, hm⟩ : ∃ m, topM (l.take k) = m := ⟨_, rfl⟩
      rw [hm] at m1 m2 HS ⊢
      clear hm
      have hmx : (if -x > if x > m then x else m then -x else if x > m then x else m) = max m (max x (-x)) := by
        by_cases h1 : x > m
        · rw [if_pos h1]; split <;> omega
        · rw [if_neg h1]; split <;> omega
      have hmax3 : ∀ (ts : Array TypeId) (t : TypeId) (W : World), (Builtin.max_ ts t #[.int .i64 m, .int .i64 x, .int .i64 (-x)]).run Try.prog W = .ok (.int .i64 (max m (max x (-x)))) W := by
        intro ts t W
        rw [← hmx]
        simp [Builtin.max_, Builtin.max2]
      clear hmx
      go_wp2
      go_round
      case rel => exact ⟨k + 1, by omega, by go_num, by rw [HS.out]⟩
      case measure => simp [intOf]; omega
    · go_wp2
      go_ret
      exact ⟨ret_int (by rw [List.take_of_length_le (by omega)]), rfl⟩
end Go.Proofs.Ytbagfapalkmikaa

namespace Go.Proofs.Ytbagfapalkmikaa
open Go.RowKit
theorem RS.blk {α : Type} {enc : α → List Value} {sz : Nat} (hs : ∀ x, (enc x).length = sz) {w : World} {g : Nat} {t : TypeId} {l : List α} (h : Blk w g t (l.flatMap enc).toArray) : RS enc sz w w.heap.size (some ⟨g, 0, none⟩) l := by
  refine .inr ⟨g, 0, rfl, h.lt, fun k x hx j v hv => ?_⟩
  rw [h.cell]
  have := flat_get hs l k x hx j v hv
  rw [Nat.zero_add]
  simpa using this
theorem greatest3 (W : World) (o : Obj) (a b c T : Int) (hT : topM [a, b, c] = T) (ha : Sml a) (hb : Sml b) (hc : Sml c) :
    Calls Try.prog 90 #[.slice (some ⟨W.heap.size + 1, 0, none⟩) 3 3] ((W.alloc o).alloc (.cells #[.int .i64 a, .int .i64 b, .int .i64 c] 3)) fun e w' => e = .returned (.int .i64 T) ∧ ((W.alloc o).alloc (.cells #[.int .i64 a, .int .i64 b, .int .i64 c] 3)) = w' := by
  subst hT
  have hk := Blk.new (W.alloc o) 3 #[.int .i64 a, .int .i64 b, .int .i64 c]
  rw [World.size_alloc] at hk
  unfold Sml at ha hb hc
  exact greatest_any (some ⟨W.heap.size + 1, 0, none⟩) 3 [a, b, c] _ _ (RS.blk (enc := encI) (fun _ => rfl) hk) (by unfold maxLen; simp) (by simp; omega)
theorem top3 (a b c : Int) : topM [a, b, c] = max (max (max 0 (max a (-a))) (max b (-b))) (max c (-c)) := rfl

end Go.Proofs.Ytbagfapalkmikaa
