import Derived.Test.YtbagfapalkmikaaGood
import Derived.Test.YtbagfapalkmikaaSureR

/- What ProveWindow accepts. -/
namespace Go.Proofs.Ytbagfapalkmikaa
open Go.RowKit Go.Shelf
def winB (a b : Int) : Bool := inB a 0 6000 && (inB b 0 6000 && decide (a ≤ b))
theorem winB_iff {a b : Int} : winB a b = true ↔ (0 ≤ a ∧ a ≤ 6000) ∧ (0 ≤ b ∧ b ≤ 6000) ∧ a ≤ b := by simp [winB, inB_true]
theorem winValid_any (a b : Int) (w : World) : Calls Try.prog 69 #[.agg #[.int .i64 a, .int .i64 b]] w fun e w' => e = .returned (.bool (winB a b)) ∧ Below w.heap.size w w' := by
  have HK : Hid (winB a b = (inB a 0 6000 && (inB b 0 6000 && decide (a ≤ b)))) := rfl
  cases h1 : inB a 0 6000 <;> cases h2 : inB b 0 6000 <;> by_cases h3 : a ≤ b
  all_goals
    rw [h1, h2] at HK
    go_enter Try.func69, Try.ntmps69
    go_wp2_with ((go_at_call 64; refine (isTick_any _ _).mono ?_; rintro e w' ⟨rfl, rfl⟩))
    go_ret
    exact ⟨ret_bool (by rw [HK.out]; simp [h3] <;> omega), (Below.refl _ _).alloc (Nat.le_refl _) _⟩
theorem winTicks_any (a b : Int) (w : World) (h : winB a b = true) : Calls Try.prog 70 #[.agg #[.int .i64 a, .int .i64 b]] w fun e w' => e = .returned (.int .i64 (b - a + 1)) ∧ Below w.heap.size w w' := by
  obtain ⟨⟨a1, a2⟩, ⟨b1, b2⟩, h3⟩ := winB_iff.1 h
  clear h
  go_enter Try.func70, Try.ntmps70
  go_wp2
  go_ret
  exact ⟨rfl, (Below.refl _ _).alloc (Nat.le_refl _) _⟩
def pwB (f : Flt) (a b : Int) (l : List Int) : Bool := f.ok && (winB a b && (decide ((l.length : Int) = b - a + 1) && provedB f a.toNat l l.length))
set_option linter.unusedSimpArgs false in
set_option maxRecDepth 100000 in
set_option maxHeartbeats 8000000 in
theorem proveW_0 (f : Flt) (A Al : Option Addr) (c cl : Nat) (a b : Int) (l : List Int) (w : World) (hlc : f.cycle.length ≤ maxLen) (hr : RS encB 4 w w.heap.size A f.cycle) (hl : RS encI 1 w w.heap.size Al l) (hok : f.ok = false) :
    Calls Try.prog 41 #[.agg #[.int .i64 f.fly.pos.x.lo, .int .i64 f.fly.pos.x.hi, .int .i64 f.fly.pos.z.lo, .int .i64 f.fly.pos.z.hi, .int .i64 f.fly.speed.x.lo, .int .i64 f.fly.speed.x.hi, .int .i64 f.fly.speed.z.lo, .int .i64 f.fly.speed.z.hi, .int .i64 f.fly.mass, .slice A f.cycle.length c, .int .i64 f.reach, .int .i64 f.soft, .int .i64 f.bears, .int .i64 f.least, .int .i64 f.most], .agg #[.int .i64 a, .int .i64 b], .slice Al l.length cl] w fun e w' => e = .returned (.bool (pwB f a b l)) ∧ Below w.heap.size w w' := by
  have hB0 := ((Below.refl w.heap.size w).alloc (Nat.le_refl _) (.cells #[.int .i64 f.fly.pos.x.lo, .int .i64 f.fly.pos.x.hi, .int .i64 f.fly.pos.z.lo, .int .i64 f.fly.pos.z.hi, .int .i64 f.fly.speed.x.lo, .int .i64 f.fly.speed.x.hi, .int .i64 f.fly.speed.z.lo, .int .i64 f.fly.speed.z.hi, .int .i64 f.fly.mass, .slice A f.cycle.length c, .int .i64 f.reach, .int .i64 f.soft, .int .i64 f.bears, .int .i64 f.least, .int .i64 f.most] 50)).alloc (by simp) (.cells #[.int .i64 a, .int .i64 b] 92)
  have kF0 := (Blk.new w 50 #[.int .i64 f.fly.pos.x.lo, .int .i64 f.fly.pos.x.hi, .int .i64 f.fly.pos.z.lo, .int .i64 f.fly.pos.z.hi, .int .i64 f.fly.speed.x.lo, .int .i64 f.fly.speed.x.hi, .int .i64 f.fly.speed.z.lo, .int .i64 f.fly.speed.z.hi, .int .i64 f.fly.mass, .slice A f.cycle.length c, .int .i64 f.reach, .int .i64 f.soft, .int .i64 f.bears, .int .i64 f.least, .int .i64 f.most]).alloc (.cells #[.int .i64 a, .int .i64 b] 92)
  have kW0 := Blk.new (w.alloc (.cells #[.int .i64 f.fly.pos.x.lo, .int .i64 f.fly.pos.x.hi, .int .i64 f.fly.pos.z.lo, .int .i64 f.fly.pos.z.hi, .int .i64 f.fly.speed.x.lo, .int .i64 f.fly.speed.x.hi, .int .i64 f.fly.speed.z.lo, .int .i64 f.fly.speed.z.hi, .int .i64 f.fly.mass, .slice A f.cycle.length c, .int .i64 f.reach, .int .i64 f.soft, .int .i64 f.bears, .int .i64 f.least, .int .i64 f.most] 50)) 92 #[.int .i64 a, .int .i64 b]
  simp only [World.size_alloc] at kW0
  have hR00 := hr.to hB0
  have hL00 := hl.to hB0
  have HV : Hid (∀ W : World, RS encB 4 W W.heap.size A f.cycle → Calls Try.prog 56 #[.agg #[.int .i64 f.fly.pos.x.lo, .int .i64 f.fly.pos.x.hi, .int .i64 f.fly.pos.z.lo, .int .i64 f.fly.pos.z.hi, .int .i64 f.fly.speed.x.lo, .int .i64 f.fly.speed.x.hi, .int .i64 f.fly.speed.z.lo, .int .i64 f.fly.speed.z.hi, .int .i64 f.fly.mass, .slice A f.cycle.length c, .int .i64 f.reach, .int .i64 f.soft, .int .i64 f.bears, .int .i64 f.least, .int .i64 f.most]] W fun e w' => e = .returned (.bool false) ∧ Below W.heap.size W w') := fun W h => by rw [← hok]; exact flight_any f A c W h hlc
  have HV2 : Hid (pwB f a b l = false) := by
    show _ = _
    unfold pwB
    rw [hok]
    rfl
  clear hok hr hl
  have hmx : Try.prog.follows .mixedOrders = true := by kernel_rfl
  go_enter Try.func41, Try.ntmps41
  go_upto_region 1 with fail
  refine name_world (motive := fun W => Code.wp _ _ _ _ W) _ ?_
  intro W0 hW
  have hWc := hW.cell
  have hWz := hW.size
  have hWb := hW.below (hB0)
  have kF := hW.blk kF0
  have kW := hW.blk kW0
  have hR0 := hR00.to (hW.below (Below.refl _ _))
  have hL0 := hL00.to (hW.below (Below.refl _ _))
  have HB0 := Lib.hid hWb
  clear hB0 kF0 kW0 hR00 hL00 hW hWc hWz hWb
  refine (wpIn_wide (n := 9)).1 ?_
  have hLast := trivial
  refine region_rest (S := (fun w' => Blk w' (w.heap.size) 50 #[.int .i64 f.fly.pos.x.lo, .int .i64 f.fly.pos.x.hi, .int .i64 f.fly.pos.z.lo, .int .i64 f.fly.pos.z.hi, .int .i64 f.fly.speed.x.lo, .int .i64 f.fly.speed.x.hi, .int .i64 f.fly.speed.z.lo, .int .i64 f.fly.speed.z.hi, .int .i64 f.fly.mass, .slice A f.cycle.length c, .int .i64 f.reach, .int .i64 f.soft, .int .i64 f.bears, .int .i64 f.least, .int .i64 f.most] ∧ Blk w' (w.heap.size + 1) 92 #[.int .i64 a, .int .i64 b] ∧ Below W0.heap.size W0 w')) hmx ?_ (fun hHeld => ?_)
  · exact ⟨kF.drew, kW.drew, (Below.refl W0.heap.size W0).drew⟩
  change RestIn _ _ _ _ _ _ _ 21 #[false, false, false, false, false, false, false, false, false, false, false, false, false, false, false, false, false, false, false, false, false] _ (World.drew _)
  refine rest_take (i := 0) (v := _) all_wide (noDefers_of (by kernel_rfl)) rfl (by kernel_rfl) (by kernel_rfl) (by kernel_rfl) (fun _ _ _ h => h) (Or.inl ⟨by rfl, by intro w hSw; (obtain ⟨q0, q1, _⟩ := hSw; have q0x0 := q0.cell 0; have q0x1 := q0.cell 1; have q0x2 := q0.cell 2; have q0x3 := q0.cell 3; have q0x4 := q0.cell 4; have q0x5 := q0.cell 5; have q0x6 := q0.cell 6; have q0x7 := q0.cell 7; have q0x8 := q0.cell 8; have q0x9 := q0.cell 9; have q0x10 := q0.cell 10; have q0x11 := q0.cell 11; have q0x12 := q0.cell 12; have q0x13 := q0.cell 13; have q0x14 := q0.cell 14; have q1x0 := q1.cell 0; have q1x1 := q1.cell 1; simp at q0x0 q0x1 q0x2 q0x3 q0x4 q0x5 q0x6 q0x7 q0x8 q0x9 q0x10 q0x11 q0x12 q0x13 q0x14 q1x0 q1x1); go_simp; first | done | with_reducible rfl⟩) hHeld ?_
  change RestIn _ _ _ _ _ _ _ 20 #[true, false, false, false, false, false, false, false, false, false, false, false, false, false, false, false, false, false, false, false, false] _ _
  try simp only [Act.put, List.setIfInBounds_toArray, List.set_cons_zero, List.set_cons_succ, List.getElem_toArray, List.getElem_cons_zero, List.getElem_cons_succ]
  refine rest_ready (rs := [1]) (by kernel_rfl) (by simp) ?_
  refine AllRest.cons rfl (fun K hK => ?_) AllRest.nil
  have hNow := (hHeld.2.2)
  clear hLast
  have hLast := hNow
  go_simp
  gi_wp2_with ((refine ⟨trivial, ?_⟩; gi_at_call 56; (with_reducible refine (callsIn_wide.2 (HV.out _ (hR0.to hNow))).mono ?_); rintro e wn ⟨rfl, hb⟩))
  refine hK.out _ _ ?_ (fun hHeld' => ?_)
  · exact ⟨hHeld.1.below hb hHeld.1.lt, hHeld.2.1.below hb hHeld.2.1.lt, (hHeld.2.2).trans (hb.mono (hHeld.2.2).size)⟩
  clear hK K
  change RestIn _ _ _ _ _ _ _ 19 #[true, true, false, false, false, false, false, false, false, false, false, false, false, false, false, false, false, false, false, false, false] _ _
  try simp only [Act.put, List.setIfInBounds_toArray, List.set_cons_zero, List.set_cons_succ, List.getElem_toArray, List.getElem_cons_zero, List.getElem_cons_succ]
  clear hHeld
  have hHeld := hHeld'
  clear hHeld'
  have hNow := (hHeld.2.2)
  refine rest_take (i := 2) (v := _) all_wide (noDefers_of (by kernel_rfl)) rfl (by kernel_rfl) (by kernel_rfl) (by kernel_rfl) (fun _ _ _ h => h) (Or.inl ⟨by rfl, by intro w hSw; clear hSw; go_simp; first | done | with_reducible rfl⟩) hHeld ?_
  change RestIn _ _ _ _ _ _ _ 18 #[true, true, true, false, false, false, false, false, false, false, false, false, false, false, false, false, false, false, false, false, false] _ _
  try simp only [Act.put, List.setIfInBounds_toArray, List.set_cons_zero, List.set_cons_succ, List.getElem_toArray, List.getElem_cons_zero, List.getElem_cons_succ]
  refine rest_take (i := 3) (v := undef) all_wide (noDefers_of (by kernel_rfl)) rfl (by kernel_rfl) (by kernel_rfl) (by kernel_rfl) (fun _ _ _ h => h) (Or.inr ⟨by rfl, rfl⟩) hHeld ?_
  change RestIn _ _ _ _ _ _ _ 17 #[true, true, true, true, false, false, false, false, false, false, false, false, false, false, false, false, false, false, false, false, false] _ _
  try simp only [Act.put, List.setIfInBounds_toArray, List.set_cons_zero, List.set_cons_succ, List.getElem_toArray, List.getElem_cons_zero, List.getElem_cons_succ]
  refine rest_take (i := 4) (v := undef) all_wide (noDefers_of (by kernel_rfl)) rfl (by kernel_rfl) (by kernel_rfl) (by kernel_rfl) (fun _ _ _ h => h) (Or.inr ⟨by rfl, rfl⟩) hHeld ?_
  change RestIn _ _ _ _ _ _ _ 16 #[true, true, true, true, true, false, false, false, false, false, false, false, false, false, false, false, false, false, false, false, false] _ _
  try simp only [Act.put, List.setIfInBounds_toArray, List.set_cons_zero, List.set_cons_succ, List.getElem_toArray, List.getElem_cons_zero, List.getElem_cons_succ]
  refine rest_take (i := 5) (v := _) all_wide (noDefers_of (by kernel_rfl)) rfl (by kernel_rfl) (by kernel_rfl) (by kernel_rfl) (fun _ _ _ h => h) (Or.inl ⟨by rfl, by intro w hSw; clear hSw; go_simp; first | done | with_reducible rfl⟩) hHeld ?_
  change RestIn _ _ _ _ _ _ _ 15 #[true, true, true, true, true, true, false, false, false, false, false, false, false, false, false, false, false, false, false, false, false] _ _
  try simp only [Act.put, List.setIfInBounds_toArray, List.set_cons_zero, List.set_cons_succ, List.getElem_toArray, List.getElem_cons_zero, List.getElem_cons_succ]
  refine rest_take (i := 6) (v := _) all_wide (noDefers_of (by kernel_rfl)) rfl (by kernel_rfl) (by kernel_rfl) (by kernel_rfl) (fun _ _ _ h => h) (Or.inl ⟨by rfl, by intro w hSw; clear hSw; go_simp; first | done | with_reducible rfl⟩) hHeld ?_
  change RestIn _ _ _ _ _ _ _ 14 #[true, true, true, true, true, true, true, false, false, false, false, false, false, false, false, false, false, false, false, false, false] _ _
  try simp only [Act.put, List.setIfInBounds_toArray, List.set_cons_zero, List.set_cons_succ, List.getElem_toArray, List.getElem_cons_zero, List.getElem_cons_succ]
  refine rest_take (i := 7) (v := undef) all_wide (noDefers_of (by kernel_rfl)) rfl (by kernel_rfl) (by kernel_rfl) (by kernel_rfl) (fun _ _ _ h => h) (Or.inr ⟨by rfl, rfl⟩) hHeld ?_
  change RestIn _ _ _ _ _ _ _ 13 #[true, true, true, true, true, true, true, true, false, false, false, false, false, false, false, false, false, false, false, false, false] _ _
  try simp only [Act.put, List.setIfInBounds_toArray, List.set_cons_zero, List.set_cons_succ, List.getElem_toArray, List.getElem_cons_zero, List.getElem_cons_succ]
  refine rest_take (i := 8) (v := undef) all_wide (noDefers_of (by kernel_rfl)) rfl (by kernel_rfl) (by kernel_rfl) (by kernel_rfl) (fun _ _ _ h => h) (Or.inr ⟨by rfl, rfl⟩) hHeld ?_
  change RestIn _ _ _ _ _ _ _ 12 #[true, true, true, true, true, true, true, true, true, false, false, false, false, false, false, false, false, false, false, false, false] _ _
  try simp only [Act.put, List.setIfInBounds_toArray, List.set_cons_zero, List.set_cons_succ, List.getElem_toArray, List.getElem_cons_zero, List.getElem_cons_succ]
  refine rest_take (i := 9) (v := undef) all_wide (noDefers_of (by kernel_rfl)) rfl (by kernel_rfl) (by kernel_rfl) (by kernel_rfl) (fun _ _ _ h => h) (Or.inr ⟨by rfl, rfl⟩) hHeld ?_
  change RestIn _ _ _ _ _ _ _ 11 #[true, true, true, true, true, true, true, true, true, true, false, false, false, false, false, false, false, false, false, false, false] _ _
  try simp only [Act.put, List.setIfInBounds_toArray, List.set_cons_zero, List.set_cons_succ, List.getElem_toArray, List.getElem_cons_zero, List.getElem_cons_succ]
  refine rest_take (i := 10) (v := undef) all_wide (noDefers_of (by kernel_rfl)) rfl (by kernel_rfl) (by kernel_rfl) (by kernel_rfl) (fun _ _ _ h => h) (Or.inr ⟨by rfl, rfl⟩) hHeld ?_
  change RestIn _ _ _ _ _ _ _ 10 #[true, true, true, true, true, true, true, true, true, true, true, false, false, false, false, false, false, false, false, false, false] _ _
  try simp only [Act.put, List.setIfInBounds_toArray, List.set_cons_zero, List.set_cons_succ, List.getElem_toArray, List.getElem_cons_zero, List.getElem_cons_succ]
  refine rest_take (i := 11) (v := undef) all_wide (noDefers_of (by kernel_rfl)) rfl (by kernel_rfl) (by kernel_rfl) (by kernel_rfl) (fun _ _ _ h => h) (Or.inr ⟨by rfl, rfl⟩) hHeld ?_
  change RestIn _ _ _ _ _ _ _ 9 #[true, true, true, true, true, true, true, true, true, true, true, true, false, false, false, false, false, false, false, false, false] _ _
  try simp only [Act.put, List.setIfInBounds_toArray, List.set_cons_zero, List.set_cons_succ, List.getElem_toArray, List.getElem_cons_zero, List.getElem_cons_succ]
  refine rest_take (i := 12) (v := _) all_wide (noDefers_of (by kernel_rfl)) rfl (by kernel_rfl) (by kernel_rfl) (by kernel_rfl) (fun _ _ _ h => h) (Or.inl ⟨by rfl, by intro w hSw; clear hSw; go_simp; first | done | with_reducible rfl⟩) hHeld ?_
  change RestIn _ _ _ _ _ _ _ 8 #[true, true, true, true, true, true, true, true, true, true, true, true, true, false, false, false, false, false, false, false, false] _ _
  try simp only [Act.put, List.setIfInBounds_toArray, List.set_cons_zero, List.set_cons_succ, List.getElem_toArray, List.getElem_cons_zero, List.getElem_cons_succ]
  refine rest_take (i := 13) (v := _) all_wide (noDefers_of (by kernel_rfl)) rfl (by kernel_rfl) (by kernel_rfl) (by kernel_rfl) (fun _ _ _ h => h) (Or.inl ⟨by rfl, by intro w hSw; clear hSw; go_simp; first | done | with_reducible rfl⟩) hHeld ?_
  change RestIn _ _ _ _ _ _ _ 7 #[true, true, true, true, true, true, true, true, true, true, true, true, true, true, false, false, false, false, false, false, false] _ _
  try simp only [Act.put, List.setIfInBounds_toArray, List.set_cons_zero, List.set_cons_succ, List.getElem_toArray, List.getElem_cons_zero, List.getElem_cons_succ]
  refine rest_take (i := 14) (v := undef) all_wide (noDefers_of (by kernel_rfl)) rfl (by kernel_rfl) (by kernel_rfl) (by kernel_rfl) (fun _ _ _ h => h) (Or.inr ⟨by rfl, rfl⟩) hHeld ?_
  change RestIn _ _ _ _ _ _ _ 6 #[true, true, true, true, true, true, true, true, true, true, true, true, true, true, true, false, false, false, false, false, false] _ _
  try simp only [Act.put, List.setIfInBounds_toArray, List.set_cons_zero, List.set_cons_succ, List.getElem_toArray, List.getElem_cons_zero, List.getElem_cons_succ]
  refine rest_take (i := 15) (v := undef) all_wide (noDefers_of (by kernel_rfl)) rfl (by kernel_rfl) (by kernel_rfl) (by kernel_rfl) (fun _ _ _ h => h) (Or.inr ⟨by rfl, rfl⟩) hHeld ?_
  change RestIn _ _ _ _ _ _ _ 5 #[true, true, true, true, true, true, true, true, true, true, true, true, true, true, true, true, false, false, false, false, false] _ _
  try simp only [Act.put, List.setIfInBounds_toArray, List.set_cons_zero, List.set_cons_succ, List.getElem_toArray, List.getElem_cons_zero, List.getElem_cons_succ]
  refine rest_take (i := 16) (v := undef) all_wide (noDefers_of (by kernel_rfl)) rfl (by kernel_rfl) (by kernel_rfl) (by kernel_rfl) (fun _ _ _ h => h) (Or.inr ⟨by rfl, rfl⟩) hHeld ?_
  change RestIn _ _ _ _ _ _ _ 4 #[true, true, true, true, true, true, true, true, true, true, true, true, true, true, true, true, true, false, false, false, false] _ _
  try simp only [Act.put, List.setIfInBounds_toArray, List.set_cons_zero, List.set_cons_succ, List.getElem_toArray, List.getElem_cons_zero, List.getElem_cons_succ]
  refine rest_take (i := 17) (v := undef) all_wide (noDefers_of (by kernel_rfl)) rfl (by kernel_rfl) (by kernel_rfl) (by kernel_rfl) (fun _ _ _ h => h) (Or.inr ⟨by rfl, rfl⟩) hHeld ?_
  change RestIn _ _ _ _ _ _ _ 3 #[true, true, true, true, true, true, true, true, true, true, true, true, true, true, true, true, true, true, false, false, false] _ _
  try simp only [Act.put, List.setIfInBounds_toArray, List.set_cons_zero, List.set_cons_succ, List.getElem_toArray, List.getElem_cons_zero, List.getElem_cons_succ]
  refine rest_take (i := 18) (v := undef) all_wide (noDefers_of (by kernel_rfl)) rfl (by kernel_rfl) (by kernel_rfl) (by kernel_rfl) (fun _ _ _ h => h) (Or.inr ⟨by rfl, rfl⟩) hHeld ?_
  change RestIn _ _ _ _ _ _ _ 2 #[true, true, true, true, true, true, true, true, true, true, true, true, true, true, true, true, true, true, true, false, false] _ _
  try simp only [Act.put, List.setIfInBounds_toArray, List.set_cons_zero, List.set_cons_succ, List.getElem_toArray, List.getElem_cons_zero, List.getElem_cons_succ]
  refine rest_take (i := 19) (v := _) all_wide (noDefers_of (by kernel_rfl)) rfl (by kernel_rfl) (by kernel_rfl) (by kernel_rfl) (fun _ _ _ h => h) (Or.inl ⟨by rfl, by intro w hSw; clear hSw; go_simp; first | done | with_reducible rfl⟩) hHeld ?_
  change RestIn _ _ _ _ _ _ _ 1 #[true, true, true, true, true, true, true, true, true, true, true, true, true, true, true, true, true, true, true, true, false] _ _
  try simp only [Act.put, List.setIfInBounds_toArray, List.set_cons_zero, List.set_cons_succ, List.getElem_toArray, List.getElem_cons_zero, List.getElem_cons_succ]
  refine rest_take (i := 20) (v := _) all_wide (noDefers_of (by kernel_rfl)) rfl (by kernel_rfl) (by kernel_rfl) (by kernel_rfl) (fun _ _ _ h => h) (Or.inl ⟨by rfl, by intro w hSw; clear hSw; go_simp; first | done | with_reducible rfl⟩) hHeld ?_
  change RestIn _ _ _ _ _ _ _ 0 #[true, true, true, true, true, true, true, true, true, true, true, true, true, true, true, true, true, true, true, true, true] _ _
  try simp only [Act.put, List.setIfInBounds_toArray, List.set_cons_zero, List.set_cons_succ, List.getElem_toArray, List.getElem_cons_zero, List.getElem_cons_succ]
  refine rest_done (by kernel_rfl) ?_
  go_wp2
  go_ret
  exact ⟨ret_bool HV2.out.symm, HB0.out.trans (hNow.mono HB0.out.size)⟩
set_option linter.unusedSimpArgs false in
set_option maxRecDepth 100000 in
set_option maxHeartbeats 8000000 in
theorem proveW_1 (f : Flt) (A Al : Option Addr) (c cl : Nat) (a b : Int) (l : List Int) (w : World) (hlc : f.cycle.length ≤ maxLen) (hr : RS encB 4 w w.heap.size A f.cycle) (hl : RS encI 1 w w.heap.size Al l) (hok : f.ok = true) (hwin : winB a b = false) :
    Calls Try.prog 41 #[.agg #[.int .i64 f.fly.pos.x.lo, .int .i64 f.fly.pos.x.hi, .int .i64 f.fly.pos.z.lo, .int .i64 f.fly.pos.z.hi, .int .i64 f.fly.speed.x.lo, .int .i64 f.fly.speed.x.hi, .int .i64 f.fly.speed.z.lo, .int .i64 f.fly.speed.z.hi, .int .i64 f.fly.mass, .slice A f.cycle.length c, .int .i64 f.reach, .int .i64 f.soft, .int .i64 f.bears, .int .i64 f.least, .int .i64 f.most], .agg #[.int .i64 a, .int .i64 b], .slice Al l.length cl] w fun e w' => e = .returned (.bool (pwB f a b l)) ∧ Below w.heap.size w w' := by
  have hB0 := ((Below.refl w.heap.size w).alloc (Nat.le_refl _) (.cells #[.int .i64 f.fly.pos.x.lo, .int .i64 f.fly.pos.x.hi, .int .i64 f.fly.pos.z.lo, .int .i64 f.fly.pos.z.hi, .int .i64 f.fly.speed.x.lo, .int .i64 f.fly.speed.x.hi, .int .i64 f.fly.speed.z.lo, .int .i64 f.fly.speed.z.hi, .int .i64 f.fly.mass, .slice A f.cycle.length c, .int .i64 f.reach, .int .i64 f.soft, .int .i64 f.bears, .int .i64 f.least, .int .i64 f.most] 50)).alloc (by simp) (.cells #[.int .i64 a, .int .i64 b] 92)
  have kF0 := (Blk.new w 50 #[.int .i64 f.fly.pos.x.lo, .int .i64 f.fly.pos.x.hi, .int .i64 f.fly.pos.z.lo, .int .i64 f.fly.pos.z.hi, .int .i64 f.fly.speed.x.lo, .int .i64 f.fly.speed.x.hi, .int .i64 f.fly.speed.z.lo, .int .i64 f.fly.speed.z.hi, .int .i64 f.fly.mass, .slice A f.cycle.length c, .int .i64 f.reach, .int .i64 f.soft, .int .i64 f.bears, .int .i64 f.least, .int .i64 f.most]).alloc (.cells #[.int .i64 a, .int .i64 b] 92)
  have kW0 := Blk.new (w.alloc (.cells #[.int .i64 f.fly.pos.x.lo, .int .i64 f.fly.pos.x.hi, .int .i64 f.fly.pos.z.lo, .int .i64 f.fly.pos.z.hi, .int .i64 f.fly.speed.x.lo, .int .i64 f.fly.speed.x.hi, .int .i64 f.fly.speed.z.lo, .int .i64 f.fly.speed.z.hi, .int .i64 f.fly.mass, .slice A f.cycle.length c, .int .i64 f.reach, .int .i64 f.soft, .int .i64 f.bears, .int .i64 f.least, .int .i64 f.most] 50)) 92 #[.int .i64 a, .int .i64 b]
  simp only [World.size_alloc] at kW0
  have hR00 := hr.to hB0
  have hL00 := hl.to hB0
  have HV : Hid (∀ W : World, RS encB 4 W W.heap.size A f.cycle → Calls Try.prog 56 #[.agg #[.int .i64 f.fly.pos.x.lo, .int .i64 f.fly.pos.x.hi, .int .i64 f.fly.pos.z.lo, .int .i64 f.fly.pos.z.hi, .int .i64 f.fly.speed.x.lo, .int .i64 f.fly.speed.x.hi, .int .i64 f.fly.speed.z.lo, .int .i64 f.fly.speed.z.hi, .int .i64 f.fly.mass, .slice A f.cycle.length c, .int .i64 f.reach, .int .i64 f.soft, .int .i64 f.bears, .int .i64 f.least, .int .i64 f.most]] W fun e w' => e = .returned (.bool true) ∧ Below W.heap.size W w') := fun W h => by rw [← hok]; exact flight_any f A c W h hlc
  have HW : Hid (∀ W : World, Calls Try.prog 69 #[.agg #[.int .i64 a, .int .i64 b]] W fun e w' => e = .returned (.bool false) ∧ Below W.heap.size W w') := fun W => by rw [← hwin]; exact winValid_any a b W
  have HV2 : Hid (pwB f a b l = false) := by
    show _ = _
    unfold pwB
    rw [hok, hwin]
    rfl
  clear hok hwin hr hl
  have hmx : Try.prog.follows .mixedOrders = true := by kernel_rfl
  go_enter Try.func41, Try.ntmps41
  go_upto_region 1 with fail
  refine name_world (motive := fun W => Code.wp _ _ _ _ W) _ ?_
  intro W0 hW
  have hWc := hW.cell
  have hWz := hW.size
  have hWb := hW.below (hB0)
  have kF := hW.blk kF0
  have kW := hW.blk kW0
  have hR0 := hR00.to (hW.below (Below.refl _ _))
  have hL0 := hL00.to (hW.below (Below.refl _ _))
  have HB0 := Lib.hid hWb
  clear hB0 kF0 kW0 hR00 hL00 hW hWc hWz hWb
  refine (wpIn_wide (n := 9)).1 ?_
  have hLast := trivial
  refine region_rest (S := (fun w' => Blk w' (w.heap.size) 50 #[.int .i64 f.fly.pos.x.lo, .int .i64 f.fly.pos.x.hi, .int .i64 f.fly.pos.z.lo, .int .i64 f.fly.pos.z.hi, .int .i64 f.fly.speed.x.lo, .int .i64 f.fly.speed.x.hi, .int .i64 f.fly.speed.z.lo, .int .i64 f.fly.speed.z.hi, .int .i64 f.fly.mass, .slice A f.cycle.length c, .int .i64 f.reach, .int .i64 f.soft, .int .i64 f.bears, .int .i64 f.least, .int .i64 f.most] ∧ Blk w' (w.heap.size + 1) 92 #[.int .i64 a, .int .i64 b] ∧ Below W0.heap.size W0 w')) hmx ?_ (fun hHeld => ?_)
  · exact ⟨kF.drew, kW.drew, (Below.refl W0.heap.size W0).drew⟩
  change RestIn _ _ _ _ _ _ _ 21 #[false, false, false, false, false, false, false, false, false, false, false, false, false, false, false, false, false, false, false, false, false] _ (World.drew _)
  refine rest_take (i := 0) (v := _) all_wide (noDefers_of (by kernel_rfl)) rfl (by kernel_rfl) (by kernel_rfl) (by kernel_rfl) (fun _ _ _ h => h) (Or.inl ⟨by rfl, by intro w hSw; (obtain ⟨q0, q1, _⟩ := hSw; have q0x0 := q0.cell 0; have q0x1 := q0.cell 1; have q0x2 := q0.cell 2; have q0x3 := q0.cell 3; have q0x4 := q0.cell 4; have q0x5 := q0.cell 5; have q0x6 := q0.cell 6; have q0x7 := q0.cell 7; have q0x8 := q0.cell 8; have q0x9 := q0.cell 9; have q0x10 := q0.cell 10; have q0x11 := q0.cell 11; have q0x12 := q0.cell 12; have q0x13 := q0.cell 13; have q0x14 := q0.cell 14; have q1x0 := q1.cell 0; have q1x1 := q1.cell 1; simp at q0x0 q0x1 q0x2 q0x3 q0x4 q0x5 q0x6 q0x7 q0x8 q0x9 q0x10 q0x11 q0x12 q0x13 q0x14 q1x0 q1x1); go_simp; first | done | with_reducible rfl⟩) hHeld ?_
  change RestIn _ _ _ _ _ _ _ 20 #[true, false, false, false, false, false, false, false, false, false, false, false, false, false, false, false, false, false, false, false, false] _ _
  try simp only [Act.put, List.setIfInBounds_toArray, List.set_cons_zero, List.set_cons_succ, List.getElem_toArray, List.getElem_cons_zero, List.getElem_cons_succ]
  refine rest_ready (rs := [1]) (by kernel_rfl) (by simp) ?_
  refine AllRest.cons rfl (fun K hK => ?_) AllRest.nil
  have hNow := (hHeld.2.2)
  clear hLast
  have hLast := hNow
  go_simp
  gi_wp2_with ((refine ⟨trivial, ?_⟩; gi_at_call 56; (with_reducible refine (callsIn_wide.2 (HV.out _ (hR0.to hNow))).mono ?_); rintro e wn ⟨rfl, hb⟩))
  refine hK.out _ _ ?_ (fun hHeld' => ?_)
  · exact ⟨hHeld.1.below hb hHeld.1.lt, hHeld.2.1.below hb hHeld.2.1.lt, (hHeld.2.2).trans (hb.mono (hHeld.2.2).size)⟩
  clear hK K
  change RestIn _ _ _ _ _ _ _ 19 #[true, true, false, false, false, false, false, false, false, false, false, false, false, false, false, false, false, false, false, false, false] _ _
  try simp only [Act.put, List.setIfInBounds_toArray, List.set_cons_zero, List.set_cons_succ, List.getElem_toArray, List.getElem_cons_zero, List.getElem_cons_succ]
  clear hHeld
  have hHeld := hHeld'
  clear hHeld'
  have hNow := (hHeld.2.2)
  refine rest_take (i := 2) (v := _) all_wide (noDefers_of (by kernel_rfl)) rfl (by kernel_rfl) (by kernel_rfl) (by kernel_rfl) (fun _ _ _ h => h) (Or.inl ⟨by rfl, by intro w hSw; clear hSw; go_simp; first | done | with_reducible rfl⟩) hHeld ?_
  change RestIn _ _ _ _ _ _ _ 18 #[true, true, true, false, false, false, false, false, false, false, false, false, false, false, false, false, false, false, false, false, false] _ _
  try simp only [Act.put, List.setIfInBounds_toArray, List.set_cons_zero, List.set_cons_succ, List.getElem_toArray, List.getElem_cons_zero, List.getElem_cons_succ]
  refine rest_take (i := 3) (v := _) all_wide (noDefers_of (by kernel_rfl)) rfl (by kernel_rfl) (by kernel_rfl) (by kernel_rfl) (fun _ _ _ h => h) (Or.inl ⟨by rfl, by intro w hSw; (obtain ⟨q0, q1, _⟩ := hSw; have q0x0 := q0.cell 0; have q0x1 := q0.cell 1; have q0x2 := q0.cell 2; have q0x3 := q0.cell 3; have q0x4 := q0.cell 4; have q0x5 := q0.cell 5; have q0x6 := q0.cell 6; have q0x7 := q0.cell 7; have q0x8 := q0.cell 8; have q0x9 := q0.cell 9; have q0x10 := q0.cell 10; have q0x11 := q0.cell 11; have q0x12 := q0.cell 12; have q0x13 := q0.cell 13; have q0x14 := q0.cell 14; have q1x0 := q1.cell 0; have q1x1 := q1.cell 1; simp at q0x0 q0x1 q0x2 q0x3 q0x4 q0x5 q0x6 q0x7 q0x8 q0x9 q0x10 q0x11 q0x12 q0x13 q0x14 q1x0 q1x1); go_simp; first | done | with_reducible rfl⟩) hHeld ?_
  change RestIn _ _ _ _ _ _ _ 17 #[true, true, true, true, false, false, false, false, false, false, false, false, false, false, false, false, false, false, false, false, false] _ _
  try simp only [Act.put, List.setIfInBounds_toArray, List.set_cons_zero, List.set_cons_succ, List.getElem_toArray, List.getElem_cons_zero, List.getElem_cons_succ]
  refine rest_ready (rs := [4]) (by kernel_rfl) (by simp) ?_
  refine AllRest.cons rfl (fun K hK => ?_) AllRest.nil
  have hNow := (hHeld.2.2)
  clear hLast
  have hLast := hNow
  go_simp
  gi_wp2_with ((refine ⟨trivial, ?_⟩; gi_at_call 69; (with_reducible refine (callsIn_wide.2 (HW.out _)).mono ?_); rintro e wn ⟨rfl, hb⟩))
  refine hK.out _ _ ?_ (fun hHeld' => ?_)
  · exact ⟨hHeld.1.below hb hHeld.1.lt, hHeld.2.1.below hb hHeld.2.1.lt, (hHeld.2.2).trans (hb.mono (hHeld.2.2).size)⟩
  clear hK K
  change RestIn _ _ _ _ _ _ _ 16 #[true, true, true, true, true, false, false, false, false, false, false, false, false, false, false, false, false, false, false, false, false] _ _
  try simp only [Act.put, List.setIfInBounds_toArray, List.set_cons_zero, List.set_cons_succ, List.getElem_toArray, List.getElem_cons_zero, List.getElem_cons_succ]
  clear hHeld
  have hHeld := hHeld'
  clear hHeld'
  have hNow := (hHeld.2.2)
  refine rest_take (i := 5) (v := _) all_wide (noDefers_of (by kernel_rfl)) rfl (by kernel_rfl) (by kernel_rfl) (by kernel_rfl) (fun _ _ _ h => h) (Or.inl ⟨by rfl, by intro w hSw; clear hSw; go_simp; first | done | with_reducible rfl⟩) hHeld ?_
  change RestIn _ _ _ _ _ _ _ 15 #[true, true, true, true, true, true, false, false, false, false, false, false, false, false, false, false, false, false, false, false, false] _ _
  try simp only [Act.put, List.setIfInBounds_toArray, List.set_cons_zero, List.set_cons_succ, List.getElem_toArray, List.getElem_cons_zero, List.getElem_cons_succ]
  refine rest_take (i := 6) (v := _) all_wide (noDefers_of (by kernel_rfl)) rfl (by kernel_rfl) (by kernel_rfl) (by kernel_rfl) (fun _ _ _ h => h) (Or.inl ⟨by rfl, by intro w hSw; clear hSw; go_simp; first | done | with_reducible rfl⟩) hHeld ?_
  change RestIn _ _ _ _ _ _ _ 14 #[true, true, true, true, true, true, true, false, false, false, false, false, false, false, false, false, false, false, false, false, false] _ _
  try simp only [Act.put, List.setIfInBounds_toArray, List.set_cons_zero, List.set_cons_succ, List.getElem_toArray, List.getElem_cons_zero, List.getElem_cons_succ]
  refine rest_take (i := 7) (v := undef) all_wide (noDefers_of (by kernel_rfl)) rfl (by kernel_rfl) (by kernel_rfl) (by kernel_rfl) (fun _ _ _ h => h) (Or.inr ⟨by rfl, rfl⟩) hHeld ?_
  change RestIn _ _ _ _ _ _ _ 13 #[true, true, true, true, true, true, true, true, false, false, false, false, false, false, false, false, false, false, false, false, false] _ _
  try simp only [Act.put, List.setIfInBounds_toArray, List.set_cons_zero, List.set_cons_succ, List.getElem_toArray, List.getElem_cons_zero, List.getElem_cons_succ]
  refine rest_take (i := 8) (v := undef) all_wide (noDefers_of (by kernel_rfl)) rfl (by kernel_rfl) (by kernel_rfl) (by kernel_rfl) (fun _ _ _ h => h) (Or.inr ⟨by rfl, rfl⟩) hHeld ?_
  change RestIn _ _ _ _ _ _ _ 12 #[true, true, true, true, true, true, true, true, true, false, false, false, false, false, false, false, false, false, false, false, false] _ _
  try simp only [Act.put, List.setIfInBounds_toArray, List.set_cons_zero, List.set_cons_succ, List.getElem_toArray, List.getElem_cons_zero, List.getElem_cons_succ]
  refine rest_take (i := 9) (v := undef) all_wide (noDefers_of (by kernel_rfl)) rfl (by kernel_rfl) (by kernel_rfl) (by kernel_rfl) (fun _ _ _ h => h) (Or.inr ⟨by rfl, rfl⟩) hHeld ?_
  change RestIn _ _ _ _ _ _ _ 11 #[true, true, true, true, true, true, true, true, true, true, false, false, false, false, false, false, false, false, false, false, false] _ _
  try simp only [Act.put, List.setIfInBounds_toArray, List.set_cons_zero, List.set_cons_succ, List.getElem_toArray, List.getElem_cons_zero, List.getElem_cons_succ]
  refine rest_take (i := 10) (v := undef) all_wide (noDefers_of (by kernel_rfl)) rfl (by kernel_rfl) (by kernel_rfl) (by kernel_rfl) (fun _ _ _ h => h) (Or.inr ⟨by rfl, rfl⟩) hHeld ?_
  change RestIn _ _ _ _ _ _ _ 10 #[true, true, true, true, true, true, true, true, true, true, true, false, false, false, false, false, false, false, false, false, false] _ _
  try simp only [Act.put, List.setIfInBounds_toArray, List.set_cons_zero, List.set_cons_succ, List.getElem_toArray, List.getElem_cons_zero, List.getElem_cons_succ]
  refine rest_take (i := 11) (v := undef) all_wide (noDefers_of (by kernel_rfl)) rfl (by kernel_rfl) (by kernel_rfl) (by kernel_rfl) (fun _ _ _ h => h) (Or.inr ⟨by rfl, rfl⟩) hHeld ?_
  change RestIn _ _ _ _ _ _ _ 9 #[true, true, true, true, true, true, true, true, true, true, true, true, false, false, false, false, false, false, false, false, false] _ _
  try simp only [Act.put, List.setIfInBounds_toArray, List.set_cons_zero, List.set_cons_succ, List.getElem_toArray, List.getElem_cons_zero, List.getElem_cons_succ]
  refine rest_take (i := 12) (v := _) all_wide (noDefers_of (by kernel_rfl)) rfl (by kernel_rfl) (by kernel_rfl) (by kernel_rfl) (fun _ _ _ h => h) (Or.inl ⟨by rfl, by intro w hSw; clear hSw; go_simp; first | done | with_reducible rfl⟩) hHeld ?_
  change RestIn _ _ _ _ _ _ _ 8 #[true, true, true, true, true, true, true, true, true, true, true, true, true, false, false, false, false, false, false, false, false] _ _
  try simp only [Act.put, List.setIfInBounds_toArray, List.set_cons_zero, List.set_cons_succ, List.getElem_toArray, List.getElem_cons_zero, List.getElem_cons_succ]
  refine rest_take (i := 13) (v := _) all_wide (noDefers_of (by kernel_rfl)) rfl (by kernel_rfl) (by kernel_rfl) (by kernel_rfl) (fun _ _ _ h => h) (Or.inl ⟨by rfl, by intro w hSw; clear hSw; go_simp; first | done | with_reducible rfl⟩) hHeld ?_
  change RestIn _ _ _ _ _ _ _ 7 #[true, true, true, true, true, true, true, true, true, true, true, true, true, true, false, false, false, false, false, false, false] _ _
  try simp only [Act.put, List.setIfInBounds_toArray, List.set_cons_zero, List.set_cons_succ, List.getElem_toArray, List.getElem_cons_zero, List.getElem_cons_succ]
  refine rest_take (i := 14) (v := undef) all_wide (noDefers_of (by kernel_rfl)) rfl (by kernel_rfl) (by kernel_rfl) (by kernel_rfl) (fun _ _ _ h => h) (Or.inr ⟨by rfl, rfl⟩) hHeld ?_
  change RestIn _ _ _ _ _ _ _ 6 #[true, true, true, true, true, true, true, true, true, true, true, true, true, true, true, false, false, false, false, false, false] _ _
  try simp only [Act.put, List.setIfInBounds_toArray, List.set_cons_zero, List.set_cons_succ, List.getElem_toArray, List.getElem_cons_zero, List.getElem_cons_succ]
  refine rest_take (i := 15) (v := undef) all_wide (noDefers_of (by kernel_rfl)) rfl (by kernel_rfl) (by kernel_rfl) (by kernel_rfl) (fun _ _ _ h => h) (Or.inr ⟨by rfl, rfl⟩) hHeld ?_
  change RestIn _ _ _ _ _ _ _ 5 #[true, true, true, true, true, true, true, true, true, true, true, true, true, true, true, true, false, false, false, false, false] _ _
  try simp only [Act.put, List.setIfInBounds_toArray, List.set_cons_zero, List.set_cons_succ, List.getElem_toArray, List.getElem_cons_zero, List.getElem_cons_succ]
  refine rest_take (i := 16) (v := undef) all_wide (noDefers_of (by kernel_rfl)) rfl (by kernel_rfl) (by kernel_rfl) (by kernel_rfl) (fun _ _ _ h => h) (Or.inr ⟨by rfl, rfl⟩) hHeld ?_
  change RestIn _ _ _ _ _ _ _ 4 #[true, true, true, true, true, true, true, true, true, true, true, true, true, true, true, true, true, false, false, false, false] _ _
  try simp only [Act.put, List.setIfInBounds_toArray, List.set_cons_zero, List.set_cons_succ, List.getElem_toArray, List.getElem_cons_zero, List.getElem_cons_succ]
  refine rest_take (i := 17) (v := undef) all_wide (noDefers_of (by kernel_rfl)) rfl (by kernel_rfl) (by kernel_rfl) (by kernel_rfl) (fun _ _ _ h => h) (Or.inr ⟨by rfl, rfl⟩) hHeld ?_
  change RestIn _ _ _ _ _ _ _ 3 #[true, true, true, true, true, true, true, true, true, true, true, true, true, true, true, true, true, true, false, false, false] _ _
  try simp only [Act.put, List.setIfInBounds_toArray, List.set_cons_zero, List.set_cons_succ, List.getElem_toArray, List.getElem_cons_zero, List.getElem_cons_succ]
  refine rest_take (i := 18) (v := undef) all_wide (noDefers_of (by kernel_rfl)) rfl (by kernel_rfl) (by kernel_rfl) (by kernel_rfl) (fun _ _ _ h => h) (Or.inr ⟨by rfl, rfl⟩) hHeld ?_
  change RestIn _ _ _ _ _ _ _ 2 #[true, true, true, true, true, true, true, true, true, true, true, true, true, true, true, true, true, true, true, false, false] _ _
  try simp only [Act.put, List.setIfInBounds_toArray, List.set_cons_zero, List.set_cons_succ, List.getElem_toArray, List.getElem_cons_zero, List.getElem_cons_succ]
  refine rest_take (i := 19) (v := _) all_wide (noDefers_of (by kernel_rfl)) rfl (by kernel_rfl) (by kernel_rfl) (by kernel_rfl) (fun _ _ _ h => h) (Or.inl ⟨by rfl, by intro w hSw; clear hSw; go_simp; first | done | with_reducible rfl⟩) hHeld ?_
  change RestIn _ _ _ _ _ _ _ 1 #[true, true, true, true, true, true, true, true, true, true, true, true, true, true, true, true, true, true, true, true, false] _ _
  try simp only [Act.put, List.setIfInBounds_toArray, List.set_cons_zero, List.set_cons_succ, List.getElem_toArray, List.getElem_cons_zero, List.getElem_cons_succ]
  refine rest_take (i := 20) (v := _) all_wide (noDefers_of (by kernel_rfl)) rfl (by kernel_rfl) (by kernel_rfl) (by kernel_rfl) (fun _ _ _ h => h) (Or.inl ⟨by rfl, by intro w hSw; clear hSw; go_simp; first | done | with_reducible rfl⟩) hHeld ?_
  change RestIn _ _ _ _ _ _ _ 0 #[true, true, true, true, true, true, true, true, true, true, true, true, true, true, true, true, true, true, true, true, true] _ _
  try simp only [Act.put, List.setIfInBounds_toArray, List.set_cons_zero, List.set_cons_succ, List.getElem_toArray, List.getElem_cons_zero, List.getElem_cons_succ]
  refine rest_done (by kernel_rfl) ?_
  go_wp2
  go_ret
  exact ⟨ret_bool HV2.out.symm, HB0.out.trans (hNow.mono HB0.out.size)⟩
set_option linter.unusedSimpArgs false in
set_option maxRecDepth 100000 in
set_option maxHeartbeats 8000000 in
theorem proveW_2 (f : Flt) (A Al : Option Addr) (c cl : Nat) (a b : Int) (l : List Int) (w : World) (hlc : f.cycle.length ≤ maxLen) (hr : RS encB 4 w w.heap.size A f.cycle) (hl : RS encI 1 w w.heap.size Al l) (hok : f.ok = true) (hwin : winB a b = true) (hlen : ¬ (l.length : Int) = b - a + 1) :
    Calls Try.prog 41 #[.agg #[.int .i64 f.fly.pos.x.lo, .int .i64 f.fly.pos.x.hi, .int .i64 f.fly.pos.z.lo, .int .i64 f.fly.pos.z.hi, .int .i64 f.fly.speed.x.lo, .int .i64 f.fly.speed.x.hi, .int .i64 f.fly.speed.z.lo, .int .i64 f.fly.speed.z.hi, .int .i64 f.fly.mass, .slice A f.cycle.length c, .int .i64 f.reach, .int .i64 f.soft, .int .i64 f.bears, .int .i64 f.least, .int .i64 f.most], .agg #[.int .i64 a, .int .i64 b], .slice Al l.length cl] w fun e w' => e = .returned (.bool (pwB f a b l)) ∧ Below w.heap.size w w' := by
  have hB0 := ((Below.refl w.heap.size w).alloc (Nat.le_refl _) (.cells #[.int .i64 f.fly.pos.x.lo, .int .i64 f.fly.pos.x.hi, .int .i64 f.fly.pos.z.lo, .int .i64 f.fly.pos.z.hi, .int .i64 f.fly.speed.x.lo, .int .i64 f.fly.speed.x.hi, .int .i64 f.fly.speed.z.lo, .int .i64 f.fly.speed.z.hi, .int .i64 f.fly.mass, .slice A f.cycle.length c, .int .i64 f.reach, .int .i64 f.soft, .int .i64 f.bears, .int .i64 f.least, .int .i64 f.most] 50)).alloc (by simp) (.cells #[.int .i64 a, .int .i64 b] 92)
  have kF0 := (Blk.new w 50 #[.int .i64 f.fly.pos.x.lo, .int .i64 f.fly.pos.x.hi, .int .i64 f.fly.pos.z.lo, .int .i64 f.fly.pos.z.hi, .int .i64 f.fly.speed.x.lo, .int .i64 f.fly.speed.x.hi, .int .i64 f.fly.speed.z.lo, .int .i64 f.fly.speed.z.hi, .int .i64 f.fly.mass, .slice A f.cycle.length c, .int .i64 f.reach, .int .i64 f.soft, .int .i64 f.bears, .int .i64 f.least, .int .i64 f.most]).alloc (.cells #[.int .i64 a, .int .i64 b] 92)
  have kW0 := Blk.new (w.alloc (.cells #[.int .i64 f.fly.pos.x.lo, .int .i64 f.fly.pos.x.hi, .int .i64 f.fly.pos.z.lo, .int .i64 f.fly.pos.z.hi, .int .i64 f.fly.speed.x.lo, .int .i64 f.fly.speed.x.hi, .int .i64 f.fly.speed.z.lo, .int .i64 f.fly.speed.z.hi, .int .i64 f.fly.mass, .slice A f.cycle.length c, .int .i64 f.reach, .int .i64 f.soft, .int .i64 f.bears, .int .i64 f.least, .int .i64 f.most] 50)) 92 #[.int .i64 a, .int .i64 b]
  simp only [World.size_alloc] at kW0
  have hR00 := hr.to hB0
  have hL00 := hl.to hB0
  have HV : Hid (∀ W : World, RS encB 4 W W.heap.size A f.cycle → Calls Try.prog 56 #[.agg #[.int .i64 f.fly.pos.x.lo, .int .i64 f.fly.pos.x.hi, .int .i64 f.fly.pos.z.lo, .int .i64 f.fly.pos.z.hi, .int .i64 f.fly.speed.x.lo, .int .i64 f.fly.speed.x.hi, .int .i64 f.fly.speed.z.lo, .int .i64 f.fly.speed.z.hi, .int .i64 f.fly.mass, .slice A f.cycle.length c, .int .i64 f.reach, .int .i64 f.soft, .int .i64 f.bears, .int .i64 f.least, .int .i64 f.most]] W fun e w' => e = .returned (.bool true) ∧ Below W.heap.size W w') := fun W h => by rw [← hok]; exact flight_any f A c W h hlc
  have HW : Hid (∀ W : World, Calls Try.prog 69 #[.agg #[.int .i64 a, .int .i64 b]] W fun e w' => e = .returned (.bool true) ∧ Below W.heap.size W w') := fun W => by rw [← hwin]; exact winValid_any a b W
  have HT : Hid (∀ W : World, Calls Try.prog 70 #[.agg #[.int .i64 a, .int .i64 b]] W fun e w' => e = .returned (.int .i64 (b - a + 1)) ∧ Below W.heap.size W w') := fun W => winTicks_any a b W hwin
  have hq : ((l.length : Int) == b - a + 1) = false := by rw [beq_eq_false_iff_ne]; exact hlen
  have HV2 : Hid (pwB f a b l = false) := by
    show _ = _
    unfold pwB
    rw [hok, hwin]
    rw [decide_eq_false hlen]
    rfl
  clear hok hwin hlen hr hl
  have hmx : Try.prog.follows .mixedOrders = true := by kernel_rfl
  go_enter Try.func41, Try.ntmps41
  go_upto_region 1 with fail
  refine name_world (motive := fun W => Code.wp _ _ _ _ W) _ ?_
  intro W0 hW
  have hWc := hW.cell
  have hWz := hW.size
  have hWb := hW.below (hB0)
  have kF := hW.blk kF0
  have kW := hW.blk kW0
  have hR0 := hR00.to (hW.below (Below.refl _ _))
  have hL0 := hL00.to (hW.below (Below.refl _ _))
  have HB0 := Lib.hid hWb
  clear hB0 kF0 kW0 hR00 hL00 hW hWc hWz hWb
  refine (wpIn_wide (n := 9)).1 ?_
  have hLast := trivial
  refine region_rest (S := (fun w' => Blk w' (w.heap.size) 50 #[.int .i64 f.fly.pos.x.lo, .int .i64 f.fly.pos.x.hi, .int .i64 f.fly.pos.z.lo, .int .i64 f.fly.pos.z.hi, .int .i64 f.fly.speed.x.lo, .int .i64 f.fly.speed.x.hi, .int .i64 f.fly.speed.z.lo, .int .i64 f.fly.speed.z.hi, .int .i64 f.fly.mass, .slice A f.cycle.length c, .int .i64 f.reach, .int .i64 f.soft, .int .i64 f.bears, .int .i64 f.least, .int .i64 f.most] ∧ Blk w' (w.heap.size + 1) 92 #[.int .i64 a, .int .i64 b] ∧ Below W0.heap.size W0 w')) hmx ?_ (fun hHeld => ?_)
  · exact ⟨kF.drew, kW.drew, (Below.refl W0.heap.size W0).drew⟩
  change RestIn _ _ _ _ _ _ _ 21 #[false, false, false, false, false, false, false, false, false, false, false, false, false, false, false, false, false, false, false, false, false] _ (World.drew _)
  refine rest_take (i := 0) (v := _) all_wide (noDefers_of (by kernel_rfl)) rfl (by kernel_rfl) (by kernel_rfl) (by kernel_rfl) (fun _ _ _ h => h) (Or.inl ⟨by rfl, by intro w hSw; (obtain ⟨q0, q1, _⟩ := hSw; have q0x0 := q0.cell 0; have q0x1 := q0.cell 1; have q0x2 := q0.cell 2; have q0x3 := q0.cell 3; have q0x4 := q0.cell 4; have q0x5 := q0.cell 5; have q0x6 := q0.cell 6; have q0x7 := q0.cell 7; have q0x8 := q0.cell 8; have q0x9 := q0.cell 9; have q0x10 := q0.cell 10; have q0x11 := q0.cell 11; have q0x12 := q0.cell 12; have q0x13 := q0.cell 13; have q0x14 := q0.cell 14; have q1x0 := q1.cell 0; have q1x1 := q1.cell 1; simp at q0x0 q0x1 q0x2 q0x3 q0x4 q0x5 q0x6 q0x7 q0x8 q0x9 q0x10 q0x11 q0x12 q0x13 q0x14 q1x0 q1x1); go_simp; first | done | with_reducible rfl⟩) hHeld ?_
  change RestIn _ _ _ _ _ _ _ 20 #[true, false, false, false, false, false, false, false, false, false, false, false, false, false, false, false, false, false, false, false, false] _ _
  try simp only [Act.put, List.setIfInBounds_toArray, List.set_cons_zero, List.set_cons_succ, List.getElem_toArray, List.getElem_cons_zero, List.getElem_cons_succ]
  refine rest_ready (rs := [1]) (by kernel_rfl) (by simp) ?_
  refine AllRest.cons rfl (fun K hK => ?_) AllRest.nil
  have hNow := (hHeld.2.2)
  clear hLast
  have hLast := hNow
  go_simp
  gi_wp2_with ((refine ⟨trivial, ?_⟩; gi_at_call 56; (with_reducible refine (callsIn_wide.2 (HV.out _ (hR0.to hNow))).mono ?_); rintro e wn ⟨rfl, hb⟩))
  refine hK.out _ _ ?_ (fun hHeld' => ?_)
  · exact ⟨hHeld.1.below hb hHeld.1.lt, hHeld.2.1.below hb hHeld.2.1.lt, (hHeld.2.2).trans (hb.mono (hHeld.2.2).size)⟩
  clear hK K
  change RestIn _ _ _ _ _ _ _ 19 #[true, true, false, false, false, false, false, false, false, false, false, false, false, false, false, false, false, false, false, false, false] _ _
  try simp only [Act.put, List.setIfInBounds_toArray, List.set_cons_zero, List.set_cons_succ, List.getElem_toArray, List.getElem_cons_zero, List.getElem_cons_succ]
  clear hHeld
  have hHeld := hHeld'
  clear hHeld'
  have hNow := (hHeld.2.2)
  refine rest_take (i := 2) (v := _) all_wide (noDefers_of (by kernel_rfl)) rfl (by kernel_rfl) (by kernel_rfl) (by kernel_rfl) (fun _ _ _ h => h) (Or.inl ⟨by rfl, by intro w hSw; clear hSw; go_simp; first | done | with_reducible rfl⟩) hHeld ?_
  change RestIn _ _ _ _ _ _ _ 18 #[true, true, true, false, false, false, false, false, false, false, false, false, false, false, false, false, false, false, false, false, false] _ _
  try simp only [Act.put, List.setIfInBounds_toArray, List.set_cons_zero, List.set_cons_succ, List.getElem_toArray, List.getElem_cons_zero, List.getElem_cons_succ]
  refine rest_take (i := 3) (v := _) all_wide (noDefers_of (by kernel_rfl)) rfl (by kernel_rfl) (by kernel_rfl) (by kernel_rfl) (fun _ _ _ h => h) (Or.inl ⟨by rfl, by intro w hSw; (obtain ⟨q0, q1, _⟩ := hSw; have q0x0 := q0.cell 0; have q0x1 := q0.cell 1; have q0x2 := q0.cell 2; have q0x3 := q0.cell 3; have q0x4 := q0.cell 4; have q0x5 := q0.cell 5; have q0x6 := q0.cell 6; have q0x7 := q0.cell 7; have q0x8 := q0.cell 8; have q0x9 := q0.cell 9; have q0x10 := q0.cell 10; have q0x11 := q0.cell 11; have q0x12 := q0.cell 12; have q0x13 := q0.cell 13; have q0x14 := q0.cell 14; have q1x0 := q1.cell 0; have q1x1 := q1.cell 1; simp at q0x0 q0x1 q0x2 q0x3 q0x4 q0x5 q0x6 q0x7 q0x8 q0x9 q0x10 q0x11 q0x12 q0x13 q0x14 q1x0 q1x1); go_simp; first | done | with_reducible rfl⟩) hHeld ?_
  change RestIn _ _ _ _ _ _ _ 17 #[true, true, true, true, false, false, false, false, false, false, false, false, false, false, false, false, false, false, false, false, false] _ _
  try simp only [Act.put, List.setIfInBounds_toArray, List.set_cons_zero, List.set_cons_succ, List.getElem_toArray, List.getElem_cons_zero, List.getElem_cons_succ]
  refine rest_ready (rs := [4]) (by kernel_rfl) (by simp) ?_
  refine AllRest.cons rfl (fun K hK => ?_) AllRest.nil
  have hNow := (hHeld.2.2)
  clear hLast
  have hLast := hNow
  go_simp
  gi_wp2_with ((refine ⟨trivial, ?_⟩; gi_at_call 69; (with_reducible refine (callsIn_wide.2 (HW.out _)).mono ?_); rintro e wn ⟨rfl, hb⟩))
  refine hK.out _ _ ?_ (fun hHeld' => ?_)
  · exact ⟨hHeld.1.below hb hHeld.1.lt, hHeld.2.1.below hb hHeld.2.1.lt, (hHeld.2.2).trans (hb.mono (hHeld.2.2).size)⟩
  clear hK K
  change RestIn _ _ _ _ _ _ _ 16 #[true, true, true, true, true, false, false, false, false, false, false, false, false, false, false, false, false, false, false, false, false] _ _
  try simp only [Act.put, List.setIfInBounds_toArray, List.set_cons_zero, List.set_cons_succ, List.getElem_toArray, List.getElem_cons_zero, List.getElem_cons_succ]
  clear hHeld
  have hHeld := hHeld'
  clear hHeld'
  have hNow := (hHeld.2.2)
  refine rest_take (i := 5) (v := _) all_wide (noDefers_of (by kernel_rfl)) rfl (by kernel_rfl) (by kernel_rfl) (by kernel_rfl) (fun _ _ _ h => h) (Or.inl ⟨by rfl, by intro w hSw; clear hSw; go_simp; first | done | with_reducible rfl⟩) hHeld ?_
  change RestIn _ _ _ _ _ _ _ 15 #[true, true, true, true, true, true, false, false, false, false, false, false, false, false, false, false, false, false, false, false, false] _ _
  try simp only [Act.put, List.setIfInBounds_toArray, List.set_cons_zero, List.set_cons_succ, List.getElem_toArray, List.getElem_cons_zero, List.getElem_cons_succ]
  refine rest_take (i := 6) (v := _) all_wide (noDefers_of (by kernel_rfl)) rfl (by kernel_rfl) (by kernel_rfl) (by kernel_rfl) (fun _ _ _ h => h) (Or.inl ⟨by rfl, by intro w hSw; clear hSw; go_simp; first | done | with_reducible rfl⟩) hHeld ?_
  change RestIn _ _ _ _ _ _ _ 14 #[true, true, true, true, true, true, true, false, false, false, false, false, false, false, false, false, false, false, false, false, false] _ _
  try simp only [Act.put, List.setIfInBounds_toArray, List.set_cons_zero, List.set_cons_succ, List.getElem_toArray, List.getElem_cons_zero, List.getElem_cons_succ]
  refine rest_take (i := 7) (v := _) all_wide (noDefers_of (by kernel_rfl)) rfl (by kernel_rfl) (by kernel_rfl) (by kernel_rfl) (fun _ _ _ h => h) (Or.inl ⟨by rfl, by intro w hSw; clear hSw; go_simp; first | done | with_reducible rfl⟩) hHeld ?_
  change RestIn _ _ _ _ _ _ _ 13 #[true, true, true, true, true, true, true, true, false, false, false, false, false, false, false, false, false, false, false, false, false] _ _
  try simp only [Act.put, List.setIfInBounds_toArray, List.set_cons_zero, List.set_cons_succ, List.getElem_toArray, List.getElem_cons_zero, List.getElem_cons_succ]
  refine rest_take (i := 8) (v := _) all_wide (noDefers_of (by kernel_rfl)) rfl (by kernel_rfl) (by kernel_rfl) (by kernel_rfl) (fun _ _ _ h => h) (Or.inl ⟨by rfl, by intro w hSw; clear hSw; go_simp; first | done | with_reducible rfl⟩) hHeld ?_
  change RestIn _ _ _ _ _ _ _ 12 #[true, true, true, true, true, true, true, true, true, false, false, false, false, false, false, false, false, false, false, false, false] _ _
  try simp only [Act.put, List.setIfInBounds_toArray, List.set_cons_zero, List.set_cons_succ, List.getElem_toArray, List.getElem_cons_zero, List.getElem_cons_succ]
  refine rest_take (i := 9) (v := _) all_wide (noDefers_of (by kernel_rfl)) rfl (by kernel_rfl) (by kernel_rfl) (by kernel_rfl) (fun _ _ _ h => h) (Or.inl ⟨by rfl, by intro w hSw; (obtain ⟨q0, q1, _⟩ := hSw; have q0x0 := q0.cell 0; have q0x1 := q0.cell 1; have q0x2 := q0.cell 2; have q0x3 := q0.cell 3; have q0x4 := q0.cell 4; have q0x5 := q0.cell 5; have q0x6 := q0.cell 6; have q0x7 := q0.cell 7; have q0x8 := q0.cell 8; have q0x9 := q0.cell 9; have q0x10 := q0.cell 10; have q0x11 := q0.cell 11; have q0x12 := q0.cell 12; have q0x13 := q0.cell 13; have q0x14 := q0.cell 14; have q1x0 := q1.cell 0; have q1x1 := q1.cell 1; simp at q0x0 q0x1 q0x2 q0x3 q0x4 q0x5 q0x6 q0x7 q0x8 q0x9 q0x10 q0x11 q0x12 q0x13 q0x14 q1x0 q1x1); go_simp; first | done | with_reducible rfl⟩) hHeld ?_
  change RestIn _ _ _ _ _ _ _ 11 #[true, true, true, true, true, true, true, true, true, true, false, false, false, false, false, false, false, false, false, false, false] _ _
  try simp only [Act.put, List.setIfInBounds_toArray, List.set_cons_zero, List.set_cons_succ, List.getElem_toArray, List.getElem_cons_zero, List.getElem_cons_succ]
  refine rest_ready (rs := [10]) (by kernel_rfl) (by simp) ?_
  refine AllRest.cons rfl (fun K hK => ?_) AllRest.nil
  have hNow := (hHeld.2.2)
  clear hLast
  have hLast := hNow
  go_simp
  gi_wp2_with ((refine ⟨trivial, ?_⟩; gi_at_call 70; (with_reducible refine (callsIn_wide.2 (HT.out _)).mono ?_); rintro e wn ⟨rfl, hb⟩))
  refine hK.out _ _ ?_ (fun hHeld' => ?_)
  · exact ⟨hHeld.1.below hb hHeld.1.lt, hHeld.2.1.below hb hHeld.2.1.lt, (hHeld.2.2).trans (hb.mono (hHeld.2.2).size)⟩
  clear hK K
  change RestIn _ _ _ _ _ _ _ 10 #[true, true, true, true, true, true, true, true, true, true, true, false, false, false, false, false, false, false, false, false, false] _ _
  try simp only [Act.put, List.setIfInBounds_toArray, List.set_cons_zero, List.set_cons_succ, List.getElem_toArray, List.getElem_cons_zero, List.getElem_cons_succ]
  clear hHeld
  have hHeld := hHeld'
  clear hHeld'
  have hNow := (hHeld.2.2)
  refine rest_take (i := 11) (v := _) all_wide (noDefers_of (by kernel_rfl)) rfl (by kernel_rfl) (by kernel_rfl) (by kernel_rfl) (fun _ _ _ h => h) (Or.inl ⟨by rfl, by intro w hSw; clear hSw; go_simp; first | done | with_reducible rfl⟩) hHeld ?_
  change RestIn _ _ _ _ _ _ _ 9 #[true, true, true, true, true, true, true, true, true, true, true, true, false, false, false, false, false, false, false, false, false] _ _
  try simp only [Act.put, List.setIfInBounds_toArray, List.set_cons_zero, List.set_cons_succ, List.getElem_toArray, List.getElem_cons_zero, List.getElem_cons_succ]
  refine rest_take (i := 12) (v := _) all_wide (noDefers_of (by kernel_rfl)) rfl (by kernel_rfl) (by kernel_rfl) (by kernel_rfl) (fun _ _ _ h => h) (Or.inl ⟨by rfl, by intro w hSw; clear hSw; go_simp; first | done | with_reducible rfl⟩) hHeld ?_
  change RestIn _ _ _ _ _ _ _ 8 #[true, true, true, true, true, true, true, true, true, true, true, true, true, false, false, false, false, false, false, false, false] _ _
  try simp only [Act.put, List.setIfInBounds_toArray, List.set_cons_zero, List.set_cons_succ, List.getElem_toArray, List.getElem_cons_zero, List.getElem_cons_succ]
  refine rest_take (i := 13) (v := _) all_wide (noDefers_of (by kernel_rfl)) rfl (by kernel_rfl) (by kernel_rfl) (by kernel_rfl) (fun _ _ _ h => h) (Or.inl ⟨by rfl, by intro w hSw; clear hSw; go_simp; first | done | with_reducible rfl⟩) hHeld ?_
  change RestIn _ _ _ _ _ _ _ 7 #[true, true, true, true, true, true, true, true, true, true, true, true, true, true, false, false, false, false, false, false, false] _ _
  try simp only [Act.put, List.setIfInBounds_toArray, List.set_cons_zero, List.set_cons_succ, List.getElem_toArray, List.getElem_cons_zero, List.getElem_cons_succ]
  refine rest_take (i := 14) (v := undef) all_wide (noDefers_of (by kernel_rfl)) rfl (by kernel_rfl) (by kernel_rfl) (by kernel_rfl) (fun _ _ _ h => h) (Or.inr ⟨by rfl, rfl⟩) hHeld ?_
  change RestIn _ _ _ _ _ _ _ 6 #[true, true, true, true, true, true, true, true, true, true, true, true, true, true, true, false, false, false, false, false, false] _ _
  try simp only [Act.put, List.setIfInBounds_toArray, List.set_cons_zero, List.set_cons_succ, List.getElem_toArray, List.getElem_cons_zero, List.getElem_cons_succ]
  refine rest_take (i := 15) (v := undef) all_wide (noDefers_of (by kernel_rfl)) rfl (by kernel_rfl) (by kernel_rfl) (by kernel_rfl) (fun _ _ _ h => h) (Or.inr ⟨by rfl, rfl⟩) hHeld ?_
  change RestIn _ _ _ _ _ _ _ 5 #[true, true, true, true, true, true, true, true, true, true, true, true, true, true, true, true, false, false, false, false, false] _ _
  try simp only [Act.put, List.setIfInBounds_toArray, List.set_cons_zero, List.set_cons_succ, List.getElem_toArray, List.getElem_cons_zero, List.getElem_cons_succ]
  refine rest_take (i := 16) (v := undef) all_wide (noDefers_of (by kernel_rfl)) rfl (by kernel_rfl) (by kernel_rfl) (by kernel_rfl) (fun _ _ _ h => h) (Or.inr ⟨by rfl, rfl⟩) hHeld ?_
  change RestIn _ _ _ _ _ _ _ 4 #[true, true, true, true, true, true, true, true, true, true, true, true, true, true, true, true, true, false, false, false, false] _ _
  try simp only [Act.put, List.setIfInBounds_toArray, List.set_cons_zero, List.set_cons_succ, List.getElem_toArray, List.getElem_cons_zero, List.getElem_cons_succ]
  refine rest_take (i := 17) (v := undef) all_wide (noDefers_of (by kernel_rfl)) rfl (by kernel_rfl) (by kernel_rfl) (by kernel_rfl) (fun _ _ _ h => h) (Or.inr ⟨by rfl, rfl⟩) hHeld ?_
  change RestIn _ _ _ _ _ _ _ 3 #[true, true, true, true, true, true, true, true, true, true, true, true, true, true, true, true, true, true, false, false, false] _ _
  try simp only [Act.put, List.setIfInBounds_toArray, List.set_cons_zero, List.set_cons_succ, List.getElem_toArray, List.getElem_cons_zero, List.getElem_cons_succ]
  refine rest_take (i := 18) (v := undef) all_wide (noDefers_of (by kernel_rfl)) rfl (by kernel_rfl) (by kernel_rfl) (by kernel_rfl) (fun _ _ _ h => h) (Or.inr ⟨by rfl, rfl⟩) hHeld ?_
  change RestIn _ _ _ _ _ _ _ 2 #[true, true, true, true, true, true, true, true, true, true, true, true, true, true, true, true, true, true, true, false, false] _ _
  try simp only [Act.put, List.setIfInBounds_toArray, List.set_cons_zero, List.set_cons_succ, List.getElem_toArray, List.getElem_cons_zero, List.getElem_cons_succ]
  refine rest_take (i := 19) (v := _) all_wide (noDefers_of (by kernel_rfl)) rfl (by kernel_rfl) (by kernel_rfl) (by kernel_rfl) (fun _ _ _ h => h) (Or.inl ⟨by rfl, by intro w hSw; clear hSw; go_simp; first | done | with_reducible rfl⟩) hHeld ?_
  change RestIn _ _ _ _ _ _ _ 1 #[true, true, true, true, true, true, true, true, true, true, true, true, true, true, true, true, true, true, true, true, false] _ _
  try simp only [Act.put, List.setIfInBounds_toArray, List.set_cons_zero, List.set_cons_succ, List.getElem_toArray, List.getElem_cons_zero, List.getElem_cons_succ]
  refine rest_take (i := 20) (v := _) all_wide (noDefers_of (by kernel_rfl)) rfl (by kernel_rfl) (by kernel_rfl) (by kernel_rfl) (fun _ _ _ h => h) (Or.inl ⟨by rfl, by intro w hSw; clear hSw; go_simp; first | done | with_reducible rfl⟩) hHeld ?_
  change RestIn _ _ _ _ _ _ _ 0 #[true, true, true, true, true, true, true, true, true, true, true, true, true, true, true, true, true, true, true, true, true] _ _
  try simp only [Act.put, List.setIfInBounds_toArray, List.set_cons_zero, List.set_cons_succ, List.getElem_toArray, List.getElem_cons_zero, List.getElem_cons_succ]
  refine rest_done (by kernel_rfl) ?_
  go_wp2
  go_ret
  exact ⟨ret_bool HV2.out.symm, HB0.out.trans (hNow.mono HB0.out.size)⟩
set_option linter.unusedSimpArgs false in
set_option maxRecDepth 100000 in
set_option maxHeartbeats 8000000 in
theorem proveW_3 (f : Flt) (A Al : Option Addr) (c cl : Nat) (a b : Int) (l : List Int) (w : World) (hlc : f.cycle.length ≤ maxLen) (hr : RS encB 4 w w.heap.size A f.cycle) (hl : RS encI 1 w w.heap.size Al l) (hok : f.ok = true) (hwin : winB a b = true) (hlen : (l.length : Int) = b - a + 1) :
    Calls Try.prog 41 #[.agg #[.int .i64 f.fly.pos.x.lo, .int .i64 f.fly.pos.x.hi, .int .i64 f.fly.pos.z.lo, .int .i64 f.fly.pos.z.hi, .int .i64 f.fly.speed.x.lo, .int .i64 f.fly.speed.x.hi, .int .i64 f.fly.speed.z.lo, .int .i64 f.fly.speed.z.hi, .int .i64 f.fly.mass, .slice A f.cycle.length c, .int .i64 f.reach, .int .i64 f.soft, .int .i64 f.bears, .int .i64 f.least, .int .i64 f.most], .agg #[.int .i64 a, .int .i64 b], .slice Al l.length cl] w fun e w' => e = .returned (.bool (pwB f a b l)) ∧ Below w.heap.size w w' := by
  have hB0 := ((Below.refl w.heap.size w).alloc (Nat.le_refl _) (.cells #[.int .i64 f.fly.pos.x.lo, .int .i64 f.fly.pos.x.hi, .int .i64 f.fly.pos.z.lo, .int .i64 f.fly.pos.z.hi, .int .i64 f.fly.speed.x.lo, .int .i64 f.fly.speed.x.hi, .int .i64 f.fly.speed.z.lo, .int .i64 f.fly.speed.z.hi, .int .i64 f.fly.mass, .slice A f.cycle.length c, .int .i64 f.reach, .int .i64 f.soft, .int .i64 f.bears, .int .i64 f.least, .int .i64 f.most] 50)).alloc (by simp) (.cells #[.int .i64 a, .int .i64 b] 92)
  have kF0 := (Blk.new w 50 #[.int .i64 f.fly.pos.x.lo, .int .i64 f.fly.pos.x.hi, .int .i64 f.fly.pos.z.lo, .int .i64 f.fly.pos.z.hi, .int .i64 f.fly.speed.x.lo, .int .i64 f.fly.speed.x.hi, .int .i64 f.fly.speed.z.lo, .int .i64 f.fly.speed.z.hi, .int .i64 f.fly.mass, .slice A f.cycle.length c, .int .i64 f.reach, .int .i64 f.soft, .int .i64 f.bears, .int .i64 f.least, .int .i64 f.most]).alloc (.cells #[.int .i64 a, .int .i64 b] 92)
  have kW0 := Blk.new (w.alloc (.cells #[.int .i64 f.fly.pos.x.lo, .int .i64 f.fly.pos.x.hi, .int .i64 f.fly.pos.z.lo, .int .i64 f.fly.pos.z.hi, .int .i64 f.fly.speed.x.lo, .int .i64 f.fly.speed.x.hi, .int .i64 f.fly.speed.z.lo, .int .i64 f.fly.speed.z.hi, .int .i64 f.fly.mass, .slice A f.cycle.length c, .int .i64 f.reach, .int .i64 f.soft, .int .i64 f.bears, .int .i64 f.least, .int .i64 f.most] 50)) 92 #[.int .i64 a, .int .i64 b]
  simp only [World.size_alloc] at kW0
  have hR00 := hr.to hB0
  have hL00 := hl.to hB0
  have HV : Hid (∀ W : World, RS encB 4 W W.heap.size A f.cycle → Calls Try.prog 56 #[.agg #[.int .i64 f.fly.pos.x.lo, .int .i64 f.fly.pos.x.hi, .int .i64 f.fly.pos.z.lo, .int .i64 f.fly.pos.z.hi, .int .i64 f.fly.speed.x.lo, .int .i64 f.fly.speed.x.hi, .int .i64 f.fly.speed.z.lo, .int .i64 f.fly.speed.z.hi, .int .i64 f.fly.mass, .slice A f.cycle.length c, .int .i64 f.reach, .int .i64 f.soft, .int .i64 f.bears, .int .i64 f.least, .int .i64 f.most]] W fun e w' => e = .returned (.bool true) ∧ Below W.heap.size W w') := fun W h => by rw [← hok]; exact flight_any f A c W h hlc
  have HW : Hid (∀ W : World, Calls Try.prog 69 #[.agg #[.int .i64 a, .int .i64 b]] W fun e w' => e = .returned (.bool true) ∧ Below W.heap.size W w') := fun W => by rw [← hwin]; exact winValid_any a b W
  have HT : Hid (∀ W : World, Calls Try.prog 70 #[.agg #[.int .i64 a, .int .i64 b]] W fun e w' => e = .returned (.int .i64 (b - a + 1)) ∧ Below W.heap.size W w') := fun W => winTicks_any a b W hwin
  obtain ⟨⟨a1, a2⟩, ⟨b1, b2⟩, hab⟩ := winB_iff.1 hwin
  obtain ⟨p, rfl⟩ : ∃ p : Nat, a = p := ⟨a.toNat, by omega⟩
  obtain ⟨q, rfl⟩ : ∃ q : Nat, b = q := ⟨b.toNat, by omega⟩
  have hq : ((l.length : Int) == (q : Int) - (p : Int) + 1) = true := by rw [beq_iff_eq]; exact hlen
  have HF : Hid (∀ W : World, RS encB 4 W W.heap.size A f.cycle → Calls Try.prog 66 #[.agg #[.int .i64 f.fly.pos.x.lo, .int .i64 f.fly.pos.x.hi, .int .i64 f.fly.pos.z.lo, .int .i64 f.fly.pos.z.hi, .int .i64 f.fly.speed.x.lo, .int .i64 f.fly.speed.x.hi, .int .i64 f.fly.speed.z.lo, .int .i64 f.fly.speed.z.hi, .int .i64 f.fly.mass, .slice A f.cycle.length c, .int .i64 f.reach, .int .i64 f.soft, .int .i64 f.bears, .int .i64 f.least, .int .i64 f.most]] W fun e w' => ∃ g Ab An cb cn, e = .returned (.pointer (some ⟨g, 0, none⟩)) ∧ W.heap.size ≤ g ∧ FolW f A c w' w'.heap.size g Ab An cb cn ∧ Below W.heap.size W w') := fun W h => follow_any f A c W hok h
  obtain ⟨v, hv⟩ : ∃ v, provedB f p l l.length = v := ⟨_, rfl⟩
  have HP : Hid (∀ (g cb cn : Nat) (Ab An : Option Addr) (W : World), FolW f A c W W.heap.size g Ab An cb cn → RS encI 1 W W.heap.size Al l → Calls Try.prog 71 #[.pointer (some ⟨g, 0, none⟩), .agg #[.int .i64 p, .int .i64 q], .slice Al l.length cl] W fun e w' => e = .returned (.bool v) ∧ Below W.heap.size W w') := fun g cb cn Ab An W h1 h2 => by rw [← hv]; exact proved_any g f A Ab An Al c cb cn cl l p q hok (by omega) (by omega) (by omega) W h1 h2
  have HV2 : Hid (pwB f p q l = v) := by
    show _ = _
    unfold pwB
    rw [hok, hwin]
    rw [decide_eq_true hlen, Int.toNat_natCast, hv]
    rfl
  clear hok hwin hlen hv a1 a2 b1 b2 hab hr hl
  have hmx : Try.prog.follows .mixedOrders = true := by kernel_rfl
  go_enter Try.func41, Try.ntmps41
  go_upto_region 1 with fail
  refine name_world (motive := fun W => Code.wp _ _ _ _ W) _ ?_
  intro W0 hW
  have hWc := hW.cell
  have hWz := hW.size
  have hWb := hW.below (hB0)
  have kF := hW.blk kF0
  have kW := hW.blk kW0
  have hR0 := hR00.to (hW.below (Below.refl _ _))
  have hL0 := hL00.to (hW.below (Below.refl _ _))
  have HB0 := Lib.hid hWb
  clear hB0 kF0 kW0 hR00 hL00 hW hWc hWz hWb
  refine (wpIn_wide (n := 9)).1 ?_
  have hLast := trivial
  refine region_rest (S := (fun w' => Blk w' (w.heap.size) 50 #[.int .i64 f.fly.pos.x.lo, .int .i64 f.fly.pos.x.hi, .int .i64 f.fly.pos.z.lo, .int .i64 f.fly.pos.z.hi, .int .i64 f.fly.speed.x.lo, .int .i64 f.fly.speed.x.hi, .int .i64 f.fly.speed.z.lo, .int .i64 f.fly.speed.z.hi, .int .i64 f.fly.mass, .slice A f.cycle.length c, .int .i64 f.reach, .int .i64 f.soft, .int .i64 f.bears, .int .i64 f.least, .int .i64 f.most] ∧ Blk w' (w.heap.size + 1) 92 #[.int .i64 p, .int .i64 q] ∧ Below W0.heap.size W0 w')) hmx ?_ (fun hHeld => ?_)
  · exact ⟨kF.drew, kW.drew, (Below.refl W0.heap.size W0).drew⟩
  change RestIn _ _ _ _ _ _ _ 21 #[false, false, false, false, false, false, false, false, false, false, false, false, false, false, false, false, false, false, false, false, false] _ (World.drew _)
  refine rest_take (i := 0) (v := _) all_wide (noDefers_of (by kernel_rfl)) rfl (by kernel_rfl) (by kernel_rfl) (by kernel_rfl) (fun _ _ _ h => h) (Or.inl ⟨by rfl, by intro w hSw; (obtain ⟨q0, q1, _⟩ := hSw; have q0x0 := q0.cell 0; have q0x1 := q0.cell 1; have q0x2 := q0.cell 2; have q0x3 := q0.cell 3; have q0x4 := q0.cell 4; have q0x5 := q0.cell 5; have q0x6 := q0.cell 6; have q0x7 := q0.cell 7; have q0x8 := q0.cell 8; have q0x9 := q0.cell 9; have q0x10 := q0.cell 10; have q0x11 := q0.cell 11; have q0x12 := q0.cell 12; have q0x13 := q0.cell 13; have q0x14 := q0.cell 14; have q1x0 := q1.cell 0; have q1x1 := q1.cell 1; simp at q0x0 q0x1 q0x2 q0x3 q0x4 q0x5 q0x6 q0x7 q0x8 q0x9 q0x10 q0x11 q0x12 q0x13 q0x14 q1x0 q1x1); go_simp; first | done | with_reducible rfl⟩) hHeld ?_
  change RestIn _ _ _ _ _ _ _ 20 #[true, false, false, false, false, false, false, false, false, false, false, false, false, false, false, false, false, false, false, false, false] _ _
  try simp only [Act.put, List.setIfInBounds_toArray, List.set_cons_zero, List.set_cons_succ, List.getElem_toArray, List.getElem_cons_zero, List.getElem_cons_succ]
  refine rest_ready (rs := [1]) (by kernel_rfl) (by simp) ?_
  refine AllRest.cons rfl (fun K hK => ?_) AllRest.nil
  have hNow := (hHeld.2.2)
  clear hLast
  have hLast := hNow
  go_simp
  gi_wp2_with ((refine ⟨trivial, ?_⟩; gi_at_call 56; (with_reducible refine (callsIn_wide.2 (HV.out _ (hR0.to hNow))).mono ?_); rintro e wn ⟨rfl, hb⟩))
  refine hK.out _ _ ?_ (fun hHeld' => ?_)
  · exact ⟨hHeld.1.below hb hHeld.1.lt, hHeld.2.1.below hb hHeld.2.1.lt, (hHeld.2.2).trans (hb.mono (hHeld.2.2).size)⟩
  clear hK K
  change RestIn _ _ _ _ _ _ _ 19 #[true, true, false, false, false, false, false, false, false, false, false, false, false, false, false, false, false, false, false, false, false] _ _
  try simp only [Act.put, List.setIfInBounds_toArray, List.set_cons_zero, List.set_cons_succ, List.getElem_toArray, List.getElem_cons_zero, List.getElem_cons_succ]
  clear hHeld
  have hHeld := hHeld'
  clear hHeld'
  have hNow := (hHeld.2.2)
  refine rest_take (i := 2) (v := _) all_wide (noDefers_of (by kernel_rfl)) rfl (by kernel_rfl) (by kernel_rfl) (by kernel_rfl) (fun _ _ _ h => h) (Or.inl ⟨by rfl, by intro w hSw; clear hSw; go_simp; first | done | with_reducible rfl⟩) hHeld ?_
  change RestIn _ _ _ _ _ _ _ 18 #[true, true, true, false, false, false, false, false, false, false, false, false, false, false, false, false, false, false, false, false, false] _ _
  try simp only [Act.put, List.setIfInBounds_toArray, List.set_cons_zero, List.set_cons_succ, List.getElem_toArray, List.getElem_cons_zero, List.getElem_cons_succ]
  refine rest_take (i := 3) (v := _) all_wide (noDefers_of (by kernel_rfl)) rfl (by kernel_rfl) (by kernel_rfl) (by kernel_rfl) (fun _ _ _ h => h) (Or.inl ⟨by rfl, by intro w hSw; (obtain ⟨q0, q1, _⟩ := hSw; have q0x0 := q0.cell 0; have q0x1 := q0.cell 1; have q0x2 := q0.cell 2; have q0x3 := q0.cell 3; have q0x4 := q0.cell 4; have q0x5 := q0.cell 5; have q0x6 := q0.cell 6; have q0x7 := q0.cell 7; have q0x8 := q0.cell 8; have q0x9 := q0.cell 9; have q0x10 := q0.cell 10; have q0x11 := q0.cell 11; have q0x12 := q0.cell 12; have q0x13 := q0.cell 13; have q0x14 := q0.cell 14; have q1x0 := q1.cell 0; have q1x1 := q1.cell 1; simp at q0x0 q0x1 q0x2 q0x3 q0x4 q0x5 q0x6 q0x7 q0x8 q0x9 q0x10 q0x11 q0x12 q0x13 q0x14 q1x0 q1x1); go_simp; first | done | with_reducible rfl⟩) hHeld ?_
  change RestIn _ _ _ _ _ _ _ 17 #[true, true, true, true, false, false, false, false, false, false, false, false, false, false, false, false, false, false, false, false, false] _ _
  try simp only [Act.put, List.setIfInBounds_toArray, List.set_cons_zero, List.set_cons_succ, List.getElem_toArray, List.getElem_cons_zero, List.getElem_cons_succ]
  refine rest_ready (rs := [4]) (by kernel_rfl) (by simp) ?_
  refine AllRest.cons rfl (fun K hK => ?_) AllRest.nil
  have hNow := (hHeld.2.2)
  clear hLast
  have hLast := hNow
  go_simp
  gi_wp2_with ((refine ⟨trivial, ?_⟩; gi_at_call 69; (with_reducible refine (callsIn_wide.2 (HW.out _)).mono ?_); rintro e wn ⟨rfl, hb⟩))
  refine hK.out _ _ ?_ (fun hHeld' => ?_)
  · exact ⟨hHeld.1.below hb hHeld.1.lt, hHeld.2.1.below hb hHeld.2.1.lt, (hHeld.2.2).trans (hb.mono (hHeld.2.2).size)⟩
  clear hK K
  change RestIn _ _ _ _ _ _ _ 16 #[true, true, true, true, true, false, false, false, false, false, false, false, false, false, false, false, false, false, false, false, false] _ _
  try simp only [Act.put, List.setIfInBounds_toArray, List.set_cons_zero, List.set_cons_succ, List.getElem_toArray, List.getElem_cons_zero, List.getElem_cons_succ]
  clear hHeld
  have hHeld := hHeld'
  clear hHeld'
  have hNow := (hHeld.2.2)
  refine rest_take (i := 5) (v := _) all_wide (noDefers_of (by kernel_rfl)) rfl (by kernel_rfl) (by kernel_rfl) (by kernel_rfl) (fun _ _ _ h => h) (Or.inl ⟨by rfl, by intro w hSw; clear hSw; go_simp; first | done | with_reducible rfl⟩) hHeld ?_
  change RestIn _ _ _ _ _ _ _ 15 #[true, true, true, true, true, true, false, false, false, false, false, false, false, false, false, false, false, false, false, false, false] _ _
  try simp only [Act.put, List.setIfInBounds_toArray, List.set_cons_zero, List.set_cons_succ, List.getElem_toArray, List.getElem_cons_zero, List.getElem_cons_succ]
  refine rest_take (i := 6) (v := _) all_wide (noDefers_of (by kernel_rfl)) rfl (by kernel_rfl) (by kernel_rfl) (by kernel_rfl) (fun _ _ _ h => h) (Or.inl ⟨by rfl, by intro w hSw; clear hSw; go_simp; first | done | with_reducible rfl⟩) hHeld ?_
  change RestIn _ _ _ _ _ _ _ 14 #[true, true, true, true, true, true, true, false, false, false, false, false, false, false, false, false, false, false, false, false, false] _ _
  try simp only [Act.put, List.setIfInBounds_toArray, List.set_cons_zero, List.set_cons_succ, List.getElem_toArray, List.getElem_cons_zero, List.getElem_cons_succ]
  refine rest_take (i := 7) (v := _) all_wide (noDefers_of (by kernel_rfl)) rfl (by kernel_rfl) (by kernel_rfl) (by kernel_rfl) (fun _ _ _ h => h) (Or.inl ⟨by rfl, by intro w hSw; clear hSw; go_simp; first | done | with_reducible rfl⟩) hHeld ?_
  change RestIn _ _ _ _ _ _ _ 13 #[true, true, true, true, true, true, true, true, false, false, false, false, false, false, false, false, false, false, false, false, false] _ _
  try simp only [Act.put, List.setIfInBounds_toArray, List.set_cons_zero, List.set_cons_succ, List.getElem_toArray, List.getElem_cons_zero, List.getElem_cons_succ]
  refine rest_take (i := 8) (v := _) all_wide (noDefers_of (by kernel_rfl)) rfl (by kernel_rfl) (by kernel_rfl) (by kernel_rfl) (fun _ _ _ h => h) (Or.inl ⟨by rfl, by intro w hSw; clear hSw; go_simp; first | done | with_reducible rfl⟩) hHeld ?_
  change RestIn _ _ _ _ _ _ _ 12 #[true, true, true, true, true, true, true, true, true, false, false, false, false, false, false, false, false, false, false, false, false] _ _
  try simp only [Act.put, List.setIfInBounds_toArray, List.set_cons_zero, List.set_cons_succ, List.getElem_toArray, List.getElem_cons_zero, List.getElem_cons_succ]
  refine rest_take (i := 9) (v := _) all_wide (noDefers_of (by kernel_rfl)) rfl (by kernel_rfl) (by kernel_rfl) (by kernel_rfl) (fun _ _ _ h => h) (Or.inl ⟨by rfl, by intro w hSw; (obtain ⟨q0, q1, _⟩ := hSw; have q0x0 := q0.cell 0; have q0x1 := q0.cell 1; have q0x2 := q0.cell 2; have q0x3 := q0.cell 3; have q0x4 := q0.cell 4; have q0x5 := q0.cell 5; have q0x6 := q0.cell 6; have q0x7 := q0.cell 7; have q0x8 := q0.cell 8; have q0x9 := q0.cell 9; have q0x10 := q0.cell 10; have q0x11 := q0.cell 11; have q0x12 := q0.cell 12; have q0x13 := q0.cell 13; have q0x14 := q0.cell 14; have q1x0 := q1.cell 0; have q1x1 := q1.cell 1; simp at q0x0 q0x1 q0x2 q0x3 q0x4 q0x5 q0x6 q0x7 q0x8 q0x9 q0x10 q0x11 q0x12 q0x13 q0x14 q1x0 q1x1); go_simp; first | done | with_reducible rfl⟩) hHeld ?_
  change RestIn _ _ _ _ _ _ _ 11 #[true, true, true, true, true, true, true, true, true, true, false, false, false, false, false, false, false, false, false, false, false] _ _
  try simp only [Act.put, List.setIfInBounds_toArray, List.set_cons_zero, List.set_cons_succ, List.getElem_toArray, List.getElem_cons_zero, List.getElem_cons_succ]
  refine rest_ready (rs := [10]) (by kernel_rfl) (by simp) ?_
  refine AllRest.cons rfl (fun K hK => ?_) AllRest.nil
  have hNow := (hHeld.2.2)
  clear hLast
  have hLast := hNow
  go_simp
  gi_wp2_with ((refine ⟨trivial, ?_⟩; gi_at_call 70; (with_reducible refine (callsIn_wide.2 (HT.out _)).mono ?_); rintro e wn ⟨rfl, hb⟩))
  refine hK.out _ _ ?_ (fun hHeld' => ?_)
  · exact ⟨hHeld.1.below hb hHeld.1.lt, hHeld.2.1.below hb hHeld.2.1.lt, (hHeld.2.2).trans (hb.mono (hHeld.2.2).size)⟩
  clear hK K
  change RestIn _ _ _ _ _ _ _ 10 #[true, true, true, true, true, true, true, true, true, true, true, false, false, false, false, false, false, false, false, false, false] _ _
  try simp only [Act.put, List.setIfInBounds_toArray, List.set_cons_zero, List.set_cons_succ, List.getElem_toArray, List.getElem_cons_zero, List.getElem_cons_succ]
  clear hHeld
  have hHeld := hHeld'
  clear hHeld'
  have hNow := (hHeld.2.2)
  refine rest_take (i := 11) (v := _) all_wide (noDefers_of (by kernel_rfl)) rfl (by kernel_rfl) (by kernel_rfl) (by kernel_rfl) (fun _ _ _ h => h) (Or.inl ⟨by rfl, by intro w hSw; clear hSw; go_simp; first | done | with_reducible rfl⟩) hHeld ?_
  change RestIn _ _ _ _ _ _ _ 9 #[true, true, true, true, true, true, true, true, true, true, true, true, false, false, false, false, false, false, false, false, false] _ _
  try simp only [Act.put, List.setIfInBounds_toArray, List.set_cons_zero, List.set_cons_succ, List.getElem_toArray, List.getElem_cons_zero, List.getElem_cons_succ]
  refine rest_take (i := 12) (v := _) all_wide (noDefers_of (by kernel_rfl)) rfl (by kernel_rfl) (by kernel_rfl) (by kernel_rfl) (fun _ _ _ h => h) (Or.inl ⟨by rfl, by intro w hSw; clear hSw; go_simp; first | done | with_reducible rfl⟩) hHeld ?_
  change RestIn _ _ _ _ _ _ _ 8 #[true, true, true, true, true, true, true, true, true, true, true, true, true, false, false, false, false, false, false, false, false] _ _
  try simp only [Act.put, List.setIfInBounds_toArray, List.set_cons_zero, List.set_cons_succ, List.getElem_toArray, List.getElem_cons_zero, List.getElem_cons_succ]
  refine rest_take (i := 13) (v := _) all_wide (noDefers_of (by kernel_rfl)) rfl (by kernel_rfl) (by kernel_rfl) (by kernel_rfl) (fun _ _ _ h => h) (Or.inl ⟨by rfl, by intro w hSw; clear hSw; go_simp; first | done | with_reducible rfl⟩) hHeld ?_
  change RestIn _ _ _ _ _ _ _ 7 #[true, true, true, true, true, true, true, true, true, true, true, true, true, true, false, false, false, false, false, false, false] _ _
  try simp only [Act.put, List.setIfInBounds_toArray, List.set_cons_zero, List.set_cons_succ, List.getElem_toArray, List.getElem_cons_zero, List.getElem_cons_succ]
  refine rest_take (i := 14) (v := _) all_wide (noDefers_of (by kernel_rfl)) rfl (by kernel_rfl) (by kernel_rfl) (by kernel_rfl) (fun _ _ _ h => h) (Or.inl ⟨by rfl, by intro w hSw; (obtain ⟨q0, q1, _⟩ := hSw; have q0x0 := q0.cell 0; have q0x1 := q0.cell 1; have q0x2 := q0.cell 2; have q0x3 := q0.cell 3; have q0x4 := q0.cell 4; have q0x5 := q0.cell 5; have q0x6 := q0.cell 6; have q0x7 := q0.cell 7; have q0x8 := q0.cell 8; have q0x9 := q0.cell 9; have q0x10 := q0.cell 10; have q0x11 := q0.cell 11; have q0x12 := q0.cell 12; have q0x13 := q0.cell 13; have q0x14 := q0.cell 14; have q1x0 := q1.cell 0; have q1x1 := q1.cell 1; simp at q0x0 q0x1 q0x2 q0x3 q0x4 q0x5 q0x6 q0x7 q0x8 q0x9 q0x10 q0x11 q0x12 q0x13 q0x14 q1x0 q1x1); go_simp; first | done | with_reducible rfl⟩) hHeld ?_
  change RestIn _ _ _ _ _ _ _ 6 #[true, true, true, true, true, true, true, true, true, true, true, true, true, true, true, false, false, false, false, false, false] _ _
  try simp only [Act.put, List.setIfInBounds_toArray, List.set_cons_zero, List.set_cons_succ, List.getElem_toArray, List.getElem_cons_zero, List.getElem_cons_succ]
  refine rest_take (i := 16) (v := _) all_wide (noDefers_of (by kernel_rfl)) rfl (by kernel_rfl) (by kernel_rfl) (by kernel_rfl) (fun _ _ _ h => h) (Or.inl ⟨by rfl, by intro w hSw; (obtain ⟨q0, q1, _⟩ := hSw; have q0x0 := q0.cell 0; have q0x1 := q0.cell 1; have q0x2 := q0.cell 2; have q0x3 := q0.cell 3; have q0x4 := q0.cell 4; have q0x5 := q0.cell 5; have q0x6 := q0.cell 6; have q0x7 := q0.cell 7; have q0x8 := q0.cell 8; have q0x9 := q0.cell 9; have q0x10 := q0.cell 10; have q0x11 := q0.cell 11; have q0x12 := q0.cell 12; have q0x13 := q0.cell 13; have q0x14 := q0.cell 14; have q1x0 := q1.cell 0; have q1x1 := q1.cell 1; simp at q0x0 q0x1 q0x2 q0x3 q0x4 q0x5 q0x6 q0x7 q0x8 q0x9 q0x10 q0x11 q0x12 q0x13 q0x14 q1x0 q1x1); go_simp; first | done | with_reducible rfl⟩) hHeld ?_
  change RestIn _ _ _ _ _ _ _ 5 #[true, true, true, true, true, true, true, true, true, true, true, true, true, true, true, false, true, false, false, false, false] _ _
  try simp only [Act.put, List.setIfInBounds_toArray, List.set_cons_zero, List.set_cons_succ, List.getElem_toArray, List.getElem_cons_zero, List.getElem_cons_succ]
  refine rest_take (i := 17) (v := _) all_wide (noDefers_of (by kernel_rfl)) rfl (by kernel_rfl) (by kernel_rfl) (by kernel_rfl) (fun _ _ _ h => h) (Or.inl ⟨by rfl, by intro w hSw; clear hSw; go_simp; first | done | with_reducible rfl⟩) hHeld ?_
  change RestIn _ _ _ _ _ _ _ 4 #[true, true, true, true, true, true, true, true, true, true, true, true, true, true, true, false, true, true, false, false, false] _ _
  try simp only [Act.put, List.setIfInBounds_toArray, List.set_cons_zero, List.set_cons_succ, List.getElem_toArray, List.getElem_cons_zero, List.getElem_cons_succ]
  refine rest_ready (rs := [15]) (by kernel_rfl) (by simp) ?_
  refine AllRest.cons rfl (fun K hK => ?_) AllRest.nil
  have hNow := (hHeld.2.2)
  clear hLast
  have hLast := hNow
  go_simp
  gi_wp2_with ((refine ⟨trivial, ?_⟩; gi_at_call 66; (with_reducible refine (callsIn_wide.2 (HF.out _ (hR0.to hNow))).mono ?_); rintro e wn ⟨g, Ab, An, cb, cn, rfl, hg, hFW, hb⟩))
  refine hK.out _ _ ?_ (fun hHeld' => ?_)
  · exact ⟨hHeld.1.below hb hHeld.1.lt, hHeld.2.1.below hb hHeld.2.1.lt, (hHeld.2.2).trans (hb.mono (hHeld.2.2).size)⟩
  clear hK K
  change RestIn _ _ _ _ _ _ _ 3 #[true, true, true, true, true, true, true, true, true, true, true, true, true, true, true, true, true, true, false, false, false] _ _
  try simp only [Act.put, List.setIfInBounds_toArray, List.set_cons_zero, List.set_cons_succ, List.getElem_toArray, List.getElem_cons_zero, List.getElem_cons_succ]
  clear hHeld
  have hHeld := hHeld'
  clear hHeld'
  have hNow := (hHeld.2.2)
  refine rest_ready (rs := [18]) (by kernel_rfl) (by simp) ?_
  refine AllRest.cons rfl (fun K hK => ?_) AllRest.nil
  have hNow := (hHeld.2.2)
  clear hLast
  have hLast := hNow
  go_simp
  gi_wp2_with ((refine ⟨trivial, ?_⟩; gi_at_call 71; (with_reducible refine (callsIn_wide.2 (HP.out _ _ _ _ _ _ hFW (hL0.to hNow))).mono ?_); rintro e wn ⟨rfl, hb⟩))
  refine hK.out _ _ ?_ (fun hHeld' => ?_)
  · exact ⟨hHeld.1.below hb hHeld.1.lt, hHeld.2.1.below hb hHeld.2.1.lt, (hHeld.2.2).trans (hb.mono (hHeld.2.2).size)⟩
  clear hK K
  change RestIn _ _ _ _ _ _ _ 2 #[true, true, true, true, true, true, true, true, true, true, true, true, true, true, true, true, true, true, true, false, false] _ _
  try simp only [Act.put, List.setIfInBounds_toArray, List.set_cons_zero, List.set_cons_succ, List.getElem_toArray, List.getElem_cons_zero, List.getElem_cons_succ]
  clear hHeld
  have hHeld := hHeld'
  clear hHeld'
  have hNow := (hHeld.2.2)
  refine rest_take (i := 19) (v := _) all_wide (noDefers_of (by kernel_rfl)) rfl (by kernel_rfl) (by kernel_rfl) (by kernel_rfl) (fun _ _ _ h => h) (Or.inl ⟨by rfl, by intro w hSw; clear hSw; go_simp; first | done | with_reducible rfl⟩) hHeld ?_
  change RestIn _ _ _ _ _ _ _ 1 #[true, true, true, true, true, true, true, true, true, true, true, true, true, true, true, true, true, true, true, true, false] _ _
  try simp only [Act.put, List.setIfInBounds_toArray, List.set_cons_zero, List.set_cons_succ, List.getElem_toArray, List.getElem_cons_zero, List.getElem_cons_succ]
  refine rest_take (i := 20) (v := _) all_wide (noDefers_of (by kernel_rfl)) rfl (by kernel_rfl) (by kernel_rfl) (by kernel_rfl) (fun _ _ _ h => h) (Or.inl ⟨by rfl, by intro w hSw; clear hSw; go_simp; first | done | with_reducible rfl⟩) hHeld ?_
  change RestIn _ _ _ _ _ _ _ 0 #[true, true, true, true, true, true, true, true, true, true, true, true, true, true, true, true, true, true, true, true, true] _ _
  try simp only [Act.put, List.setIfInBounds_toArray, List.set_cons_zero, List.set_cons_succ, List.getElem_toArray, List.getElem_cons_zero, List.getElem_cons_succ]
  refine rest_done (by kernel_rfl) ?_
  go_wp2
  go_ret
  exact ⟨ret_bool HV2.out.symm, HB0.out.trans (hNow.mono HB0.out.size)⟩
theorem ProveWindow_any (f : Flt) (A Al : Option Addr) (c cl : Nat) (a b : Int) (l : List Int) (w : World) (hlc : f.cycle.length ≤ maxLen) (hr : RS encB 4 w w.heap.size A f.cycle) (hl : RS encI 1 w w.heap.size Al l) :
    Calls Try.prog 41 #[.agg #[.int .i64 f.fly.pos.x.lo, .int .i64 f.fly.pos.x.hi, .int .i64 f.fly.pos.z.lo, .int .i64 f.fly.pos.z.hi, .int .i64 f.fly.speed.x.lo, .int .i64 f.fly.speed.x.hi, .int .i64 f.fly.speed.z.lo, .int .i64 f.fly.speed.z.hi, .int .i64 f.fly.mass, .slice A f.cycle.length c, .int .i64 f.reach, .int .i64 f.soft, .int .i64 f.bears, .int .i64 f.least, .int .i64 f.most], .agg #[.int .i64 a, .int .i64 b], .slice Al l.length cl] w fun e w' => e = .returned (.bool (pwB f a b l)) ∧ Below w.heap.size w w' := by
  cases hok : f.ok
  · exact proveW_0 f A Al c cl a b l w hlc hr hl hok
  · cases hwin : winB a b
    · exact proveW_1 f A Al c cl a b l w hlc hr hl hok hwin
    · by_cases hlen : (l.length : Int) = b - a + 1
      · exact proveW_3 f A Al c cl a b l w hlc hr hl hok hwin hlen
      · exact proveW_2 f A Al c cl a b l w hlc hr hl hok hwin hlen
end Go.Proofs.Ytbagfapalkmikaa
