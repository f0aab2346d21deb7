import Derived.Test.YtbagfapalkmikaaSureR
import Derived.Test.YtbagfapalkmikaaCycM

/- The list of sure catches, by the document's words. -/
namespace Go.Proofs.Ytbagfapalkmikaa
open Go.RowKit Go.Shelf
/-- The ticks at which a catch is sure, among the first i ticks of the air. -/
def airTo (f : Flt) (r i : Nat) : List Nat := ((List.range' f.least.toNat i).filter fun t => f.sure r t).map fun t => r + t
theorem airTo_succ {f : Flt} {r i : Nat} : airTo f r (i + 1) = airTo f r i ++ (if f.sure r (f.least.toNat + i) then [r + (f.least.toNat + i)] else []) := by
  unfold airTo
  rw [List.range'_1_concat, List.filter_append, List.map_append]
  by_cases h : f.sure r (f.least.toNat + i) <;> simp [h]
theorem airTo_len {f : Flt} {r i : Nat} : (airTo f r i).length ≤ i := by
  unfold airTo
  rw [List.length_map]
  exact Nat.le_trans (List.length_filter_le _ _) (by simp)
set_option maxRecDepth 100000 in
set_option maxHeartbeats 8000000 in
theorem refCatches_any (f : Flt) (A : Option Addr) (c r : Nat) (w : World) (hf : f.ok = true) (hr : r ≤ 6000) (hrs : RS encB 4 w w.heap.size A f.cycle) :
    Calls Try.prog 39 #[.agg #[.int .i64 f.fly.pos.x.lo, .int .i64 f.fly.pos.x.hi, .int .i64 f.fly.pos.z.lo, .int .i64 f.fly.pos.z.hi, .int .i64 f.fly.speed.x.lo, .int .i64 f.fly.speed.x.hi, .int .i64 f.fly.speed.z.lo, .int .i64 f.fly.speed.z.hi, .int .i64 f.fly.mass, .slice A f.cycle.length c, .int .i64 f.reach, .int .i64 f.soft, .int .i64 f.bears, .int .i64 f.least, .int .i64 f.most], .int .i64 r] w fun e w' => ∃ A' c', e = .returned (.slice A' (airTo f r (f.most.toNat + 1 - f.least.toNat)).length c') ∧ RS encI 1 w' w'.heap.size A' (ints (airTo f r (f.most.toNat + 1 - f.least.toNat))) ∧ Below w.heap.size w w' := by
  obtain ⟨_, _, _, _, _, _, ⟨le1, le2⟩, ⟨mo1, mo2⟩, hlm⟩ := Flt.ok_iff.1 hf
  obtain ⟨L, hL⟩ : ∃ L : Nat, f.least = L := ⟨f.least.toNat, by omega⟩
  obtain ⟨M, hM⟩ : ∃ M : Nat, f.most = M := ⟨f.most.toNat, by omega⟩
  have hLt : f.least.toNat = L := by omega
  have hMt : f.most.toNat = M := by omega
  rw [hMt, hLt]
  have hstep : ∀ i, airTo f r (i + 1) = airTo f r i ++ (if f.sure r (L + i) then [r + (L + i)] else []) := by
    intro i; have := airTo_succ (f := f) (r := r) (i := i); rw [hLt] at this; exact this
  have HSTEP := Lib.hid hstep
  have hB0 := (Below.refl w.heap.size w).alloc (Nat.le_refl _) (.cells #[.int .i64 f.fly.pos.x.lo, .int .i64 f.fly.pos.x.hi, .int .i64 f.fly.pos.z.lo, .int .i64 f.fly.pos.z.hi, .int .i64 f.fly.speed.x.lo, .int .i64 f.fly.speed.x.hi, .int .i64 f.fly.speed.z.lo, .int .i64 f.fly.speed.z.hi, .int .i64 f.fly.mass, .slice A f.cycle.length c, .int .i64 f.reach, .int .i64 f.soft, .int .i64 f.bears, .int .i64 f.least, .int .i64 f.most] 32)
  have kF := Blk.new w 32 #[.int .i64 f.fly.pos.x.lo, .int .i64 f.fly.pos.x.hi, .int .i64 f.fly.pos.z.lo, .int .i64 f.fly.pos.z.hi, .int .i64 f.fly.speed.x.lo, .int .i64 f.fly.speed.x.hi, .int .i64 f.fly.speed.z.lo, .int .i64 f.fly.speed.z.hi, .int .i64 f.fly.mass, .slice A f.cycle.length c, .int .i64 f.reach, .int .i64 f.soft, .int .i64 f.bears, .int .i64 f.least, .int .i64 f.most]
  have HB0 := Lib.hid hB0
  have HRS : Hid (∀ w1 : World, Below w.heap.size w w1 → RS encB 4 w1 w1.heap.size A f.cycle) := fun w1 h => hrs.to h
  have HSU : Hid (∀ (W : World) (i : Nat), RS encB 4 W W.heap.size A f.cycle → L + i ≤ M → Calls Try.prog 40 #[.agg #[.int .i64 f.fly.pos.x.lo, .int .i64 f.fly.pos.x.hi, .int .i64 f.fly.pos.z.lo, .int .i64 f.fly.pos.z.hi, .int .i64 f.fly.speed.x.lo, .int .i64 f.fly.speed.x.hi, .int .i64 f.fly.speed.z.lo, .int .i64 f.fly.speed.z.hi, .int .i64 f.fly.mass, .slice A f.cycle.length c, .int .i64 f.reach, .int .i64 f.soft, .int .i64 f.bears, .int .i64 f.least, .int .i64 f.most], .int .i64 r, .int .i64 ((r : Int) + f.least + (i : Int))] W fun e w' => e = .returned (.bool (f.sure r (L + i))) ∧ Below W.heap.size W w') := fun W i h h1 => by
    rw [show (r : Int) + f.least + (i : Int) = (r : Int) + ((L + i : Nat) : Int) by omega]
    exact refSure_any f A c r (L + i) W hf (by omega) (by omega) hr h
  have HCAST : Hid (∀ i : Nat, (((r + (L + i) : Nat)) : Int) = (r : Int) + f.least + (i : Int)) := fun i => by omega
  obtain ⟨i0, hi, hz0, hz1, hz2⟩ := info_parts infoI
  have hlm2 : Hid (L ≤ M ∧ M ≤ 300 ∧ f.least = L ∧ f.most = M) := (⟨by omega, by omega, hL, hM⟩ : _ ∧ _)
  have hlm3 : f.least ≤ f.most := hlm
  clear hf hrs hstep hLt hMt hlm hB0 hL hM
  go_enter Try.func39, Try.ntmps39
  go_wp2
  go_loopw [5, 6] (fun v s wr => ∃ i : Nat, i ≤ M + 1 - L ∧ s = .int .i64 ((r : Int) + f.least + (i : Int)) ∧ wr.ownsRow (w.heap.size + 1) 3 1 v (airTo f r i).length (nats (airTo f r i)) ∧ Below w.heap.size w wr ∧ Blk wr w.heap.size 32 #[.int .i64 f.fly.pos.x.lo, .int .i64 f.fly.pos.x.hi, .int .i64 f.fly.pos.z.lo, .int .i64 f.fly.pos.z.hi, .int .i64 f.fly.speed.x.lo, .int .i64 f.fly.speed.x.hi, .int .i64 f.fly.speed.z.lo, .int .i64 f.fly.speed.z.hi, .int .i64 f.fly.mass, .slice A f.cycle.length c, .int .i64 f.reach, .int .i64 f.soft, .int .i64 f.bears, .int .i64 f.least, .int .i64 f.most]) (fun _ s _ => ((r : Int) + f.most + 1 - intOf s).toNat)
  case atStart => exact ⟨0, Nat.zero_le _, by simp, World.ownsRow_nil _ _ _ _, HB0.out, kF⟩
  case round =>
    obtain ⟨i, hi1, rfl, hown, hB, hK⟩ := hrel
    clear kF
    have hil := airTo_len (f := f) (r := r) (i := i)
    have hKx := hK
    have x0 := hK.cell 0
    have x1 := hK.cell 1
    have x2 := hK.cell 2
    have x3 := hK.cell 3
    have x4 := hK.cell 4
    have x5 := hK.cell 5
    have x6 := hK.cell 6
    have x7 := hK.cell 7
    have x8 := hK.cell 8
    have x9 := hK.cell 9
    have x10 := hK.cell 10
    have x11 := hK.cell 11
    have x12 := hK.cell 12
    have x13 := hK.cell 13
    have x14 := hK.cell 14
    simp at x0 x1 x2 x3 x4 x5 x6 x7 x8 x9 x10 x11 x12 x13 x14
    have hkl := hK.lt
    have hBz := hB.size
    obtain ⟨l1, l2, l3, l4⟩ := hlm2.out
    by_cases hlt : L + i ≤ M
    · have hle : (r : Int) + f.least + (i : Int) ≤ (r : Int) + f.most := by omega
      have hib : (i : Int) ≤ 300 := by omega
      have hib2 : i ≤ 300 := by omega
      have HS := Lib.hid (HSU.out wr i (HRS.out wr hB) hlt)
      have HC := Lib.hid (HCAST.out i)
      have HST := Lib.hid (HSTEP.out i)
      have HBB := Lib.hid hB
      have HOW := Lib.hid hown
      have hml : (302 : Nat) ≤ maxLen := by unfold maxLen; omega
      clear l1 l2 l3 l4 hB hown hlt
      cases hs : f.sure r (L + i)
      · rw [hs] at HS
        have HX := Lib.hid hs
        clear hs
        go_wp2_with (go_at_call 40; (with_reducible refine HS.out.mono ?_); rintro e w1 ⟨rfl, hb1⟩)
        go_roundw
        case rel =>
          refine ⟨i + 1, by have := hlm2.out; omega, by go_num, ?_, HBB.out.trans (hb1.mono hBz), hK.below hb1 hkl⟩
          rw [HST.out, HX.out]
          simpa using own_below HOW.out hb1
        case measure => simp [intOf]; have := hlm2.out; omega
      · rw [hs] at HS
        have HX := Lib.hid hs
        clear hs
        go_wp2_with (first | (go_at_call 40; (with_reducible refine HS.out.mono ?_); rintro e w1 ⟨rfl, hb1⟩; have hown1 := own_below HOW.out hb1) | (at_builtin; refine wpList_append_own _ rfl _ _ 78 rfl (w.heap.size + 1) 3 i0 (.int .i64 0) 1 8 Try.underlying78 hi hz0 hz1 hz2 rfl (by decide) _ _ _ rfl (hown1.alloc _) ⟨w1.heap.size, 0, none⟩ 1 1 [.int .i64 ((r : Int) + f.least + (i : Int))] rfl rfl (cell_one_new _ _ _) (by simp [Value.oneCell']) (by omega) (by omega) (by have := hb1.size; simp; omega) ?_; intro v' w2 hown2 hgrow2 _))
        go_roundw
        case rel =>
          have hz := hb1.size
          refine ⟨i + 1, by have := hlm2.out; omega, by go_num, ?_, ((HBB.out.trans (hb1.mono hBz)).alloc (by omega) _).grown hgrow2 (by simp; omega) (fun j e => by have := own_base hown1 _ e; omega), ((hK.below hb1 hkl).alloc _).grown hgrow2 (fun e => by have := own_base hown1 _ e.symm; omega)⟩
          rw [HST.out, HX.out]
          simpa [nats, HC.out] using hown2
        case measure => simp [intOf]; have := hlm2.out; omega
    · have hgt : (r : Int) + f.most < (r : Int) + f.least + (i : Int) := by omega
      obtain rfl : i = M + 1 - L := by omega
      rw [nats_ints] at hown
      obtain ⟨A', c', rfl, _⟩ := own_slice hown
      have HOW := Lib.hid hown
      clear hown l1 l2 l3 l4
      go_wp2
      go_ret
      exact ⟨A', c', rfl, RS.of_own (enc := encI) (sz := 1) (fun _ => rfl) HOW.out (ints_len _).symm, hB⟩
end Go.Proofs.Ytbagfapalkmikaa
