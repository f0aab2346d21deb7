import Derived.Test.YtbagfapalkmikaaSureM

/- Whether a catch is sure, by the document's words, at any tick. -/
namespace Go.Proofs.Ytbagfapalkmikaa
open Go.RowKit Go.Shelf
theorem mem_ints {l : List Nat} {x : Int} : x ∈ ints l ↔ ∃ n ∈ l, (n : Int) = x := by unfold ints; rw [List.mem_map]
theorem sure_mem_at {f : Flt} {r : Nat} {x : Int} (hf : f.ok = true) : x ∈ ints (sureL f r) ↔ ∃ t : Nat, x = r + t ∧ f.least ≤ t ∧ (t : Int) ≤ f.most ∧ f.sure r t = true := by
  obtain ⟨_, _, _, _, _, _, ⟨l1, l2⟩, ⟨m1, m2⟩, _⟩ := Flt.ok_iff.1 hf
  rw [mem_ints]
  constructor
  · rintro ⟨n, hn, rfl⟩
    obtain ⟨t, rfl, a1, a2, a3, a4⟩ := (mem_sure m2 m1 l1).1 hn
    refine ⟨t, by omega, a1, a2, ?_⟩
    unfold Flt.sure
    rw [Bool.and_eq_true, decide_eq_true_eq]
    exact ⟨a4, a3⟩
  · rintro ⟨t, rfl, a1, a2, a3⟩
    unfold Flt.sure at a3
    rw [Bool.and_eq_true, decide_eq_true_eq] at a3
    exact ⟨r + t, (mem_sure m2 m1 l1).2 ⟨t, rfl, a1, a2, a3.2, a3.1⟩, by omega⟩
set_option maxRecDepth 100000 in
set_option maxHeartbeats 4000000 in
theorem refSureAt_any (f : Flt) (A : Option Addr) (c r : Nat) (x : Int) (w : World) (hf : f.ok = true) (hr : r ≤ 6000) (hx : 0 ≤ x ∧ x ≤ 10000) (hrs : RS encB 4 w w.heap.size A f.cycle) :
    Calls Try.prog 40 #[.agg #[.int .i64 f.fly.pos.x.lo, .int .i64 f.fly.pos.x.hi, .int .i64 f.fly.pos.z.lo, .int .i64 f.fly.pos.z.hi, .int .i64 f.fly.speed.x.lo, .int .i64 f.fly.speed.x.hi, .int .i64 f.fly.speed.z.lo, .int .i64 f.fly.speed.z.hi, .int .i64 f.fly.mass, .slice A f.cycle.length c, .int .i64 f.reach, .int .i64 f.soft, .int .i64 f.bears, .int .i64 f.least, .int .i64 f.most], .int .i64 r, .int .i64 x] w fun e w' => e = .returned (.bool (decide (x ∈ ints (sureL f r)))) ∧ Below w.heap.size w w' := by
  obtain ⟨_, _, _, _, _, _, ⟨l1, l2⟩, ⟨m1, m2⟩, _⟩ := Flt.ok_iff.1 hf
  by_cases hin : f.least ≤ x - r ∧ x - r ≤ f.most
  · obtain ⟨t, ht⟩ : ∃ t : Nat, x - r = t := ⟨(x - r).toNat, by omega⟩
    have hxe : x = (r : Int) + (t : Int) := by omega
    rw [hxe]
    have hd : decide ((r : Int) + (t : Int) ∈ ints (sureL f r)) = f.sure r t := by
      rw [Bool.eq_iff_iff, decide_eq_true_eq, sure_mem_at hf]
      constructor
      · rintro ⟨t', h1, _, _, h4⟩
        have : t' = t := by omega
        rw [← this]; exact h4
      · intro h
        exact ⟨t, rfl, by omega, by omega, h⟩
    rw [hd]
    exact refSure_any f A c r t w hf (by omega) (by omega) hr hrs
  · have hd : Hid (decide (x ∈ ints (sureL f r)) = false) := by
      show _ = _
      refine decide_eq_false ?_
      rw [sure_mem_at hf]
      rintro ⟨t', h1, h2, h3, _⟩
      exact hin ⟨by omega, by omega⟩
    have K1 : Hid (inB (x - r) f.least f.most = false) := by
      show _ = _
      rw [Bool.eq_false_iff]
      intro h
      exact hin (inB_true.1 h)
    obtain ⟨x1, x2⟩ := hx
    have HB0 := Lib.hid ((Below.refl w.heap.size w).alloc (Nat.le_refl _) (.cells #[.int .i64 f.fly.pos.x.lo, .int .i64 f.fly.pos.x.hi, .int .i64 f.fly.pos.z.lo, .int .i64 f.fly.pos.z.hi, .int .i64 f.fly.speed.x.lo, .int .i64 f.fly.speed.x.hi, .int .i64 f.fly.speed.z.lo, .int .i64 f.fly.speed.z.hi, .int .i64 f.fly.mass, .slice A f.cycle.length c, .int .i64 f.reach, .int .i64 f.soft, .int .i64 f.bears, .int .i64 f.least, .int .i64 f.most] 32))
    have HX := Lib.hid hin
    clear hin hrs hf
    go_enter Try.func40, Try.ntmps40
    go_wp2_with (go_at_call 20; (with_reducible refine (in_val K1.out _).mono ?_); rintro e w' ⟨rfl, rfl⟩)
    go_ret
    exact ⟨ret_bool hd.out.symm, HB0.out⟩
end Go.Proofs.Ytbagfapalkmikaa
