import Derived.Test.YtbagfapalkmikaaLoad
import Derived.Test.YtbagfapalkmikaaFlF
import Derived.RangeFuncNested
import Derived.RangeFuncBound
import Derived.RangeFuncCalls
import Derived.RangeFuncLeaves
import Derived.RangeFuncBox
import Derived.Shelf.Abstract
import Derived.Shelf.RegionOpen
import Derived.OwnWalkIn
import Derived.TacticsInMore
import Derived.LoopNIn
import Derived.LoopIn
import Derived.Lib.QuietBelowIn

/- The ticks at which a flyer may be caught: the iterator. -/
namespace Go.Proofs.Ytbagfapalkmikaa
open Go.RowKit Go.Shelf

set_option maxHeartbeats 1000000 in
theorem near_any (a b r : Int) (w : World) (ha : -10000000 ≤ a ∧ a ≤ 10000000) (hb : -10000000 ≤ b ∧ b ≤ 10000000) (hr : 0 ≤ r ∧ r ≤ 10000000) :
    Calls Try.prog 99 #[.agg #[.int .i64 a, .int .i64 b], .int .i64 r] w fun e w' => e = .returned (.agg #[.int .i64 (b - r), .int .i64 (a + r)]) ∧ Below w.heap.size w w' := by
  obtain ⟨a1, a2⟩ := ha
  obtain ⟨b1, b2⟩ := hb
  obtain ⟨r1, r2⟩ := hr
  go_enter Try.func99, Try.ntmps99
  go_wp2
  refine bodyPost_ret (v := .agg #[.int .i64 (b - r), .int .i64 (a + r)]) (by simp [results, Try.results99, go_sem]) rfl ⟨rfl, ?_⟩
  exact ((Below.refl _ _).alloc (Nat.le_refl _) _).alloc (by simp) _
theorem bearable_any (f : Flt) (A : Option Addr) (c : Nat) (w : World) :
    Calls Try.prog 98 #[.agg #[.int .i64 f.fly.pos.x.lo, .int .i64 f.fly.pos.x.hi, .int .i64 f.fly.pos.z.lo, .int .i64 f.fly.pos.z.hi, .int .i64 f.fly.speed.x.lo, .int .i64 f.fly.speed.x.hi, .int .i64 f.fly.speed.z.lo, .int .i64 f.fly.speed.z.hi, .int .i64 f.fly.mass, .slice A f.cycle.length c, .int .i64 f.reach, .int .i64 f.soft, .int .i64 f.bears, .int .i64 f.least, .int .i64 f.most]] w fun e w' => e = .returned (.func (.func 107) #[] #[.pointer (some ⟨w.heap.size, 0, none⟩)]) ∧ w' = w.alloc (.cells #[.int .i64 f.fly.pos.x.lo, .int .i64 f.fly.pos.x.hi, .int .i64 f.fly.pos.z.lo, .int .i64 f.fly.pos.z.hi, .int .i64 f.fly.speed.x.lo, .int .i64 f.fly.speed.x.hi, .int .i64 f.fly.speed.z.lo, .int .i64 f.fly.speed.z.hi, .int .i64 f.fly.mass, .slice A f.cycle.length c, .int .i64 f.reach, .int .i64 f.soft, .int .i64 f.bears, .int .i64 f.least, .int .i64 f.most] 50) := by
  go_enter Try.func98, Try.ntmps98
  go_wp2
  go_ret
  exact ⟨rfl, rfl⟩

abbrev Tick := { x : Nat // x ≤ 300 }
def tickAt (k : Nat) : Tick := ⟨min k 300, by omega⟩
theorem tickAt_val {k : Nat} (h : k ≤ 300) : (tickAt k).1 = k := Nat.min_eq_left h
def Flt.bornB (f : Flt) (t : Nat) : Bool := decide (f.load t ≤ f.bears)
/-- The ticks below k at which the catcher bears the flyer. -/
def borneTo (f : Flt) (k : Nat) : List Tick := ((List.range' f.least.toNat (k - f.least.toNat)).filter f.bornB).map tickAt
theorem borneTo_succ {f : Flt} {k : Nat} (h : f.least.toNat ≤ k) : borneTo f (k + 1) = borneTo f k ++ (if f.bornB k then [tickAt k] else []) := by
  unfold borneTo
  rw [show k + 1 - f.least.toNat = (k - f.least.toNat) + 1 by omega, List.range'_concat, List.filter_append, List.map_append]
  rw [Nat.one_mul, show f.least.toNat + (k - f.least.toNat) = k by omega]
  cases hb : f.bornB k <;> simp [hb]
theorem borneTo_hit {f : Flt} {k : Nat} (h : f.least.toNat ≤ k) (hb : f.bornB k = true) : borneTo f (k + 1) = borneTo f k ++ [tickAt k] := by rw [borneTo_succ h, hb]; rfl
theorem borneTo_miss {f : Flt} {k : Nat} (h : f.least.toNat ≤ k) (hb : f.bornB k = false) : borneTo f (k + 1) = borneTo f k := by rw [borneTo_succ h, hb]; simp
theorem borneTo_self {f : Flt} {k : Nat} (h : k ≤ f.least.toNat) : borneTo f k = [] := by unfold borneTo; rw [show k - f.least.toNat = 0 by omega]; rfl
theorem borneTo_prefix {f : Flt} {a b : Nat} (h1 : f.least.toNat ≤ a) (h : a ≤ b) : borneTo f a <+: borneTo f b := by
  obtain ⟨c, rfl⟩ := Nat.le.dest h
  induction c with
  | zero => exact List.prefix_refl _
  | succ c ih =>
    rw [show a + (c + 1) = (a + c) + 1 by omega, borneTo_succ (by omega)]
    exact (ih (by omega)).trans (List.prefix_append _ _)
theorem borneTo_len {f : Flt} {k : Nat} : (borneTo f k).length ≤ k - f.least.toNat := by
  unfold borneTo
  rw [List.length_map]
  exact Nat.le_trans (List.length_filter_le _ _) (by simp)
/-- All of them. -/
def borneL (f : Flt) : List Tick := borneTo f (f.most.toNat + 1)

/-- What the iterator asks of a round: that it leaves a block alone. -/
def KeptAt (g : Nat) (W W' : World) : Prop := W'.heap[g]? = W.heap[g]?
theorem keptAt_t {g : Nat} {A B C : World} (h : KeptAt g A B) (k : KeptAt g B C) : KeptAt g A C := k.trans h
theorem keptAt_b {g : Nat} {w : World} (hg : g < w.heap.size) (W : World) (l : Nat) (o o' : Obj) (hl : w.heap.size ≤ l) (_ : W.heap[l]? = some o) (_ : o.isCells = false) (_ : o.isWalk = false) : KeptAt g W (W.putObj l o') :=
  World.putObj_heap_other (fun e => by omega)
theorem abides_below {β : Type} {B : Nat} {J : β → World → Prop} (h : AbidesFrom B J) {s : β} {W W' : World} (hs : J s W) (hb : Below W.heap.size W W') : J s W' :=
  h s W W' none hs ⟨hb.os, hb.tape, hb.output, hb.size, fun k hk _ => hb.block k hk⟩ (fun r e => by cases e)

theorem abides_drew {β : Type} {B : Nat} {J : β → World → Prop} (h : AbidesFrom B J) {s : β} {W : World} (hs : J s W) : J s W.drew :=
  abides_below h hs ((Below.refl _ _).drew)
/-- How a round ended, as one bool. -/
theorem round_bool {e : Ending} {X Y : Prop} (h : (e = .returned (.bool true) ∧ X) ∨ (e = .returned (.bool false) ∧ Y)) : ∃ b : Bool, e = .returned (.bool b) ∧ Hid ((b = true → X) ∧ (b = false → Y)) := by
  rcases h with ⟨rfl, h⟩ | ⟨rfl, h⟩
  · exact ⟨true, rfl, (⟨fun _ => h, fun h => by cases h⟩ : _ ∧ _)⟩
  · exact ⟨false, rfl, (⟨(fun h => by cases h), fun _ => h⟩ : _ ∧ _)⟩
attribute [local go_sem] Oper.semAt_some
set_option maxRecDepth 100000 in
set_option maxHeartbeats 4000000 in
theorem bear1_in (n : Nat) (hn : 1 ≤ n) (l g : Nat) (f : Flt) (A : Option Addr) (c : Nat) (hf : f.fly.ok = true) (hs : 1 ≤ f.soft ∧ f.soft ≤ 100) (hl : 0 ≤ f.least ∧ f.least ≤ 300) (hm : 0 ≤ f.most ∧ f.most ≤ 300) (J Jx : List Tick → World → Prop) (B : Nat)
    (hJ : AbidesFrom B J)
    (hY : ∀ pre x W, J pre W → pre.length < 301 → YieldAt Fence.wide (n - 1) Try.prog l #[.int .i64 x.1] W fun e W' =>
      (e = .returned (.bool true) ∧ J (pre ++ [x]) W' ∧ KeptAt g W W') ∨ (e = .returned (.bool false) ∧ Jx (pre ++ [x]) W'))
    (W : World) (hk : Blk W g 50 #[.int .i64 f.fly.pos.x.lo, .int .i64 f.fly.pos.x.hi, .int .i64 f.fly.pos.z.lo, .int .i64 f.fly.pos.z.hi, .int .i64 f.fly.speed.x.lo, .int .i64 f.fly.speed.x.hi, .int .i64 f.fly.speed.z.lo, .int .i64 f.fly.speed.z.hi, .int .i64 f.fly.mass, .slice A f.cycle.length c, .int .i64 f.reach, .int .i64 f.soft, .int .i64 f.bears, .int .i64 f.least, .int .i64 f.most]) (h0 : J [] W) :
    CallsIn Fence.wide n Try.prog 107 #[.func (.yield l) #[] #[], .pointer (some ⟨g, 0, none⟩)] W fun e W' => (∃ v, e = .returned v) ∧
      ((∃ ys, ys = borneL f ∧ J ys W') ∨ (∃ pre, pre <+: borneL f ∧ Jx pre W')) := by
  obtain ⟨l1, l2⟩ := hl
  obtain ⟨m1, m2⟩ := hm
  obtain ⟨lo, hlo⟩ : ∃ lo : Nat, f.least.toNat = lo := ⟨_, rfl⟩
  obtain ⟨mo, hmo⟩ : ∃ mo : Nat, f.most.toNat = mo := ⟨_, rfl⟩
  have el : f.least = (lo : Int) := by omega
  have em : f.most = (mo : Int) := by omega
  have HJ := Lib.hid hJ
  have HF := Lib.hid hf
  have HSo := Lib.hid hs
  have EL := Lib.hid el
  have EM := Lib.hid em
  have HLO := Lib.hid hlo
  have HBL : Hid (borneL f = borneTo f (mo + 1)) := by show _ = _; unfold borneL; rw [hmo]
  have b12 := hk.cell 12
  have b13 := hk.cell 13
  have b14 := hk.cell 14
  have hgl := hk.lt
  simp at b12 b13 b14
  rw [el] at b13
  have l300 : lo ≤ 300 := by omega
  have m300 : mo ≤ 300 := by omega
  clear hJ hf hs el em hlo hmo l1 l2 m1 m2
  refine callsIn_of_wp Try.func107 rfl trivial ?_ rfl
  simp only [Try.ntmps107, List.size_toArray, List.length_cons, List.length_nil, Nat.reduceAdd, Nat.reduceSub, Array.replicate_succ, Array.replicate_zero, List.push_toArray, List.append_toArray, List.nil_append, List.cons_append]
  gi_wp2
  gi_loopw [3] (fun i wr => ∃ k : Nat, lo ≤ k ∧ (k ≤ mo + 1 ∨ k = lo) ∧ i = .int .i64 k ∧ J (borneTo f k) wr ∧ Blk wr g 50 #[.int .i64 f.fly.pos.x.lo, .int .i64 f.fly.pos.x.hi, .int .i64 f.fly.pos.z.lo, .int .i64 f.fly.pos.z.hi, .int .i64 f.fly.speed.x.lo, .int .i64 f.fly.speed.x.hi, .int .i64 f.fly.speed.z.lo, .int .i64 f.fly.speed.z.hi, .int .i64 f.fly.mass, .slice A f.cycle.length c, .int .i64 f.reach, .int .i64 f.soft, .int .i64 f.bears, .int .i64 f.least, .int .i64 f.most]) (fun i _ => mo + 1 - (intOf i).toNat)
  case atStart => exact ⟨lo, Nat.le_refl _, .inr rfl, rfl, by rw [borneTo_self (by rw [HLO.out]; exact Nat.le_refl _)]; exact h0, hk⟩
  case round =>
    obtain ⟨k, hk1, hk2, rfl, hJk, hkr⟩ := hrel
    have c0 := hkr.cell 0
    have c1 := hkr.cell 1
    have c2 := hkr.cell 2
    have c3 := hkr.cell 3
    have c4 := hkr.cell 4
    have c5 := hkr.cell 5
    have c6 := hkr.cell 6
    have c7 := hkr.cell 7
    have c8 := hkr.cell 8
    have c9 := hkr.cell 9
    have c10 := hkr.cell 10
    have c11 := hkr.cell 11
    have c12 := hkr.cell 12
    have c13 := hkr.cell 13
    have c14 := hkr.cell 14
    have hgr := hkr.lt
    simp at c0 c1 c2 c3 c4 c5 c6 c7 c8 c9 c10 c11 c12 c13 c14
    by_cases hlt : (k : Int) ≤ f.most
    · have hlm : k ≤ mo := by have := EM.out; omega
      have HA : Hid (∀ W : World, Calls Try.prog 57 #[.agg #[.int .i64 f.fly.pos.x.lo, .int .i64 f.fly.pos.x.hi, .int .i64 f.fly.pos.z.lo, .int .i64 f.fly.pos.z.hi, .int .i64 f.fly.speed.x.lo, .int .i64 f.fly.speed.x.hi, .int .i64 f.fly.speed.z.lo, .int .i64 f.fly.speed.z.hi, .int .i64 f.fly.mass, .slice A f.cycle.length c, .int .i64 f.reach, .int .i64 f.soft, .int .i64 f.bears, .int .i64 f.least, .int .i64 f.most], .int .i64 k] W fun e w' => e = .returned (.int .i64 (f.load k)) ∧ Below W.heap.size W w') := fun W => load_any f A c k W HF.out HSo.out ⟨by omega, by omega⟩
      by_cases hb : f.load k ≤ f.bears
      · have hmx : Try.prog.follows .mixedOrders = true := by kernel_rfl
        have hlen : (borneTo f k).length < 301 := by have := borneTo_len (f := f) (k := k); rw [HLO.out] at this; omega
        have htv : (tickAt k).1 = k := tickAt_val (by omega)
        have HTV := Lib.hid htv
        have HLEN := Lib.hid hlen
        have HKR := Lib.hid hkr
        have HJK := Lib.hid hJk
        have HHY := Lib.hid hY
        clear htv hlen hkr hJk hY
        gi_wp2
        gi_region_with_o (first | (refine ⟨trivial, ?_⟩; gi_at_call 57; (with_reducible refine (callsIn_wide.2 (HA.out _)).mono ?_); rintro e w1 ⟨rfl, hb1⟩; have kb := HKR.out.drew.below hb1 (by simpa using HKR.out.lt); have d12 := kb.cell 12; simp at d12; obtain ⟨fn, tmps, assign, body, hy, hR⟩ := HHY.out (borneTo f k) (tickAt k) w1 (abides_below HJ.out (abides_drew HJ.out HJK.out) hb1) HLEN.out; rw [HTV.out] at hy; have HR := Lib.hid hR; clear hR) | (refine HR.out.mono ?_; rintro e W3 h3; obtain ⟨b, rfl, h4⟩ := round_bool h3; clear h3))
        all_goals gi_wp2
        all_goals have HB : Hid (f.bornB k = true) := (by show _ = _; unfold Flt.bornB; simpa using hb)
        all_goals first
          | (have hb' : (!b) = true := by assumption
             have hb2 : b = false := by simpa using hb'
             have jx := h4.out.2 hb2
             rw [← borneTo_hit (by rw [HLO.out]; exact hk1) HB.out] at jx
             refine bodyPost_ret (results_none rfl _ _ _) rfl ?_
             exact ⟨⟨_, rfl⟩, .inr ⟨_, by rw [HBL.out]; exact borneTo_prefix (by rw [HLO.out]; omega) (by omega), jx⟩⟩)
          | (have hb' : (!b) = false := by assumption
             have hb2 : b = true := by simpa using hb'
             obtain ⟨jx, hkp⟩ := h4.out.1 hb2
             rw [← borneTo_hit (by rw [HLO.out]; exact hk1) HB.out] at jx
             exact ⟨⟨k + 1, by omega, .inl (by omega), by go_num, jx, hkp.trans kb⟩, by simp [intOf]; omega⟩)
      · have hmx : Try.prog.follows .mixedOrders = true := by kernel_rfl
        have HKR := Lib.hid hkr
        have HJK := Lib.hid hJk
        have HHY := Lib.hid hY
        have k0 := cell_regrown c0
        have k1 := cell_regrown c1
        have k2 := cell_regrown c2
        have k3 := cell_regrown c3
        have k4 := cell_regrown c4
        have k5 := cell_regrown c5
        have k6 := cell_regrown c6
        have k7 := cell_regrown c7
        have k8 := cell_regrown c8
        have k9 := cell_regrown c9
        have k10 := cell_regrown c10
        have k11 := cell_regrown c11
        have k12 := cell_regrown c12
        have k13 := cell_regrown c13
        have k14 := cell_regrown c14
        have cL : ∀ d os, CallsIn Fence.wide (n - 1) Try.prog 57 #[.agg #[.int .i64 f.fly.pos.x.lo, .int .i64 f.fly.pos.x.hi, .int .i64 f.fly.pos.z.lo, .int .i64 f.fly.pos.z.hi, .int .i64 f.fly.speed.x.lo, .int .i64 f.fly.speed.x.hi, .int .i64 f.fly.speed.z.lo, .int .i64 f.fly.speed.z.hi, .int .i64 f.fly.mass, .slice A f.cycle.length c, .int .i64 f.reach, .int .i64 f.soft, .int .i64 f.bears, .int .i64 f.least, .int .i64 f.most], .int .i64 k] (Go.Sort.grow (Go.redrawn wr d) os) fun e w'' => e = .returned (.int .i64 (f.load k)) ∧ ∃ p : Regrown, w'' = Go.Sort.grow (Go.redrawn wr p.d) p.os := fun d os => CallsIn.regrown_of (callsIn_wide.2 (HA.out _))
        have hbd : decide (f.load (k : Int) ≤ f.bears) = false := by simpa using hb
        clear hkr hJk hY
        gi_wp2
        refine wpIn_region_quiet_below rfl (by assumption) (by kernel_rfl) ?_
        repeat (refine wpQuietIn_step (by first | (intro _ _ _ _; exact trivial) | (intro _ _ _; exact trivial) | (intro _ _; exact trivial) | quiet_asked_in) (fun K hK => ?_); go_simp; first | (refine hK _ ?_; clear hK K) | (apply Exists.intro; refine ⟨fun _ => ?_, hK _ ?_⟩; (first | exact ⟨hn, cL _ _⟩ | exact cL _ _); clear hK K) | (apply Exists.intro; refine ⟨?_, hK _ ?_⟩; (first | exact fun _ => ⟨hn, cL _ _⟩ | exact fun _ => cL _ _); clear hK K))
        refine wpQuietIn_nil ?_
        intro _ hw'
        obtain ⟨⟨dq, osq⟩, hw''⟩ := hw'
        subst hw''
        have hbq := below_regrown wr dq osq
        have kb := HKR.out.below hbq HKR.out.lt
        have hJ1 := Lib.hid (abides_below HJ.out HJK.out hbq)
        gi_wp2
        have HB : Hid (f.bornB k = false) := (by show _ = _; unfold Flt.bornB; simpa using hb)
        have jx := hJ1.out
        rw [← borneTo_miss (by rw [HLO.out]; exact hk1) HB.out] at jx
        exact ⟨⟨k + 1, by omega, .inl (by omega), by go_num, jx, kb⟩, by simp [intOf]; omega⟩
    · gi_wp2
      go_end0
      have hJe : J (borneL f) wr := by
        rw [HBL.out]
        rcases hk2 with hk2 | hk2
        · have : k = mo + 1 := by have := EM.out; omega
          rw [← this]; exact hJk
        · subst hk2
          have h2 : borneTo f (mo + 1) = [] := borneTo_self (by rw [HLO.out]; have := EM.out; omega)
          have h1 : borneTo f k = [] := borneTo_self (by rw [HLO.out]; exact Nat.le_refl _)
          rw [h2, ← h1]; exact hJk
      first | exact ⟨⟨_, rfl⟩, .inl hJe⟩ | exact ⟨⟨_, rfl⟩, .inl ⟨_, rfl, hJe⟩⟩
end Go.Proofs.Ytbagfapalkmikaa
