import Derived.Test.YtibaindlbpfecaaBase
import Derived.Test.YtibaindlbpfecaaRefA

namespace Go.Proofs.Ytibaindlbpfecaa
open Go.RowKit

theorem within_any (n lo hi : Int) (w : World) : Calls Try.prog 73 #[.int .i64 n, .int .i64 lo, .int .i64 hi] w fun e w' => e = .returned (.bool (inB n lo hi)) ∧ w = w' := by
  by_cases h1 : lo ≤ n
  · by_cases h2 : n ≤ hi
    · go_enter Try.func73, Try.ntmps73
      go_wp2
      go_ret
      exact ⟨ret_bool (by simp [inB, h1, h2]), rfl⟩
    · go_enter Try.func73, Try.ntmps73
      go_wp2
      go_ret
      exact ⟨ret_bool (by simp [inB]; omega), rfl⟩
  · go_enter Try.func73, Try.ntmps73
    go_wp2
    go_ret
    exact ⟨ret_bool (by simp [inB]; omega), rfl⟩

theorem isSoil_any (n : Int) (w : World) : Calls Try.prog 70 #[.int .i64 n] w fun e w' => e = .returned (.bool (inB n 0 9)) ∧ w = w' := by
  go_enter Try.func70, Try.ntmps70
  go_wp2_with ((go_at_call 73; refine (within_any _ _ _ _).mono ?_; rintro e w' ⟨rfl, rfl⟩))
  go_ret
  exact ⟨rfl, rfl⟩
theorem isDepth_any (n : Int) (w : World) : Calls Try.prog 71 #[.int .i64 n] w fun e w' => e = .returned (.bool (inB n 1 3000)) ∧ w = w' := by
  go_enter Try.func71, Try.ntmps71
  go_wp2_with ((go_at_call 73; refine (within_any _ _ _ _).mono ?_; rintro e w' ⟨rfl, rfl⟩))
  go_ret
  exact ⟨rfl, rfl⟩

theorem testValid_any (x : Tst) (w : World) : Calls Try.prog 84 #[.agg #[.int .i64 x.soil, .int .i64 x.depth, .int .i64 x.force, .bool x.held]] w fun e w' => e = .returned (.bool x.ok) ∧ Below w.heap.size w w' := by
  have HC : Hid (x.ok = (inB x.soil 0 9 && (inB x.depth 1 3000 && inB x.force 1 5000))) := rfl
  cases h1 : inB x.soil 0 9 <;> cases h2 : inB x.depth 1 3000 <;> cases h3 : inB x.force 1 5000
  all_goals
    rw [h1, h2, h3] at HC
    go_enter Try.func84, Try.ntmps84
    go_wp2_with (first | (go_at_call 70; refine (isSoil_any _ _).mono ?_; rintro e w' ⟨rfl, rfl⟩) | (go_at_call 71; refine (isDepth_any _ _).mono ?_; rintro e w' ⟨rfl, rfl⟩) | (go_at_call 73; refine (within_any _ _ _ _).mono ?_; rintro e w' ⟨rfl, rfl⟩))
    go_ret
    exact ⟨ret_bool HC.out.symm, (Below.refl _ _).alloc (Nat.le_refl _) _⟩

theorem everyT_any (A : Option Addr) (c : Nat) (l : List Tst) (w : World) (hr : RS encT 4 w w.heap.size A l) (hl : l.length ≤ maxLen) :
    Calls Try.prog 83 #[.slice A l.length c, .func (.func 84) #[] #[]] w fun e w' => e = .returned (.bool (l.all Tst.ok)) ∧ Below w.heap.size w w' := by
  unfold maxLen at hl
  go_enter Try.func83, Try.ntmps83
  go_wp2
  go_loopw [9] (fun i wr => ∃ k : Nat, k ≤ l.length ∧ i = .int .i64 k ∧ (l.take k).all Tst.ok = true ∧ Below w.heap.size w wr) (fun i _ => l.length - (intOf i).toNat)
  case atStart => exact ⟨0, Nat.zero_le _, rfl, rfl, Below.refl _ _⟩
  case round =>
    obtain ⟨k, hk, rfl, hall, hB⟩ := hrel
    have Hall := Lib.hid hall
    clear hall
    by_cases hlt : k < l.length
    · obtain ⟨x, hx⟩ := getElem?_lt hlt
      obtain ⟨b, off, rfl, hb, hc⟩ := (hr.below hB (Nat.le_refl _)).at_ hx
      have c0 := hc 0 _ rfl
      have c1 := hc 1 _ rfl
      have c2 := hc 2 _ rfl
      have c3 := hc 3 _ rfl
      have Hx := Lib.hid hx
      have hbz := hB.size
      clear hx hc hr
      simp only [Nat.add_zero] at c0
      cases h1 : x.ok
      all_goals
        have hv := fun W => testValid_any x W
        rw [h1] at hv
        have Hv := Lib.hid hv
        clear hv
        go_wp2_with (go_at_call 84; refine (Hv.out _).mono ?_; rintro e w1 ⟨rfl, hb1⟩)
      · go_ret
        exact ⟨ret_bool (all_bad Hx.out h1).symm, (hB.alloc hbz _).trans (hb1.mono (by simp; omega))⟩
      · go_roundw
        case rel => exact ⟨k + 1, by omega, by go_num, all_snoc Hx.out Hall.out h1, (hB.alloc hbz _).trans (hb1.mono (by simp; omega))⟩
        case measure => simp [intOf]; omega
    · go_wp2
      go_ret
      exact ⟨ret_bool (all_end hlt Hall.out).symm, hB⟩

theorem checkTests_any (A : Option Addr) (c : Nat) (l : List Tst) (w : World) (hr : RS encT 4 w w.heap.size A l) (hl : l.length ≤ maxLen) :
    Calls Try.prog 45 #[.slice A l.length c] w fun e w' => e = .returned (.int .i64 (testsFault l)) ∧ Below w.heap.size w w' := by
  have hl' := hl
  unfold maxLen at hl'
  by_cases h40 : 40 < l.length
  · go_enter Try.func45, Try.ntmps45
    go_wp2
    go_ret
    exact ⟨ret_int (by simp [testsFault, h40]), Below.refl _ _⟩
  · have hv := fun W h => everyT_any A c l W h hl
    cases h1 : l.all Tst.ok
    all_goals
      rw [h1] at hv
      have Hv := Lib.hid hv
      clear hv
      go_enter Try.func45, Try.ntmps45
      go_wp2_with (go_at_call 83; refine (Hv.out _ hr).mono ?_; rintro e w1 ⟨rfl, hb1⟩)
      go_ret
      exact ⟨ret_int (by simp [testsFault, h40, h1]), hb1⟩
end Go.Proofs.Ytibaindlbpfecaa

namespace Go.Proofs.Ytibaindlbpfecaa
open Go.RowKit

theorem clash_any (a b : Tst) (w : World) (ha : a.ok = true) (hb : b.ok = true) : Calls Try.prog 107 #[.agg #[.int .i64 a.soil, .int .i64 a.depth, .int .i64 a.force, .bool a.held], .agg #[.int .i64 b.soil, .int .i64 b.depth, .int .i64 b.force, .bool b.held]] w fun e w' => e = .returned (.bool (clashB a b)) ∧ Below w.heap.size w w' := by
  obtain ⟨⟨p1, p2⟩, p3, p4⟩ := clash_bounds ha hb
  have Hcl : Hid (clashB a b = (a.held && (!b.held && (decide (a.soil = b.soil) && decide (b.force * a.depth ≤ a.force * b.depth))))) := rfl
  clear ha hb
  cases h1 : a.held
  · go_enter Try.func107, Try.ntmps107
    go_wp2
    go_ret
    exact ⟨ret_bool (by rw [Hcl.out, h1]; rfl), ((Below.refl _ _).alloc (Nat.le_refl _) _).alloc (by simp) _⟩
  · cases h2 : b.held
    · by_cases h3 : a.soil = b.soil
      · have e3 : (a.soil == b.soil) = true := by simpa using h3
        go_enter Try.func107, Try.ntmps107
        go_wp2
        go_ret
        exact ⟨ret_bool (by rw [Hcl.out, h1, h2]; simp [h3]), ((Below.refl _ _).alloc (Nat.le_refl _) _).alloc (by simp) _⟩
      · have e3 : (a.soil == b.soil) = false := by simpa using h3
        go_enter Try.func107, Try.ntmps107
        go_wp2
        go_ret
        exact ⟨ret_bool (by rw [Hcl.out]; simp [h3]), ((Below.refl _ _).alloc (Nat.le_refl _) _).alloc (by simp) _⟩
    · go_enter Try.func107, Try.ntmps107
      go_wp2
      go_ret
      exact ⟨ret_bool (by rw [Hcl.out, h2]; simp), ((Below.refl _ _).alloc (Nat.le_refl _) _).alloc (by simp) _⟩

def fcI (l : List Tst) : Int := match fcl l with | some (i, _) => i | none => 0
def fcK (l : List Tst) : Int := match fcl l with | some (_, k) => k | none => 0
def fcF (l : List Tst) : Bool := (fcl l).isSome

theorem firstClash_any (A : Option Addr) (c : Nat) (l : List Tst) (w : World) (hr : RS encT 4 w w.heap.size A l) (hl : l.length ≤ maxLen) (hok : ∀ x ∈ l, x.ok = true) :
    Calls Try.prog 75 #[.slice A l.length c] w fun e w' => e = .returned (.tuple #[.int .i64 (fcI l), .int .i64 (fcK l), .bool (fcF l)]) ∧ Below w.heap.size w w' := by
  unfold maxLen at hl
  have Hok := Lib.hid hok
  clear hok
  go_enter Try.func75, Try.ntmps75
  go_wp2
  go_loopw [11] (fun i wr => ∃ k : Nat, k ≤ l.length ∧ i = .int .i64 k ∧ fclFrom l (l.drop k) k = fcl l ∧ Below w.heap.size w wr) (fun i _ => l.length - (intOf i).toNat)
  case atStart => exact ⟨0, Nat.zero_le _, rfl, rfl, Below.refl _ _⟩
  case round =>
    obtain ⟨i, hi, rfl, hfi, hB⟩ := hrel
    have Hfi := Lib.hid hfi
    clear hfi
    have hbz := hB.size
    by_cases hlt : i < l.length
    · obtain ⟨x, hx⟩ := getElem?_lt hlt
      have Hx := Lib.hid hx
      obtain ⟨b, off, rfl, hb, hc⟩ := (hr.below hB (Nat.le_refl _)).at_ hx
      have Xo := Lib.hid (Hok.out x (List.mem_of_getElem? hx))
      have c0 := hc 0 _ rfl
      have c1 := hc 1 _ rfl
      have c2 := hc 2 _ rfl
      have c3 := hc 3 _ rfl
      simp only [Nat.add_zero] at c0
      clear hx hc
      obtain ⟨wo, hwo⟩ : ∃ wo : World, wo = wr := ⟨_, rfl⟩
      go_wp2
      clear c0 c1 c2 c3
      rw [← hwo]
      rw [← hwo] at hB hbz
      clear hwo
      go_loopw [18] (fun j wr' => ∃ k : Nat, k ≤ l.length ∧ j = .int .i64 k ∧ find1 (clashB x) (l.drop k) k = find1 (clashB x) l 0 ∧ Below (wo.heap.size + 1) (wo.alloc (.cells #[.int .i64 x.soil, .int .i64 x.depth, .int .i64 x.force, .bool x.held] 79)) wr') (fun j _ => l.length - (intOf j).toNat)
      case atStart => exact ⟨0, Nat.zero_le _, rfl, rfl, Below.refl _ _⟩
      case round =>
        obtain ⟨k, hk, rfl, hfk, hB2⟩ := hrel
        have Hfk := Lib.hid hfk
        clear hfk
        have hB3 : Below w.heap.size w wr := (hB.alloc hbz _).trans (hB2.mono (by omega))
        have hz2 := hB2.size
        rw [World.size_alloc] at hz2
        have hz3 := hB3.size
        have hK := (Blk.new wo 79 #[.int .i64 x.soil, .int .i64 x.depth, .int .i64 x.force, .bool x.held]).below hB2 (by omega)
        have hwz := hK.lt
        have k0 := hK.cell 0
        have k1 := hK.cell 1
        have k2 := hK.cell 2
        have k3 := hK.cell 3
        simp at k0 k1 k2 k3
        by_cases hlt2 : k < l.length
        · obtain ⟨y, hy⟩ := getElem?_lt hlt2
          obtain ⟨b', off', hA, _, hc'⟩ := (hr.below hB3 (Nat.le_refl _)).at_ hy
          obtain ⟨rfl, rfl⟩ : b = b' ∧ off = off' := by simpa using hA
          have Yo := Lib.hid (Hok.out y (List.mem_of_getElem? hy))
          have d0 := hc' 0 _ rfl
          have d1 := hc' 1 _ rfl
          have d2 := hc' 2 _ rfl
          have d3 := hc' 3 _ rfl
          simp only [Nat.add_zero] at d0
          have Hy := Lib.hid hy
          clear hc' hA hy hr
          cases h1 : clashB x y
          all_goals
            have hv := fun W => clash_any x y W Xo.out Yo.out
            rw [h1] at hv
            have Hv := Lib.hid hv
            clear hv
            go_wp2_with (go_at_call 107; refine (Hv.out _).mono ?_; rintro e w1 ⟨rfl, hb1⟩)
          · refine ⟨⟨k + 1, by omega, by go_num, by rw [← Hfk.out, find1_miss Hy.out h1], (hB2.alloc (by omega) _).trans (hb1.mono (by simp; omega))⟩, by simp [intOf]; omega⟩
          · go_ret3
            have hf : fcl l = some (i, k) := by
              rw [← Hfi.out, fcl_hit Hx.out]
              rw [← Hfk.out, find1_hit Hy.out h1]
            refine ⟨by simp [fcI, fcK, fcF, hf], (hB3.alloc (by omega) _).trans (hb1.mono (by simp; omega))⟩
        · go_wp2
          refine ⟨⟨i + 1, by omega, by go_num, ?_, hB3⟩, by simp [intOf]; omega⟩
          rw [← Hfi.out, fcl_miss Hx.out (by rw [← Hfk.out, find1_end hlt2])]
    · go_wp2
      go_ret3
      have hf : fcl l = none := by rw [← Hfi.out, fcl_end hlt]
      exact ⟨by simp [fcI, fcK, fcF, hf], hB⟩

/-- ErrFail, if tests clash. -/
def agreeE (l : List Tst) : Int := if fcF l then 9 else 0
theorem checkAgree_any (A : Option Addr) (c : Nat) (l : List Tst) (w : World) (hr : RS encT 4 w w.heap.size A l) (hl : l.length ≤ maxLen) (hok : ∀ x ∈ l, x.ok = true) :
    Calls Try.prog 118 #[.slice A l.length c] w fun e w' => e = .returned (.int .i64 (agreeE l)) ∧ Below w.heap.size w w' := by
  have hv := fun W h => firstClash_any A c l W h hl hok
  cases h1 : fcF l
  all_goals
    rw [h1] at hv
    have Hv := Lib.hid hv
    clear hv hok
    go_enter Try.func118, Try.ntmps118
    go_wp2_with (go_at_call 75; refine (Hv.out _ hr).mono ?_; rintro e w1 ⟨rfl, hb1⟩)
    go_ret
    exact ⟨ret_int (by simp [agreeE, h1]), hb1⟩

def firstE (kinds : Int) (inr : Bool) (l : List Tst) : Int := if kinds = 0 then (if inr then agreeE l else 2) else kinds
theorem firstError_any (kinds : Int) (inr : Bool) (A : Option Addr) (c : Nat) (l : List Tst) (w : World) (hr : RS encT 4 w w.heap.size A l) (hl : l.length ≤ maxLen) (hok : kinds = 0 → ∀ x ∈ l, x.ok = true) :
    Calls Try.prog 88 #[.int .i64 kinds, .bool inr, .slice A l.length c] w fun e w' => e = .returned (.int .i64 (firstE kinds inr l)) ∧ Below w.heap.size w w' := by
  by_cases h0 : kinds = 0
  · have e0 : (kinds != 0) = false := by simpa using h0
    cases inr
    · go_enter Try.func88, Try.ntmps88
      go_wp2
      go_ret
      exact ⟨ret_int (by simp [firstE, h0]), Below.refl _ _⟩
    · have Hok := Lib.hid (hok h0)
      clear hok
      go_enter Try.func88, Try.ntmps88
      go_wp2_with (go_at_call 118; refine (checkAgree_any A c l _ hr hl Hok.out).mono ?_; rintro e w1 ⟨rfl, hb1⟩)
      go_ret
      exact ⟨ret_int (by simp [firstE, h0]), hb1⟩
  · have e0 : (kinds != 0) = true := by simpa using h0
    go_enter Try.func88, Try.ntmps88
    go_wp2
    go_ret
    exact ⟨ret_int (by simp [firstE, h0]), Below.refl _ _⟩

theorem testsFault_ok {l : List Tst} (h : testsFault l = 0) : (∀ x ∈ l, x.ok = true) ∧ l.length ≤ 40 := by
  unfold testsFault at h
  split at h
  · simp at h
  · split at h
    · rename_i h1 h2
      exact ⟨by simpa using h2, by omega⟩
    · simp at h

theorem checkStake_any (A : Option Addr) (c : Nat) (l : List Tst) (inr : Bool) (w : World) (hr : RS encT 4 w w.heap.size A l) (hl : l.length ≤ maxLen) :
    Calls Try.prog 69 #[.slice A l.length c, .bool inr] w fun e w' => e = .returned (.int .i64 (firstE (testsFault l) inr l)) ∧ Below w.heap.size w w' := by
  have Hok := Lib.hid (fun h => (testsFault_ok (l := l) h).1)
  go_enter Try.func69, Try.ntmps69
  go_wp2_with (first | (go_at_call 45; refine (checkTests_any A c l _ hr hl).mono ?_; rintro e w1 ⟨rfl, hb1⟩) | (go_at_call 88; refine (firstError_any _ _ A c l _ (hr.to hb1) hl Hok.out).mono ?_; rintro e w2 ⟨rfl, hb2⟩))
  go_ret
  exact ⟨rfl, sh_next hb1 hb2⟩

theorem quotientUp_any (a b : Int) (w : World) (ha : 0 ≤ a ∧ a ≤ 1000000000000) (hb : 1 ≤ b ∧ b ≤ 1000000000000) : Calls Try.prog 104 #[.int .i64 a, .int .i64 b] w fun e w' => e = .returned (.int .i64 (cdiv a b)) ∧ w = w' := by
  have e0 : (b == 0) = false := by simp; omega
  have HC : Hid (cdiv a b = (a + b - 1) / b) := rfl
  go_enter Try.func104, Try.ntmps104
  go_wp2
  go_ret
  exact ⟨ret_int HC.out.symm, rfl⟩
end Go.Proofs.Ytibaindlbpfecaa

namespace Go.Proofs.Ytibaindlbpfecaa
open Go.RowKit

set_option maxRecDepth 100000 in
set_option maxHeartbeats 600000 in
theorem holds_any (A : Option Addr) (c : Nat) (l : List Tst) (w : World) (soil depth : Int) (hr : RS encT 4 w w.heap.size A l) (hl : l.length ≤ maxLen) (hok : ∀ x ∈ l, x.ok = true)
    (hd1 : 1 ≤ depth) (hd2 : depth ≤ 3000) :
    Calls Try.prog 72 #[.slice A l.length c, .int .i64 soil, .int .i64 depth] w fun e w' => e = .returned (.agg #[.int .i64 (holdsM l soil depth).1, .int .i64 (holdsM l soil depth).2]) ∧ Below w.heap.size w w' := by
  unfold maxLen at hl
  have Hok := Lib.hid hok
  clear hok
  go_enter Try.func72, Try.ntmps72
  go_wp2
  go_loopw [13] (fun i wr => ∃ (k : Nat) (lo hi : Int), k ≤ l.length ∧ i = .int .i64 k ∧ (l.take k).foldl (holdsStep soil depth) (0, 10000000) = (lo, hi) ∧ Below w.heap.size w wr ∧ Blk wr w.heap.size 72 #[.int .i64 0, .int .i64 0] ∧ Blk wr (w.heap.size + 1) 72 #[.int .i64 lo, .int .i64 hi]) (fun i _ => l.length - (intOf i).toNat)
  case atStart =>
    exact ⟨0, 0, 10000000, Nat.zero_le _, rfl, rfl, ((Below.refl _ _).alloc (Nat.le_refl _) _).alloc (by simp) _, (Blk.new _ _ _).alloc _, by simpa using Blk.new (w.alloc (.cells #[.int .i64 0, .int .i64 0] 72)) 72 #[.int .i64 0, .int .i64 10000000]⟩
  case round =>
    obtain ⟨k, lo, hi, hk, rfl, hfold, hB, b0, b1⟩ := hrel
    have Hfold := Lib.hid hfold
    clear hfold
    have s0 := b0.cell 0
    have s1 := b0.cell 1
    have f0 := b0.frozen 0
    have f1 := b0.frozen 1
    have r0 := b1.cell 0
    have r1 := b1.cell 1
    have g0 := b1.frozen 0
    have g1 := b1.frozen 1
    have z := b1.lt
    simp at s0 s1 r0 r1
    by_cases hlt : k < l.length
    · obtain ⟨x, hx⟩ := getElem?_lt hlt
      have xo := Tst.ok_iff.1 (Hok.out x (List.mem_of_getElem? hx))
      obtain ⟨⟨x1, x2⟩, ⟨x3, x4⟩, x5, x6⟩ := xo
      obtain ⟨b, off, rfl, hb, hc⟩ := (hr.below hB (Nat.le_refl _)).at_ hx
      have c0 := hc 0 _ rfl
      have c1 := hc 1 _ rfl
      have c2 := hc 2 _ rfl
      have c3 := hc 3 _ rfl
      simp only [Nat.add_zero] at c0
      have Hx := Lib.hid hx
      have p1 : 0 ≤ x.force * depth := Int.mul_nonneg (by omega) (by omega)
      have p2 : x.force * depth ≤ 15000000 := by have := Int.mul_le_mul x6 hd2 (by omega) (by omega); omega
      have q1 : 0 ≤ x.force * depth / x.depth := Int.ediv_nonneg p1 (by omega)
      have q2 : x.force * depth / x.depth ≤ 15000000 := by have := Int.ediv_le_self x.depth p1; omega
      have e0 : (x.depth == 0) = false := by simp; omega
      have e1 : x.depth ≠ 0 := by omega
      have v1 : IntKind.i64.wrap (x.force * depth) = x.force * depth := IntWalk.i64_in _ (by omega)
      have v2 : IntKind.i64.wrap ((x.force * depth).tdiv x.depth) = x.force * depth / x.depth := IntWalk.i64_quo _ _ (by omega)
      clear hx hc hr
      by_cases hs : x.soil = soil
      · have e3 : (x.soil != soil) = false := by simpa using hs
        cases h1 : x.held with
        | true =>
          rw [h1] at c3
          have HF : Hid (holdsStep soil depth (lo, hi) x = (max lo (x.force * depth / x.depth), hi)) := by
            show _ = _
            rw [holdsStep, if_pos hs, h1]; rfl
          go_wp2
          refine wp_region_still_tail 10 (by kernel_rfl) (by kernel_rfl) ?_
          change wpStill _ _ (World.drew _) _ _ _
          simp only [List.take_succ_cons, List.take_zero, List.drop_succ_cons, List.drop_zero]
          repeat still_step
          refine wpStill_nil ?_
          change wpList _ _ _ _ _ (World.drew _)
          go_wp2
          refine ⟨⟨k + 1, _, _, by omega, by go_num, ?_, ((hB.setCell (by show w.heap.size ≤ w.heap.size + 1; omega) _).alloc (by have := hB.size; simp; omega) _).drew, ((b0.far (by simp) _).alloc _).drew, ((show Blk _ _ _ #[_, _] from by simpa using b1.set_ 0 _).alloc _).drew⟩, by simp [intOf]; omega⟩
          rw [foldl_snoc Hx.out, Hfold.out, HF.out]
          simp only [Prod.mk.injEq, and_true]
          split <;> omega
        | false =>
          rw [h1] at c3
          have HF : Hid (holdsStep soil depth (lo, hi) x = (lo, min hi (cdiv (x.force * depth) x.depth - 1))) := by
            show _ = _
            rw [holdsStep, if_pos hs, h1]; rfl
          have w1 : 0 ≤ cdiv (x.force * depth) x.depth := Int.ediv_nonneg (by omega) (by omega)
          have w2 : cdiv (x.force * depth) x.depth ≤ 20000000 := by have := Int.ediv_le_self (a := x.force * depth + x.depth - 1) x.depth (by omega); unfold cdiv; omega
          have v3 : IntKind.i64.wrap (cdiv (x.force * depth) x.depth - 1) = cdiv (x.force * depth) x.depth - 1 := IntWalk.i64_in _ (by omega)
          go_wp2
          refine wp_region_still_tail 11 (by kernel_rfl) (by kernel_rfl) ?_
          change wpStill _ _ (World.drew _) _ _ _
          simp only [List.take_succ_cons, List.take_zero, List.drop_succ_cons, List.drop_zero]
          repeat still_step
          still_call ((quotientUp_any (x.force * depth) x.depth _ (by omega) (by omega)).mono fun _ _ h => ⟨h.1, h.2.symm⟩)
          repeat still_step
          refine wpStill_nil ?_
          change wpList _ _ _ _ _ (World.drew _)
          go_wp2
          refine ⟨⟨k + 1, _, _, by omega, by go_num, ?_, ((hB.setCell (by show w.heap.size ≤ w.heap.size + 1; omega) _).alloc (by have := hB.size; simp; omega) _).drew, ((b0.far (by simp) _).alloc _).drew, ((show Blk _ _ _ #[_, _] from by simpa using b1.set_ 1 _).alloc _).drew⟩, by simp [intOf]; omega⟩
          rw [foldl_snoc Hx.out, Hfold.out, HF.out]
          simp only [Prod.mk.injEq, true_and]
          split <;> omega
      · have e3 : (x.soil != soil) = true := by simpa using hs
        go_wp2
        refine ⟨⟨k + 1, _, _, by omega, by go_num, ?_, hB.alloc (by have := hB.size; omega) _, b0.alloc _, b1.alloc _⟩, by simp [intOf]; omega⟩
        rw [foldl_snoc Hx.out, Hfold.out, holdsStep, if_neg hs]
    · go_wp2
      have bf := (b0.set_ 0 (.int .i64 lo)).set_ 1 (.int .i64 hi)
      have v0 := bf.cell 0
      have v1 := bf.cell 1
      simp at v0 v1
      refine bodyPost_ret (v := .agg #[.int .i64 lo, .int .i64 hi]) (by simp [results, Try.results72, go_sem, v0, v1]) rfl ⟨?_, ?_⟩
      · have hf : holdsM l soil depth = (lo, hi) := by rw [← Hfold.out, foldl_end hlt]; rfl
        rw [hf]
      · exact (hB.setCell (Nat.le_refl _) _).setCell (Nat.le_refl _) _
end Go.Proofs.Ytibaindlbpfecaa

namespace Go.Proofs.Ytibaindlbpfecaa
open Go.RowKit

/-- sort.Search over the closure of leastDepth: what the closure answers is told by p; r is the first place with true. -/
theorem searchD_any (n r : Int) (p : Int → Bool) (q1 q2 q3 : Value) (w : World) (hn : 0 ≤ r ∧ r ≤ n ∧ n ≤ 1000000000)
    (h1 : ∀ h, 0 ≤ h → h < r → p h = false) (h2 : ∀ h, r ≤ h → h < n → p h = true)
    (hf : ∀ (h : Int) (W : World) (b : Bool), 0 ≤ h → h < n → Below w.heap.size w W → p h = b → Calls Try.prog 106 #[.int .i64 h, q1, q2, q3] W fun e W' => e = .returned (.bool b) ∧ Below W.heap.size W W') :
    Calls Try.prog 105 #[.int .i64 n, .func (.func 106) #[] #[q1, q2, q3]] w fun e w' => e = .returned (.int .i64 r) ∧ Below w.heap.size w w' := by
  have H1 := Lib.hid h1
  have H2 := Lib.hid h2
  have Hf := Lib.hid hf
  clear h1 h2 hf
  go_enter Try.func105, Try.ntmps105
  go_wp2
  go_loopw [5, 6] (fun i j wr => ∃ a b : Int, i = .int .i64 a ∧ j = .int .i64 b ∧ 0 ≤ a ∧ a ≤ r ∧ r ≤ b ∧ b ≤ n ∧ Below w.heap.size w wr) (fun i j _ => (intOf j - intOf i).toNat)
  case atStart => exact ⟨0, n, rfl, rfl, by omega, by omega, by omega, by omega, Below.refl _ _⟩
  case round =>
    obtain ⟨a, b, rfl, rfl, ha, har, hrb, hbn, hB⟩ := hrel
    by_cases hlt : a < b
    · have hm1 : a ≤ (a + b) / 2 := by omega
      have hm2 : (a + b) / 2 < b := by omega
      by_cases hp : (a + b) / 2 < r
      · have Hv := Lib.hid (fun W hW => Hf.out ((a + b) / 2) W false (by omega) (by omega) hW (H1.out _ (by omega) hp))
        go_wp2_with (go_at_call 106; refine (Hv.out _ hB).mono ?_; rintro e w1 ⟨rfl, hb1⟩)
        refine ⟨⟨(a + b) / 2 + 1, b, rfl, rfl, by omega, by omega, by omega, by omega, hB.trans (hb1.mono hB.size)⟩, by simp [intOf]; omega⟩
      · have Hv := Lib.hid (fun W hW => Hf.out ((a + b) / 2) W true (by omega) (by omega) hW (H2.out _ (by omega) (by omega)))
        go_wp2_with (go_at_call 106; refine (Hv.out _ hB).mono ?_; rintro e w1 ⟨rfl, hb1⟩)
        refine ⟨⟨a, (a + b) / 2, rfl, rfl, by omega, by omega, by omega, by omega, hB.trans (hb1.mono hB.size)⟩, by simp [intOf]; omega⟩
    · go_wp2
      go_ret
      exact ⟨ret_int (by omega), hB⟩
/-- sort.Search over the closure of length: what the closure answers is told by p; r is the first place with true. -/
theorem searchL_any (n r : Int) (p : Int → Bool) (q1 : Value) (w : World) (hn : 0 ≤ r ∧ r ≤ n ∧ n ≤ 1000000000)
    (h1 : ∀ h, 0 ≤ h → h < r → p h = false) (h2 : ∀ h, r ≤ h → h < n → p h = true)
    (hf : ∀ (h : Int) (W : World) (b : Bool), 0 ≤ h → h < n → Below w.heap.size w W → p h = b → Calls Try.prog 128 #[.int .i64 h, q1] W fun e W' => e = .returned (.bool b) ∧ Below W.heap.size W W') :
    Calls Try.prog 105 #[.int .i64 n, .func (.func 128) #[] #[q1]] w fun e w' => e = .returned (.int .i64 r) ∧ Below w.heap.size w w' := by
  have H1 := Lib.hid h1
  have H2 := Lib.hid h2
  have Hf := Lib.hid hf
  clear h1 h2 hf
  go_enter Try.func105, Try.ntmps105
  go_wp2
  go_loopw [5, 6] (fun i j wr => ∃ a b : Int, i = .int .i64 a ∧ j = .int .i64 b ∧ 0 ≤ a ∧ a ≤ r ∧ r ≤ b ∧ b ≤ n ∧ Below w.heap.size w wr) (fun i j _ => (intOf j - intOf i).toNat)
  case atStart => exact ⟨0, n, rfl, rfl, by omega, by omega, by omega, by omega, Below.refl _ _⟩
  case round =>
    obtain ⟨a, b, rfl, rfl, ha, har, hrb, hbn, hB⟩ := hrel
    by_cases hlt : a < b
    · have hm1 : a ≤ (a + b) / 2 := by omega
      have hm2 : (a + b) / 2 < b := by omega
      by_cases hp : (a + b) / 2 < r
      · have Hv := Lib.hid (fun W hW => Hf.out ((a + b) / 2) W false (by omega) (by omega) hW (H1.out _ (by omega) hp))
        go_wp2_with (go_at_call 128; refine (Hv.out _ hB).mono ?_; rintro e w1 ⟨rfl, hb1⟩)
        refine ⟨⟨(a + b) / 2 + 1, b, rfl, rfl, by omega, by omega, by omega, by omega, hB.trans (hb1.mono hB.size)⟩, by simp [intOf]; omega⟩
      · have Hv := Lib.hid (fun W hW => Hf.out ((a + b) / 2) W true (by omega) (by omega) hW (H2.out _ (by omega) (by omega)))
        go_wp2_with (go_at_call 128; refine (Hv.out _ hB).mono ?_; rintro e w1 ⟨rfl, hb1⟩)
        refine ⟨⟨a, (a + b) / 2, rfl, rfl, by omega, by omega, by omega, by omega, hB.trans (hb1.mono hB.size)⟩, by simp [intOf]; omega⟩
    · go_wp2
      go_ret
      exact ⟨ret_int (by omega), hB⟩

theorem leastDepthF_any (A : Option Addr) (c : Nat) (l : List Tst) (soil force above : Int) (w : World) (B : Nat) (hr : RS encT 4 w w.heap.size A l) (hl : l.length ≤ maxLen) (hok : ∀ x ∈ l, x.ok = true)
    (ha : 0 ≤ above ∧ above < 3000) (hB : B + 2 < w.heap.size) (k1 : w.cell? ⟨B, 0, none⟩ = some (.slice A l.length c)) (k2 : w.cell? ⟨B + 1, 0, none⟩ = some (.int .i64 soil)) (k3 : w.cell? ⟨B + 2, 0, none⟩ = some (.int .i64 force)) :
    Calls Try.prog 106 #[.int .i64 above, .pointer (some ⟨B, 0, none⟩), .pointer (some ⟨B + 1, 0, none⟩), .pointer (some ⟨B + 2, 0, none⟩)] w fun e w' => e = .returned (.bool (decide (force ≤ (holdsM l soil (above + 1)).1))) ∧ Below w.heap.size w w' := by
  have z1 : B < w.heap.size := by omega
  have z2 : B + 1 < w.heap.size := by omega
  go_enter Try.func106, Try.ntmps106
  go_wp2
  refine name_world (motive := fun W => Code.wp _ _ _ _ W) _ ?_
  intro W0 hW
  have hWc := hW.cell
  have hWz := hW.size
  have hWb := hW.below (Below.refl w.heap.size w)
  have hr0 : RS encT 4 W0 W0.heap.size A l := by rw [hW.eq.out]; exact hr
  have s1 : IntKind.i64.wrap (above + 1) = above + 1 := IntWalk.i64_in _ (by omega)
  go_region_held3 (fun w' => (∀ b o, b < W0.heap.size → w'.cell? ⟨b, o, none⟩ = W0.cell? ⟨b, o, none⟩) ∧ Below W0.heap.size W0 w') (first | with_reducible exact sh_refl _ | (with_reducible refine sh_of ?_; with_reducible assumption) | (with_reducible refine sh_alloc ?_ _; with_reducible assumption) | with_reducible exact sh_first _ _)
    (first | (go_at_call 72; go_split_ands; have hS1 : Below W0.heap.size W0 _ := (by with_reducible assumption); refine (holds_any A c l _ soil (above + 1) (hr0.to hS1) hl hok (by omega) (by omega)).mono ?_; rintro e w1 ⟨rfl, hb1⟩; have hB1 := sh_next hS1 hb1))
  go_wp2
  go_ret
  exact ⟨rfl, hWb.trans (hB1.mono hWb.size)⟩
end Go.Proofs.Ytibaindlbpfecaa

namespace Go.Proofs.Ytibaindlbpfecaa
open Go.RowKit

theorem leastDepth_any (A : Option Addr) (c : Nat) (l : List Tst) (soil force : Int) (w : World) (hr : RS encT 4 w w.heap.size A l) (hl : l.length ≤ maxLen) (hok : ∀ x ∈ l, x.ok = true) :
    Calls Try.prog 74 #[.slice A l.length c, .int .i64 soil, .int .i64 force] w fun e w' => e = .returned (.int .i64 (deepR l soil force + 1)) ∧ Below w.heap.size w w' := by
  obtain ⟨⟨r1, r2⟩, r3, r4⟩ := deepR_spec (soil := soil) (force := force) hok
  have R3 := Lib.hid r3
  have R4 := Lib.hid r4
  have Hok := Lib.hid hok
  clear r3 r4 hok
  go_enter Try.func74, Try.ntmps74
  go_wp2_with fail
  refine (searchD_any 3000 (deepR l soil force) (fun h => decide (force ≤ (holdsM l soil (h + 1)).1)) _ _ _ _ ⟨r1, r2, by omega⟩ R3.out R4.out ?_).mono ?_
  · intro h W b h0 h1 hB hp
    subst hp
    have hz := hB.size
    simp only [World.size_alloc] at hz
    refine leastDepthF_any A c l soil force h W w.heap.size ?_ hl Hok.out ⟨h0, h1⟩ (by omega) ?_ ?_ ?_
    · exact (((hr.below ((((Below.refl _ _).alloc (Nat.le_refl _) _).alloc (by simp) _).alloc (by simp; omega) _) (Nat.le_refl _)).more (by simp; omega)).to hB)
    · rw [hB.cell (p := ⟨w.heap.size, 0, none⟩) (by simp; omega), World.cell?_alloc_lt _ _ _ (by simp; omega), World.cell?_alloc_lt _ _ _ (by simp)]
      simp
    · rw [hB.cell (p := ⟨w.heap.size + 1, 0, none⟩) (by simp), World.cell?_alloc_lt _ _ _ (by simp)]
      have := (Blk.new (w.alloc (.cells #[.slice A l.length c] 33)) 3 #[.int .i64 soil]).cell 0
      rw [World.size_alloc] at this
      exact this
    · rw [hB.cell (p := ⟨w.heap.size + 2, 0, none⟩) (by simp)]
      simpa using (Blk.new ((w.alloc (.cells #[.slice A l.length c] 33)).alloc (.cells #[.int .i64 soil] 3)) 3 #[.int .i64 force]).cell 0
  · rintro e w1 ⟨rfl, hb1⟩
    go_wp2
    go_ret
    refine ⟨ret_int (by omega), ((((Below.refl _ _).alloc (Nat.le_refl _) _).alloc (by simp) _).alloc (by simp; omega) _).trans (hb1.mono (by simp; omega))⟩

/-- The errors of the calls with a stake. -/
def stakeE (l : List Tst) (inr : Bool) : Int := firstE (testsFault l) inr l
theorem stakeE_zero {l : List Tst} {inr : Bool} (h : stakeE l inr = 0) : inr = true ∧ testsFault l = 0 ∧ fcF l = false := by
  unfold stakeE firstE at h
  split at h
  · rename_i h0
    split at h
    · rename_i h1
      refine ⟨h1, h0, ?_⟩
      unfold agreeE at h
      cases hf : fcF l
      · rfl
      · rw [hf] at h; simp at h
    · simp at h
  · rename_i h0; exact absurd h h0

theorem checkStake_val (A : Option Addr) (c : Nat) {l : List Tst} {b : Bool} {z : Int} (hE : stakeE l b = z) (w : World) (hr : RS encT 4 w w.heap.size A l) (hl : l.length ≤ maxLen) :
    Calls Try.prog 69 #[.slice A l.length c, .bool b] w fun e w' => e = .returned (.int .i64 z) ∧ Below w.heap.size w w' := by
  rw [← hE]; exact checkStake_any A c l b w hr hl
theorem Holds_ok (A : Option Addr) (c : Nat) (l : List Tst) (soil depth : Int) (w : World) (hr : RS encT 4 w w.heap.size A l) (hl : l.length ≤ maxLen) (hE : stakeE l (inB soil 0 9 && inB depth 1 3000) = 0) :
    Calls Try.prog 33 #[.slice A l.length c, .int .i64 soil, .int .i64 depth] w fun e w' => e = .returned (.tuple #[.agg #[.int .i64 (holdsM l soil depth).1, .int .i64 (holdsM l soil depth).2], .int .i64 0]) ∧ Below w.heap.size w w' := by
  obtain ⟨hin, htf, _⟩ := stakeE_zero hE
  simp only [Bool.and_eq_true] at hin
  obtain ⟨h1, h2⟩ := hin
  have hok := (testsFault_ok htf).1
  obtain ⟨d1, d2⟩ := inB_true.1 h2
  have hv : ∀ W, RS encT 4 W W.heap.size A l → Calls Try.prog 69 #[.slice A l.length c, .bool true] W fun e W' => e = .returned (.int .i64 0) ∧ Below W.heap.size W W' := by
    intro W h; rw [h1, h2] at hE; rw [← hE]; exact checkStake_any A c l true W h hl
  have Hv := Lib.hid hv
  have Hok := Lib.hid hok
  have hr1 := hr.to ((Below.refl _ w).alloc (Nat.le_refl _) (.cells #[.int .i64 0, .int .i64 0] 72))
  clear hE htf hok hv
  go_enter Try.func33, Try.ntmps33
  go_wp2_with (first | (go_at_call 70; refine (isSoil_any _ _).mono ?_; rintro e w' ⟨rfl, rfl⟩) | (go_at_call 71; refine (isDepth_any _ _).mono ?_; rintro e w' ⟨rfl, rfl⟩) | (go_at_call 69; refine (Hv.out _ hr1).mono ?_; rintro e w1 ⟨rfl, hb1⟩; obtain ⟨hc1, hf1⟩ := bcell hb1; have hz1 : w.heap.size < w1.heap.size := (by have := hb1.size; (try simp at this); omega)) | (go_at_call 72; refine (holds_any A c l _ soil depth (hr1.to hb1) hl Hok.out d1 d2).mono ?_; rintro e w2 ⟨rfl, hb2⟩; obtain ⟨hc2, hf2⟩ := bcell hb2; have hz2 : w.heap.size < w2.heap.size := (by have := hb2.size; (try simp at this); omega)))
  have bk := ((Blk.new w 72 #[.int .i64 0, .int .i64 0]).below hb1 (by simp)).below hb2 hz1
  have bf := (bk.set_ 0 (.int .i64 (holdsM l soil depth).1)).set_ 1 (.int .i64 (holdsM l soil depth).2)
  have v0 := bf.cell 0
  have v1 := bf.cell 1
  simp at v0 v1
  refine bodyPost_ret (v := .tuple #[.agg #[.int .i64 (holdsM l soil depth).1, .int .i64 (holdsM l soil depth).2], .int .i64 0]) (by simp [results, Try.results33, go_sem, v0, v1]) rfl ⟨rfl, ?_⟩
  have hB := ((Below.refl w.heap.size w).alloc (Nat.le_refl _) (.cells #[.int .i64 0, .int .i64 0] 72)).trans (hb1.mono (by simp))
  exact ((hB.trans (hb2.mono (by omega))).setCell (Nat.le_refl _) _).setCell (Nat.le_refl _) _

theorem Holds_err (A : Option Addr) (c : Nat) (l : List Tst) (soil depth z : Int) (w : World) (hr : RS encT 4 w w.heap.size A l) (hl : l.length ≤ maxLen) (hE : stakeE l (inB soil 0 9 && inB depth 1 3000) = z) (hz : z ≠ 0) :
    Calls Try.prog 33 #[.slice A l.length c, .int .i64 soil, .int .i64 depth] w fun e w' => e = .returned (.tuple #[.agg #[.int .i64 0, .int .i64 0], .int .i64 z]) ∧ Below w.heap.size w w' := by
  have e0 : (z != 0) = true := by simpa using hz
  cases h1 : inB soil 0 9 <;> cases h2 : inB depth 1 3000
  all_goals
    rw [h1, h2] at hE
    have hv := fun W h => checkStake_val A c hE W h hl
    have Hv := Lib.hid hv
    have hr1 := hr.to ((Below.refl _ w).alloc (Nat.le_refl _) (.cells #[.int .i64 0, .int .i64 0] 72))
    clear hE hv
    go_enter Try.func33, Try.ntmps33
    go_wp2_with (first | (go_at_call 70; refine (isSoil_any _ _).mono ?_; rintro e w' ⟨rfl, rfl⟩) | (go_at_call 71; refine (isDepth_any _ _).mono ?_; rintro e w' ⟨rfl, rfl⟩) | (go_at_call 69; refine (Hv.out _ hr1).mono ?_; rintro e w1 ⟨rfl, hb1⟩; obtain ⟨hc1, hf1⟩ := bcell hb1; have hz1 : w.heap.size < w1.heap.size := (by have := hb1.size; (try simp at this); omega)))
    have bk := (Blk.new w 72 #[.int .i64 0, .int .i64 0]).below hb1 (by simp)
    have bf := (bk.set_ 0 (.int .i64 0)).set_ 1 (.int .i64 0)
    have v0 := bf.cell 0
    have v1 := bf.cell 1
    simp at v0 v1
    refine bodyPost_ret (v := .tuple #[.agg #[.int .i64 0, .int .i64 0], .int .i64 z]) (by simp [results, Try.results33, go_sem, v0, v1]) rfl ⟨rfl, ?_⟩
    have hB := ((Below.refl w.heap.size w).alloc (Nat.le_refl _) (.cells #[.int .i64 0, .int .i64 0] 72)).trans (hb1.mono (by simp))
    exact (hB.setCell (Nat.le_refl _) _).setCell (Nat.le_refl _) _

/-- The error of Deep: none, or the depth that the search finds is too great. -/
def deepE (l : List Tst) (soil force : Int) : Int :=
  if stakeE l (inB soil 0 9 && inB force 0 5000) = 0 then (if deepR l soil force = 3000 then 7 else 0) else stakeE l (inB soil 0 9 && inB force 0 5000)
def deepV (l : List Tst) (soil force : Int) : Int := if deepE l soil force = 0 then deepR l soil force + 1 else 0

theorem Deep_any (A : Option Addr) (c : Nat) (l : List Tst) (soil force : Int) (w : World) (hr : RS encT 4 w w.heap.size A l) (hl : l.length ≤ maxLen) :
    Calls Try.prog 35 #[.slice A l.length c, .int .i64 soil, .int .i64 force] w fun e w' => e = .returned (.tuple #[.int .i64 (deepV l soil force), .int .i64 (deepE l soil force)]) ∧ Below w.heap.size w w' := by
  have HE : Hid (deepE l soil force = if stakeE l (inB soil 0 9 && inB force 0 5000) = 0 then (if deepR l soil force = 3000 then 7 else 0) else stakeE l (inB soil 0 9 && inB force 0 5000)) := rfl
  obtain ⟨z, hz⟩ : ∃ z, stakeE l (inB soil 0 9 && inB force 0 5000) = z := ⟨_, rfl⟩
  rw [hz] at HE
  by_cases h0 : z = 0
  · subst h0
    obtain ⟨hin, htf, _⟩ := stakeE_zero hz
    simp only [Bool.and_eq_true] at hin
    obtain ⟨h1, h2⟩ := hin
    have hok := (testsFault_ok htf).1
    obtain ⟨⟨r1, r2⟩, _⟩ := deepR_spec (soil := soil) (force := force) hok
    have hv : ∀ W, RS encT 4 W W.heap.size A l → Calls Try.prog 69 #[.slice A l.length c, .bool true] W fun e W' => e = .returned (.int .i64 0) ∧ Below W.heap.size W W' := by
      intro W h; rw [h1, h2] at hz; rw [← hz]; exact checkStake_any A c l true W h hl
    have Hv := Lib.hid hv
    have Hok := Lib.hid hok
    clear hz htf hok hv
    by_cases hd : deepR l soil force = 3000
    · have HD := Lib.hid hd
      have hdd : 3000 < deepR l soil force + 1 := by omega
      clear hd
      go_enter Try.func35, Try.ntmps35
      go_wp2_with (first | (go_at_call 70; refine (isSoil_any _ _).mono ?_; rintro e w' ⟨rfl, rfl⟩) | (go_at_call 73; refine (within_any _ _ _ _).mono ?_; rintro e w' ⟨rfl, rfl⟩) | (go_at_call 69; refine (Hv.out _ hr).mono ?_; rintro e w1 ⟨rfl, hb1⟩; obtain ⟨hc1, hf1⟩ := bcell hb1) | (go_at_call 74; refine (leastDepth_any A c l soil force _ (hr.to hb1) hl Hok.out).mono ?_; rintro e w2 ⟨rfl, hb2⟩; obtain ⟨hc2, hf2⟩ := bcell hb2))
      go_ret2
      exact ⟨by simp [deepV, HE.out, HD.out], sh_next hb1 hb2⟩
    · have HD := Lib.hid hd
      have hdd : ¬ 3000 < deepR l soil force + 1 := by omega
      clear hd
      go_enter Try.func35, Try.ntmps35
      go_wp2_with (first | (go_at_call 70; refine (isSoil_any _ _).mono ?_; rintro e w' ⟨rfl, rfl⟩) | (go_at_call 73; refine (within_any _ _ _ _).mono ?_; rintro e w' ⟨rfl, rfl⟩) | (go_at_call 69; refine (Hv.out _ hr).mono ?_; rintro e w1 ⟨rfl, hb1⟩; obtain ⟨hc1, hf1⟩ := bcell hb1) | (go_at_call 74; refine (leastDepth_any A c l soil force _ (hr.to hb1) hl Hok.out).mono ?_; rintro e w2 ⟨rfl, hb2⟩; obtain ⟨hc2, hf2⟩ := bcell hb2))
      go_ret2
      exact ⟨by simp [deepV, HE.out, HD.out], sh_next hb1 hb2⟩
  · have e0 : (z != 0) = true := by simpa using h0
    have H0 := Lib.hid h0
    clear h0
    cases h1 : inB soil 0 9 <;> cases h2 : inB force 0 5000
    all_goals
      rw [h1, h2] at hz
      have hv := fun W h => checkStake_val A c hz W h hl
      have Hv := Lib.hid hv
      clear hz hv
      go_enter Try.func35, Try.ntmps35
      go_wp2_with (first | (go_at_call 70; refine (isSoil_any _ _).mono ?_; rintro e w' ⟨rfl, rfl⟩) | (go_at_call 73; refine (within_any _ _ _ _).mono ?_; rintro e w' ⟨rfl, rfl⟩) | (go_at_call 69; refine (Hv.out _ hr).mono ?_; rintro e w1 ⟨rfl, hb1⟩; obtain ⟨hc1, hf1⟩ := bcell hb1))
      go_ret2
      exact ⟨by simp [deepV, HE.out, H0.out], hb1⟩

def clashE (l : List Tst) : Int := if testsFault l = 0 then (if fcF l then 0 else 7) else testsFault l
theorem fcF_none {l : List Tst} (h : fcF l = false) : fcI l = 0 ∧ fcK l = 0 := by
  unfold fcF at h; unfold fcI fcK
  cases hf : fcl l with
  | none => exact ⟨rfl, rfl⟩
  | some p => rw [hf] at h; simp at h
theorem Clash_any (A : Option Addr) (c : Nat) (l : List Tst) (w : World) (hr : RS encT 4 w w.heap.size A l) (hl : l.length ≤ maxLen) :
    Calls Try.prog 36 #[.slice A l.length c] w fun e w' => e = .returned (.tuple #[.int .i64 (if testsFault l = 0 then fcI l else 0), .int .i64 (if testsFault l = 0 then fcK l else 0), .int .i64 (clashE l)]) ∧ Below w.heap.size w w' := by
  have HE : Hid (clashE l = if testsFault l = 0 then (if fcF l then 0 else 7) else testsFault l) := rfl
  obtain ⟨z, hz⟩ : ∃ z, testsFault l = z := ⟨_, rfl⟩
  have hv : ∀ W, RS encT 4 W W.heap.size A l → Calls Try.prog 45 #[.slice A l.length c] W fun e W' => e = .returned (.int .i64 z) ∧ Below W.heap.size W W' := by
    intro W h; rw [← hz]; exact checkTests_any A c l W h hl
  have Hv := Lib.hid hv
  rw [hz] at HE ⊢
  by_cases h0 : z = 0
  · subst h0
    have Hok := Lib.hid (testsFault_ok hz).1
    clear hz hv
    have hv2 := fun W h => firstClash_any A c l W h hl Hok.out
    cases h1 : fcF l
    all_goals
      rw [h1] at hv2
      have Hv2 := Lib.hid hv2
      clear hv2
      go_enter Try.func36, Try.ntmps36
      go_wp2_with (first | (go_at_call 45; refine (Hv.out _ hr).mono ?_; rintro e w1 ⟨rfl, hb1⟩; obtain ⟨hc1, hf1⟩ := bcell hb1) | (go_at_call 75; refine (Hv2.out _ (hr.to hb1)).mono ?_; rintro e w2 ⟨rfl, hb2⟩; obtain ⟨hc2, hf2⟩ := bcell hb2))
      go_ret3
    · exact ⟨by simp [HE.out, h1, fcF_none h1], sh_next hb1 hb2⟩
    · exact ⟨by simp [HE.out, h1], sh_next hb1 hb2⟩
  · have e0 : (z != 0) = true := by simpa using h0
    have H0 := Lib.hid h0
    clear h0 hz hv
    go_enter Try.func36, Try.ntmps36
    go_wp2_with ((go_at_call 45; refine (Hv.out _ hr).mono ?_; rintro e w1 ⟨rfl, hb1⟩; obtain ⟨hc1, hf1⟩ := bcell hb1))
    go_ret3
    exact ⟨by simp [HE.out, H0.out], hb1⟩
end Go.Proofs.Ytibaindlbpfecaa

namespace Go.Proofs.Ytibaindlbpfecaa
open Go.RowKit

theorem times_any (v : Vec) (n : Int) (w : World) (h1 : Sm (n * v.x)) (h2 : Sm (n * v.y)) :
    Calls Try.prog 91 #[.agg #[.int .i64 v.x, .int .i64 v.y], .int .i64 n] w fun e w' => e = .returned (.agg #[.int .i64 (v.times n).x, .int .i64 (v.times n).y]) ∧ Below w.heap.size w w' := by
  unfold Sm at h1 h2
  go_enter Try.func91, Try.ntmps91
  go_wp2
  exact bodyPost_ret (v := .agg #[.int .i64 (n * v.x), .int .i64 (n * v.y)]) (by simp [results, Try.results91, go_sem]) rfl ⟨rfl, ((Below.refl _ _).alloc (Nat.le_refl _) _).alloc (by simp) _⟩
theorem dot_any (v u : Vec) (w : World) (h1 : Sm (v.x * u.x)) (h2 : Sm (v.y * u.y)) :
    Calls Try.prog 102 #[.agg #[.int .i64 v.x, .int .i64 v.y], .agg #[.int .i64 u.x, .int .i64 u.y]] w fun e w' => e = .returned (.int .i64 (v.dot u)) ∧ Below w.heap.size w w' := by
  unfold Sm at h1 h2
  go_enter Try.func102, Try.ntmps102
  go_wp2
  go_ret
  exact ⟨rfl, ((Below.refl _ _).alloc (Nat.le_refl _) _).alloc (by simp) _⟩
theorem cross_any (v u : Vec) (w : World) (h1 : Sm (v.x * u.y)) (h2 : Sm (v.y * u.x)) :
    Calls Try.prog 120 #[.agg #[.int .i64 v.x, .int .i64 v.y], .agg #[.int .i64 u.x, .int .i64 u.y]] w fun e w' => e = .returned (.int .i64 (v.cross u)) ∧ Below w.heap.size w w' := by
  unfold Sm at h1 h2
  go_enter Try.func120, Try.ntmps120
  go_wp2
  go_ret
  exact ⟨rfl, ((Below.refl _ _).alloc (Nat.le_refl _) _).alloc (by simp) _⟩
theorem turned_any (v : Vec) (w : World) (h : Sm v.y) :
    Calls Try.prog 124 #[.agg #[.int .i64 v.x, .int .i64 v.y]] w fun e w' => e = .returned (.agg #[.int .i64 v.turned.x, .int .i64 v.turned.y]) ∧ Below w.heap.size w w' := by
  have h1 : IntKind.i64.wrap (-v.y) = -v.y := IntWalk.i64_in _ (by unfold Sm at h; omega)
  go_enter Try.func124, Try.ntmps124
  go_wp2
  exact bodyPost_ret (v := .agg #[.int .i64 (-v.y), .int .i64 v.x]) (by simp [results, Try.results124, go_sem]) rfl ⟨rfl, ((Below.refl _ _).alloc (Nat.le_refl _) _).alloc (by simp) _⟩
theorem pull_any (g : Guy) (w : World) :
    Calls Try.prog 90 #[.agg #[.int .i64 g.x, .int .i64 g.y, .int .i64 g.down, .int .i64 g.soil, .int .i64 g.depth]] w fun e w' => e = .returned (.agg #[.int .i64 g.x, .int .i64 g.y]) ∧ Below w.heap.size w w' := by
  go_enter Try.func90, Try.ntmps90
  go_wp2
  exact bodyPost_ret (v := .agg #[.int .i64 g.x, .int .i64 g.y]) (by simp [results, Try.results90, go_sem]) rfl ⟨rfl, ((Below.refl _ _).alloc (Nat.le_refl _) _).alloc (by simp) _⟩
theorem presses_any (g : Guy) (w : World) :
    Calls Try.prog 109 #[.agg #[.int .i64 g.x, .int .i64 g.y, .int .i64 g.down, .int .i64 g.soil, .int .i64 g.depth]] w fun e w' => e = .returned (.int .i64 g.down) ∧ Below w.heap.size w w' := by
  go_enter Try.func109, Try.ntmps109
  go_wp2
  go_ret
  exact ⟨rfl, (Below.refl _ _).alloc (Nat.le_refl _) _⟩
def Vec.insideB (v : Vec) (n : Int) : Bool := inB v.x (-n) n && inB v.y (-n) n
theorem inside_any (v : Vec) (n : Int) (w : World) (h : Sm n) :
    Calls Try.prog 62 #[.agg #[.int .i64 v.x, .int .i64 v.y], .int .i64 n] w fun e w' => e = .returned (.bool (v.insideB n)) ∧ Below w.heap.size w w' := by
  have HC : Hid (v.insideB n = (inB v.x (-n) n && inB v.y (-n) n)) := rfl
  have h1 : IntKind.i64.wrap (-n) = -n := IntWalk.i64_in _ (by unfold Sm at h; omega)
  go_enter Try.func62, Try.ntmps62
  go_wp2_with ((go_at_call 73; refine (within_any _ _ _ _).mono ?_; rintro e w' ⟨rfl, rfl⟩))
  all_goals
    go_ret
    exact ⟨ret_bool (by rw [HC.out]; simp [*]), (Below.refl _ _).alloc (Nat.le_refl _) _⟩
theorem help_any (v u : Vec) (w : World) (hd : -2000000000000000000 ≤ v.dot u ∧ v.dot u ≤ 2000000000000000000) (h1 : Sm (v.x * u.x)) (h2 : Sm (v.y * u.y)) :
    Calls Try.prog 123 #[.agg #[.int .i64 v.x, .int .i64 v.y], .agg #[.int .i64 u.x, .int .i64 u.y]] w fun e w' => e = .returned (.int .i64 (max 0 (-(v.dot u)))) ∧ Below w.heap.size w w' := by
  have d1 : IntKind.i64.wrap (-(v.dot u)) = -(v.dot u) := IntWalk.i64_in _ (by omega)
  go_enter Try.func123, Try.ntmps123
  go_wp2_with ((go_at_call 102; refine (dot_any v u _ h1 h2).mono ?_; rintro e w1 ⟨rfl, hb1⟩; obtain ⟨hc1, hf1⟩ := bcell hb1))
  all_goals
    go_ret
    exact ⟨ret_int (by omega), (((Below.refl _ _).alloc (Nat.le_refl _) _).alloc (by simp) _).trans (hb1.mono (by simp; omega))⟩
theorem ofInt_i64 (a : Nat) (ha : a < 9223372036854775808) : (BitVec.ofInt 64 (a : Int)).toNat = a := by
  rw [BitVec.ofInt_natCast, BitVec.toNat_ofNat]; exact Nat.mod_eq_of_lt (by omega)
theorem i64_and_nat (a b : Nat) (ha : a < 9223372036854775808) (hb : b < 9223372036854775808) : bits .and .i64 (a : Int) (b : Int) = ((a &&& b : Nat) : Int) := by
  have hx : a &&& b < 2 ^ 63 := Nat.and_lt_two_pow _ (by omega)
  show IntKind.i64.wrap ((BitVec.ofInt 64 (a : Int) &&& BitVec.ofInt 64 (b : Int)).toNat : Int) = _
  rw [BitVec.toNat_and, ofInt_i64 a ha, ofInt_i64 b hb, IntKind.wrap_i64]
  omega
theorem bit_eq (s i : Nat) (hs : s < 65536) : (bits BinOp.and IntKind.i64 ((s : Int) / 2 ^ i) 1 == 1) = s.testBit i := by
  have h1 : ((s : Int) / 2 ^ i) = ((s / 2 ^ i : Nat) : Int) := by simp
  have h2 : s / 2 ^ i ≤ s := Nat.div_le_self _ _
  rw [h1, show (1 : Int) = ((1 : Nat) : Int) from rfl, i64_and_nat _ _ (by omega) (by omega), Nat.and_one_is_mod, Nat.testBit_eq_decide_div_mod_eq, Bool.eq_iff_iff]
  simp only [beq_iff_eq, decide_eq_true_eq]
  omega
/-- A guy's place in a set. -/
theorem has_any (s : Nat) (i : Nat) (w : World) (hs : s < 65536) (hi : i < 64) :
    Calls Try.prog 94 #[.int .i64 s, .int .i64 i] w fun e w' => e = .returned (.bool (s.testBit i)) ∧ w = w' := by
  go_enter Try.func94, Try.ntmps94
  go_wp2
  go_ret
  exact ⟨ret_bool (bit_eq s i hs), rfl⟩
def inPartB (n whole : Int) (bears : Bool) : Bool := decide (n = 0) || (bears && inB n 0 whole)
theorem inPart_any (n whole : Int) (bears : Bool) (w : World) : Calls Try.prog 121 #[.int .i64 n, .int .i64 whole, .bool bears] w fun e w' => e = .returned (.bool (inPartB n whole bears)) ∧ w = w' := by
  by_cases h0 : n = 0
  · have e0 : (n == 0) = true := by simpa using h0
    have HC : Hid (inPartB n whole bears = true) := by show _ = _; simp [inPartB, h0]
    clear h0
    cases bears
    all_goals
      go_enter Try.func121, Try.ntmps121
      go_wp2_with ((go_at_call 73; refine (within_any _ _ _ _).mono ?_; rintro e w' ⟨rfl, rfl⟩))
      go_ret
      exact ⟨ret_bool HC.out.symm, rfl⟩
  · have e0 : (n == 0) = false := by simpa using h0
    have HC : Hid (inPartB n whole bears = (bears && inB n 0 whole)) := by show _ = _; simp [inPartB, h0]
    cases bears
    all_goals
      go_enter Try.func121, Try.ntmps121
      go_wp2_with ((go_at_call 73; refine (within_any _ _ _ _).mono ?_; rintro e w' ⟨rfl, rfl⟩))
      go_ret
      exact ⟨ret_bool (by rw [HC.out]; simp), rfl⟩
end Go.Proofs.Ytibaindlbpfecaa

namespace Go.Proofs.Ytibaindlbpfecaa
open Go.RowKit

structure Shr where
  first : Int
  second : Int
  whole : Int
def splitM (v f g : Vec) : Shr :=
  if f.cross g < 0 then ⟨-(v.cross g), -(f.cross v), -(f.cross g)⟩ else ⟨v.cross g, f.cross v, f.cross g⟩
theorem VB.smc {v u : Vec} {p q : Int} (hv : VB v p) (hu : VB u q) (h : p * q ≤ 2000000000000000000) : (Sm (v.x * u.y) ∧ Sm (v.y * u.x)) ∧ (-(2 * (p * q)) ≤ v.cross u ∧ v.cross u ≤ 2 * (p * q)) := by
  have h1 := mulb hv.1 hu.2
  have h2 := mulb hv.2 hu.1
  unfold Sm Vec.cross
  omega

set_option maxHeartbeats 1000000 in
theorem split_any (v f g : Vec) (w : World) (hv : VB v 100000000) (hf : VB f 500000) (hg : VB g 500000) :
    Calls Try.prog 95 #[.agg #[.int .i64 v.x, .int .i64 v.y], .agg #[.int .i64 f.x, .int .i64 f.y], .agg #[.int .i64 g.x, .int .i64 g.y]] w fun e w' => e = .returned (.agg #[.int .i64 (splitM v f g).first, .int .i64 (splitM v f g).second, .int .i64 (splitM v f g).whole]) ∧ Below w.heap.size w w' := by
  obtain ⟨⟨a1, a2⟩, a3, a4⟩ := hv.smc hg (by omega)
  obtain ⟨⟨b1, b2⟩, b3, b4⟩ := hf.smc hv (by omega)
  obtain ⟨⟨c1, c2⟩, c3, c4⟩ := hf.smc hg (by omega)
  have B3 := Lib.hid (And.intro a3 a4)
  have B4 := Lib.hid (And.intro b3 b4)
  have B5 := Lib.hid (And.intro c3 c4)
  clear hv hf hg a3 a4 b3 b4 c3 c4
  have HS : Hid (splitM v f g = if f.cross g < 0 then ⟨-(v.cross g), -(f.cross v), -(f.cross g)⟩ else ⟨v.cross g, f.cross v, f.cross g⟩) := rfl
  have n1 : IntKind.i64.wrap (-(v.cross g)) = -(v.cross g) := IntWalk.i64_in _ (by have := B3.out; omega)
  have n2 : IntKind.i64.wrap (-(f.cross v)) = -(f.cross v) := IntWalk.i64_in _ (by have := B4.out; omega)
  have n3 : IntKind.i64.wrap (-(f.cross g)) = -(f.cross g) := IntWalk.i64_in _ (by have := B5.out; omega)
  go_enter Try.func95, Try.ntmps95
  go_upto_region 1 with fail
  go_cut [7] (fun s7 wx => ∃ A : Nat, s7 = .pointer (some ⟨A, 0, none⟩) ∧ w.heap.size + 3 < A ∧ wx.cell? ⟨A, 0, none⟩ = some (.int .i64 (v.cross g)) ∧ wx.cell? ⟨A, 1, none⟩ = some (.int .i64 (f.cross v)) ∧ wx.cell? ⟨A, 2, none⟩ = some (.int .i64 (f.cross g)) ∧ Blk wx (w.heap.size + 3) 161 #[.int .i64 0, .int .i64 0, .int .i64 0] ∧ Below w.heap.size w wx)
  case first =>
    refine name_world (motive := fun W => Code.wp _ _ _ _ W) _ ?_
    intro W0 hW
    have hWc := hW.cell
    have hWz := hW.size
    have hWb := hW.below ((((Below.refl w.heap.size w).alloc (Nat.le_refl _) _).alloc (by simp) _).alloc (by simp; omega) _ |>.alloc (by simp; omega) _)
    simp only [World.size_alloc] at hWz
    have z0 : w.heap.size < W0.heap.size := by omega
    have z1 : w.heap.size + 1 < W0.heap.size := by omega
    have z2 : w.heap.size + 2 < W0.heap.size := by omega
    have z3 : w.heap.size + 3 < W0.heap.size := by omega
    have hK : Blk W0 (w.heap.size + 3) 161 #[.int .i64 0, .int .i64 0, .int .i64 0] := by
      rw [hW.eq.out]
      have := Blk.new (((w.alloc (.cells #[.int .i64 v.x, .int .i64 v.y] 58)).alloc (.cells #[.int .i64 f.x, .int .i64 f.y] 58)).alloc (.cells #[.int .i64 g.x, .int .i64 g.y] 58)) 161 #[.int .i64 0, .int .i64 0, .int .i64 0]
      simpa using this
    clear hWz
    go_region_held3 (fun w' => (∀ b o, b < W0.heap.size → w'.cell? ⟨b, o, none⟩ = W0.cell? ⟨b, o, none⟩) ∧ Below W0.heap.size W0 w') (first | with_reducible exact sh_refl _ | (with_reducible refine sh_of ?_; with_reducible assumption) | (with_reducible refine sh_alloc ?_ _; with_reducible assumption) | with_reducible exact sh_first _ _ | (refine sh_of ?_; repeat' (first | with_reducible assumption | with_reducible exact Below.refl _ _ | with_reducible refine Below.drew ?_ | with_reducible refine Below.alloc ?_ (by simp <;> omega) _ | with_reducible refine Below.setCell ?_ (by simp <;> omega) _)))
      (first | (go_at_call 120; go_split_ands; have hS1 : Below W0.heap.size W0 _ := (by with_reducible assumption); (with_reducible refine (cross_any v g _ a1 a2).mono ?_); rintro e w1 ⟨rfl, hb1⟩; have hB1 := sh_next hS1 hb1; obtain ⟨hc1, hf1⟩ := bcell hb1; have hy1 := hb1.size; have hz1 := hB1.size; (try have hs10 : W0.heap.size < w1.heap.size := (by (try simp at hy1); omega))) | (go_at_call 120; go_split_ands; have hS2 : Below W0.heap.size W0 _ := (by with_reducible assumption); (with_reducible refine (cross_any f v _ b1 b2).mono ?_); rintro e w2 ⟨rfl, hb2⟩; have hB2 := sh_next hS2 hb2; obtain ⟨hc2, hf2⟩ := bcell hb2; have hy2 := hb2.size; have hz2 := hB2.size; (try have hs20 : W0.heap.size < w2.heap.size := (by (try simp at hy2); omega)); (try have hs21 : w1.heap.size < w2.heap.size := (by (try simp at hy2); omega))) | (go_at_call 120; go_split_ands; have hS3 : Below W0.heap.size W0 _ := (by with_reducible assumption); (with_reducible refine (cross_any f g _ c1 c2).mono ?_); rintro e w3 ⟨rfl, hb3⟩; have hB3 := sh_next hS3 hb3; obtain ⟨hc3, hf3⟩ := bcell hb3; have hy3 := hb3.size; have hz3 := hB3.size; (try have hs30 : W0.heap.size < w3.heap.size := (by (try simp at hy3); omega)); (try have hs31 : w1.heap.size < w3.heap.size := (by (try simp at hy3); omega)); (try have hs32 : w2.heap.size < w3.heap.size := (by (try simp at hy3); omega))))
    all_goals
      go_wp2_with fail
      go_meet
      go_split_ands
      refine ⟨_, rfl, by omega, ?_, ?_, ?_, Blk.below hK (by with_reducible assumption) z3, Below.trans hWb (Below.mono (by with_reducible assumption) (by omega))⟩ <;> first | (simp [*]; done) | (go_simp; done)
  case rest =>
    obtain ⟨A, rfl, hA, q0, q1, q2, hK, hB⟩ := hcut
    have hAz := World.block_lt_of_cell? wc _ q0
    have k0 := hK.cell 0
    have k1 := hK.cell 1
    have k2 := hK.cell 2
    have f0 := hK.frozen 0
    have f1 := hK.frozen 1
    have f2 := hK.frozen 2
    simp at k0 k1 k2 hAz
    have hneA : w.heap.size + 3 ≠ A := by omega
    by_cases hneg : f.cross g < 0
    · rw [if_pos hneg] at HS
      go_wp2
      have bf := ((hK.set_ 0 (.int .i64 (-(v.cross g)))).set_ 1 (.int .i64 (-(f.cross v)))).set_ 2 (.int .i64 (-(f.cross g)))
      have v0 := bf.cell 0
      have v1 := bf.cell 1
      have v2 := bf.cell 2
      simp at v0 v1 v2
      rw [HS.out]
      exact bodyPost_ret (v := .agg #[(.int .i64 (-(v.cross g))), (.int .i64 (-(f.cross v))), (.int .i64 (-(f.cross g)))]) (by simp [results, Try.results95, go_sem, v0, v1, v2]) rfl ⟨rfl, ((hB.setCell (by show w.heap.size ≤ w.heap.size + 3; omega) _).setCell (by show w.heap.size ≤ w.heap.size + 3; omega) _).setCell (by show w.heap.size ≤ w.heap.size + 3; omega) _⟩
    · rw [if_neg hneg] at HS
      go_wp2
      have bf := ((hK.set_ 0 (.int .i64 (v.cross g))).set_ 1 (.int .i64 (f.cross v))).set_ 2 (.int .i64 (f.cross g))
      have v0 := bf.cell 0
      have v1 := bf.cell 1
      have v2 := bf.cell 2
      simp at v0 v1 v2
      rw [HS.out]
      exact bodyPost_ret (v := .agg #[(.int .i64 (v.cross g)), (.int .i64 (f.cross v)), (.int .i64 (f.cross g))]) (by simp [results, Try.results95, go_sem, v0, v1, v2]) rfl ⟨rfl, ((hB.setCell (by show w.heap.size ≤ w.heap.size + 3; omega) _).setCell (by show w.heap.size ≤ w.heap.size + 3; omega) _).setCell (by show w.heap.size ≤ w.heap.size + 3; omega) _⟩
end Go.Proofs.Ytibaindlbpfecaa

namespace Go.Proofs.Ytibaindlbpfecaa
open Go.RowKit

theorem lengthF_any (sq n : Int) (w : World) (B : Nat) (hn : 0 ≤ n ∧ n ≤ 100000) (_hB : B < w.heap.size) (k : w.cell? ⟨B, 0, none⟩ = some (.int .i64 sq)) :
    Calls Try.prog 128 #[.int .i64 n, .pointer (some ⟨B, 0, none⟩)] w fun e w' => e = .returned (.bool (decide (sq ≤ n * n))) ∧ Below w.heap.size w w' := by
  have h1 := mulb (a := n) (b := n) (p := 100000) (q := 100000) (by omega) (by omega)
  go_enter Try.func128, Try.ntmps128
  go_wp2
  go_ret
  exact ⟨rfl, Below.refl _ _⟩

theorem root_spec {g : Guy} (hg : g.ok = true) : (0 ≤ g.length ∧ g.length ≤ 10000) ∧ (∀ h, 0 ≤ h → h < g.length → decide (g.sq ≤ h * h) = false) ∧ (∀ h, g.length ≤ h → h < 10000 → decide (g.sq ≤ h * h) = true) := by
  have hs := sq_bounds hg
  have hl := length_bounds hg
  have key : ∀ (f : Nat) (n : Int), 0 ≤ n → (∀ h, n ≤ h → h < rootFrom g.sq f n → h * h < g.sq) ∧ (rootFrom g.sq f n < n + f → g.sq ≤ rootFrom g.sq f n * rootFrom g.sq f n) := by
    intro f
    induction f with
    | zero => intro n _; exact ⟨fun h h1 h2 => by simp [rootFrom] at h2; omega, fun h => by simp [rootFrom] at h⟩
    | succ f ih =>
      intro n hn
      by_cases hc : n * n < g.sq
      · rw [rootFrom_step hc]
        obtain ⟨i1, i2⟩ := ih (n + 1) (by omega)
        refine ⟨fun h h1 h2 => ?_, fun h => i2 (by omega)⟩
        by_cases he : h = n
        · subst he; exact hc
        · exact i1 h (by omega) h2
      · rw [rootFrom_stop hc]
        exact ⟨fun h h1 h2 => by omega, fun _ => by omega⟩
  obtain ⟨k1, k2⟩ := key 10000 0 (Int.le_refl _)
  change (∀ h, 0 ≤ h → h < g.length → h * h < g.sq) at k1
  change (g.length < 0 + _ → g.sq ≤ g.length * g.length) at k2
  have hlt : g.length < 10000 := by
    refine Int.not_le.1 fun hc => ?_
    have := k1 9999 (by omega) (by omega)
    omega
  have hge := k2 (by omega)
  refine ⟨by omega, fun h h1 h2 => by have := k1 h h1 h2; simp; omega, fun h h1 h2 => ?_⟩
  have := Int.mul_le_mul h1 h1 (by omega) (by omega)
  simp; omega

set_option maxHeartbeats 1000000 in
theorem length_any (g : Guy) (w : World) (hg : g.ok = true) :
    Calls Try.prog 127 #[.agg #[.int .i64 g.x, .int .i64 g.y, .int .i64 g.down, .int .i64 g.soil, .int .i64 g.depth]] w fun e w' => e = .returned (.int .i64 g.length) ∧ Below w.heap.size w w' := by
  obtain ⟨⟨a1, a2⟩, ⟨a3, a4⟩, _⟩ := Guy.ok_iff.1 hg
  obtain ⟨⟨r1, r2⟩, R3, R4⟩ := root_spec hg
  have R3 := Lib.hid R3
  have R4 := Lib.hid R4
  have gv : VB ⟨g.x, g.y⟩ 5000 := ⟨by simp only; omega, by simp only; omega⟩
  obtain ⟨s1, s2⟩ := gv.sm gv (by omega)
  have HQ : Hid (Vec.dot ⟨g.x, g.y⟩ ⟨g.x, g.y⟩ = g.sq) := rfl
  clear hg gv a1 a2 a3 a4
  go_enter Try.func127, Try.ntmps127
  go_upto_region 1 with fail
  go_cut [3] (fun s3 wx => ∃ A : Nat, s3 = .pointer (some ⟨A, 0, none⟩) ∧ w.heap.size < A ∧ wx.cell? ⟨A, 0, none⟩ = some (.int .i64 (Vec.dot ⟨g.x, g.y⟩ ⟨g.x, g.y⟩)) ∧ Below w.heap.size w wx)
  case first =>
    refine name_world (motive := fun W => Code.wp _ _ _ _ W) _ ?_
    intro W0 hW
    have hWc := hW.cell
    have hWz := hW.size
    have hWb := hW.below ((Below.refl w.heap.size w).alloc (Nat.le_refl _) _)
    simp only [World.size_alloc] at hWz
    have z0 : w.heap.size < W0.heap.size := by omega
    clear hWz
    have tok1 : True := trivial
    go_region_held3 (fun w' => (∀ b o, b < W0.heap.size → w'.cell? ⟨b, o, none⟩ = W0.cell? ⟨b, o, none⟩) ∧ Below W0.heap.size W0 w') (first | with_reducible exact sh_refl _ | (with_reducible refine sh_of ?_; with_reducible assumption) | (with_reducible refine sh_alloc ?_ _; with_reducible assumption) | with_reducible exact sh_first _ _ | (refine sh_of ?_; repeat' (first | with_reducible assumption | with_reducible exact Below.refl _ _ | with_reducible refine Below.drew ?_ | with_reducible refine Below.alloc ?_ (by simp <;> omega) _ | with_reducible refine Below.setCell ?_ (by simp <;> omega) _)))
      (first | (go_at_call 90; have := tok1; clear this tok1; go_split_ands; have hS1 : Below W0.heap.size W0 _ := (by with_reducible assumption); (with_reducible refine (pull_any g _).mono ?_); rintro e w1 ⟨rfl, hb1⟩; have hB1 := sh_next hS1 hb1; obtain ⟨hc1, hf1⟩ := bcell hb1; have hy1 := hb1.size; have hz1 := hB1.size; (try have hs10 : W0.heap.size < w1.heap.size := (by (try simp at hy1); omega))) | (go_at_call 90; go_split_ands; have hS2 : Below W0.heap.size W0 _ := (by with_reducible assumption); (with_reducible refine (pull_any g _).mono ?_); rintro e w2 ⟨rfl, hb2⟩; have hB2 := sh_next hS2 hb2; obtain ⟨hc2, hf2⟩ := bcell hb2; have hy2 := hb2.size; have hz2 := hB2.size; (try have hs20 : W0.heap.size < w2.heap.size := (by (try simp at hy2); omega)); (try have hs21 : w1.heap.size < w2.heap.size := (by (try simp at hy2); omega))) | (go_at_call 102; go_split_ands; have hS3 : Below W0.heap.size W0 _ := (by with_reducible assumption); (with_reducible refine (dot_any ⟨g.x, g.y⟩ ⟨g.x, g.y⟩ _ s1 s2).mono ?_); rintro e w3 ⟨rfl, hb3⟩; have hB3 := sh_next hS3 hb3; obtain ⟨hc3, hf3⟩ := bcell hb3; have hy3 := hb3.size; have hz3 := hB3.size; (try have hs30 : W0.heap.size < w3.heap.size := (by (try simp at hy3); omega)); (try have hs31 : w1.heap.size < w3.heap.size := (by (try simp at hy3); omega)); (try have hs32 : w2.heap.size < w3.heap.size := (by (try simp at hy3); omega))))
    all_goals
      go_wp2_with fail
      go_meet
      go_split_ands
      refine ⟨_, rfl, by omega, ?_, Below.trans hWb (Below.mono (by with_reducible assumption) (by omega))⟩
    all_goals first | (simp [*]; done) | (go_simp; done)
  case rest =>
    obtain ⟨A, rfl, hA, hK, hB⟩ := hcut
    have hAz := World.block_lt_of_cell? wc _ hK
    rw [HQ.out] at hK
    go_wp2_with fail
    refine (searchL_any 10000 g.length (fun h => decide (g.sq ≤ h * h)) _ _ ⟨r1, r2, by omega⟩ R3.out R4.out ?_).mono ?_
    · intro h W b h0 h1 hB2 hp
      subst hp
      exact lengthF_any g.sq h W A (by omega) (by have := hB2.size; omega) (by rw [hB2.cell (p := ⟨A, 0, none⟩) hAz, hK])
    · rintro e w1 ⟨rfl, hb1⟩
      go_wp2
      go_ret
      exact ⟨rfl, hB.trans (hb1.mono hB.size)⟩

set_option maxHeartbeats 1000000 in
theorem part_any (A : Option Addr) (c : Nat) (l : List Tst) (w : World) (g : Guy) (hr : RS encT 4 w w.heap.size A l) (hl : l.length ≤ maxLen) (hok : ∀ x ∈ l, x.ok = true) (hg : g.ok = true) :
    Calls Try.prog 117 #[.agg #[.int .i64 g.x, .int .i64 g.y, .int .i64 g.down, .int .i64 g.soil, .int .i64 g.depth], .slice A l.length c] w fun e w' => e = .returned (.int .i64 (g.part l)) ∧ Below w.heap.size w w' := by
  obtain ⟨_, _, _, _, _, ga, gb⟩ := Guy.ok_iff.1 hg
  have Hg := Lib.hid hg
  have Hok := Lib.hid hok
  obtain ⟨h1, h2⟩ := holds_lo (soil := g.soil) hok ga gb
  obtain ⟨h3, h4⟩ := length_bounds hg
  have h5 : 0 ≤ 100 * (holdsM l g.soil g.depth).1 / g.length := Int.ediv_nonneg (by omega) (by omega)
  have h6 : 100 * (holdsM l g.soil g.depth).1 / g.length ≤ 1500000000 := by have := Int.ediv_le_self (a := 100 * (holdsM l g.soil g.depth).1) g.length (by omega); omega
  have HP : Hid (g.part l = partOf (holdsM l g.soil g.depth).1 g.length) := rfl
  have e0 : (g.length == 0) = false := by simp; omega
  have e1 : g.length ≠ 0 := by omega
  have v1 : IntKind.i64.wrap (100 * (holdsM l g.soil g.depth).1) = 100 * (holdsM l g.soil g.depth).1 := IntWalk.i64_in _ (by omega)
  have v2 : IntKind.i64.wrap ((100 * (holdsM l g.soil g.depth).1).tdiv g.length) = 100 * (holdsM l g.soil g.depth).1 / g.length := IntWalk.i64_quo _ _ (by omega)
  clear hg hok
  go_enter Try.func117, Try.ntmps117
  go_wp2
  refine name_world (motive := fun W => Code.wp _ _ _ _ W) _ ?_
  intro W0 hW
  have hWc := hW.cell
  have hWz := hW.size
  have hWb := hW.below ((Below.refl w.heap.size w).alloc (Nat.le_refl _) _)
  have hr0 := (hr.below hWb (Nat.le_refl _)).more hWb.size
  rw [World.size_alloc] at hWz
  go_region_held3 (fun w' => (∀ b o, b < W0.heap.size → w'.cell? ⟨b, o, none⟩ = W0.cell? ⟨b, o, none⟩) ∧ Below W0.heap.size W0 w') (first | with_reducible exact sh_refl _ | (with_reducible refine sh_of ?_; with_reducible assumption) | (with_reducible refine sh_alloc ?_ _; with_reducible assumption) | with_reducible exact sh_first _ _)
    (first | (go_at_call 72; go_split_ands; have hS1 : Below W0.heap.size W0 _ := (by with_reducible assumption); refine (holds_any _ _ _ _ _ _ (hr0.to hS1) hl Hok.out ga gb).mono ?_; rintro e w1 ⟨rfl, hb1⟩; have hB1 := sh_next hS1 hb1) | (go_at_call 127; go_split_ands; have hS2 : Below W0.heap.size W0 _ := (by with_reducible assumption); refine (length_any _ _ Hg.out).mono ?_; rintro e w2 ⟨rfl, hb2⟩; have hB2 := sh_next hS2 hb2))
  all_goals go_wp2
  all_goals
    go_ret
    clear v1 v2
    exact ⟨ret_int (by rw [HP.out, partOf]; omega), hWb.trans (hB2.mono hWb.size)⟩
end Go.Proofs.Ytibaindlbpfecaa
