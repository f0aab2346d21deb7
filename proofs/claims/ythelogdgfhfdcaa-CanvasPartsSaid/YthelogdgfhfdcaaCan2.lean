import Derived.Test.YthelogdgfhfdcaaCan1
namespace Go.Proofs.Ythelogdgfhfdcaa
open Go.RowKit

theorem clash_any (a b : Tst) (w : World) (ha : a.ok = true) (hb : b.ok = true) : Calls Try.prog 87 #[.agg #[.int .i64 a.soil, .int .i64 a.depth, .int .i64 a.force, .bool a.held], .agg #[.int .i64 b.soil, .int .i64 b.depth, .int .i64 b.force, .bool b.held]] w fun e w' => e = .returned (.bool (clashB a b)) ∧ Below w.heap.size w w' := by
  obtain ⟨⟨p1, p2⟩, p3, p4⟩ := clash_bounds ha hb
  have Hcl : Hid (clashB a b = (a.held && (!b.held && (decide (a.soil = b.soil) && decide (b.force * a.depth ≤ a.force * b.depth))))) := rfl
  clear ha hb
  cases h1 : a.held
  · go_enter Try.func87, Try.ntmps87
    go_wp2
    go_ret
    exact ⟨ret_bool (by rw [Hcl.out, h1]; rfl), ((Below.refl _ _).alloc (Nat.le_refl _) _).alloc (by simp) _⟩
  · cases h2 : b.held
    · by_cases h3 : a.soil = b.soil
      · have e3 : (a.soil == b.soil) = true := by simpa using h3
        go_enter Try.func87, Try.ntmps87
        go_wp2
        go_ret
        exact ⟨ret_bool (by rw [Hcl.out, h1, h2]; simp [h3]), ((Below.refl _ _).alloc (Nat.le_refl _) _).alloc (by simp) _⟩
      · have e3 : (a.soil == b.soil) = false := by simpa using h3
        go_enter Try.func87, Try.ntmps87
        go_wp2
        go_ret
        exact ⟨ret_bool (by rw [Hcl.out]; simp [h3]), ((Below.refl _ _).alloc (Nat.le_refl _) _).alloc (by simp) _⟩
    · go_enter Try.func87, Try.ntmps87
      go_wp2
      go_ret
      exact ⟨ret_bool (by rw [Hcl.out, h2]; simp), ((Below.refl _ _).alloc (Nat.le_refl _) _).alloc (by simp) _⟩

def fcI (l : List Tst) : Int := match fcl l with | some (i, _) => i | none => 0
def fcK (l : List Tst) : Int := match fcl l with | some (_, k) => k | none => 0
def fcF (l : List Tst) : Bool := (fcl l).isSome

theorem firstClash_any (A : Option Addr) (c : Nat) (l : List Tst) (w : World) (hr : RS encT 4 w w.heap.size A l) (hl : l.length ≤ maxLen) (hok : ∀ x ∈ l, x.ok = true) :
    Calls Try.prog 59 #[.slice A l.length c] w fun e w' => e = .returned (.tuple #[.int .i64 (fcI l), .int .i64 (fcK l), .bool (fcF l)]) ∧ Below w.heap.size w w' := by
  unfold maxLen at hl
  have Hok := Lib.hid hok
  clear hok
  go_enter Try.func59, Try.ntmps59
  go_wp2
  go_loopw [11] (fun i wr => ∃ k : Nat, k ≤ l.length ∧ i = .int .i64 k ∧ fclFrom l (l.drop k) k = fcl l ∧ Below w.heap.size w wr) (fun i _ => l.length - (intOf i).toNat)
  case atStart => exact ⟨0, Nat.zero_le _, rfl, rfl, Below.refl _ _⟩
  case round =>
    obtain ⟨i, hi, rfl, hfi, hB⟩ := hrel
    have Hfi := Lib.hid hfi
    clear hfi
    have hbz := hB.size
    by_cases hlt : i < l.length
    · obtain ⟨x, hx⟩ := getElem?_lt hlt
      have Hx := Lib.hid hx
      obtain ⟨b, off, rfl, hb, hc⟩ := (hr.below hB (Nat.le_refl _)).at_ hx
      have Xo := Lib.hid (Hok.out x (List.mem_of_getElem? hx))
      have c0 := hc 0 _ rfl
      have c1 := hc 1 _ rfl
      have c2 := hc 2 _ rfl
      have c3 := hc 3 _ rfl
      simp only [Nat.add_zero] at c0
      clear hx hc
      obtain ⟨wo, hwo⟩ : ∃ wo : World, wo = wr := ⟨_, rfl⟩
      go_wp2
      clear c0 c1 c2 c3
      rw [← hwo]
      rw [← hwo] at hB hbz
      clear hwo
      go_loopw [18] (fun j wr' => ∃ k : Nat, k ≤ l.length ∧ j = .int .i64 k ∧ find1 (clashB x) (l.drop k) k = find1 (clashB x) l 0 ∧ Below (wo.heap.size + 1) (wo.alloc (.cells #[.int .i64 x.soil, .int .i64 x.depth, .int .i64 x.force, .bool x.held] 100)) wr') (fun j _ => l.length - (intOf j).toNat)
      case atStart => exact ⟨0, Nat.zero_le _, rfl, rfl, Below.refl _ _⟩
      case round =>
        obtain ⟨k, hk, rfl, hfk, hB2⟩ := hrel
        have Hfk := Lib.hid hfk
        clear hfk
        have hB3 : Below w.heap.size w wr := (hB.alloc hbz _).trans (hB2.mono (by omega))
        have hz2 := hB2.size
        rw [World.size_alloc] at hz2
        have hz3 := hB3.size
        have hK := (Blk.new wo 100 #[.int .i64 x.soil, .int .i64 x.depth, .int .i64 x.force, .bool x.held]).below hB2 (by omega)
        have hwz := hK.lt
        have k0 := hK.cell 0
        have k1 := hK.cell 1
        have k2 := hK.cell 2
        have k3 := hK.cell 3
        simp at k0 k1 k2 k3
        by_cases hlt2 : k < l.length
        · obtain ⟨y, hy⟩ := getElem?_lt hlt2
          obtain ⟨b', off', hA, _, hc'⟩ := (hr.below hB3 (Nat.le_refl _)).at_ hy
          obtain ⟨rfl, rfl⟩ : b = b' ∧ off = off' := by simpa using hA
          have Yo := Lib.hid (Hok.out y (List.mem_of_getElem? hy))
          have d0 := hc' 0 _ rfl
          have d1 := hc' 1 _ rfl
          have d2 := hc' 2 _ rfl
          have d3 := hc' 3 _ rfl
          simp only [Nat.add_zero] at d0
          have Hy := Lib.hid hy
          clear hc' hA hy hr
          cases h1 : clashB x y
          all_goals
            have hv := fun W => clash_any x y W Xo.out Yo.out
            rw [h1] at hv
            have Hv := Lib.hid hv
            clear hv
            go_wp2_with (go_at_call 87; refine (Hv.out _).mono ?_; rintro e w1 ⟨rfl, hb1⟩)
          · refine ⟨⟨k + 1, by omega, by go_num, by rw [← Hfk.out, find1_miss Hy.out h1], (hB2.alloc (by omega) _).trans (hb1.mono (by simp; omega))⟩, by simp [intOf]; omega⟩
          · go_ret3
            have hf : fcl l = some (i, k) := by
              rw [← Hfi.out, fcl_hit Hx.out]
              rw [← Hfk.out, find1_hit Hy.out h1]
            refine ⟨by simp [fcI, fcK, fcF, hf], (hB3.alloc (by omega) _).trans (hb1.mono (by simp; omega))⟩
        · go_wp2
          refine ⟨⟨i + 1, by omega, by go_num, ?_, hB3⟩, by simp [intOf]; omega⟩
          rw [← Hfi.out, fcl_miss Hx.out (by rw [← Hfk.out, find1_end hlt2])]
    · go_wp2
      go_ret3
      have hf : fcl l = none := by rw [← Hfi.out, fcl_end hlt]
      exact ⟨by simp [fcI, fcK, fcF, hf], hB⟩

/-- ErrFail, if tests clash. -/
def agreeE (l : List Tst) : Int := if fcF l then 9 else 0
theorem checkAgree_any (A : Option Addr) (c : Nat) (l : List Tst) (w : World) (hr : RS encT 4 w w.heap.size A l) (hl : l.length ≤ maxLen) (hok : ∀ x ∈ l, x.ok = true) :
    Calls Try.prog 117 #[.slice A l.length c] w fun e w' => e = .returned (.int .i64 (agreeE l)) ∧ Below w.heap.size w w' := by
  have hv := fun W h => firstClash_any A c l W h hl hok
  cases h1 : fcF l
  all_goals
    rw [h1] at hv
    have Hv := Lib.hid hv
    clear hv hok
    go_enter Try.func117, Try.ntmps117
    go_wp2_with (go_at_call 59; refine (Hv.out _ hr).mono ?_; rintro e w1 ⟨rfl, hb1⟩)
    go_ret
    exact ⟨ret_int (by simp [agreeE, h1]), hb1⟩

def firstE (kinds : Int) (inr : Bool) (l : List Tst) : Int := if kinds = 0 then (if inr then agreeE l else 2) else kinds
theorem firstError_any (kinds : Int) (inr : Bool) (A : Option Addr) (c : Nat) (l : List Tst) (w : World) (hr : RS encT 4 w w.heap.size A l) (hl : l.length ≤ maxLen) (hok : kinds = 0 → ∀ x ∈ l, x.ok = true) :
    Calls Try.prog 88 #[.int .i64 kinds, .bool inr, .slice A l.length c] w fun e w' => e = .returned (.int .i64 (firstE kinds inr l)) ∧ Below w.heap.size w w' := by
  by_cases h0 : kinds = 0
  · have e0 : (kinds != 0) = false := by simpa using h0
    cases inr
    · go_enter Try.func88, Try.ntmps88
      go_wp2
      go_ret
      exact ⟨ret_int (by simp [firstE, h0]), Below.refl _ _⟩
    · have Hok := Lib.hid (hok h0)
      clear hok
      go_enter Try.func88, Try.ntmps88
      go_wp2_with (go_at_call 117; refine (checkAgree_any A c l _ hr hl Hok.out).mono ?_; rintro e w1 ⟨rfl, hb1⟩)
      go_ret
      exact ⟨ret_int (by simp [firstE, h0]), hb1⟩
  · have e0 : (kinds != 0) = true := by simpa using h0
    go_enter Try.func88, Try.ntmps88
    go_wp2
    go_ret
    exact ⟨ret_int (by simp [firstE, h0]), Below.refl _ _⟩

theorem testsFault_ok {l : List Tst} (h : testsFault l = 0) : (∀ x ∈ l, x.ok = true) ∧ l.length ≤ 40 := by
  unfold testsFault at h
  split at h
  · simp at h
  · split at h
    · rename_i h1 h2
      exact ⟨by simpa using h2, by omega⟩
    · simp at h

theorem checkStake_any (A : Option Addr) (c : Nat) (l : List Tst) (inr : Bool) (w : World) (hr : RS encT 4 w w.heap.size A l) (hl : l.length ≤ maxLen) :
    Calls Try.prog 60 #[.slice A l.length c, .bool inr] w fun e w' => e = .returned (.int .i64 (firstE (testsFault l) inr l)) ∧ Below w.heap.size w w' := by
  have Hok := Lib.hid (fun h => (testsFault_ok (l := l) h).1)
  go_enter Try.func60, Try.ntmps60
  go_wp2_with (first | (go_at_call 20; refine (checkTests_any A c l _ hr hl).mono ?_; rintro e w1 ⟨rfl, hb1⟩) | (go_at_call 88; refine (firstError_any _ _ A c l _ (hr.to hb1) hl Hok.out).mono ?_; rintro e w2 ⟨rfl, hb2⟩))
  go_ret
  exact ⟨rfl, sh_next hb1 hb2⟩

theorem quotientUp_any (a b : Int) (w : World) (ha : 0 ≤ a ∧ a ≤ 1000000000000) (hb : 1 ≤ b ∧ b ≤ 1000000000000) : Calls Try.prog 89 #[.int .i64 a, .int .i64 b] w fun e w' => e = .returned (.int .i64 (cdiv a b)) ∧ w = w' := by
  have e0 : (b == 0) = false := by simp; omega
  have HC : Hid (cdiv a b = (a + b - 1) / b) := rfl
  go_enter Try.func89, Try.ntmps89
  go_wp2
  go_ret
  exact ⟨ret_int HC.out.symm, rfl⟩
end Go.Proofs.Ythelogdgfhfdcaa
