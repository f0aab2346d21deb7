import Derived.Test.YtnileccnalpknaaEvC

/- Addresses and slices. -/
namespace Go.Ev
set_option linter.unusedSimpArgs false
set_option linter.unusedVariables false
noncomputable section
open Go
variable {ρ ρ' ρ1 ρ2 : Ren} {F : Nat → Prop} {H H1 H2 : AH} {w w1 w2 : World} {P : Program}

theorem AR.add {a a' : Addr} (h : AR ρ a a') (n : Nat) : AR ρ (a.add n) (a'.add n) := by
  unfold Addr.add
  split
  · exact h
  · rcases h with h | ⟨t, h, rfl⟩
    · exact .inl h
    · exact .inr ⟨t, h, rfl⟩

theorem run_und {t : TypeId} {d : TypeDesc} (h : P.underlying t = some d) (w : World) : (underlying t).run P w = .ok d w := by
  unfold underlying program
  simp only [Sem.run_bind, Sem.run, Result.andThen_ok, h]
  rfl

/-- What an operation that looks at no memory must do. -/
def Yields (P : Program) (v : Value) (ρ : Ren) (s : Sem Value) : Prop := ∃ v', (∀ w, s.run P w = .ok v' w) ∧ VR ρ v v'

def afield (P : Program) (s : TypeId) (x : Value) (f : Nat) : Option Value :=
  match x with
  | .pointer (some a) =>
    match P.underlying s with
    | some (.struct fields) =>
      match fields[f]? with
      | some fd =>
        match size? P fd.type with
        | some (_ + 1) => some (.pointer (some (a.add fd.offset)))
        | _ => none
      | none => none
    | _ => none
  | _ => none

theorem afield_ok {s : TypeId} {x v x' : Value} {f : Nat} (h : afield P s x f = some v) (hx : VR ρ x x') : Yields P v ρ (Instr.fieldAt s x' f) := by
  unfold afield at h
  split at h
  case h_2 => cases h
  rename_i a
  split at h
  case h_2 => cases h
  rename_i fields hu
  split at h
  case h_2 => cases h
  rename_i fd hf
  split at h
  case h_2 => cases h
  rename_i k hk
  cases h
  cases hx with
  | @ptr _ a' ha =>
    refine ⟨.pointer (some (a'.add fd.offset)), fun w => ?_, .ptr (ha.add _)⟩
    simp only [Instr.fieldAt, Sem.run_bind, run_und hu, Result.andThen_ok, hf, Instr.sureAddr, Sem.run_pure, fieldPlace, run_size hk]
    simp

def aindex (P : Program) (t : TypeId) (x ix : Value) : Option Value :=
  match ix with
  | .int _ i =>
    match P.underlying t, x with
    | some (.array len elem), .pointer (some a) =>
      match size? P elem, decide (0 ≤ i ∧ i < (len : Int)) with
      | some k, true => some (.pointer (some (a.add (i.toNat * k))))
      | _, _ => none
    | some (.slice elem), .slice (some a) len _ =>
      match size? P elem, decide (0 ≤ i ∧ i < (len : Int)) with
      | some k, true => some (.pointer (some (a.add (i.toNat * k))))
      | _, _ => none
    | _, _ => none
  | _ => none

theorem aindex_ok {t : TypeId} {x v x' ix ix' : Value} (h : aindex P t x ix = some v) (hx : VR ρ x x') (hix : VR ρ ix ix') : Yields P v ρ (Instr.indexAt t x' ix') := by
  unfold aindex at h
  split at h
  case h_2 => cases h
  rename_i k i
  cases hix with
  | int k i =>
  split at h
  case h_3 => cases h
  all_goals
    split at h
    case h_2 => cases h
    rename_i sz hk hi
    cases h
    have hi := of_decide_eq_true hi
  · rename_i len elem a hu _ _ _
    cases hx with
    | @ptr _ a' ha =>
      refine ⟨.pointer (some (a'.add (i.toNat * sz))), fun w => ?_, .ptr (ha.add _)⟩
      simp only [Instr.indexAt, asIntOf, Sem.run_bind, run_und hu, Result.andThen_ok, Instr.sureAddr, Sem.run_pure]
      simp [hi, run_size hk]
  · rename_i elem a len c hu _ _ _
    cases hx with
    | @slice _ a' _ _ c' ha hc =>
      refine ⟨.pointer (some (a'.add (i.toNat * sz))), fun w => ?_, .ptr (ha.add _)⟩
      simp only [Instr.indexAt, asIntOf, Sem.run_bind, run_und hu, Result.andThen_ok, Sem.run_pure]
      simp [hi, run_size hk]

/-! ### Cutting slices -/
/-- At least so much is sure. -/
def sure (c : Nat) : Nat := match Nat.blt c loose with
  | true => c
  | false => c - loose

theorem CR.sure_le {a : Addr} {c c' : Nat} (h : CR ρ a c c') : sure c ≤ c' := by
  unfold sure
  rcases h with ⟨h, rfl⟩ | ⟨h, h2, _⟩
  · split
    · exact Nat.le_refl _
    · omega
  · split
    · rename_i h3
      have : c + 1 ≤ loose := by simpa [Nat.blt] using h3
      omega
    · exact h2

/-- A bound that was given. -/
def bound (d : Nat) (most : Nat) : Option Value → Option Nat
  | none => match Nat.ble d most with
    | true => some d
    | false => none
  | some (.int _ i) => match decide (0 ≤ i ∧ i ≤ (most : Int)) with
    | true => some i.toNat
    | false => none
  | some _ => none

/-- s[lo:hi] of a slice, or of an array at an address. -/
def aslice (P : Program) (t : TypeId) (x : Value) (lo hi mx : Option Value) : Option Value :=
  match mx, P.underlying t, x with
  | none, some (.slice elem), .slice (some a) len c =>
    match size? P elem, bound len (sure c) hi with
    | some k, some h =>
      match bound 0 h lo with
      | some l =>
        match Nat.beq l 0 with
        | true => some (.slice (some a) h c)
        | false =>
          match Nat.blt c loose, Nat.beq c l with
          | true, true => some (.slice (some a) (h - l) (c - l))
          | true, false => some (.slice (some (a.add (l * k))) (h - l) (c - l))
          | false, _ => none
      | none => none
    | _, _ => none
  | none, some (.slice elem), .slice none len c =>
    match size? P elem, bound len c hi with
    | some _, some h =>
      match bound 0 h lo with
      | some l => some (.slice none (h - l) (c - l))
      | none => none
    | _, _ => none
  | none, some (.array n elem), .pointer (some a) =>
    match size? P elem, bound n n hi, Nat.blt n loose with
    | some k, some h, true =>
      match bound 0 h lo with
      | some l =>
        match Nat.beq n l with
        | true => some (.slice (some a) (h - l) (n - l))
        | false => some (.slice (some (a.add (l * k))) (h - l) (n - l))
      | none => none
    | _, _, _ => none
  | _, _, _ => none

def OptR (ρ : Ren) (o o' : Option Value) : Prop := (∀ v, o = some v → ∃ v', o' = some v' ∧ VR ρ v v') ∧ (o = none → o' = none)
theorem OptR.none {o' : Option Value} (h : OptR ρ .none o') : o' = .none := h.2 rfl
theorem OptR.of : (o o' : Option Value) → OptR ρ o o' → (o = .none ∧ o' = .none) ∨ ∃ v v', o = some v ∧ o' = some v' ∧ VR ρ v v'
  | .none, _, h => .inl ⟨rfl, h.2 rfl⟩
  | some v, _, h => let ⟨v', h1, h2⟩ := h.1 v rfl; .inr ⟨v, v', rfl, h1, h2⟩

def ob (code : BoundsCode) (d most : Nat) : Option Value → Sem Nat
  | some v => Instr.sliceBound v most code
  | .none => pure d

theorem run_bound {d most most' m : Nat} {o o' : Option Value} {code : BoundsCode} (h : bound d most o = some m) (ho : OptR ρ o o') (hm : most ≤ most') (w : World) :
    (ob code d most' o').run P w = .ok m w ∧ m ≤ most := by
  rcases OptR.of _ _ ho with ⟨rfl, rfl⟩ | ⟨v, v', rfl, rfl, hv⟩
  · have h : (match Nat.ble d most with | true => some d | false => .none) = some m := h
    split at h
    · rename_i hb
      cases h
      exact ⟨rfl, by simpa using hb⟩
    · cases h
  · cases hv with
    | int k i =>
      have h : (match decide (0 ≤ i ∧ i ≤ (most : Int)) with | true => some i.toNat | false => .none) = some m := h
      split at h
      · rename_i hb
        have hb := of_decide_eq_true hb
        cases h
        refine ⟨?_, by omega⟩
        simp only [ob, Instr.sliceBound, asIntOf, Sem.run_bind, Sem.run_pure, Result.andThen_ok]
        rw [if_pos ⟨hb.1, by omega⟩]
        rfl
      · cases h
    | _ => simp [bound] at h

theorem run_bounds {len cap cap' h l : Nat} {isSlice : Bool} {lo lo' hi hi' : Option Value} (h1 : bound len cap hi = some h) (h2 : bound 0 h lo = some l) (hlo : OptR ρ lo lo') (hhi : OptR ρ hi hi') (hc : cap ≤ cap') (w : World) :
    (Instr.sliceBounds isSlice len cap' lo' hi' .none).run P w = .ok (l, h, cap') w ∧ h ≤ cap ∧ l ≤ h := by
  obtain ⟨r1, r1'⟩ := run_bound (P := P) (most' := cap') (code := if isSlice then .sliceAcap else .sliceAlen) h1 hhi hc w
  obtain ⟨r2, r2'⟩ := run_bound (P := P) (most' := h) (code := .sliceB) h2 hlo (Nat.le_refl _) w
  refine ⟨?_, r1', r2'⟩
  unfold Instr.sliceBounds
  cases hi' <;> cases lo' <;> simp only [ob, Sem.run_pure, Result.ok.injEq] at r1 r2 <;> simp [r1, r2]

theorem aslice_ok {t : TypeId} {x v x' : Value} {lo hi mx lo' hi' mx' : Option Value} (h : aslice P t x lo hi mx = some v) (hx : VR ρ x x') (hlo : OptR ρ lo lo') (hhi : OptR ρ hi hi') (hmx : OptR ρ mx mx') : Yields P v ρ (Instr.sliceAt t x' lo' hi' mx') := by
  unfold aslice at h
  split at h
  case h_4 => cases h
  · rename_i elem a len c hu
    have hmx' := hmx.2 rfl
    subst hmx'
    split at h
    case h_2 => cases h
    rename_i k hh hk h1
    split at h
    case h_2 => cases h
    rename_i l h2
    cases hx with
    | @slice _ a' _ _ c' ha hc =>
      obtain ⟨hr, hle, hll⟩ := run_bounds (P := P) (isSlice := true) (cap' := c') h1 h2 hlo hhi hc.sure_le default
      have run : ∀ w, (Instr.sliceAt t (.slice (some a') len c') lo' hi' none).run P w = .ok (.slice (if c' = l then some a' else some (a'.add (l * k))) (hh - l) (c' - l)) w := by
        intro w
        have hr := (run_bounds (P := P) (isSlice := true) (cap' := c') h1 h2 hlo hhi hc.sure_le w).1
        simp only [Instr.sliceAt, Instr.slice, Sem.run_bind, run_und hu, Result.andThen_ok, hr, run_size hk, Sem.run_pure]
        split <;> simp_all
      split at h
      · rename_i hl0
        have hl0 := Nat.eq_of_beq_eq_true hl0
        subst hl0
        cases h
        refine ⟨_, run, ?_⟩
        simp only [Nat.sub_zero, Nat.zero_mul]
        have : (if c' = 0 then some a' else some (a'.add 0)) = some a' := by split <;> simp [Addr.add]
        rw [this]
        exact .slice _ ha hc
      · split at h
        · rename_i hb1 hb2
          cases h
          have hcl : c < loose := by
            have h0 : c + 1 ≤ loose := by simpa [Nat.blt] using hb1
            exact h0
          have hcc : c' = c := by
            rcases hc with h3 | h3
            · exact h3.2
            · omega
          subst hcc
          refine ⟨_, run, ?_⟩
          rw [if_pos (Nat.eq_of_beq_eq_true hb2)]
          exact .slice _ ha (.inl ⟨by omega, rfl⟩)
        · rename_i hb1 hb2
          cases h
          have hcl : c < loose := by
            have h0 : c + 1 ≤ loose := by simpa [Nat.blt] using hb1
            exact h0
          have hcc : c' = c := by
            rcases hc with h3 | h3
            · exact h3.2
            · omega
          subst hcc
          refine ⟨_, run, ?_⟩
          rw [if_neg (Nat.ne_of_beq_eq_false hb2)]
          exact .slice _ (ha.add _) (.inl ⟨by omega, rfl⟩)
        · cases h
  · rename_i elem len c hu
    have hmx' := hmx.2 rfl
    subst hmx'
    split at h
    case h_2 => cases h
    rename_i sz hh hk h1
    split at h
    case h_2 => cases h
    rename_i l h2
    cases h
    cases hx with
    | nilSlice =>
      have run : ∀ w, (Instr.sliceAt t (.slice none len c) lo' hi' none).run P w = .ok (.slice none (hh - l) (c - l)) w := by
        intro w
        have hr := (run_bounds (P := P) (isSlice := true) (cap' := c) h1 h2 hlo hhi (Nat.le_refl _) w).1
        simp only [Instr.sliceAt, Instr.slice, Sem.run_bind, run_und hu, Result.andThen_ok, hr, Sem.run_pure, run_size hk]
        split <;> simp
      exact ⟨_, run, .nilSlice _ _⟩
  · rename_i n elem a hu
    have hmx' := hmx.2 rfl
    subst hmx'
    split at h
    case h_2 => cases h
    rename_i k hh hk h1 hb
    split at h
    case h_2 => cases h
    rename_i l h2
    cases hx with
    | @ptr _ a' ha =>
      have run : ∀ w, (Instr.sliceAt t (.pointer (some a')) lo' hi' none).run P w = .ok (.slice (some (if n = l then a' else a'.add (l * k))) (hh - l) (n - l)) w := by
        intro w
        have hr := (run_bounds (P := P) (isSlice := false) (cap' := n) h1 h2 hlo hhi (Nat.le_refl _) w).1
        simp only [Instr.sliceAt, Sem.run_bind, run_und hu, Result.andThen_ok, Instr.sureAddr, Sem.run_pure, hr, run_size hk]
      have hn : n < loose := by
        have h0 : n + 1 ≤ loose := by simpa [Nat.blt] using hb
        exact h0
      split at h
      · rename_i hb2
        cases h
        refine ⟨_, run, ?_⟩
        rw [if_pos (Nat.eq_of_beq_eq_true hb2)]
        exact .slice _ ha (.inl ⟨by omega, rfl⟩)
      · rename_i hb2
        cases h
        refine ⟨_, run, ?_⟩
        rw [if_neg (Nat.ne_of_beq_eq_false hb2)]
        exact .slice _ (ha.add _) (.inl ⟨by omega, rfl⟩)
end
end Go.Ev
