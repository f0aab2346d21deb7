import Derived.Test.YtnileccnalpknaaEvGz

/- Operations that look at no memory, and all operations together. -/
namespace Go.Ev
set_option linter.unusedSimpArgs false
set_option linter.unusedVariables false
noncomputable section
open Go
variable {ρ ρ' ρ1 ρ2 : Ren} {F : Nat → Prop} {H H1 H2 : AH} {w w1 w2 : World} {P : Program}

def apart (P : Program) (t : TypeId) (cs : List Value) (off : Nat) : Option Value :=
  match agg? P t with
  | some true =>
    match size? P t with
    | some k => some (.agg ((cs.drop off).take k).toArray)
    | none => none
  | some false => cs[off]?
  | none => none

theorem apart_ok {t : TypeId} {cs : Array Value} {cs' : Array Value} {off : Nat} {v : Value} (h : apart P t cs.toList off = some v) (hc : RR ρ cs cs') : Yields P v ρ (part t cs' off) := by
  unfold apart at h
  split at h
  · rename_i hag
    split at h
    case h_2 => cases h
    rename_i k hk
    cases h
    refine ⟨.agg (cs'.extract off (off + k)), fun w => ?_, ?_⟩
    · simp [part, run_isAgg hag, run_size hk]
    · have hs := hc.1
      refine .agg (by simp; omega) fun i x x' hx hx' => ?_
      simp only [List.getElem?_toArray, List.getElem?_take, List.getElem?_drop] at hx
      rw [Array.getElem?_extract] at hx'
      split at hx
      case isFalse => cases hx
      split at hx'
      case isFalse => cases hx'
      exact hc.2 (off + i) x x' (by simpa using hx) hx'
  · rename_i hag
    have hv : cs[off]? = some v := by simpa using h
    have hlt : off < cs.size := by
      rcases Nat.lt_or_ge off cs.size with h6 | h6
      · exact h6
      · rw [Array.getElem?_eq_none h6] at hv; cases hv
    have hlt' : off < cs'.size := by have := hc.1; omega
    have hc' : cs'[off]? = some cs'[off] := Array.getElem?_eq_getElem hlt'
    exact ⟨cs'[off], fun w => by simp [part, run_isAgg hag, hc'], hc.2 off _ _ hv hc'⟩
  · cases h

def afieldV (P : Program) (t : TypeId) (x : Value) (f : Nat) : Option Value :=
  match x, P.underlying t with
  | .agg cs, some (.struct fields) =>
    match fields[f]? with
    | some fd => apart P fd.type cs.toList fd.offset
    | none => none
  | _, _ => none
theorem afieldV_ok {t : TypeId} {x x' v : Value} {f : Nat} (h : afieldV P t x f = some v) (hx : VR ρ x x') : Yields P v ρ (Instr.field t x' f) := by
  unfold afieldV at h
  split at h
  case h_2 => cases h
  rename_i cs fields hu
  split at h
  case h_2 => cases h
  rename_i fd hf
  cases hx with
  | agg hs hv =>
    obtain ⟨v', h1, h2⟩ := apart_ok h ⟨hs, hv⟩
    exact ⟨v', fun w => by simp [Instr.field, run_und hu, hf, asAgg, h1], h2⟩

def aindexV (P : Program) (t : TypeId) (x ix : Value) : Option Value :=
  match x, ix, P.underlying t with
  | .agg cs, .int _ i, some (.array len elem) =>
    match size? P elem, decide (0 ≤ i ∧ i < (len : Int)) with
    | some k, true => apart P elem cs.toList (i.toNat * k)
    | _, _ => none
  | _, _, _ => none
theorem aindexV_ok {t : TypeId} {x x' ix ix' v : Value} (h : aindexV P t x ix = some v) (hx : VR ρ x x') (hix : VR ρ ix ix') : Yields P v ρ (Instr.index t x' ix') := by
  unfold aindexV at h
  split at h
  case h_2 => cases h
  rename_i cs k i len elem hu
  split at h
  case h_2 => cases h
  rename_i sz hk hi
  have hi := of_decide_eq_true hi
  cases hix
  cases hx with
  | agg hs hv =>
    obtain ⟨v', h1, h2⟩ := apart_ok h ⟨hs, hv⟩
    exact ⟨v', fun w => by simp [Instr.index, asIntOf, run_und hu, hi, run_size hk, h1], h2⟩

/-- Compared with nil. -/
def isNil : Value → Option Bool
  | .pointer none | .slice none _ _ | .map none | .nilFunc => some true
  | .pointer (some _) | .slice (some _) _ _ | .map (some _) | .func _ _ _ => some false
  | _ => none

def aeql (P : Program) (t : TypeId) (x y : Value) : Option Bool :=
  match P.underlying t, x, y with
  | some (.slice _), .slice a _ _, .slice none _ _ => some a.isNone
  | some (.slice _), .slice none _ _, .slice a _ _ => some a.isNone
  | some (.map _ _), .map a, .map none => some a.isNone
  | some (.pointer _), .pointer a, .pointer none => some a.isNone
  | some (.pointer _), .pointer none, .pointer a => some a.isNone
  | some (.func _ _ _), .func _ _ _, .nilFunc => some false
  | some (.func _ _ _), .nilFunc, .func _ _ _ => some false
  | some (.func _ _ _), .nilFunc, .nilFunc => some true
  | _, _, _ => none

theorem aeql_ok {t : TypeId} {x y x' y' : Value} {b : Bool} (h : aeql P t x y = some b) (hx : VR ρ x x') (hy : VR ρ y y') : ∀ w, (Op.equal t x' y').run P w = .ok b w := by
  intro w
  unfold aeql at h
  unfold Op.equal Op.maxDepth
  obtain ⟨d, hd⟩ : ∃ d, 10000 = d + 1 := ⟨9999, rfl⟩
  rw [hd]
  clear hd
  split at h <;> first | (cases h; done) | skip
  all_goals
    rename_i hu
    cases h
    cases hx <;> cases hy <;> simp [Op.equalIn, run_und hu]

/-- A value that eqGuard lets by. -/
def calm : Value → Bool
  | .nilIface | .agg _ => false
  | _ => true
theorem eqGuard_ok {op : BinOp} {t : TypeId} {x y : Operand} {a b : Value} (h : calm a = true) (w : World) : (eqGuard op t x y a b).run P w = .ok () w := by
  unfold eqGuard
  cases op <;> first | rfl | (cases a <;> first | (cases h; done) | rfl)
end
end Go.Ev
