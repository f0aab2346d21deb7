import Derived.Test.YtnileccnalpknaaEvD

/- Structs, arrays and slices that are built. -/
namespace Go.Ev
set_option linter.unusedSimpArgs false
set_option linter.unusedVariables false
noncomputable section
open Go
variable {ρ ρ' ρ1 ρ2 : Ren} {F : Nat → Prop} {H H1 H2 : AH} {w w1 w2 : World} {P : Program}

inductive PR (ρ : Ren) : List (Nat × Value) → List (Nat × Value) → Prop where
  | nil : PR ρ [] []
  | cons {i : Nat} {v v' : Value} {l l' : List (Nat × Value)} (h : VR ρ v v') (t : PR ρ l l') : PR ρ ((i, v) :: l) ((i, v') :: l')

def afill (place : Nat → Option (Nat × Nat)) (cells : List Value) : List (Nat × Value) → Option (List Value)
  | [] => some cells
  | (i, v) :: rest =>
    match place i with
    | none => none
    | some (off, size) =>
      match Nat.beq v.cells.toList.length size, Nat.ble (off + size) cells.length with
      | true, true => afill place (patch cells off v.cells.toList) rest
      | _, _ => none

theorem patch_cons (c : List Value) (o : Nat) (v : Value) (vs : List Value) (h : o + (vs.length + 1) ≤ c.length) : patch (c.set o v) (o + 1) vs = patch c o (v :: vs) := by
  apply List.ext_getElem?
  intro i
  rw [patch_get _ _ _ (by simp; omega), patch_get _ _ _ (by simpa using h)]
  by_cases h1 : i < o
  · rw [if_neg (by omega), if_neg (by omega), List.getElem?_set_ne (by omega)]
  · by_cases h2 : i = o
    · subst h2
      rw [if_neg (by omega), if_pos ⟨by omega, by simp⟩, List.getElem?_set_self (by omega)]
      simp
    · by_cases h3 : i < o + 1 + vs.length
      · rw [if_pos ⟨by omega, h3⟩, if_pos ⟨by omega, by simp; omega⟩]
        have : i - o = (i - (o + 1)) + 1 := by omega
        rw [this, List.getElem?_cons_succ]
      · rw [if_neg (by omega), if_neg (by simp; omega), List.getElem?_set_ne (by omega)]

theorem fold_patch (off : Nat) : ∀ (vs : List Value) (k : Nat) (cs : Array Value), off + k + vs.length ≤ cs.size →
    (vs.zipIdx k).foldl (fun cs p => cs.setIfInBounds (off + p.2) p.1) cs = (patch cs.toList (off + k) vs).toArray := by
  intro vs
  induction vs with
  | nil => intro k cs _; simp [patch]
  | cons v vs ih =>
    intro k cs h
    rw [List.zipIdx_cons, List.foldl_cons, ih (k + 1) _ (by simp at h ⊢; omega)]
    simp only [Array.toList_setIfInBounds]
    rw [← Nat.add_assoc, patch_cons _ _ _ _ (by simp at h ⊢; omega)]

theorem afill_ok (place : Nat → Option (Nat × Nat)) : ∀ (parts : List (Nat × Value)) (cells r : List Value) (cells' : Array Value) (parts' : List (Nat × Value)), afill place cells parts = some r → RR ρ cells.toArray cells' → PR ρ parts parts' →
    ∃ r', Instr.fill place cells' parts' = some r' ∧ RR ρ r.toArray r' := by
  intro parts
  induction parts with
  | nil => intro cells r cells' parts' h hc hp; cases hp; cases h; exact ⟨cells', rfl, hc⟩
  | cons p parts ih =>
    intro cells r cells' parts' h hc hp
    cases hp with
    | @cons i v v' l l' hv ht =>
    unfold afill at h
    unfold Instr.fill
    cases hpl : place i with
    | none => rw [hpl] at h; cases h
    | some q =>
      obtain ⟨off, size⟩ := q
      rw [hpl] at h
      simp only at h ⊢
      split at h
      case h_2 => cases h
      rename_i hb1 hb2
      have hb1 := Nat.eq_of_beq_eq_true hb1
      have hb2 : off + size ≤ cells.length := by simpa using hb2
      have hvc := hv.cells
      have e1 : v'.cells.size = size := by have := hvc.1; simp at hb1; omega
      have e2 : cells'.size = cells.length := by have := hc.1; simpa using this.symm
      rw [if_neg (by simp; omega)]
      have hfold : v'.cells.zipIdx.foldl (fun cs (c, j) => cs.setIfInBounds (off + j) c) cells' = (patch cells'.toList off v'.cells.toList).toArray := by
        rw [← Array.foldl_toList, Array.toList_zipIdx]
        exact fold_patch off v'.cells.toList 0 cells' (by simp; omega)
      have hpa := patch_alike (ρ := ρ) (c := cells.toArray) (c' := cells') (off := off) (by simp; omega) hc.2 hvc (by simp at hb1 ⊢; omega)
      obtain ⟨r', h1, h2⟩ := ih _ r (patch cells'.toList off v'.cells.toList).toArray l' h ⟨by
        rw [List.size_toArray, List.size_toArray, patch_length _ _ _ (by omega), patch_length _ _ _ (by simp; omega)]
        simp [e2], hpa.2⟩ ht
      refine ⟨r', ?_, h2⟩
      rw [← h1]
      congr 1

def places (P : Program) : List Field → Option (List (Nat × Nat))
  | [] => some []
  | f :: fs =>
    match size? P f.type, places P fs with
    | some k, some l => some ((f.offset, k) :: l)
    | _, _ => none

theorem places_run : ∀ {fs : List Field} {l : List (Nat × Nat)}, places P fs = some l → ∀ w, (fs.mapM (m := Sem) fun f => do pure (f.offset, ← sizeOf f.type)).run P w = .ok l w := by
  intro fs
  induction fs with
  | nil => intro l h w; cases h; rfl
  | cons f fs ih =>
    intro l h w
    unfold places at h
    split at h
    case h_2 => cases h
    rename_i k l' hk hl
    cases h
    simp only [List.mapM_cons, Sem.run_bind, run_size hk, Result.andThen_ok, Sem.run_pure, ih hl]

/-- The zero value of a type, if it holds no address. -/
def zero? (P : Program) (t : TypeId) : Option Value :=
  match P.info? t with
  | some i =>
    match i.zero with
    | some z =>
      match z.cells.toList.all gs with
      | true => some z
      | false => none
    | none => none
  | none => none
theorem run_zero {t : TypeId} {z : Value} (h : zero? P t = some z) (w : World) : (zeroValue t).run P w = .ok z w := by
  unfold zero? at h
  split at h
  case h_2 => cases h
  rename_i i hi
  split at h
  case h_2 => cases h
  rename_i z' hz
  split at h
  case h_2 => cases h
  cases h
  unfold zeroValue typeInfo program
  simp only [Sem.run_bind, Sem.run, Result.andThen_ok, hi, Sem.run_pure, hz]
theorem zero_row {t : TypeId} {z : Value} (h : zero? P t = some z) : RR ρ z.cells z.cells := by
  unfold zero? at h
  split at h
  case h_2 => cases h
  split at h
  case h_2 => cases h
  split at h
  case h_2 => cases h
  rename_i hz
  cases h
  exact row_refl hz
theorem zero_all {t : TypeId} {z : Value} (h : zero? P t = some z) : z.cells.toList.all gs = true := by
  unfold zero? at h
  split at h
  case h_2 => cases h
  split at h
  case h_2 => cases h
  split at h
  case h_2 => cases h
  rename_i hz
  cases h
  exact hz

def abuild (P : Program) (t : TypeId) (parts : List (Nat × Value)) : Option Value :=
  match zero? P t with
  | some z =>
    match P.underlying t with
    | some (.struct fields) =>
      match places P fields.toList with
      | some pl =>
        match afill (fun i => pl[i]?) z.cells.toList parts with
        | some cs => some (.agg cs.toArray)
        | none => none
      | none => none
    | some (.array _ elem) =>
      match size? P elem with
      | some k =>
        match afill (fun i => some (i * k, k)) z.cells.toList parts with
        | some cs => some (.agg cs.toArray)
        | none => none
      | none => none
    | _ => none
  | none => none

theorem abuild_ok {t : TypeId} {parts : List (Nat × Value)} {v : Value} {parts' : Array (Nat × Value)} (h : abuild P t parts = some v) (hp : PR ρ parts parts'.toList) : Yields P v ρ (Instr.build t parts') := by
  unfold abuild at h
  split at h
  case h_2 => cases h
  rename_i z hz
  split at h
  · rename_i fields hu
    split at h
    case h_2 => cases h
    rename_i pl hpl
    split at h
    case h_2 => cases h
    rename_i cs hcs
    cases h
    obtain ⟨r', h1, h2⟩ := afill_ok _ parts z.cells.toList cs z.cells parts'.toList hcs (by simpa using zero_row hz) hp
    refine ⟨.agg r', fun w => ?_, .agg h2.1 h2.2⟩
    have hpr := places_run hpl w
    have hpl' : (fields.mapM (m := Sem) fun f => do pure (f.offset, ← sizeOf f.type)).run P w = .ok pl.toArray w := by
      rw [Array.mapM_eq_mapM_toList, Sem.run_map, hpr]
      rfl
    simp only [Instr.build, Sem.run_bind, run_zero hz, Result.andThen_ok, run_und hu, hpl']
    have e : (fun i : Nat => pl.toArray[i]?) = fun i : Nat => pl[i]? := by funext i; simp
    rw [e, h1]
    rfl
  · rename_i n elem hu
    split at h
    case h_2 => cases h
    rename_i k hk
    split at h
    case h_2 => cases h
    rename_i cs hcs
    cases h
    obtain ⟨r', h1, h2⟩ := afill_ok _ parts z.cells.toList cs z.cells parts'.toList hcs (by simpa using zero_row hz) hp
    refine ⟨.agg r', fun w => ?_, .agg h2.1 h2.2⟩
    simp only [Instr.build, Sem.run_bind, run_zero hz, Result.andThen_ok, run_und hu, run_size hk, h1]
    rfl
  · cases h

/-- n zero cells. -/
def zrow (z : List Value) (n : Nat) : List Value := (List.range n).map fun i => z.getD (i % z.length) default
theorem zrow_eq (z : Array Value) (n : Nat) : (Array.range n).map (fun i => z[i % z.size]!) = (zrow z.toList n).toArray := by
  apply Array.ext'
  simp only [zrow, Array.toList_map, Array.toList_range]
  apply List.map_congr_left
  intro i _
  simp [getElem!_def, List.getD]
  cases z[i % z.size]? <;> rfl
theorem zrow_gs {z : List Value} (h : z.all gs = true) (n : Nat) : (zrow z n).all gs = true := by
  rw [List.all_eq_true] at h ⊢
  intro x hx
  obtain ⟨i, _, rfl⟩ := List.mem_map.1 hx
  unfold List.getD
  cases hg : z[i % z.length]? with
  | none => rfl
  | some y => exact h y (List.mem_of_getElem? hg)

def abuildSlice (P : Program) (H : AH) (t : TypeId) (len : Nat) (parts : List (Nat × Value)) : Option (Value × AH) :=
  match P.underlying t with
  | some (.slice elem) =>
    match size? P elem, zero? P elem, Nat.blt H.next top, Nat.blt len 1000000 with
    | some k, some z, true, true =>
      match Nat.ble (len * k) 16777216, afill (fun i => some (i * k, k)) (zrow z.cells.toList (len * k)) parts with
      | true, some cs => some (.slice (some ⟨H.next, 0, none⟩) len len, H.new (.cells cs.toArray elem))
      | _, _ => none
    | _, _, _, _ => none
  | _ => none

theorem blt_lt {a b : Nat} (h : Nat.blt a b = true) : a < b := by
  have h0 : a + 1 ≤ b := by simpa [Nat.blt] using h
  exact h0

theorem abuildSlice_ok {t : TypeId} {len : Nat} {parts : List (Nat × Value)} {v : Value} (h : abuildSlice P H t len parts = some (v, H1)) :
    Le H H1 ∧ ∀ F ρ w (parts' : Array (Nat × Value)), Pre P F ρ H H1 w → PR ρ parts parts'.toList → Gives P F H H1 v ρ w (Instr.buildSlice t len parts') := by
  unfold abuildSlice at h
  split at h
  case h_2 => cases h
  rename_i elem hu
  split at h
  case h_2 => cases h
  rename_i k z hk hz ht hl
  split at h
  case h_2 => cases h
  rename_i cs hsm hcs
  cases h
  have ht := blt_lt ht
  have hl := blt_lt hl
  refine ⟨Le.new H _ ht, fun F ρ w parts' hp hpr => ?_⟩
  have hrow : RR ρ (zrow z.cells.toList (len * k)).toArray (zrow z.cells.toList (len * k)).toArray := by
    exact row_refl (zrow_gs (zero_all hz) _)
  obtain ⟨r', h1, h2⟩ := afill_ok _ parts _ cs _ parts'.toList hcs hrow hpr
  obtain ⟨ρ1, _, h3, h4⟩ := anew (e := elem) ht F ρ w r' hp h2
  refine ⟨ρ1, _, .slice (some ⟨w.heap.size, 0, none⟩) len len, ?_, .slice len h3 (.inl ⟨by unfold loose; omega, rfl⟩), h4⟩
  have hsm2 : len * k ≤ 16777216 := by simpa using hsm
  have hsm : ¬ (len * k > 2 ^ 24) := by omega
  simp only [Instr.buildSlice, Sem.run_bind, run_und hu, Result.andThen_ok, run_size hk, if_neg hsm]
  by_cases h0 : len * k = 0
  · have hz0 : zrow z.cells.toList (len * k) = [] := by rw [h0]; simp [zrow]
    rw [hz0] at h1
    have hr0 : Array.range 0 = #[] := rfl
    simp [h0, hr0, h1, newRow, newObj, Sem.run]
  · simp only [if_neg h0, Sem.run_bind, run_zero hz, Result.andThen_ok, Sem.run_pure, zrow_eq, h1]
    simp [newRow, newObj, Sem.run]
end
end Go.Ev
