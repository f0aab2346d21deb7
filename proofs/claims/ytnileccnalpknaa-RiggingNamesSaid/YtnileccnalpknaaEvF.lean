import Derived.Test.YtnileccnalpknaaEvE
import Derived.IntWalk

/- make, len, cap, append. -/
namespace Go.Ev
set_option linter.unusedSimpArgs false
set_option linter.unusedVariables false
noncomputable section
open Go
variable {ρ ρ' ρ1 ρ2 : Ren} {F : Nat → Prop} {H H1 H2 : AH} {w w1 w2 : World} {P : Program}

def amake (P : Program) (H : AH) (t : TypeId) (l c : Value) : Option (Value × AH) :=
  match l, c with
  | .int _ l, .int _ c =>
    match P.underlying t with
    | some (.slice elem) =>
      match P.info? elem, zero? P elem, Nat.blt H.next top, decide (0 ≤ l ∧ l ≤ c ∧ c < 1000000) with
      | some i, some z, true, true =>
        match Nat.ble (i.bytes * 1000000) 140737488355328 with
        | true => some (.slice (some ⟨H.next, 0, none⟩) l.toNat c.toNat, H.new (.cells (zrow z.cells.toList (c.toNat * i.size)).toArray elem))
        | false => none
      | _, _, _, _ => none
    | _ => none
  | _, _ => none

theorem amake_ok {t : TypeId} {l c v : Value} (h : amake P H t l c = some (v, H1)) :
    Le H H1 ∧ ∀ F ρ w l' c', Pre P F ρ H H1 w → VR ρ l l' → VR ρ c c' → Gives P F H H1 v ρ w (Instr.makeSlice t l' c') := by
  unfold amake at h
  split at h
  case h_2 => cases h
  rename_i k1 l k2 c
  split at h
  case h_2 => cases h
  rename_i elem hu
  split at h
  case h_2 => cases h
  rename_i i z hi hz ht hb
  split at h
  case h_2 => cases h
  rename_i hby
  cases h
  have ht := blt_lt ht
  have hb := of_decide_eq_true hb
  have hby : i.bytes * 1000000 ≤ 140737488355328 := by simpa using hby
  refine ⟨Le.new H _ ht, fun F ρ w l' c' hp hl hc => ?_⟩
  cases hl
  cases hc
  have hk : size? P elem = some i.size := by unfold size?; rw [hi]
  obtain ⟨ρ1, _, h3, h4⟩ := anew (e := elem) ht F ρ w _ hp (row_refl (zrow_gs (zero_all hz) (c.toNat * i.size)))
  refine ⟨ρ1, _, .slice (some ⟨w.heap.size, 0, none⟩) l.toNat c.toNat, ?_, .slice _ h3 (.inl ⟨by unfold loose; omega, rfl⟩), h4⟩
  have n1 : IntKind.i64.wrap l = l := IntWalk.i64_in _ (by omega)
  have n2 : IntKind.i64.wrap c = c := IntWalk.i64_in _ (by omega)
  obtain ⟨C, rfl⟩ : ∃ C : Nat, c = (C : Int) := ⟨c.toNat, by omega⟩
  have hCb : i.bytes * C ≤ 140737488355328 := Nat.le_trans (Nat.mul_le_mul_left _ (by omega)) hby
  have n3 : ¬ ((C : Int) < 0) := by omega
  have n4 : ¬ ((i.bytes : Int) * (C : Int) > 2 ^ 48) := by
    rw [← Int.natCast_mul]
    omega
  have n5 : ¬ (l < 0) := by omega
  have n6 : ¬ (l > (C : Int)) := by omega
  have hty : ∀ w, (typeInfo elem).run P w = .ok i w := fun w => by
    unfold typeInfo program
    simp only [Sem.run_bind, Sem.run, Result.andThen_ok, hi]
    rfl
  have n7 : ¬ (C * i.bytes > roomBytes) := by
    rw [Nat.mul_comm]
    unfold roomBytes
    omega
  simp only [Instr.makeSlice, Sem.run_bind, run_und hu, Result.andThen_ok, asInt, asIntOf, Sem.run_pure, n1, n2, hty]
  simp only [n3, n4, n5, n6, decide_false, Bool.false_or, Bool.or_self, Bool.false_eq_true, or_self, if_false, Int.toNat_natCast, askRoom, n7, Sem.run_pure, Result.andThen_ok, run_size hk]
  by_cases h0 : C * i.size = 0
  · have hz0 : zrow z.cells.toList (C * i.size) = [] := by rw [h0]; simp [zrow]
    have hr0 : Array.range 0 = #[] := rfl
    simp [run_size hk, h0, hr0, newRow, newObj, Sem.run]
    simp [zrow]
  · simp [run_size hk, h0, run_zero hz, newRow, newObj, Sem.run]
    rw [← zrow_eq]

def alen (P : Program) (t : TypeId) (x : Value) : Option Value :=
  match P.underlying t, x with
  | some (.slice _), .slice _ n _ => some (goInt n)
  | some (.array n _), _ => some (goInt n)
  | some .string, .string s => some (goInt s.size)
  | _, _ => none

theorem alen_ok {t ty : TypeId} {ts : Array TypeId} {x v x' : Value} (hts : ts[0]? = some t) (h : alen P t x = some v) (hx : VR ρ x x') : Yields P v ρ (Builtin.len_ ts ty #[x']) := by
  unfold alen at h
  split at h
  · rename_i e a n c hu
    cases h
    refine ⟨goInt n, fun w => ?_, .int _ _⟩
    cases hx <;> simp [Builtin.len_, hts, run_und hu]
  · rename_i n e hu
    cases h
    refine ⟨goInt n, fun w => ?_, .int _ _⟩
    simp [Builtin.len_, hts, run_und hu]
  · rename_i s hu
    cases h
    cases hx
    refine ⟨goInt s.size, fun w => ?_, .int _ _⟩
    simp [Builtin.len_, hts, run_und hu]
  · cases h

def acap (P : Program) (t : TypeId) (x : Value) : Option Value :=
  match P.underlying t, x with
  | some (.slice _), .slice _ _ c =>
    match Nat.blt c loose with
    | true => some (goInt c)
    | false => none
  | some (.array n _), _ => some (goInt n)
  | _, _ => none

theorem acap_ok {t ty : TypeId} {ts : Array TypeId} {x v x' : Value} (hts : ts[0]? = some t) (h : acap P t x = some v) (hx : VR ρ x x') : Yields P v ρ (Builtin.cap_ ts ty #[x']) := by
  unfold acap at h
  split at h
  · rename_i e a n c hu
    split at h
    case h_2 => cases h
    rename_i hb
    have hb := blt_lt hb
    cases h
    refine ⟨goInt c, fun w => ?_, .int _ _⟩
    cases hx with
    | nilSlice => simp [Builtin.cap_, hts, run_und hu]
    | slice _ ha hc =>
      rcases hc with hc | hc
      · simp [Builtin.cap_, hts, run_und hu, hc.2]
      · omega
  · rename_i n e hu
    cases h
    refine ⟨goInt n, fun w => ?_, .int _ _⟩
    simp [Builtin.cap_, hts, run_und hu]
  · cases h

/-! ### append -/
def acells (H : AH) (a : Addr) (n : Nat) : Option (List Value × AH) :=
  match a.spot, H.get a.block with
  | none, some (.cells c _ _) =>
    match Nat.beq ((c.toList.drop a.off).take n).length n with
    | true => some ((c.toList.drop a.off).take n, H.touch a.block)
    | false => none
  | _, _ => none

theorem acells_ok {a : Addr} {n : Nat} {l : List Value} (h : acells H a n = some (l, H1)) : Le H H1 ∧ H1 = H.touch a.block ∧ l.length = n ∧ ∀ F ρ w a', Pre P F ρ H H1 w → AR ρ a a' →
    ∃ l' : List Value, RR ρ l.toArray l'.toArray ∧ (∀ (j : Nat) (u : Value), l'[j]? = some u → w.cell? (a'.add j) = some u) := by
  unfold acells at h
  split at h
  case h_2 => cases h
  rename_i c e fr hsp hg
  split at h
  case h_2 => cases h
  rename_i hlen
  cases h
  have hlen := Nat.eq_of_beq_eq_true hlen
  refine ⟨Le.touch H _, rfl, hlen, fun F ρ w a' hp ha => ?_⟩
  obtain ⟨b, c', h1, h2, _, h4, h5, _⟩ := hp.wr.cells (hp.foot _ (by simp only [AH.touch_eq]; rw [bit_or]; simp)) hg
  rw [ha.to h1]
  simp only [List.length_take, List.length_drop, Array.length_toList] at hlen
  refine ⟨(c'.toList.drop a.off).take n, ⟨by simp; omega, fun i x x' hx hx' => ?_⟩, fun j u hu => ?_⟩
  · simp only [List.getElem?_toArray, List.getElem?_take, List.getElem?_drop] at hx hx'
    split at hx
    · rename_i hi
      rw [if_pos hi] at hx'
      exact h5 _ _ _ (by simpa using hx) (by simpa using hx')
    · cases hx
  · rw [hsp, add_at, cell_at h2]
    simp only [List.getElem?_take, List.getElem?_drop] at hu
    split at hu
    · simpa using hu
    · cases hu

/-- A block that is taken over under a new name, or left for a new one. -/
theorem Sim.leave {o : AO} {o' : Obj} {n : Nat} {t u : Tgt} (h : Pre P F ρ H ((H.put n none).new o) w) {x : AO} (hx : H.get n = some x) (hn : ρ n = some (some t)) (ht : H.next < top)
    (hu : (u.b = t.b ∧ w1 = { w with heap := w.heap.setIfInBounds t.b o' }) ∨ ∃ k, u.b = w.heap.size ∧ w1 = { w with heap := w.heap.push o', drawn := k })
    (ho : OR (ren (ren ρ n none) H.next (some u)) o o') (hTR : TR P u o') :
    Sim P F ρ (ren (ren ρ n none) H.next (some u)) H ((H.put n none).new o) w w1 := by
  have hlt := get_lt h.wf hx
  have hf : ρ H.next = none := h.fresh _ (Nat.le_refl _) (Nat.lt_succ_self _)
  have hb := h.wr.bound n t hn
  have hne : n ≠ H.next := by omega
  have hbit : ((H.put n none).new o).wr.testBit n = true := by simp only [AH.put_eq, AH.new_eq]; rw [bit_or]; simp
  have hr : ∀ m, ren (ren ρ n none) H.next (some u) m = if m = H.next then some (some u) else if m = n then some none else ρ m := fun m => rfl
  have hget : ∀ m, ((H.put n none).new o).get m = if m = H.next then some o else if m = n then none else H.get m := fun m => by
    have h1 := get_new (H := H.put n none) ht o m
    rw [h1]
    show (if m = H.next then some o else (H.put n none).get m) = _
    split
    · rfl
    · rw [get_put h.wf hlt]
  have hext : Ext ρ (ren (ren ρ n none) H.next (some u)) := ⟨fun m y hy => by
    rw [hr]
    split
    · rename_i e; rw [e, hf] at hy; cases hy
    · split
      · exact .inr rfl
      · exact .inl hy⟩
  have hlook : ∀ m y, ρ m = some (some y) → m ≠ n → w1.heap[y.b]? = w.heap[y.b]? := by
    intro m y hm hmn
    have hby := h.wr.bound m y hm
    rcases hu with ⟨_, rfl⟩ | ⟨k, _, rfl⟩
    · show (w.heap.setIfInBounds t.b o')[y.b]? = _
      rw [Array.getElem?_setIfInBounds_ne]
      intro e
      exact hmn (h.wr.inj m n y t hm hn e.symm)
    · simp [Array.getElem?_push_lt hby]
  have hsize : w.heap.size ≤ w1.heap.size := by
    rcases hu with ⟨_, rfl⟩ | ⟨k, _, rfl⟩ <;> simp
  have hown : w1.heap[u.b]? = some o' := by
    rcases hu with ⟨e, rfl⟩ | ⟨k, e, rfl⟩
    · rw [e]; simp [hb]
    · rw [e]; simp
  have hub : u.b < w1.heap.size := by
    rcases hu with ⟨e, rfl⟩ | ⟨k, e, rfl⟩
    · rw [e]; simpa using hb
    · rw [e]; simp
  have hfar : ∀ m y, ρ m = some (some y) → m ≠ n → y.b ≠ u.b := by
    intro m y hm hmn e
    have hby := h.wr.bound m y hm
    rcases hu with ⟨e2, _⟩ | ⟨k, e2, _⟩
    · exact hmn (h.wr.inj m n y t hm hn (e.trans e2))
    · omega
  refine ⟨hext, fun m h0 h1 => ?_, fun m b h0 h1 => ?_, fun m y h0 h1 => ?_, ⟨fun m m' y y' h0 h1 hyy => ?_, fun m y h0 => ?_, fun m y hF hy => ?_⟩, fun b hbb hm => ?_, hsize, ?_, ?_, ?_⟩
  · rw [hr] at h1
    split at h1
    · rename_i e; simp only [AH.new_eq, AH.put_eq]; omega
    · split at h1
      · rename_i e; rw [e, hn] at h0; cases h0
      · exact absurd h0 h1
  · rw [hr] at h1
    split at h1
    · cases h1
    · split at h1
      · rename_i e; rw [e]; exact hbit
      · rw [h0] at h1; cases h1
  · rw [hr] at h1
    split at h1
    · cases h1
      rcases hu with ⟨e, _⟩ | ⟨k, e, _⟩
      · exact .inr ⟨n, t, hn, e.symm, hbit⟩
      · exact .inl (by omega)
    · split at h1
      · cases h1
      · rw [h0] at h1; cases h1
  · rw [hr] at h0 h1
    split at h0
    · split at h1
      · omega
      · split at h1
        · cases h1
        · rename_i e1 e2 e3
          cases h0
          exact absurd hyy.symm (hfar m' y' h1 e3)
    · split at h0
      · cases h0
      · split at h1
        · rename_i e1 e2 e3
          cases h1
          exact absurd hyy (hfar m y h0 e2)
        · split at h1
          · cases h1
          · exact h.wr.inj m m' y y' h0 h1 hyy
  · rw [hr] at h0
    split at h0
    · cases h0; exact hub
    · split at h0
      · cases h0
      · exact Nat.lt_of_lt_of_le (h.wr.bound m y h0) hsize
  · rw [hget] at hy
    split at hy
    · rename_i e
      cases hy
      exact ⟨u, o', by rw [hr, if_pos e], hown, ho, hTR⟩
    · split at hy
      · cases hy
      · rename_i e1 e2
        obtain ⟨y1, y2, h3, h4, h5, h6⟩ := h.wr.obj m y hF hy
        exact ⟨y1, y2, by rw [hr, if_neg e1, if_neg e2]; exact h3, by rw [hlook m y1 h3 e2]; exact h4, h5.mono hext, h6⟩
  · rcases hu with ⟨_, rfl⟩ | ⟨k, _, rfl⟩
    · show (w.heap.setIfInBounds t.b o')[b]? = _
      rw [Array.getElem?_setIfInBounds_ne]
      intro e
      rw [hm n t hn e] at hbit
      cases hbit
    · simp [Array.getElem?_push_lt hbb]
  · rcases hu with ⟨_, rfl⟩ | ⟨k, _, rfl⟩ <;> rfl
  · rcases hu with ⟨_, rfl⟩ | ⟨k, _, rfl⟩ <;> rfl
  · rcases hu with ⟨_, rfl⟩ | ⟨k, _, rfl⟩ <;> rfl
end
end Go.Ev
