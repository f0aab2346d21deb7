import Derived.Test.YtnileccnalpknaaEvB
import Derived.Laws.Cells
import Derived.Laws.CopyRow
import Derived.Deep.AppendSrc

/- The operations on memory. -/
namespace Go.Ev
set_option linter.unusedSimpArgs false
set_option linter.unusedVariables false
noncomputable section
open Go
variable {ρ ρ' ρ1 ρ2 : Ren} {F : Nat → Prop} {H H1 H2 : AH} {w w1 w2 : World} {P : Program}

/-- What an operation that yields a value must do. -/
def Gives (P : Program) (F : Nat → Prop) (H H1 : AH) (v : Value) (ρ : Ren) (w : World) (s : Sem Value) : Prop :=
  ∃ ρ1 w1 v', s.run P w = .ok v' w1 ∧ VR ρ1 v v' ∧ Sim P F ρ ρ1 H H1 w w1

def agg? (P : Program) (t : TypeId) : Option Bool :=
  match P.underlying t with
  | some (.struct _) | some (.array _ _) => some true
  | some _ => some false
  | none => none
def size? (P : Program) (t : TypeId) : Option Nat :=
  match P.info? t with
  | some i => some i.size
  | none => none

theorem run_isAgg {t : TypeId} {b : Bool} (h : agg? P t = some b) (w : World) : (isAgg t).run P w = .ok b w := by
  unfold agg? at h
  unfold isAgg underlying program
  simp only [Sem.run_bind, Sem.run, Result.andThen_ok]
  split at h <;> rename_i hu <;> simp_all <;> (subst h; split <;> simp_all)
theorem run_size {t : TypeId} {n : Nat} (h : size? P t = some n) (w : World) : (sizeOf t).run P w = .ok n w := by
  unfold size? at h
  unfold sizeOf typeInfo program
  simp only [Sem.run_bind, Sem.run, Result.andThen_ok]
  split at h <;> simp_all

/-! ### Reading and writing -/
def aload (P : Program) (H : AH) (t : TypeId) (x : Value) : Option (Value × AH) :=
  match x with
  | .pointer (some ⟨n, off, none⟩) =>
    match H.get n with
    | some (.cells c _ _) =>
      match agg? P t with
      | some true =>
        match size? P t with
        | some k =>
          match Nat.beq ((c.toList.drop off).take k).length k with
          | true => some (.agg ((c.toList.drop off).take k).toArray, H.touch n)
          | false => none
        | none => none
      | some false =>
        match c.toList[off]? with
        | some v => some (v, H.touch n)
        | none => none
      | none => none
    | _ => none
  | _ => none

/-- What the evaluator knows of a block lies in the world's. -/
theorem WR.cells {n : Nat} {c : Array Value} {e : TypeId} {fr : Nat × Nat} (h : WR P ρ F H w) (hF : F n) (hx : H.get n = some (.cells c e fr)) :
    ∃ b c', ρ n = some (some b) ∧ w.heap[b.b]? = some (.cells c' e (0, 0)) ∧ fr = (0, 0) ∧ c.size ≤ c'.size ∧ (∀ (i : Nat) (x x' : Value), c[i]? = some x → c'[i]? = some x' → VR ρ x x') ∧ c'.size = b.m ∧ ∀ i, P.info? e = some i → i.size = b.k := by
  obtain ⟨b, o', h1, h2, h3, h4⟩ := h.obj n _ hF hx
  cases h3 with
  | cells _ hs hv => exact ⟨b, _, h1, h2, rfl, hs, hv, h4.1, h4.2⟩
theorem AR.to {a a' : Addr} {b : Tgt} (h : AR ρ a a') (hb : ρ a.block = some (some b)) : a' = ⟨b.b, a.off, a.spot⟩ := by
  rcases h with h | ⟨b', h, rfl⟩
  · rw [hb] at h; cases h
  · rw [hb] at h; cases h; rfl
theorem cell_at {b o : Nat} {c : Array Value} {e : TypeId} {fr : Nat × Nat} (h : w.heap[b]? = some (.cells c e fr)) : w.cell? ⟨b, o, none⟩ = c[o]? := by
  simp [World.cell?, h]
theorem add_at (b o i : Nat) : (⟨b, o, none⟩ : Addr).add i = ⟨b, o + i, none⟩ := by
  unfold Addr.add
  split <;> simp_all

theorem aload_reads {t : TypeId} {x v : Value} (h : aload P H t x = some (v, H1)) : Le H H1 ∧ ∀ F ρ w x', Pre P F ρ H H1 w → VR ρ x x' → ∃ v', (Instr.loadAt t x').run P w = .ok v' w ∧ VR ρ v v' ∧ Sim P F ρ ρ H H1 w w := by
  unfold aload at h
  split at h
  case h_2 => cases h
  rename_i n off
  split at h
  case h_2 => cases h
  rename_i c e fr hg
  have key : ∀ F ρ w x', Pre P F ρ H (H.touch n) w → VR ρ (.pointer (some ⟨n, off, none⟩)) x' → ∃ b c', x' = .pointer (some ⟨b, off, none⟩) ∧ w.heap[b]? = some (.cells c' e (0, 0)) ∧ c.size ≤ c'.size ∧ ∀ (i : Nat) (x x' : Value), c[i]? = some x → c'[i]? = some x' → VR ρ x x' := by
    intro F ρ w x' hp hx
    obtain ⟨b, c', h1, h2, _, h4, h5, _⟩ := hp.wr.cells (hp.foot n (by simp only [AH.touch_eq]; rw [bit_or]; simp)) hg
    cases hx with
    | ptr ha => rw [ha.to h1]; exact ⟨b.b, c', rfl, h2, h4, h5⟩
  split at h
  · rename_i hag
    split at h
    case h_2 => cases h
    rename_i k hk
    split at h
    case h_2 => cases h
    rename_i hlen
    cases h
    have hlen := Nat.eq_of_beq_eq_true hlen
    simp only [List.length_take, List.length_drop, Array.length_toList] at hlen
    refine ⟨Le.touch H n, fun F ρ w x' hp hx => ?_⟩
    obtain ⟨b, c', rfl, h2, h4, h5⟩ := key F ρ w x' hp hx
    refine ⟨.agg ((List.range k).map fun j => c'.toList.getD (off + j) undef).toArray, ?_, ?_, Sim.touch hp.wr n⟩
    · have hr := run_loadCells (P := P) w ⟨b, off, none⟩ k (fun j => c'.toList.getD (off + j) undef) (fun j hj => by
        rw [add_at, cell_at h2]
        have : off + j < c'.size := by omega
        simp [List.getD, this])
      simp only [Instr.loadAt, Instr.sureAddr, loadVar, Sem.run_bind, Sem.run_pure, Result.andThen_ok, run_isAgg hag, run_size hk, if_true, hr]
    · refine .agg (by simp; omega) fun i x x' hx hx' => ?_
      simp only [List.getElem?_toArray, List.getElem?_take, List.getElem?_drop, List.getElem?_map] at hx hx'
      split at hx
      case isFalse => cases hx
      rename_i hik
      rw [List.getElem?_range hik] at hx'
      simp only [Option.map_some, Option.some.injEq] at hx'
      have hi : off + i < c'.size := by omega
      refine h5 (off + i) x x' (by simpa using hx) ?_
      rw [← hx']
      simp [List.getD, hi]
  · rename_i hag
    split at h
    case h_2 => cases h
    rename_i v' hv
    cases h
    refine ⟨Le.touch H n, fun F ρ w x' hp hx => ?_⟩
    obtain ⟨b, c', rfl, h2, h4, h5⟩ := key F ρ w x' hp hx
    have hv' : c[off]? = some v := by simpa using hv
    have hlt : off < c.size := by
      rcases Nat.lt_or_ge off c.size with h6 | h6
      · exact h6
      · rw [Array.getElem?_eq_none h6] at hv'; cases hv'
    have hc' : c'[off]? = some c'[off] := Array.getElem?_eq_getElem (by omega)
    refine ⟨c'[off], ?_, h5 off _ _ hv' hc', Sim.touch hp.wr n⟩
    simp only [Instr.loadAt, Instr.sureAddr, loadVar, Sem.run_bind, Sem.run_pure, Result.andThen_ok, run_isAgg hag, Bool.false_eq_true, if_false, run_load, cell_at h2, hc']
  · cases h

theorem aload_ok {t : TypeId} {x v : Value} (h : aload P H t x = some (v, H1)) : Le H H1 ∧ ∀ F ρ w x', Pre P F ρ H H1 w → VR ρ x x' → Gives P F H H1 v ρ w (Instr.loadAt t x') :=
  ⟨(aload_reads h).1, fun F ρ w x' hp hx => by
    obtain ⟨v', h1, h2, h3⟩ := (aload_reads h).2 F ρ w x' hp hx
    exact ⟨ρ, w, v', h1, h2, h3⟩⟩

theorem VR.cells {v v' : Value} (h : VR ρ v v') : RR ρ v.cells v'.cells := by
  have one : ∀ {u u' : Value}, VR ρ u u' → RR ρ #[u] #[u'] := fun {u u'} h => ⟨rfl, fun i x x' hx hx' => by
    match i with
    | 0 => simp at hx hx'; subst hx; subst hx'; exact h
    | i + 1 => simp at hx⟩
  cases h with
  | agg hx h => exact ⟨hx, h⟩
  | bool b => exact one (.bool b)
  | int k n => exact one (.int k n)
  | string s => exact one (.string s)
  | nilPtr => exact one .nilPtr
  | ptr h => exact one (.ptr h)
  | nilSlice n c => exact one (.nilSlice n c)
  | slice n h hc => exact one (.slice n h hc)
  | nilMap => exact one .nilMap
  | map h => exact one (.map h)
  | func hf hx h1 hy h2 => exact one (.func hf hx h1 hy h2)
  | nilFunc => exact one .nilFunc
  | iface t h => exact one (.iface t h)
  | nilIface => exact one .nilIface
  | tuple hx h => exact one (.tuple hx h)

/-- A value of one cell. -/
def one (v : Value) : Bool := match v with
  | .agg _ | .tuple _ => false
  | _ => true
theorem one_of {v v' : Value} (h : VR ρ v v') (ho : one v = true) : v'.oneCell' = true := by
  cases h <;> first | rfl | simp [one] at ho

/-- A row with some cells written. -/
def patch (c : List Value) (off : Nat) (vs : List Value) : List Value := c.take off ++ vs ++ c.drop (off + vs.length)

theorem patch_get (c : List Value) (off : Nat) (vs : List Value) (h : off + vs.length ≤ c.length) (i : Nat) : (patch c off vs)[i]? = if off ≤ i ∧ i < off + vs.length then vs[i - off]? else c[i]? := by
  unfold patch
  rw [List.append_assoc]
  by_cases h1 : i < off
  · rw [List.getElem?_append_left (by simp; omega), List.getElem?_take, if_pos h1, if_neg (by omega)]
  · rw [List.getElem?_append_right (by simp; omega)]
    simp only [List.length_take]
    rw [Nat.min_eq_left (by omega)]
    by_cases h2 : i < off + vs.length
    · rw [List.getElem?_append_left (by omega), if_pos ⟨by omega, h2⟩]
    · rw [List.getElem?_append_right (by omega), List.getElem?_drop, if_neg (by omega)]
      congr 1
      omega
theorem patch_length (c : List Value) (off : Nat) (vs : List Value) (h : off + vs.length ≤ c.length) : (patch c off vs).length = c.length := by
  unfold patch
  simp
  omega

/-- Rows that are alike, with alike cells written. -/
theorem patch_alike {c c' : Array Value} {off : Nat} {vs vs' : Array Value} (hs : c.size ≤ c'.size) (h : ∀ (i : Nat) (x x' : Value), c[i]? = some x → c'[i]? = some x' → VR ρ x x') (hv : RR ρ vs vs') (hl : off + vs.size ≤ c.size) :
    (patch c.toList off vs.toList).toArray.size ≤ (patch c'.toList off vs'.toList).toArray.size ∧ ∀ (i : Nat) (x x' : Value), (patch c.toList off vs.toList).toArray[i]? = some x → (patch c'.toList off vs'.toList).toArray[i]? = some x' → VR ρ x x' := by
  have h1 : off + vs.toList.length ≤ c.toList.length := by simpa using hl
  have h2 : off + vs'.toList.length ≤ c'.toList.length := by have := hv.1; simp; omega
  refine ⟨by simp only [List.size_toArray, patch_length _ _ _ h1, patch_length _ _ _ h2]; simpa using hs, fun i x x' hx hx' => ?_⟩
  simp only [List.getElem?_toArray] at hx hx'
  rw [patch_get _ _ _ h1] at hx
  rw [patch_get _ _ _ h2] at hx'
  have hsz : vs'.toList.length = vs.toList.length := by have := hv.1; simp; omega
  rw [hsz] at hx'
  split at hx
  · rename_i hc
    rw [if_pos hc] at hx'
    exact hv.2 (i - off) x x' (by simpa using hx) (by simpa using hx')
  · rename_i hc
    rw [if_neg hc] at hx'
    exact h i x x' (by simpa using hx) (by simpa using hx')

theorem setRow_set {b : Nat} {c cs : Array Value} {e : TypeId} {fr : Nat × Nat} (h : w.heap[b]? = some (.cells c e fr)) : w.setRow b cs = { w with heap := w.heap.setIfInBounds b (.cells cs e fr) } := by
  unfold World.setRow
  congr 1
  apply Array.ext'
  rw [Array.toList_modify, Array.toList_setIfInBounds]
  apply List.ext_getElem?
  intro i
  rw [List.getElem?_modify, List.getElem?_set]
  have hb : w.heap.toList[b]? = some (.cells c e fr) := by simpa using h
  by_cases hi : b = i
  · subst hi
    have hlt : b < w.heap.toList.length := by
      rcases Nat.lt_or_ge b w.heap.toList.length with h1 | h1
      · exact h1
      · rw [List.getElem?_eq_none h1] at hb; cases hb
    rw [hb]
    simp [hlt]
    simpa using hlt
  · simp [hi]

def astore (P : Program) (H : AH) (t : TypeId) (x v : Value) : Option AH :=
  match x with
  | .pointer (some ⟨n, off, none⟩) =>
    match H.get n with
    | some (.cells c e fr) =>
      match size? P t with
      | some k =>
        match Nat.beq v.cells.toList.length k, Nat.beq ((c.toList.drop off).take k).length k && Nat.blt 0 k, v.cells.toList.all one with
        | true, true, true => some (H.put n (some (.cells (patch c.toList off v.cells.toList).toArray e fr)))
        | _, _, _ => none
      | none => none
    | _ => none
  | _ => none

theorem astore_ok {t : TypeId} {x v : Value} (h : astore P H t x v = some H1) : (WF H → Le H H1) ∧ ∀ F ρ w x' v', Pre P F ρ H H1 w → VR ρ x x' → VR ρ v v' →
    ∃ w1, (Instr.storeAt t x' v').run P w = .ok () w1 ∧ Sim P F ρ ρ H H1 w w1 := by
  unfold astore at h
  split at h
  case h_2 => cases h
  rename_i n off
  split at h
  case h_2 => cases h
  rename_i c e fr hg
  split at h
  case h_2 => cases h
  rename_i k hk
  split at h
  case h_2 => cases h
  rename_i hk1 hk2 hone
  cases h
  have hk1 := Nat.eq_of_beq_eq_true hk1
  rw [Bool.and_eq_true] at hk2
  have hk0 : 1 ≤ k := by have := hk2.2; simpa [Nat.blt] using this
  have hk2 := Nat.eq_of_beq_eq_true hk2.1
  simp only [List.length_take, List.length_drop, Array.length_toList] at hk1 hk2
  refine ⟨fun hw => Le.put H _ (get_lt hw hg) hw, fun F ρ w x' v' hp hx hv => ?_⟩
  obtain ⟨b, c', h1, h2, rfl, h4, h5, h6, h7⟩ := hp.wr.cells (hp.foot n (by simp only [AH.put_eq]; rw [bit_or]; simp)) hg
  cases hx with
  | ptr ha =>
    rw [ha.to h1]
    have hvc := hv.cells
    have hsz : v'.cells.size = k := by have := hvc.1; omega
    obtain ⟨p1, p2⟩ := patch_alike (off := off) h4 h5 hvc (by omega)
    refine ⟨{ w with heap := w.heap.setIfInBounds b.b (.cells (patch c'.toList off v'.cells.toList).toArray e (0, 0)) }, ?_, Sim.change hp.wr hp.wf hg h1 (.cells e p1 p2) ⟨by rw [List.size_toArray, patch_length _ _ _ (by simp; omega)]; simpa using h6, h7⟩⟩
    have hst := run_storeCells_at P b.b off e v'.cells.toList 0 c' w h2 (by simp; omega) (fun u hu => by
      obtain ⟨i, hi, rfl⟩ := List.mem_iff_getElem.1 hu
      have hi' : i < v.cells.size := by simp at hi; omega
      refine one_of (hvc.2 i _ _ (Array.getElem?_eq_getElem hi') (by simp)) ?_
      rw [List.all_eq_true] at hone
      exact hone _ (by simp))
    simp only [Instr.storeAt, Instr.sureAddr, storeVar, Sem.run_bind, Sem.run_pure, Result.andThen_ok, run_size hk, hsz]
    simp only [ne_eq, not_true, if_false, hst, Nat.add_zero]
    rw [setRow_set h2]
    rfl

/-! ### New blocks -/
def abox (H : AH) (e : TypeId) (v : Value) : Option (Value × AH) :=
  match Nat.blt H.next top with
  | true => some (.pointer (some ⟨H.next, 0, none⟩), H.new (.cells v.cells e))
  | false => none

theorem anew {c : Array Value} {e : TypeId} {H : AH} (ht : H.next < top) (F : Nat → Prop) (ρ : Ren) (w : World) (c' : Array Value) (hp : Pre P F ρ H (H.new (.cells c e)) w) (hc : RR ρ c c') :
    ∃ ρ1, (∃ t, ρ1 H.next = some (some t) ∧ t.b = w.heap.size ∧ t.m = c'.size ∧ ∀ i, P.info? e = some i → i.size = t.k) ∧ AR ρ1 ⟨H.next, 0, none⟩ ⟨w.heap.size, 0, none⟩ ∧ Sim P F ρ ρ1 H (H.new (.cells c e)) w { w with heap := w.heap.push (.cells c' e) } := by
  have hf : ρ H.next = none := hp.fresh _ (Nat.le_refl _) (Nat.lt_succ_self _)
  let t : Tgt := ⟨w.heap.size, c'.size, match P.info? e with | some i => i.size | none => 0⟩
  have he := Ext.ren_new hf (some t)
  have hk : ∀ i, P.info? e = some i → i.size = t.k := fun i hi => by simp only [t, hi]
  refine ⟨ren ρ H.next (some t), ⟨t, by simp [ren], rfl, rfl, hk⟩, .inr ⟨t, by simp [ren], rfl⟩, Sim.alloc hp ht rfl (.cells e (Nat.le_of_eq hc.1) (hc.mono he).2) ⟨rfl, hk⟩⟩

theorem abox_ok {e : TypeId} {v u : Value} (h : abox H e v = some (u, H1)) : Le H H1 ∧ ∀ F ρ w v', Pre P F ρ H H1 w → VR ρ v v' → Gives P F H H1 u ρ w (Instr.box e v') := by
  unfold abox at h
  split at h
  case h_2 => cases h
  rename_i ht
  cases h
  have ht : H.next < top := by
    have h0 : H.next + 1 ≤ top := by simpa [Nat.blt] using ht
    exact h0
  refine ⟨Le.new H _ ht, fun F ρ w v' hp hv => ?_⟩
  obtain ⟨ρ1, _, h1, h2⟩ := anew ht F ρ w v'.cells hp hv.cells
  exact ⟨_, _, _, by simp [Instr.box, newVar, newRow, newObj, Sem.run], .ptr h1, h2⟩
end
end Go.Ev
