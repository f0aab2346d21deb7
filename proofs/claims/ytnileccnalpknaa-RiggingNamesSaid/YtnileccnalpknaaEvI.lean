import Derived.Test.YtnileccnalpknaaEvH

/- Maps. -/
namespace Go.Ev
set_option linter.unusedSimpArgs false
set_option linter.unusedVariables false
noncomputable section
open Go
variable {ρ ρ' ρ1 ρ2 : Ren} {F : Nat → Prop} {H H1 H2 : AH} {w w1 w2 : World} {P : Program}

def afindAt (P : Program) (kt : TypeId) (k : Value) : List MapEntry → Nat → Option (Option Nat)
  | [], _ => some none
  | e :: es, i =>
    match ground e.key, quiet P (Op.equal kt k e.key) with
    | true, some true => some (some i)
    | true, some false => afindAt P kt k es (i + 1)
    | _, _ => none

inductive MR (ρ : Ren) : List MapEntry → List MapEntry → Prop where
  | nil : MR ρ [] []
  | cons {e e' : MapEntry} {l l' : List MapEntry} (h : ER ρ e e') (t : MR ρ l l') : MR ρ (e :: l) (e' :: l')

theorem MR.length {l l' : List MapEntry} (h : MR ρ l l') : l.length = l'.length := by
  induction h with
  | nil => rfl
  | cons _ _ ih => simp [ih]
theorem MR.get {l l' : List MapEntry} (h : MR ρ l l') : ∀ {i : Nat} {x x' : MapEntry}, l[i]? = some x → l'[i]? = some x' → ER ρ x x' := by
  induction h with
  | nil => intro i x x' hx; simp at hx
  | cons h _ ih =>
    intro i x x' hx hx'
    cases i with
    | zero => simp at hx hx'; subst hx; subst hx'; exact h
    | succ i => exact ih (by simpa using hx) (by simpa using hx')
theorem MR.of : ∀ {l l' : List MapEntry}, l.length = l'.length → (∀ (i : Nat) (x x' : MapEntry), l[i]? = some x → l'[i]? = some x' → ER ρ x x') → MR ρ l l'
  | [], [], _, _ => .nil
  | e :: l, e' :: l', hl, h => .cons (h 0 e e' rfl rfl) (MR.of (by simpa using hl) fun i x x' hx hx' => h (i + 1) x x' (by simpa using hx) (by simpa using hx'))

theorem sameNow_equal {kt : TypeId} {kind : TypeDesc} {a b : Value} {c : Bool} (hu : P.underlying kt = some kind) (h : Instr.sameNow kind a b = some c) (w : World) : (Op.equal kt a b).run P w = .ok c w := by
  unfold Op.equal Op.maxDepth
  obtain ⟨d, hd⟩ : ∃ d, 10000 = d + 1 := ⟨9999, rfl⟩
  rw [hd]
  clear hd
  unfold Instr.sameNow at h
  split at h
  · split at h
    · rename_i hk
      cases h
      subst hk
      simp [Op.equalIn, run_und hu]
    · cases h
  · cases h
    simp [Op.equalIn, run_und hu]
  · cases h
    simp [Op.equalIn, run_und hu]
  · cases h

def FindR (es' : List MapEntry) (i : Nat) : Option Nat → Option (Nat × Value) → Prop
  | none, r => r = none
  | some j, r => i ≤ j ∧ ∃ e', es'[j - i]? = some e' ∧ r = some (j, e'.val)

theorem FindR.succ {e : MapEntry} {es' : List MapEntry} {i : Nat} {a : Option Nat} {r : Option (Nat × Value)} (h : FindR es' (i + 1) a r) : FindR (e :: es') i a r := by
  cases a with
  | none => exact h
  | some j =>
    obtain ⟨h1, e', h2, h3⟩ := h
    refine ⟨by omega, e', ?_, h3⟩
    have : j - i = (j - (i + 1)) + 1 := by omega
    rw [this, List.getElem?_cons_succ]
    exact h2

theorem asking_ok {kt : TypeId} {k : Value} : ∀ {es es' : List MapEntry} {i : Nat} {a : Option Nat}, afindAt P kt k es i = some a → MR ρ es es' → ∃ r, (∀ w, (Instr.findAsking kt k es' i).run P w = .ok r w) ∧ FindR es' i a r := by
  intro es
  induction es with
  | nil => intro es' i a h hm; cases hm; cases h; exact ⟨none, fun w => rfl, rfl⟩
  | cons e es ih =>
    intro es' i a h hm
    cases hm with
    | @cons _ e' _ l' he ht =>
    unfold afindAt at h
    split at h
    · rename_i hg hq
      cases h
      have hk : e'.key = e.key := ground_eq he.1 hg
      refine ⟨some (i, e'.val), fun w => ?_, Nat.le_refl _, e', by simp, rfl⟩
      simp [Instr.findAsking, hk, quiet_run _ hq]
    · rename_i hg hq
      have hk : e'.key = e.key := ground_eq he.1 hg
      obtain ⟨r, h1, h2⟩ := ih h ht
      refine ⟨r, fun w => ?_, h2.succ⟩
      simp [Instr.findAsking, hk, quiet_run _ hq, h1]
    · cases h

theorem now_ok {kt : TypeId} {kind : TypeDesc} {k : Value} (hu : P.underlying kt = some kind) : ∀ {es es' : List MapEntry} {i : Nat} {a : Option Nat} {r : Option (Nat × Value)}, afindAt P kt k es i = some a → MR ρ es es' → Instr.findNow kind k es' i = some r → FindR es' i a r := by
  intro es
  induction es with
  | nil => intro es' i a r h hm hn; cases hm; cases h; cases hn; rfl
  | cons e es ih =>
    intro es' i a r h hm hn
    cases hm with
    | @cons _ e' _ l' he ht =>
    unfold Instr.findNow at hn
    unfold afindAt at h
    have agree : ∀ {c b : Bool}, ground e.key = true → quiet P (Op.equal kt k e.key) = some c → Instr.sameNow kind k e'.key = some b → b = c := by
      intro c b hg hq hs
      have hk : e'.key = e.key := ground_eq he.1 hg
      rw [hk] at hs
      have h1 := sameNow_equal hu hs default
      rw [quiet_run _ hq] at h1
      cases h1
      rfl
    split at hn
    · rename_i hs
      cases hn
      split at h
      · cases h; exact ⟨Nat.le_refl _, e', by simp, rfl⟩
      · rename_i hg hq
        have := agree hg hq hs
        cases this
      · cases h
    · rename_i hs
      split at h
      · rename_i hg hq
        have := agree hg hq hs
        cases this
      · exact (ih h ht hn).succ
      · cases h
    · cases hn

theorem find_ok {kt : TypeId} {k : Value} {es es' : List MapEntry} {a : Option Nat} {kind : TypeDesc} (hu : P.underlying kt = some kind) (h : afindAt P kt k es 0 = some a) (hm : MR ρ es es') : ∃ r, (∀ w, (Instr.findKey kt k es').run P w = .ok r w) ∧ FindR es' 0 a r := by
  cases hn : Instr.findNow kind k es' 0 with
  | some r => exact ⟨r, fun w => by simp [Instr.findKey, run_und hu, hn], now_ok hu h hm hn⟩
  | none =>
    obtain ⟨r, h1, h2⟩ := asking_ok h hm
    exact ⟨r, fun w => by simp [Instr.findKey, run_und hu, hn, h1], h2⟩

theorem WR.map {n : Nat} {es : Array MapEntry} {k : Nat} (h : WR P ρ F H w) (hF : F n) (hx : H.get n = some (.map es k)) :
    ∃ t es', ρ n = some (some t) ∧ w.heap[t.b]? = some (.map es' k) ∧ MR ρ es.toList es'.toList := by
  obtain ⟨t, o', h1, h2, h3, _⟩ := h.obj n _ hF hx
  cases h3 with
  | map _ hs hv => exact ⟨t, _, h1, h2, MR.of (by simpa using hs) fun i x x' hx hx' => hv i x x' (by simpa using hx) (by simpa using hx')⟩
theorem NR.to {n n' : Nat} {t : Tgt} (h : NR ρ n n') (hb : ρ n = some (some t)) : n' = t.b := by
  rcases h with h | ⟨u, h, rfl⟩
  · rw [hb] at h; cases h
  · rw [hb] at h; cases h; rfl
theorem run_getObj {b : Nat} {o : Obj} (h : w.heap[b]? = some o) (hc : ∀ c e f, o ≠ .cells c e f) : (getObj b).run P w = .ok o w := by
  simp only [getObj, Sem.run, h]
theorem run_setObj {b : Nat} {o o' : Obj} (h : w.heap[b]? = some o) (hc : ∀ c e f, o ≠ .cells c e f) : (setObj b o').run P w = .ok () { w with heap := w.heap.setIfInBounds b o' } := by
  simp only [setObj, Sem.run, h]

def alookup (P : Program) (H : AH) (t : TypeId) (x k : Value) (ok : Bool) : Option (Value × AH) :=
  match P.underlying t with
  | some (.map kt et) =>
    match P.underlying kt, ground k, (match x with
      | .map none => some ([], H)
      | .map (some r) => match H.get r with
        | some (.map es _) => some (es.toList, H.touch r)
        | _ => none
      | _ => none : Option (List MapEntry × AH)) with
    | some _, true, some (es, H1) =>
      match quiet P (Instr.checkKey es.isEmpty 10000 kt k), afindAt P kt k es 0 with
      | some _, some (some i) =>
        match es[i]? with
        | some e => some (match ok with | true => .tuple #[e.val, .bool true] | false => e.val, H1)
        | none => none
      | some _, some none =>
        match zero? P et with
        | some z =>
          match ground z with
          | true => some (match ok with | true => .tuple #[z, .bool false] | false => z, H1)
          | false => none
        | none => none
      | _, _ => none
    | _, _, _ => none
  | _ => none

theorem pair_ok {v v' : Value} (h : VR ρ v v') (b : Bool) : VR ρ (.tuple #[v, .bool b]) (.tuple #[v', .bool b]) := .tuple rfl fun i x x' hx hx' => by
  match i with
  | 0 => simp at hx hx'; subst hx; subst hx'; exact h
  | 1 => simp at hx hx'; subst hx; subst hx'; exact .bool b
  | i + 2 => simp at hx

theorem alookup_ok {t : TypeId} {x k v : Value} {ok : Bool} (h : alookup P H t x k ok = some (v, H1)) :
    Le H H1 ∧ ∀ F ρ w x' k', Pre P F ρ H H1 w → VR ρ x x' → VR ρ k k' → Gives P F H H1 v ρ w (Instr.lookup t x' k' ok) := by
  unfold alookup at h
  split at h
  case h_2 => cases h
  rename_i kt et hu
  split at h
  case h_2 => cases h
  rename_i kind es HA hkt hgk hes
  have hA : Le H HA ∧ HA.get = H.get ∧ ∀ F ρ w x', Pre P F ρ H HA w → VR ρ x x' → ∃ es' : Array MapEntry, MR ρ es es'.toList ∧ ((x' = .map none ∧ es' = #[]) ∨ ∃ r' c, x' = .map (some r') ∧ w.heap[r']? = some (.map es' c)) := by
    split at hes
    · cases hes
      refine ⟨Le.refl _, rfl, fun F ρ w x' hp hx => ?_⟩
      cases hx
      exact ⟨#[], .nil, .inl ⟨rfl, rfl⟩⟩
    · rename_i r
      split at hes
      case h_2 => cases hes
      rename_i es0 c hg
      cases hes
      refine ⟨Le.touch H r, rfl, fun F ρ w x' hp hx => ?_⟩
      obtain ⟨t, es', h1, h2, h3⟩ := hp.wr.map (hp.foot r (by simp only [AH.touch_eq]; rw [bit_or]; simp)) hg
      cases hx with
      | map hn =>
        have := hn.to h1
        subst this
        exact ⟨es', h3, .inr ⟨_, _, rfl, h2⟩⟩
    · cases hes
  obtain ⟨lA, gA, hA⟩ := hA
  have run : ∀ {es' : Array MapEntry} {x' : Value} {w : World}, ((x' = .map none ∧ es' = #[]) ∨ ∃ r' c, x' = .map (some r') ∧ w.heap[r']? = some (.map es' c)) → es'.isEmpty = es.isEmpty → ∀ {r : Option (Nat × Value)}, (Instr.findKey kt k es'.toList).run P w = .ok r w → quiet P (Instr.checkKey es.isEmpty 10000 kt k) = some () →
      ∀ {v : Value} {b : Bool}, ((∃ j, r = some (j, v) ∧ b = true) ∨ (r = none ∧ b = false ∧ (zeroValue et).run P w = .ok v w)) →
      (Instr.lookup t x' k ok).run P w = .ok (if ok then .tuple #[v, .bool b] else v) w := by
    intro es' x' w hx' hemp r hf hq v b hr
    rw [← hemp] at hq
    rcases hx' with ⟨rfl, rfl⟩ | ⟨r', c, rfl, hg⟩
    · rcases hr with ⟨j, rfl, rfl⟩ | ⟨rfl, rfl, hr⟩ <;> simp only [Instr.lookup, Sem.run_bind, run_und hu, Result.andThen_ok, Sem.run_pure, quiet_run _ hq, hf] <;> simp_all
    · have hgo := run_getObj (P := P) hg (fun _ _ _ e => by cases e)
      rcases hr with ⟨j, rfl, rfl⟩ | ⟨rfl, rfl, hr⟩ <;> simp only [Instr.lookup, Sem.run_bind, run_und hu, Result.andThen_ok, hgo, Sem.run_pure, quiet_run _ hq, hf] <;> simp_all
  split at h
  · rename_i u i hq hfi
    split at h
    case h_2 => cases h
    rename_i e hei
    cases h
    refine ⟨lA, fun F ρ w x' k' hp hx hk => ?_⟩
    have hkk : k' = k := ground_eq hk hgk
    subst hkk
    obtain ⟨es', hm, hx'⟩ := hA F ρ w x' hp hx
    obtain ⟨r, hr1, hr2⟩ := find_ok hkt hfi hm
    obtain ⟨_, e', he', rfl⟩ := hr2
    have he2 := hm.get hei (by simpa using he')
    have hemp : es'.isEmpty = es.isEmpty := by
      have h1 : es'.size = es.length := by have := hm.length; simpa using this.symm
      unfold Array.isEmpty
      rw [h1]
      cases es <;> simp
    have hrun := run (w := w) hx' hemp (hr1 w) hq (v := e'.val) (b := true) (.inl ⟨_, rfl, rfl⟩)
    refine ⟨ρ, w, _, hrun, ?_, Sim.reads hp.wr gA⟩
    cases ok
    · exact he2.2.1
    · exact pair_ok he2.2.1 true
  · rename_i u hq hfi
    split at h
    case h_2 => cases h
    rename_i z hz
    split at h
    case h_2 => cases h
    rename_i hzg
    cases h
    refine ⟨lA, fun F ρ w x' k' hp hx hk => ?_⟩
    have hkk : k' = k := ground_eq hk hgk
    subst hkk
    obtain ⟨es', hm, hx'⟩ := hA F ρ w x' hp hx
    obtain ⟨r, hr1, hr2⟩ := find_ok hkt hfi hm
    cases hr2
    have hemp : es'.isEmpty = es.isEmpty := by
      have h1 : es'.size = es.length := by have := hm.length; simpa using this.symm
      unfold Array.isEmpty
      rw [h1]
      cases es <;> simp
    have hrun := run (w := w) hx' hemp (hr1 w) hq (v := z) (b := false) (.inr ⟨rfl, rfl, run_zero hz w⟩)
    refine ⟨ρ, w, _, hrun, ?_, Sim.reads hp.wr gA⟩
    cases ok
    · exact ground_refl hzg
    · exact pair_ok (ground_refl hzg) false
  · cases h

def amapUpdate (P : Program) (H : AH) (t : TypeId) (m k v : Value) : Option AH :=
  match P.underlying t, m with
  | some (.map kt _), .map (some r) =>
    match P.underlying kt, ground k, H.get r with
    | some _, true, some (.map es clock) =>
      match quiet P (Instr.checkKey false 10000 kt k), afindAt P kt k es.toList 0 with
      | some _, some (some i) =>
        match es.toList[i]? with
        | some e =>
          match Instr.sameBits 10000 e.key k, ground e.key with
          | true, true => some (H.put r (some (.map (es.toList.set i { e with key := k, val := v }).toArray clock)))
          | _, _ => none
        | none => none
      | some _, some none => some (H.put r (some (.map (es.toList ++ [(⟨k, v, clock⟩ : MapEntry)]).toArray (clock + 1))))
      | _, _ => none
    | _, _, _ => none
  | _, _ => none

theorem amapUpdate_ok {t : TypeId} {m k v : Value} (h : amapUpdate P H t m k v = some H1) : (WF H → Le H H1) ∧ ∀ F ρ w m' k' v', Pre P F ρ H H1 w → VR ρ m m' → VR ρ k k' → VR ρ v v' →
    ∃ w1, (Instr.mapUpdate t m' k' v').run P w = .ok () w1 ∧ Sim P F ρ ρ H H1 w w1 := by
  unfold amapUpdate at h
  split at h
  case h_2 => cases h
  rename_i kt et r hu
  split at h
  case h_2 => cases h
  rename_i kind es clock hkt hgk hg
  have key : ∀ {o : AO}, (WF H → Le H (H.put r (some o))) := fun hw => Le.put H _ (get_lt hw hg) hw
  split at h
  · rename_i u i hq hfi
    split at h
    case h_2 => cases h
    rename_i e hei
    split at h
    case h_2 => cases h
    rename_i hsame hgek
    cases h
    refine ⟨key, fun F ρ w m' k' v' hp hm hk hv => ?_⟩
    have hkk : k' = k := ground_eq hk hgk
    subst hkk
    obtain ⟨t0, es', h1, h2, h3⟩ := hp.wr.map (hp.foot r (by simp only [AH.put_eq]; rw [bit_or]; simp)) hg
    cases hm with
    | map hn =>
      have := hn.to h1
      subst this
      obtain ⟨rr, hr1, hr2⟩ := find_ok hkt hfi h3
      obtain ⟨_, e', he', rfl⟩ := hr2
      have he' : es'[i]? = some e' := by simpa using he'
      have hee := h3.get hei (by simpa using he')
      have hkey : e'.key = e.key := ground_eq hee.1 hgek
      have hgo := run_getObj (P := P) h2 (fun _ _ _ e => by cases e)
      have hso := fun o' => run_setObj (P := P) (o' := o') h2 (fun _ _ _ e => by cases e)
      refine ⟨{ w with heap := w.heap.setIfInBounds t0.b (.map (es'.modify i fun x => { x with key := k', val := v' }) clock) }, ?_, Sim.change hp.wr hp.wf hg h1 (.map clock ?_ fun j x x' hx hx' => ?_) trivial⟩
      · simp [Instr.mapUpdate, run_und hu, hgo, quiet_run _ hq, hr1, he', Instr.keyThatStays, hkey, hsame, hso]
      · have := h3.length
        simp
        simpa using this
      · simp only [List.getElem?_toArray, List.getElem?_set] at hx
        rw [Array.getElem?_modify] at hx'
        by_cases hji : i = j
        · subst hji
          rw [if_pos rfl] at hx hx'
          split at hx
          · cases hx
            rw [he'] at hx'
            cases hx'
            exact ⟨hk, hv, hee.2.2⟩
          · cases hx
        · rw [if_neg hji] at hx hx'
          exact h3.get hx (by simpa using hx')
  · rename_i u hq hfi
    cases h
    refine ⟨key, fun F ρ w m' k' v' hp hm hk hv => ?_⟩
    have hkk : k' = k := ground_eq hk hgk
    subst hkk
    obtain ⟨t0, es', h1, h2, h3⟩ := hp.wr.map (hp.foot r (by simp only [AH.put_eq]; rw [bit_or]; simp)) hg
    cases hm with
    | map hn =>
      have := hn.to h1
      subst this
      obtain ⟨rr, hr1, hr2⟩ := find_ok hkt hfi h3
      cases hr2
      have hgo := run_getObj (P := P) h2 (fun _ _ _ e => by cases e)
      have hso := fun o' => run_setObj (P := P) (o' := o') h2 (fun _ _ _ e => by cases e)
      refine ⟨{ w with heap := w.heap.setIfInBounds t0.b (.map (es'.push (⟨k', v', clock⟩ : MapEntry)) (clock + 1)) }, ?_, Sim.change hp.wr hp.wf hg h1 (.map (clock + 1) ?_ fun j x x' hx hx' => ?_) trivial⟩
      · simp [Instr.mapUpdate, run_und hu, hgo, quiet_run _ hq, hr1, hso]
      · have := h3.length
        simp
        simpa using this
      · have hl := h3.length
        simp only [List.getElem?_toArray] at hx
        rw [Array.getElem?_push] at hx'
        by_cases hj : j < es.toList.length
        · rw [List.getElem?_append_left hj] at hx
          rw [if_neg (by simp at hl; simp at hj; omega)] at hx'
          exact h3.get hx (by simpa using hx')
        · rw [List.getElem?_append_right (by omega)] at hx
          have : j = es'.size := by
            rcases Nat.eq_zero_or_pos (j - es.toList.length) with h9 | h9
            · simp at hl hj h9; omega
            · rw [List.getElem?_eq_none (by simp; simp at h9; omega)] at hx; cases hx
          rw [if_pos this] at hx'
          have hz : j - es.toList.length = 0 := by simp at hl; simp; omega
          rw [hz] at hx
          simp at hx hx'
          subst hx
          subst hx'
          exact ⟨hk, hv, rfl⟩
  · cases h

def amakeMap (H : AH) : Option (Value × AH) :=
  match Nat.blt H.next top with
  | true => some (.map (some H.next), H.new (.map #[] 0))
  | false => none
theorem amakeMap_ok {t : TypeId} {v : Value} (h : amakeMap H = some (v, H1)) : Le H H1 ∧ ∀ F ρ w, Pre P F ρ H H1 w → Gives P F H H1 v ρ w (Instr.makeMap t none) := by
  unfold amakeMap at h
  split at h
  case h_2 => cases h
  rename_i ht
  cases h
  have ht := blt_lt ht
  refine ⟨Le.new H _ ht, fun F ρ w hp => ?_⟩
  have hs := Sim.alloc (o' := .map #[] 0) (t := ⟨w.heap.size, 0, 0⟩) hp ht rfl (.map 0 rfl fun i x x' hx => by simp at hx) trivial
  exact ⟨_, _, .map (some w.heap.size), by simp [Instr.makeMap, newObj, Sem.run], .map (.inr ⟨⟨w.heap.size, 0, 0⟩, by simp [ren], rfl⟩), hs⟩
end
end Go.Ev
