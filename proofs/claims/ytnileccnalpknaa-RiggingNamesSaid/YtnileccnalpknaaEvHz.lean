import Derived.Test.YtnileccnalpknaaEvH

/- s[lo:hi] of a slice of which it isn't known how much room it has. -/
namespace Go.Ev
set_option linter.unusedSimpArgs false
set_option linter.unusedVariables false
noncomputable section
open Go
variable {ρ ρ' ρ1 ρ2 : Ren} {F : Nat → Prop} {H H1 H2 : AH} {w w1 w2 : World} {P : Program}

/-- A name that is never given. -/
def AH.skip (H : AH) : AH := @AH.rec (fun _ => AH) (fun t next fp wr => ⟨t, Nat.succ next, fp, wr⟩) H
theorem AH.skip_eq (H : AH) : H.skip = ⟨H.t, H.next + 1, H.fp, H.wr⟩ := rfl
theorem Le.skip (ht : H.next < top) : Le H H.skip :=
  ⟨Nat.le_succ _, fun _ h => h, fun _ h => h, fun _ _ _ => rfl, fun h => ⟨fun n hn => h.none_ n (by rw [AH.skip_eq] at hn; simp only at hn; omega), by rw [AH.skip_eq]; exact ht⟩⟩
theorem Sim.skip (h : Pre P F ρ H H.skip w) : Sim P F ρ (ren ρ H.next none) H H.skip w w := by
  have hf : ρ H.next = none := h.fresh _ (Nat.le_refl _) (Nat.lt_succ_self _)
  have he := Ext.ren_new hf none
  have hr : ∀ n t, ren ρ H.next none n = some (some t) → ρ n = some (some t) := fun n t hn => by
    unfold ren at hn
    split at hn
    · cases hn
    · exact hn
  refine ⟨he, fun n h0 h1 => ?_, fun n b h0 h1 => ?_, fun n t h0 h1 => ?_, ⟨fun n m t u hn hm => h.wr.inj n m t u (hr n t hn) (hr m u hm), fun n t hn => h.wr.bound n t (hr n t hn), fun n o hF hn => ?_⟩, fun _ _ _ => rfl, Nat.le_refl _, rfl, rfl, rfl⟩
  · unfold ren at h1
    split at h1
    · rename_i e; rw [AH.skip_eq]; simp only; omega
    · exact absurd h0 h1
  · unfold ren at h1
    split at h1
    · rename_i e; rw [e, hf] at h0; cases h0
    · rw [h0] at h1; cases h1
  · rw [hr n t h1] at h0; cases h0
  · obtain ⟨t, o', h1, h2, h3, h4⟩ := h.wr.obj n o hF hn
    refine ⟨t, o', ?_, h2, h3.mono he, h4⟩
    unfold ren
    rw [if_neg (by rintro rfl; rw [hf] at h1; cases h1)]
    exact h1

def asliceL (P : Program) (H : AH) (t : TypeId) (x : Value) (lo hi mx : Option Value) : Option (Value × AH) :=
  match mx, P.underlying t, x with
  | none, some (.slice elem), .slice (some a) len c =>
    match size? P elem, bound len (sure c) hi with
    | some k, some h =>
      match bound 0 h lo with
      | some l =>
        match Nat.blt l h, Nat.blt H.next top with
        | true, true =>
          match a.spot, H.get a.block with
          | none, some (.cells _ e _) =>
            match Nat.ble loose c, size? P e with
            | true, some k2 => match Nat.beq k k2 with
              | true => some (.slice (some (a.add (l * k))) (h - l) (c - l), H.touch a.block)
              | false => none
            | _, _ => none
          | _, _ => none
        | false, true => match Nat.beq l h with
          | true => some (.slice (some ⟨H.next, 0, none⟩) 0 loose, H.skip)
          | false => none
        | _, _ => none
      | none => none
    | _, _ => none
  | _, _, _ => none

def asliceH (P : Program) (H : AH) (t : TypeId) (x : Value) (lo hi mx : Option Value) : Option (Value × AH) :=
  match aslice P t x lo hi mx with
  | some v => some (v, H)
  | none => asliceL P H t x lo hi mx

theorem asliceH_ok {t : TypeId} {x v : Value} {lo hi mx : Option Value} (h : asliceH P H t x lo hi mx = some (v, H1)) :
    Le H H1 ∧ ∀ F ρ w x' lo' hi' mx', Pre P F ρ H H1 w → VR ρ x x' → OptR ρ lo lo' → OptR ρ hi hi' → OptR ρ mx mx' → Gives P F H H1 v ρ w (Instr.sliceAt t x' lo' hi' mx') := by
  unfold asliceH at h
  split at h
  · rename_i u hu
    cases h
    refine ⟨Le.refl _, fun F ρ w x' lo' hi' mx' hp hx h1 h2 h3 => ?_⟩
    obtain ⟨v', e1, e2⟩ := aslice_ok hu hx h1 h2 h3
    exact ⟨ρ, w, v', e1 w, e2, Sim.refl hp.wr⟩
  · rename_i hn
    clear hn
    unfold asliceL at h
    split at h
    case h_2 => cases h
    rename_i elem a len c hu
    split at h
    case h_2 => cases h
    rename_i k hh hk h1
    split at h
    case h_2 => cases h
    rename_i l h2
    have run : ∀ (ρ : Ren) (a' : Addr) (c' : Nat) (lo' hi' : Option Value), OptR ρ lo lo' → OptR ρ hi hi' → CR ρ a c c' → ∀ w, (Instr.sliceAt t (.slice (some a') len c') lo' hi' none).run P w = .ok (.slice (if c' = l then some a' else some (a'.add (l * k))) (hh - l) (c' - l)) w ∧ l ≤ hh ∧ hh ≤ c' := by
      intro ρ a' c' lo' hi' hlo hhi hc w
      obtain ⟨hr, hle, hll⟩ := run_bounds (P := P) (isSlice := true) (cap' := c') h1 h2 hlo hhi hc.sure_le w
      have hsl := hc.sure_le
      refine ⟨?_, by omega, by omega⟩
      simp only [Instr.sliceAt, Instr.slice, Sem.run_bind, run_und hu, Result.andThen_ok, hr, run_size hk, Sem.run_pure]
      split <;> simp_all
    split at h
    · rename_i hlt htop
      have hlt := blt_lt hlt
      split at h
      case h_2 => cases h
      rename_i _ _ cc e fr hsp hg
      split at h
      case h_2 => cases h
      rename_i k2 hl hk2
      split at h
      case h_2 => cases h
      rename_i hkk
      have hkk := Nat.eq_of_beq_eq_true hkk
      have hl := Nat.le_of_ble_eq_true hl
      cases h
      refine ⟨Le.touch H _, fun F ρ w x' lo' hi' mx' hp hx hlo hhi hmx => ?_⟩
      have hmx' := hmx.2 rfl
      subst hmx'
      obtain ⟨b, c2, g1, g2, _, g4, g5, g6, g7⟩ := hp.wr.cells (hp.foot a.block (by simp only [AH.touch_eq]; rw [bit_or]; simp)) hg
      cases hx with
      | @slice _ a' _ _ c' ha hc =>
        obtain ⟨r1, r2, r3⟩ := run ρ a' c' lo' hi' hlo hhi hc w
        refine ⟨ρ, w, _, r1, ?_, Sim.touch hp.wr _⟩
        rw [if_neg (by omega)]
        refine .slice _ (ha.add _) (.inr ?_)
        have hbk : k = b.k := by
          unfold size? at hk2
          split at hk2
          · rename_i i hi
            cases hk2
            have := g7 i hi
            omega
          · cases hk2
        rcases hc with ⟨h3, _⟩ | ⟨h3, h4, h5⟩
        · omega
        · have hsure : hh ≤ sure c := by
            have := (run_bounds (P := P) (isSlice := true) (cap' := sure c) h1 h2 hlo hhi (Nat.le_refl _) w).2
            omega
          have hsc : sure c = c - loose := by
            unfold sure
            split
            · rename_i hb
              have := blt_lt hb
              omega
            · rfl
          refine ⟨by omega, by omega, ?_⟩
          rcases h5 with h5 | ⟨t2, h5, h6⟩
          · rw [g1] at h5; cases h5
          · rw [g1] at h5
            cases h5
            have hab : (a.add (l * k)).block = a.block := by unfold Addr.add; split <;> rfl
            have hao : (a.add (l * k)).off = a.off + l * k := by unfold Addr.add; split <;> simp_all
            refine .inr ⟨b, by rw [hab]; exact g1, ?_⟩
            rw [hao, hbk]
            have e1 : l * b.k + (c' - l) * b.k = c' * b.k := by rw [← Nat.add_mul]; congr 1; omega
            omega
    · rename_i hlt htop
      have htop := blt_lt htop
      split at h
      case h_2 => cases h
      rename_i hlh
      have hlh := Nat.eq_of_beq_eq_true hlh
      cases h
      refine ⟨Le.skip htop, fun F ρ w x' lo' hi' mx' hp hx hlo hhi hmx => ?_⟩
      have hmx' := hmx.2 rfl
      subst hmx'
      cases hx with
      | @slice _ a' _ _ c' ha hc =>
        obtain ⟨r1, r2, r3⟩ := run ρ a' c' lo' hi' hlo hhi hc w
        refine ⟨ren ρ H.next none, w, _, r1, ?_, Sim.skip hp⟩
        have hd : ren ρ H.next none H.next = some none := by unfold ren; rw [if_pos rfl]
        have hz : hh - l = 0 := by omega
        rw [hz]
        by_cases hcl : c' = l
        · rw [if_pos hcl]
          exact .slice _ (.inl hd) (.inr ⟨Nat.le_refl _, by omega, .inl hd⟩)
        · rw [if_neg hcl]
          exact .slice _ (.inl hd) (.inr ⟨Nat.le_refl _, by omega, .inl hd⟩)
    · cases h
end
end Go.Ev
