import Derived.Test.YtnileccnalpknaaEvF

/- append. -/
namespace Go.Ev
set_option linter.unusedSimpArgs false
set_option linter.unusedVariables false
noncomputable section
open Go
variable {ρ ρ' ρ1 ρ2 : Ren} {F : Nat → Prop} {H H1 H2 : AH} {w w1 w2 : World} {P : Program}

/-- What is appended. -/
def anews (P : Program) (H : AH) (tx : TypeId) (k : Nat) (x : Value) : Option (Nat × List Value × AH) :=
  match P.underlying tx, x with
  | some (.slice _), .slice none 0 _ => some (0, [], H)
  | some (.slice _), .slice (some a) n _ =>
    match acells H a (n * k) with
    | some (l, H1) =>
      match l.all one with
      | true => some (n, l, H1)
      | false => none
    | none => none
  | _, _ => none

theorem anews_ok {tx : TypeId} {k n : Nat} {x : Value} {l : List Value} (h : anews P H tx k x = some (n, l, H1)) : Le H H1 ∧ H1.get = H.get ∧ H1.next = H.next ∧ H1.wr = H.wr ∧ H1.t = H.t ∧ l.length = n * k ∧ ∀ F ρ w x', Pre P F ρ H H1 w → VR ρ x x' →
    ∃ l' : List Value, RR ρ l.toArray l'.toArray ∧ Src P k tx x' n l' w := by
  unfold anews at h
  split at h
  · rename_i e c hu
    cases h
    refine ⟨Le.refl _, rfl, rfl, rfl, rfl, by simp, fun F ρ w x' hp hx => ?_⟩
    cases hx
    exact ⟨[], ⟨rfl, fun i x x' hx => by simp at hx⟩, Src.ofNil w hu c⟩
  · rename_i e a n c hu
    split at h
    case h_2 => cases h
    rename_i l' H1' ha
    split at h
    case h_2 => cases h
    rename_i hone
    cases h
    obtain ⟨h1, h2, h3, h4⟩ := acells_ok (P := P) ha
    refine ⟨h1, by rw [h2]; rfl, by rw [h2]; rfl, by rw [h2]; rfl, by rw [h2]; rfl, h3, fun F ρ w x' hp hx => ?_⟩
    cases hx with
    | @slice _ a' _ _ c' har hc =>
      obtain ⟨l', h5, h6⟩ := h4 F ρ w a' hp har
      have hl : l'.length = n * k := by have := h5.1; simp at this; omega
      refine ⟨l', h5, Src.ofSlice w hu a' n c' l' hl h6 fun u hu' => ?_⟩
      obtain ⟨i, hi, rfl⟩ := List.mem_iff_getElem.1 hu'
      have hi' : i < l.length := by omega
      refine one_of (h5.2 i l[i] l'[i] (by simp [hi']) (by simp [hi])) ?_
      rw [List.all_eq_true] at hone
      exact hone _ (List.getElem_mem hi')
  · cases h

/-- The cells of a slice as far as its length. -/
def aolds (H : AH) (k : Nat) (base : Option Addr) (n : Nat) : Option (List Value × AH) :=
  match base with
  | none => match n with
    | 0 => some ([], H)
    | _ + 1 => none
  | some a => acells H a (n * k)

theorem aolds_ok {k n : Nat} {base : Option Addr} {l : List Value} (h : aolds H k base n = some (l, H1)) : Le H H1 ∧ H1.get = H.get ∧ H1.next = H.next ∧ H1.wr = H.wr ∧ H1.t = H.t ∧ l.length = n * k ∧ ∀ F ρ w base', Pre P F ρ H H1 w → (∀ c c', VR ρ (.slice base n c) (.slice base' n c') →
    ∃ l' : List Value, RR ρ l.toArray l'.toArray ∧ l'.length = n * k ∧ ∀ sc, (Builtin.firstCells k n (.slice base' n sc)).run P w.drew = .ok l'.toArray w.drew) := by
  cases base with
  | none =>
    cases n with
    | succ n => cases h
    | zero =>
      cases h
      refine ⟨Le.refl _, rfl, rfl, rfl, rfl, by simp, fun F ρ w base' hp c c' hx => ?_⟩
      cases hx
      exact ⟨[], ⟨rfl, fun i x x' hx => by simp at hx⟩, by simp, fun sc => run_firstCells_none w.drew k 0 0 sc⟩
  | some a =>
    obtain ⟨h1, h2, h3, h4⟩ := acells_ok (P := P) h
    refine ⟨h1, by rw [h2]; rfl, by rw [h2]; rfl, by rw [h2]; rfl, by rw [h2]; rfl, h3, fun F ρ w base' hp c c' hx => ?_⟩
    cases hx with
    | @slice _ a' _ _ c' har hc =>
      obtain ⟨l', h5, h6⟩ := h4 F ρ w a' hp har
      have hl : l'.length = n * k := by have := h5.1; simp at this; omega
      exact ⟨l', h5, hl, fun sc => run_firstCells_some w.drew k n a' n sc l' hl (by simpa using h6)⟩

/-- What a call of append must know of the element type. -/
def einfo (P : Program) (t : TypeId) : Option (TypeId × Nat × Value × Nat) :=
  match P.underlying t with
  | some (.slice e) =>
    match P.info? e, zero? P e with
    | some i, some z =>
      match Nat.blt 0 i.size, Nat.beq z.cells.toList.length i.size, Nat.ble (i.bytes * 1000000) 140737488355328 with
      | true, true, true => some (e, i.size, z, i.bytes)
      | _, _, _ => none
    | _, _ => none
  | _ => none

def aappend (P : Program) (H : AH) (t tx : TypeId) (s x : Value) : Option (Value × AH) :=
  match einfo P t, s with
  | some (e, k, _, _), .slice base sLen sCap =>
    match anews P H tx k x with
    | some (n, news, H1) =>
      match Nat.blt (sLen + n) 1000000, Nat.ble (sLen + n) (sure sCap) with
      | true, true =>
        match base with
        | none => match n with
          | 0 => some (.slice none sLen sCap, H1)
          | _ + 1 => none
        | some a =>
          match a.spot, H1.get a.block with
          | none, some (.cells c e1 fr) =>
            match Nat.ble (a.off + sLen * k + news.length) c.toList.length, Nat.blt H1.next (top + 1) with
            | true, true => some (.slice (some a) (sLen + n) sCap, H1.put a.block (some (.cells (patch c.toList (a.off + sLen * k) news).toArray e1 fr)))
            | _, _ => none
          | _, _ => none
      | true, false =>
        match aolds H1 k base sLen with
        | some (olds, H2) =>
          match Nat.blt H2.next top, Nat.blt sCap loose with
          | true, true => some (.slice (some ⟨H2.next, 0, none⟩) (sLen + n) (loose + (sLen + n)), H2.new (.cells (olds ++ news).toArray e))
          | true, false =>
            match base with
            | some ⟨b, 0, none⟩ =>
              match H2.get b with
              | some (.cells _ e1 _) =>
                match Nat.beq e1 e with
                | true => some (.slice (some ⟨H2.next, 0, none⟩) (sLen + n) (loose + (sLen + n)), (H2.put b none).new (.cells (olds ++ news).toArray e))
                | false => none
              | _ => none
            | _ => none
          | _, _ => none
        | none => none
      | _, _ => none
    | none => none
  | _, _ => none

theorem RR.append {a a' b b' : List Value} (h : RR ρ a.toArray a'.toArray) (k : RR ρ b.toArray b'.toArray) : RR ρ (a ++ b).toArray (a' ++ b').toArray := by
  have h1 : a.length = a'.length := by simpa using h.1
  have h2 : b.length = b'.length := by simpa using k.1
  refine ⟨by simp; omega, fun i x x' hx hx' => ?_⟩
  simp only [List.getElem?_toArray] at hx hx'
  by_cases hi : i < a.length
  · rw [List.getElem?_append_left hi] at hx
    rw [List.getElem?_append_left (by omega)] at hx'
    exact h.2 i x x' (by simpa using hx) (by simpa using hx')
  · rw [List.getElem?_append_right (by omega)] at hx
    rw [List.getElem?_append_right (by omega)] at hx'
    rw [h1] at hx
    exact k.2 _ x x' (by simpa using hx) (by simpa using hx')
theorem RR.front {a a' : List Value} (h : RR ρ a.toArray a'.toArray) (z : Array Value) : a.toArray.size ≤ (a'.toArray ++ z).size ∧ ∀ (i : Nat) (x x' : Value), a.toArray[i]? = some x → (a'.toArray ++ z)[i]? = some x' → VR ρ x x' := by
  have h1 : a.length = a'.length := by simpa using h.1
  refine ⟨by simp; omega, fun i x x' hx hx' => ?_⟩
  have hi : i < a.length := by
    rcases Nat.lt_or_ge i a.length with h2 | h2
    · exact h2
    · rw [Array.getElem?_eq_none (by simpa using h2)] at hx; cases hx
  refine h.2 i x x' hx ?_
  rw [Array.getElem?_append_left (by simp; omega)] at hx'
  exact hx'

theorem Sim.reads (h : WR P ρ F H w) (hg : H1.get = H.get) : Sim P F ρ ρ H H1 w w :=
  ⟨Ext.refl _, fun n h0 h1 => absurd h0 h1, fun n b h0 h1 => (by rw [h0] at h1; cases h1), fun n b h0 h1 => (by rw [h0] at h1; cases h1), ⟨h.inj, h.bound, fun n o hF hx => h.obj n o hF (by rw [← hg]; exact hx)⟩, fun _ _ _ => rfl, Nat.le_refl _, rfl, rfl, rfl⟩

theorem einfo_ok {t e : TypeId} {k b : Nat} {z : Value} (h : einfo P t = some (e, k, z, b)) : ∃ i : TypeInfo, P.underlying t = some (.slice e) ∧ P.info? e = some i ∧ i.size = k ∧ i.bytes = b ∧ i.zero = some z ∧ 0 < k ∧ z.cells.size = k ∧ b * 1000000 ≤ 140737488355328 := by
  unfold einfo at h
  split at h
  case h_2 => cases h
  rename_i e' hu
  split at h
  case h_2 => cases h
  rename_i i z' hi hz
  split at h
  case h_2 => cases h
  rename_i h1 h2 h3
  cases h
  have h2 := Nat.eq_of_beq_eq_true h2
  refine ⟨i, hu, hi, rfl, rfl, ?_, blt_lt h1, by simpa using h2, by simpa using h3⟩
  unfold zero? at hz
  rw [hi] at hz
  simp only at hz
  split at hz
  case h_2 => cases hz
  rename_i z'' hz'
  split at hz
  · cases hz; exact hz'
  · cases hz

theorem patch_tail (c : List Value) (off : Nat) (vs : List Value) : (c.take off ++ vs ++ c.drop (off + vs.length)).toArray = (patch c off vs).toArray := rfl

/-- The new row of an append that finds no room. -/
theorem grow_row {e : TypeId} {k m : Nat} {z : Value} {olds olds' news news' : List Value} {t : Tgt} (ho : RR ρ olds.toArray olds'.toArray) (hn : RR ρ news.toArray news'.toArray) (hz : z.cells.size = k) (hl : (olds' ++ news').length = m * k) {cap : Nat} (hc : m ≤ cap)
    (htm : t.m = cap * k) (htk : ∀ i, P.info? e = some i → i.size = t.k) :
    OR ρ (.cells (olds ++ news).toArray e) (.cells ((olds' ++ news').toArray ++ Builtin.zeroCells z.cells (cap - m)) e) ∧ TR P t (.cells ((olds' ++ news').toArray ++ Builtin.zeroCells z.cells (cap - m)) e) := by
  obtain ⟨h1, h2⟩ := RR.front (RR.append ho hn) (Builtin.zeroCells z.cells (cap - m))
  refine ⟨.cells e h1 h2, ?_, htk⟩
  rw [htm, Array.size_append, size_zeroCells, List.size_toArray, hl, hz, ← Nat.add_mul]
  congr 1
  omega

theorem aappend_ok {t tx ty : TypeId} {s x v : Value} (h : aappend P H t tx s x = some (v, H1)) :
    (WF H → Le H H1) ∧ ∀ F ρ w s' x', Pre P F ρ H H1 w → VR ρ s s' → VR ρ x x' → Gives P F H H1 v ρ w (Builtin.append_ #[t, tx] ty #[s', x']) := by
  unfold aappend at h
  split at h
  case h_2 => cases h
  rename_i e k z by_ base sLen sCap he
  obtain ⟨i, hu, hi, rfl, rfl, hz, hk0, hzk, hbytes⟩ := einfo_ok he
  split at h
  case h_2 => cases h
  rename_i n news HA hnews
  obtain ⟨lA, gA, nA, wA, tA, hnl, hN⟩ := anews_ok hnews
  split at h
  case h_3 => cases h
  · rename_i hsm hroom
    have hsm := blt_lt hsm
    have hroom : sLen + n ≤ sure sCap := by simpa using hroom
    split at h
    · split at h
      case h_2 => cases h
      cases h
      refine ⟨fun _ => lA, fun F ρ w s' x' hp hs hx => ?_⟩
      obtain ⟨l', h1, h2⟩ := hN F ρ w x' hp hx
      cases hs
      refine ⟨ρ, w, .slice none sLen sCap, ?_, .nilSlice _ _, Sim.reads hp.wr gA⟩
      have hle : sLen ≤ sCap := by
        have : sure sCap ≤ sCap := by unfold sure; split <;> omega
        omega
      rcases h2.kind with ⟨e', hk'⟩ | hk' <;> simp [Builtin.append_, run_und hu, run_und hk', sizeOf, typeInfo, hi, h2.len, hle, h2.cells]
    · rename_i a
      split at h
      case h_2 => cases h
      rename_i c e1 fr hsp hg
      split at h
      case h_2 => cases h
      rename_i hfit htop
      cases h
      have hfit : a.off + sLen * i.size + news.length ≤ c.toList.length := by simpa using hfit
      refine ⟨fun hw => lA.trans (Le.put HA _ (get_lt (lA.wf hw) hg) (lA.wf hw)), fun F ρ w s' x' hp hs hx => ?_⟩
      have lP := Le.put HA (some (.cells (patch c.toList (a.off + sLen * i.size) news).toArray e1 fr)) (get_lt (lA.wf hp.wf) hg) (lA.wf hp.wf)
      obtain ⟨l', h1, h2⟩ := hN F ρ w x' (hp.first lP) hx
      have sA : Sim P F ρ ρ H HA w w := Sim.reads hp.wr gA
      have pA := hp.next lA sA
      obtain ⟨b, c', b1, b2, rfl, b4, b5, b6, b7⟩ := pA.wr.cells (pA.foot _ (by simp only [AH.put_eq]; rw [bit_or]; simp)) hg
      cases hs with
      | @slice _ a' _ _ cap' har hc =>
        rw [har.to b1, hsp]
        have hcap : sLen + n ≤ cap' := Nat.le_trans hroom hc.sure_le
        have hll : news.length = l'.length := by simpa using h1.1
        obtain ⟨p1, p2⟩ := patch_alike (off := a.off + sLen * i.size) (vs := news.toArray) (vs' := l'.toArray) b4 b5 h1 (by simp at hfit ⊢; exact hfit)
        refine ⟨ρ, { w with heap := w.heap.setIfInBounds b.b (.cells (patch c'.toList (a.off + sLen * i.size) l').toArray e1 (0, 0)) }, .slice (some ⟨b.b, a.off, none⟩) (sLen + n) cap', ?_, ?_, sA.trans lA (Sim.change pA.wr pA.wf hg b1 (.cells e1 p1 p2) ⟨by rw [List.size_toArray, patch_length _ _ _ (by simp at hfit ⊢; omega)]; simpa using b6, b7⟩) lP⟩
        · have hst := run_storeCells_at P b.b (a.off + sLen * i.size) e1 l' 0 c' w b2 (by simp at hfit ⊢; omega) h2.one
          simp only [Nat.add_zero] at hst
          rw [setRow_set b2] at hst
          rcases h2.kind with ⟨e', hk'⟩ | hk' <;> simp [Builtin.append_, run_und hu, run_und hk', sizeOf, typeInfo, hi, h2.len, hcap, h2.cells, Addr.add_lit, hst, patch]
        · have := har.to b1
          rw [hsp] at this
          rw [← this]
          exact .slice _ har hc
  · rename_i hsm hroom
    have hsm := blt_lt hsm
    split at h
    case h_2 => cases h
    rename_i olds HB holds
    obtain ⟨lB, gB, nB, wB, tB, hol, hO⟩ := aolds_ok (P := P) holds
    have hb1 : (sLen + n) * i.bytes ≤ 140737488355328 := by
      rw [Nat.mul_comm]
      exact Nat.le_trans (Nat.mul_le_mul_left _ (by omega)) hbytes
    split at h
    case h_3 => cases h
    · rename_i htop hex
      simp only [Option.some.injEq, Prod.mk.injEq] at h
      obtain ⟨rfl, rfl⟩ := h
      have htop := blt_lt htop
      have hex := blt_lt hex
      have lN := Le.new HB (.cells (olds ++ news).toArray e) htop
      refine ⟨fun hw => (lA.trans lB).trans lN, fun F ρ w s' x' hp hs hx => ?_⟩
      obtain ⟨l', h1, h2⟩ := hN F ρ w x' (hp.first (lB.trans lN)) hx
      have sA : Sim P F ρ ρ H HA w w := Sim.reads hp.wr gA
      have pA := hp.next lA sA
      have sB : Sim P F ρ ρ HA HB w w := Sim.reads pA.wr gB
      have pB := pA.next lB sB
      obtain ⟨base', cap', rfl, hcap⟩ : ∃ base' cap', s' = .slice base' sLen cap' ∧ cap' = sCap := by
        cases hs with
        | nilSlice => exact ⟨_, _, rfl, rfl⟩
        | slice _ har hc =>
          rcases hc with hc | hc
          · exact ⟨_, _, rfl, hc.2⟩
          · omega
      subst hcap
      have hno : cap' < sLen + n := by
        have : sure cap' = cap' := by
          unfold sure
          have : Nat.blt cap' loose = true := by simp [Nat.blt]; omega
          rw [this]
        have h3 : ¬ sLen + n ≤ sure cap' := fun hle => by
          rw [Nat.ble_eq_true_of_le hle] at hroom
          cases hroom
        omega
      obtain ⟨o', h3, h4, h5⟩ := hO F ρ w base' (pA.first lN) cap' cap' hs
      have hrun := run_append_grow_src (P := P) w t tx ty e i z hu hi hz base' sLen cap' o' (h5 cap') x' n l' h2 hno (by omega) (growslice_fits hno hb1)
      obtain ⟨C, hC⟩ : ∃ C, grownCap w (sLen + n) cap' e = C := ⟨_, rfl⟩
      have hCge := grownCap_ge w (sLen + n) cap' e
      rw [hC] at hrun hCge
      have hll : (o' ++ l').length = (sLen + n) * i.size := by
        rw [List.length_append, h4, h2.newsLen, Nat.add_mul]
      have hf : ρ HB.next = none := pB.fresh _ (Nat.le_refl _) (Nat.lt_succ_self _)
      have hext := Ext.ren_new hf (some ⟨w.heap.size, C * i.size, i.size⟩)
      have hti : ∀ j, P.info? e = some j → j.size = i.size := fun j hj => by rw [hi] at hj; cases hj; rfl
      obtain ⟨q1, q2⟩ := grow_row (P := P) (t := ⟨w.heap.size, C * i.size, i.size⟩) (e := e) (h3.mono hext) (h1.mono hext) hzk hll hCge rfl hti
      refine ⟨_, _, _, hrun, ?_, (sA.trans lA (sB.trans lB (Sim.drew (Sim.alloc pB htop rfl q1 q2) (w.drawn + 1)) lN) (lB.trans lN))⟩
      refine .slice _ (.inr ⟨⟨w.heap.size, C * i.size, i.size⟩, by simp [ren], rfl⟩) (.inr ⟨by omega, by omega, .inr ⟨⟨w.heap.size, C * i.size, i.size⟩, by simp [ren], by simp⟩⟩)
    · rename_i htop hex
      split at h
      case h_2 => cases h
      rename_i b
      split at h
      case h_2 => cases h
      rename_i c0 e1 fr hg
      split at h
      case h_2 => cases h
      rename_i hee
      simp only [Option.some.injEq, Prod.mk.injEq] at h
      obtain ⟨rfl, rfl⟩ := h
      have htop := blt_lt htop
      have hee := Nat.eq_of_beq_eq_true hee
      subst hee
      have hloose : loose ≤ sCap := by
        rcases Nat.lt_or_ge sCap loose with h3 | h3
        · have : Nat.blt sCap loose = true := by simp [Nat.blt]; omega
          rw [this] at hex
          cases hex
        · exact h3
      have hlt : WF HB → b < HB.next := fun hw => get_lt hw hg
      refine ⟨fun hw => (lA.trans lB).trans ((Le.put HB none (hlt (lB.wf (lA.wf hw))) (lB.wf (lA.wf hw))).trans (Le.new _ _ htop)), fun F ρ w s' x' hp hs hx => ?_⟩
      have hwB := lB.wf (lA.wf hp.wf)
      have lN := (Le.put HB none (hlt hwB) hwB).trans (Le.new (HB.put b none) (.cells (olds ++ news).toArray e1) htop)
      obtain ⟨l', h1, h2⟩ := hN F ρ w x' (hp.first (lB.trans lN)) hx
      have sA : Sim P F ρ ρ H HA w w := Sim.reads hp.wr gA
      have pA := hp.next lA sA
      have sB : Sim P F ρ ρ HA HB w w := Sim.reads pA.wr gB
      have pB := pA.next lB sB
      obtain ⟨tg, c', b1, b2, rfl, b4, b5, b6, b7⟩ := pB.wr.cells (pB.foot _ (by simp only [AH.put_eq, AH.new_eq]; rw [bit_or]; simp)) hg
      have hkk : i.size = tg.k := b7 i hi
      cases hs with
      | @slice _ a' _ _ cap' har hc =>
        obtain ⟨o', h3, h4, h5⟩ := hO F ρ w (some a') (pA.first lN) sCap cap' (.slice _ har hc)
        have ha' := har.to b1
        simp only at ha'
        subst ha'
        have hcc : sCap - loose ≤ cap' ∧ cap' * tg.k ≤ tg.m := by
          rcases hc with hc | ⟨_, hc1, hc2⟩
          · omega
          · refine ⟨hc1, ?_⟩
            rcases hc2 with hc2 | ⟨t2, hc2, hc3⟩
            · simp only at hc2; rw [b1] at hc2; cases hc2
            · simp only at hc2 hc3; rw [b1] at hc2; cases hc2; omega
        have hf : ρ HB.next = none := pB.fresh _ (Nat.le_refl _) (by simp only [AH.put_eq, AH.new_eq]; omega)
        have hne : b ≠ HB.next := by have := hlt hwB; omega
        have hext : ∀ u, Ext ρ (ren (ren ρ b none) HB.next (some u)) := fun u => ⟨fun m y hy => by
          unfold ren
          split
          · rename_i e; rw [e, hf] at hy; cases hy
          · split
            · exact .inr rfl
            · exact .inl hy⟩
        have hti : ∀ j, P.info? e1 = some j → j.size = i.size := fun j hj => by rw [hi] at hj; cases hj; rfl
        by_cases hin : sLen + n ≤ cap'
        · have hbig : (sLen + n) * i.size ≤ c'.size := by
            rw [b6, hkk]
            exact Nat.le_trans (Nat.mul_le_mul_right _ hin) hcc.2
          have hfit : sLen * i.size + l'.length ≤ c'.size := by
            rw [h2.newsLen, ← Nat.add_mul]
            exact hbig
          have hst := run_storeCells_at P tg.b (0 + sLen * i.size) e1 l' 0 c' w b2 (by simpa using hfit) h2.one
          simp only [Nat.add_zero, Nat.zero_add] at hst
          rw [setRow_set b2] at hst
          have hold' : o' = c'.toList.take (sLen * i.size) := by
            have h6 := h5 cap'
            have h7 := run_firstCells_some (P := P) w.drew i.size sLen ⟨tg.b, 0, none⟩ sLen cap' (c'.toList.take (sLen * i.size)) (by simp; rw [Nat.add_mul] at hbig; omega) (fun j u hu => by
              rw [add_at, Nat.zero_add]
              have : w.drew.cell? ⟨tg.b, j, none⟩ = c'[j]? := cell_at (w := w.drew) b2
              rw [this]
              rw [List.getElem?_take] at hu
              split at hu
              · simpa using hu
              · cases hu)
            rw [h6] at h7
            simpa using h7
          have hor : OR (ren (ren ρ b none) HB.next (some tg)) (.cells (olds ++ news).toArray e1) (.cells (patch c'.toList (sLen * i.size) l').toArray e1 (0, 0)) := by
            have hpre := RR.front (RR.append (h3.mono (hext tg)) (h1.mono (hext tg))) (c'.toList.drop (sLen * i.size + l'.length)).toArray
            have e2 : (o' ++ l').toArray ++ (c'.toList.drop (sLen * i.size + l'.length)).toArray = (patch c'.toList (sLen * i.size) l').toArray := by
              unfold patch
              rw [hold']
              apply Array.ext'
              simp
            rw [e2] at hpre
            exact .cells e1 hpre.1 hpre.2
          have hTR : TR P tg (.cells (patch c'.toList (sLen * i.size) l').toArray e1 (0, 0)) := ⟨by rw [List.size_toArray, patch_length _ _ _ (by simpa using hfit)]; simpa using b6, b7⟩
          refine ⟨_, { w with heap := w.heap.setIfInBounds tg.b (.cells (patch c'.toList (sLen * i.size) l').toArray e1 (0, 0)) }, .slice (some ⟨tg.b, 0, none⟩) (sLen + n) cap', ?_, ?_, sA.trans lA (sB.trans lB (Sim.leave pB hg b1 htop (.inl ⟨rfl, rfl⟩) hor hTR) lN) (lB.trans lN)⟩
          · rcases h2.kind with ⟨e', hk'⟩ | hk' <;> simp [Builtin.append_, run_und hu, run_und hk', sizeOf, typeInfo, hi, h2.len, hin, h2.cells, Addr.add_lit, hst, patch]
          · refine .slice _ (.inr ⟨tg, by simp [ren], rfl⟩) (.inr ⟨by omega, by omega, .inr ⟨tg, by simp [ren], by simpa using hcc.2⟩⟩)
        · have hno : cap' < sLen + n := by omega
          have hrun := run_append_grow_src (P := P) w t tx ty e1 i z hu hi hz (some ⟨tg.b, 0, none⟩) sLen cap' o' (h5 cap') x' n l' h2 hno (by omega) (growslice_fits hno hb1)
          obtain ⟨C, hC⟩ : ∃ C, grownCap w (sLen + n) cap' e1 = C := ⟨_, rfl⟩
          have hCge := grownCap_ge w (sLen + n) cap' e1
          rw [hC] at hrun hCge
          have hll : (o' ++ l').length = (sLen + n) * i.size := by
            rw [List.length_append, h4, h2.newsLen, Nat.add_mul]
          obtain ⟨q1, q2⟩ := grow_row (P := P) (t := ⟨w.heap.size, C * i.size, i.size⟩) (e := e1) (h3.mono (hext ⟨w.heap.size, C * i.size, i.size⟩)) (h1.mono (hext ⟨w.heap.size, C * i.size, i.size⟩)) hzk hll hCge rfl hti
          refine ⟨_, _, _, hrun, ?_, sA.trans lA (sB.trans lB (Sim.leave pB hg b1 htop (.inr ⟨w.drawn + 1, rfl, rfl⟩) q1 q2) lN) (lB.trans lN)⟩
          refine .slice _ (.inr ⟨⟨w.heap.size, C * i.size, i.size⟩, by simp [ren], rfl⟩) (.inr ⟨by omega, by omega, .inr ⟨⟨w.heap.size, C * i.size, i.size⟩, by simp [ren], by simp⟩⟩)
end
end Go.Ev
