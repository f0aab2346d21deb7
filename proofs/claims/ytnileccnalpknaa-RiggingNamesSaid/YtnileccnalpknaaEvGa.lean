import Derived.Test.YtnileccnalpknaaEvFe

/- Evaluations in pieces: where a piece ends, the state is written out, without what isn't wanted any more, and the next theorem goes on from there. -/
namespace Go.Ev
set_option linter.unusedSimpArgs false
set_option linter.unusedVariables false
noncomputable section
open Go
variable {P : Program}

/-- What a piece of code does. -/
def Does (P : Program) (c : Code) (a : AA) (H : AH) (x : Exit) (a1 : AA) (H1 : AH) : Prop :=
  (WF H → Le H H1) ∧ ∀ F ρ w act, Pre P F ρ H H1 w → AcR ρ a act →
    c.wpIn (fen none) 0 P (fun x2 act2 w2 => x2 = x ∧ ∃ ρ1, AcR ρ1 a1 act2 ∧ Sim P F ρ ρ1 H H1 w w2) act w

theorem Does.of (K : Known P) (hP : Plain P) (hF : P.follows .mixedOrders = true) {n : Nat} {c : Code} {a a1 : AA} {H H1 : AH} {x : Exit} (h : evF P K n none c a H = some (x, a1, H1)) : Does P c a H x a1 H1 := by
  rw [evF_eq] at h
  obtain ⟨l, k⟩ := @ev_ok' P K hP _ (@evDraw_ok P K hP hF) n _ _ _ _ _ _ _ h
  exact ⟨l, fun F ρ w act hp hac => k F ρ w act none hp hac .none⟩

theorem Does.seq {c d : Code} {a a1 a2 : AA} {H H1 H2 : AH} {x : Exit} (h1 : Does P c a H .normal a1 H1) (h2 : Does P d a1 H1 x a2 H2) : Does P (.seq c d) a H x a2 H2 := by
  haveI := nothingKnown P
  refine ⟨fun hw => (h1.1 hw).trans (h2.1 ((h1.1 hw).wf hw)), fun F ρ w act hp hac => ?_⟩
  have L1 := h1.1 hp.wf
  have L2 := h2.1 (L1.wf hp.wf)
  refine wpIn_seq (post_mono (rd' := none) (h1.2 F ρ w act (hp.first L2) hac) fun ρ1 act2 w2 g1 g2 => ?_)
  exact post_mono (rd' := none) (h2.2 F ρ1 w2 act2 (hp.next L1 g2) g1) fun ρ2 act3 w3 g3 g4 => ⟨rfl, ρ2, g3, g2.trans L1 g4 L2⟩

/-! ### What isn't wanted any more -/
def keepT (t : T AO) (keep : List Nat) : T AO := @List.rec Nat (fun _ => T AO) .leaf (fun n _ ih => T.set 60 ih n (T.get t n)) keep
def full (n : Nat) : Nat := Nat.sub (Nat.pow 2 n) 1
def prune (keep : List Nat) (H : AH) : AH := @AH.rec (fun _ => AH) (fun t next fp wr => ⟨keepT t keep, next, Nat.lor fp (full next), Nat.lor wr (full next)⟩) H
theorem prune_eq (keep : List Nat) (H : AH) : prune keep H = ⟨keepT H.t keep, H.next, H.fp ||| full H.next, H.wr ||| full H.next⟩ := rfl
def allLow (keep : List Nat) : Bool := keep.all fun n => Nat.blt n top
theorem keepT_get (t : T AO) : ∀ (keep : List Nat), allLow keep = true → ∀ n o, (keepT t keep).get n = some o → t.get n = some o
  | [], _, n, o, h => by cases h
  | m :: keep, hk, n, o, h => by
    unfold allLow at hk
    rw [List.all_cons, Bool.and_eq_true] at hk
    have hm := blt_lt hk.1
    unfold top at hm
    have h' : (T.set 60 (keepT t keep) m (T.get t m)).get n = some o := h
    rw [T.get_set 60 _ _ _ _ (by omega)] at h'
    split at h'
    · rename_i e; rw [e]; exact h'
    · exact keepT_get t keep hk.2 n o h'
theorem full_bit {n m : Nat} : (full n).testBit m = decide (m < n) := by
  show (2 ^ n - 1).testBit m = _
  rw [Nat.testBit_two_pow_sub_one]
theorem Le.prune (H : AH) (keep : List Nat) (hk : allLow keep = true) : Le H (prune keep H) := by
  refine ⟨Nat.le_refl _, fun n h => ?_, fun n h => ?_, fun n hn hw => ?_, fun hw => ⟨fun n hn => ?_, hw.top⟩⟩
  · rw [prune_eq]; simp only; rw [Nat.testBit_or, h]; rfl
  · rw [prune_eq]; simp only; rw [Nat.testBit_or, h]; rfl
  · rw [prune_eq] at hw
    simp only at hw
    rw [Nat.testBit_or, full_bit, decide_eq_true hn, Bool.or_true] at hw
    cases hw
  · have h0 := hw.none_ n hn
    cases hg : (Ev.prune keep H).get n with
    | none => rfl
    | some o =>
      have := keepT_get H.t keep hk n o hg
      rw [show H.t.get n = none from h0] at this
      cases this
theorem Sim.prune {ρ : Ren} {F : Nat → Prop} {H : AH} {w : World} (h : WR P ρ F H w) (keep : List Nat) (hk : allLow keep = true) : Sim P F ρ ρ H (Ev.prune keep H) w w :=
  ⟨Ext.refl _, fun n h0 h1 => absurd h0 h1, fun n b h0 h1 => (by rw [h0] at h1; cases h1), fun n b h0 h1 => (by rw [h0] at h1; cases h1),
    ⟨h.inj, h.bound, fun n o hF hn => h.obj n o hF (keepT_get H.t keep hk n o hn)⟩, fun _ _ _ => rfl, Nat.le_refl _, rfl, rfl, rfl⟩
theorem Does.start {c : Code} {a a2 : AA} {H H2 : AH} {x : Exit} (keep : List Nat) (hk : allLow keep = true) (h : Does P c a (prune keep H) x a2 H2) : Does P c a H x a2 H2 := by
  haveI := nothingKnown P
  have L1 := Le.prune H keep hk
  refine ⟨fun hw => L1.trans (h.1 (L1.wf hw)), fun F ρ w act hp hac => ?_⟩
  have s1 := Sim.prune hp.wr keep hk
  have L2 := h.1 (L1.wf hp.wf)
  exact post_mono (rd' := none) (h.2 F ρ w act (hp.next L1 s1) hac) fun ρ2 act3 w3 g3 g4 => ⟨rfl, ρ2, g3, s1.trans L1 g4 L2⟩

/-! ### Cuts -/
def cutC : Nat → Code → Code
  | 0, _ => .skip
  | n + 1, .seq x y => .seq x (cutC n y)
  | _ + 1, _ => .refuse ""
def tailC : Nat → Code → Code
  | 0, c => c
  | n + 1, .seq _ y => tailC n y
  | _ + 1, c => c
def ranTo (keep : List Nat) (r : Option (Exit × AA × AH)) : Option (AA × AH) :=
  @Option.rec (Exit × AA × AH) (fun _ => Option (AA × AH)) none (fun q => @Bool.rec (fun _ => Option (AA × AH)) none (some (q.2.1, prune keep q.2.2)) (isNormal q.1)) r
theorem ranTo_eq {keep : List Nat} {r : Option (Exit × AA × AH)} {a1 : AA} {Hp : AH} (h : ranTo keep r = some (a1, Hp)) : ∃ H1, r = some (.normal, a1, H1) ∧ Hp = prune keep H1 := by
  cases r with
  | none => cases h
  | some q =>
    obtain ⟨x, a, H⟩ := q
    cases x <;> first | (cases h; done) | (cases h; exact ⟨H, rfl, rfl⟩)

theorem evF_seq {K : Known P} {n : Nat} {rd : Option Nat} {c d : Code} {a a2 : AA} {H H2 : AH} (h : evF P K (n + 1) rd (.seq c d) a H = some (.normal, a2, H2)) : ∃ a1 H1, evF P K n rd c a H = some (.normal, a1, H1) ∧ evF P K n rd d a1 H1 = some (.normal, a2, H2) := by
  have h' : (obn (evF P K n rd c a H) fun r => fnext (evF P K n rd d) r) = some (.normal, a2, H2) := h
  cases he : evF P K n rd c a H with
  | none => rw [he] at h'; cases h'
  | some q =>
    rw [he] at h'
    obtain ⟨x, a1, H1⟩ := q
    cases x <;> first | (cases h'; done) | exact ⟨a1, H1, rfl, h'⟩

theorem does_cut (K : Known P) (hP : Plain P) (hF : P.follows .mixedOrders = true) {a1 a2 : AA} {H1 H2 : AH} {x : Exit} : ∀ (m n : Nat) (c : Code) (a : AA) (H : AH), evF P K n none (cutC m c) a H = some (.normal, a1, H1) →
    Does P (tailC m c) a1 H1 x a2 H2 → Does P c a H x a2 H2
  | 0, n, c, a, H, h, ht => by
    cases n with
    | zero => cases h
    | succ n => cases h; exact ht
  | m + 1, n, c, a, H, h, ht => by
    cases n with
    | zero => cases h
    | succ n =>
      cases c with
      | seq y z =>
        obtain ⟨a3, H3, h1, h2⟩ := evF_seq h
        exact (Does.of K hP hF h1).seq (does_cut K hP hF m n z a3 H3 h2 ht)
      | _ => cases h
/-- One piece, and what follows it. -/
theorem does_piece (K : Known P) (hP : Plain P) (hF : P.follows .mixedOrders = true) (keep : List Nat) (hk : allLow keep = true) (m n : Nat) {c : Code} {a a1 a2 : AA} {H Hp H2 : AH} {x : Exit}
    (h : ranTo keep (evF P K n none (cutC m c) a H) = some (a1, Hp)) (ht : Does P (tailC m c) a1 Hp x a2 H2) : Does P c a H x a2 H2 := by
  obtain ⟨H1, h1, rfl⟩ := ranTo_eq h
  exact does_cut K hP hF m n c a H h1 (ht.start keep hk)

open Classical in
/-- An evaluator that knows one thing. -/
def knows (c : Code) (a : AA) (H : AH) (r : Exit × AA × AH) : EvCode := fun rd c' a' H' => if rd = none ∧ c' = c ∧ a' = a ∧ H' = H then some r else none
theorem knows_ok {c : Code} {a a1 : AA} {H H1 : AH} {x : Exit} (h : Does P c a H x a1 H1) : CodeOk P (knows c a H (x, a1, H1)) := by
  intro rd c' a' H' x' a1' H1' he
  unfold knows at he
  split at he
  · rename_i hc
    obtain ⟨rfl, rfl, rfl, rfl⟩ := hc
    cases he
    refine ⟨h.1, fun F ρ w act rd' hp hac hr => ?_⟩
    cases hr
    exact h.2 F ρ w act hp hac
  · cases he
def isTrueA (r : Option (Value × AH)) : Bool := @Option.rec (Value × AH) (fun _ => Bool) false (fun p => @Option.rec Bool (fun _ => Bool) false (fun b => b) (boolV p.1)) r
/-- A call without arguments whose body is run in pieces. -/
theorem run_does {f : FuncId} {fn : Func} {c : Code} (hf : P.funcs[f]? = some fn) (hb : fn.body = some c) (hn : Nat.ble fn.ntmps 1000000 = true) {x : Exit} {a1 : AA} {H1 : AH} (h : Does P c ⟨⟨.leaf, fn.ntmps⟩, []⟩ H0 x a1 H1)
    (ha : isTrueA (fAnswer P fn (x, a1, H1)) = true) (w : World) : Calls P f #[] w fun e w' => e = .returned (.bool true) ∧ Go.RowKit.Below w.heap.size w w' := by
  have hE := knows_ok h
  obtain ⟨H2, h2⟩ : ∃ H2, fAnswer P fn (x, a1, H1) = some (.bool true, H2) := by
    generalize fAnswer P fn (x, a1, H1) = r at ha
    match r, ha with
    | some (.bool true, H2), _ => exact ⟨H2, rfl⟩
  have hc : evCallee P (knows c ⟨⟨.leaf, fn.ntmps⟩, []⟩ H0 (x, a1, H1)) f [] H0 = some (.bool true, H2) := by
    rw [← fCallee_eq]
    unfold fCallee bodyOf?
    rw [hf]
    simp only [hb]
    show @Bool.rec (fun _ => Option (Value × AH)) none (obn (knows c ⟨⟨.leaf, fn.ntmps⟩, []⟩ H0 (x, a1, H1) none c ⟨⟨.leaf, 0 + (fn.ntmps - 0)⟩, []⟩ H0) fun r => fAnswer P fn r) (Nat.ble (0 + fn.ntmps) 1000000) = _
    simp only [Nat.zero_add, Nat.sub_zero, hn]
    show (obn (knows c ⟨⟨.leaf, fn.ntmps⟩, []⟩ H0 (x, a1, H1) none c ⟨⟨.leaf, fn.ntmps⟩, []⟩ H0) fun r => fAnswer P fn r) = _
    unfold knows
    rw [if_pos ⟨rfl, rfl, rfl, rfl⟩]
    exact h2
  obtain ⟨_, k⟩ := evCallee_ok hE hc
  have hp : Pre P (fun _ => True) (fun _ => none) H0 H2 w := by
    refine ⟨⟨fun n m t u h => (by cases h), fun n t h => (by cases h), fun n o _ h => ?_⟩, fun _ _ => trivial, fun _ _ => trivial, fun _ _ _ => rfl, wf_H0⟩
    rw [wf_H0.none_ n (Nat.zero_le _)] at h
    cases h
  refine Calls.mono (callsIn_wide.1 (k (fun _ => True) (fun _ => none) w #[] hp (LR.nil.row))) fun e w' hb => ?_
  obtain ⟨ρ1, v', rfl, h1, h2⟩ := hb
  cases h1
  exact ⟨rfl, h2.os, h2.tape, h2.output, h2.size, fun k hk => h2.frame k hk fun n t hn _ => by cases hn⟩
/-- The last piece. -/
theorem does_last (K : Known P) (hP : Plain P) (hF : P.follows .mixedOrders = true) {fn : Func} {n : Nat} {c : Code} {a : AA} {H : AH} (h : isTrueA (obn (evF P K n none c a H) fun r => fAnswer P fn r) = true) :
    ∃ x a1 H1, Does P c a H x a1 H1 ∧ isTrueA (fAnswer P fn (x, a1, H1)) = true := by
  cases he : evF P K n none c a H with
  | none => rw [he] at h; cases h
  | some r =>
    obtain ⟨x, a1, H1⟩ := r
    rw [he] at h
    exact ⟨x, a1, H1, Does.of K hP hF he, h⟩
end
end Go.Ev
