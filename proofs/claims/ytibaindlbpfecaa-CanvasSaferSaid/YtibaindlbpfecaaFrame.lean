import Derived.Test.YtibaindlbpfecaaRows
import Derived.Test.YtibaindlbpfecaaBase
import Derived.ProofKit
import Derived.OpenShut
import Derived.Carry
import Derived.ReadAgain
import Derived.ChangeSame
import Derived.JoinedOf
import Derived.JoinedAt
import Derived.Deep.Slices
import Derived.Deep.Fields
import Derived.Test.YtibaindlbpfecaaRefA

/- The frame of a law's row: it answers true, leaves its arguments as they were, and makes memory of its own alone. Conditions: none. -/
namespace Go.Proofs.Ytibaindlbpfecaa
open Go.RowKit Go.ChangeShapes Go.WideShapes Go.ChangeAt Go.Deep

theorem own : ownKnob Try.prog.godebug = none := by kernel_rfl
theorem laidOut : laidOutB Try.prog = true := by kernel_rfl

section
variable {H : Type} {enc : TypeId × Value → H} {P : Program}
/-- Arguments read behind the call as before it, whoever looks. -/
theorem args_stay (hl : laidOutB P = true) {W W' : World} (hb : Below W.heap.size W W') {sp : Nat → Bool} : ∀ {ts : List TypeId} {vs : List Value} {ds : List (DataW H)} {ps : List MemPlace},
    (∀ t ∈ ts, P.readableRec t = true ∧ t < P.types.size) → DataW.TrodAll enc P W 0 (fun _ => true) true ts vs ds ps → (∀ x ∈ ps, x.block < W.heap.size) → (∀ x ∈ ps, sp x.block = true) → DataW.TrodAll enc P W' 0 sp true ts vs ds ps
  | [], [], [], _, _, h, _, _ => h
  | _ :: _, _ :: _, _ :: _, _, hT, ⟨p, q, h1, h2, e⟩, hlt, hs => by
    obtain ⟨hr, hrow⟩ := hT _ (List.mem_cons.2 (Or.inl rfl))
    exact ⟨p, q, WideElems.Trod_stays hl hr hrow h1 (fun x hx => hb.same (hlt x (by rw [e]; exact List.mem_append_left _ hx))) (fun x hx => hs x (by rw [e]; exact List.mem_append_left _ hx)),
      args_stay hl hb (fun t ht => hT t (List.mem_cons.2 (Or.inr ht))) h2 (fun x hx => hlt x (by rw [e]; exact List.mem_append_right _ hx)) (fun x hx => hs x (by rw [e]; exact List.mem_append_right _ hx)), e⟩

/-- What a law's specification says: true; the arguments read as they did. -/
def IsLaw (s : ChangeSpec) (n : Nat) : Prop := s.vars = [] ∧ ∀ (H : Type) (ds : List (DataW H)), ds.length = n → (s.fn H (ds ++ [])).results = [.lit (.bool true)] ∧ (s.fn H (ds ++ [])).args = ds ∧ (s.fn H (ds ++ [])).vars = []

theorem trodAll_length {w : World} {base : Nat} {sp : Nat → Bool} {hd : Bool} : ∀ {ts : List TypeId} {vs : List Value} {ds : List (DataW H)} {ps : List MemPlace}, DataW.TrodAll enc P w base sp hd ts vs ds ps → ds.length = ts.length ∧ vs.length = ts.length
  | [], [], [], _, _ => ⟨rfl, rfl⟩
  | _ :: _, _ :: _, _ :: _, _, ⟨_, _, _, h2, _⟩ => by
    have := trodAll_length h2
    simp [this.1, this.2]
end

section
variable {H : Type} {enc : TypeId × Value → H}
/-- The post of a law's row, out of the call's contract. -/
theorem law_post {f : Func} {s : ChangeSpec} {n : Nat} {W W' : World} {args : Array Value} {ds gs : List (DataW H)} {before : List MemPlace} (hs : IsLaw s n) (hn : f.params.size = n) (hres : f.resultTypes = #[4])
    (hpar : (f.params.toList.all fun t => Try.prog.readableRec t && decide (t < Try.prog.types.size)) = true)
    (hW : DataW.Whole enc Try.prog f.params.toList s.vars false W args.toList ds gs before) (hb : Below W.heap.size W W') :
    s.post enc Try.prog f false true false false W args (.bool true) W' := by
  obtain ⟨hv, hf⟩ := hs
  have hlt : ∀ x ∈ before, x.block < W.heap.size := fun x hx => hW.lt x hx
  have hW' := hW
  obtain ⟨p, q, hA, hV, rfl, hfz, hnd⟩ := hW
  rw [hv] at hV
  obtain ⟨rfl, rfl⟩ := trodVars_none hV
  have hlen : ds.length = n := by rw [(trodAll_length hA).1]; simpa using hn
  obtain ⟨h1, h2, h3⟩ := hf H ds hlen
  rw [List.append_nil] at hW' hlt
  have hall := List.all_eq_true.1 hpar
  refine ⟨ds, [], p, [], p, [], hW', ?_, ?_, ?_, ?_, fun h => by cases h⟩
  · rw [h1, hres]
    exact trodAll_cons_mk (shut_bool Try.underlying4 _) trodAll_mk0
  · rw [h2]
    exact args_stay laidOut hb (fun t ht => by have := hall t ht; simpa using this) hA hlt (fun x hx => by simpa using hlt x hx)
  · rw [h3, hv]; rfl
  · exact World.keptBut_mono (fun x hx => ⟨hx, .inr (.inl hx)⟩) (hb.frame (· ∈ p))
end

section
variable {H : Type} {enc : TypeId × Value → H} {W : World} {base : Nat} {sp : Nat → Bool} {hd : Bool}
theorem list_of {α : Type} {Q : Nat → α → Prop} : ∀ {n : Nat}, (∀ i, i < n → ∃ a, Q i a) → ∃ l : List α, l.length = n ∧ ∀ (i : Nat) (a : α), l[i]? = some a → Q i a
  | 0, _ => ⟨[], rfl, fun i a h => by simp at h⟩
  | n + 1, h => by
    obtain ⟨l, hl, hq⟩ := list_of (n := n) (fun i hi => h i (by omega))
    obtain ⟨x, hx⟩ := h n (by omega)
    refine ⟨l ++ [x], by simp [hl], fun i a ha => ?_⟩
    by_cases hi : i < l.length
    · rw [List.getElem?_append_left hi] at ha; exact hq i a ha
    · have hi2 : i = l.length := by have := lt_of_getElem? ha; simp at this; omega
      subst hi2
      rw [List.getElem?_append_right (Nat.le_refl _), Nat.sub_self] at ha
      simp only [List.getElem?_cons_zero, Option.some.injEq] at ha
      subst ha
      rw [hl]; exact hx
theorem spot_none {w : World} {a : Addr} {v : Value} (h : w.cell? a = some v) : a = ⟨a.block, a.off, none⟩ := by
  obtain ⟨b, o, s⟩ := a
  cases s with
  | none => rfl
  | some x =>
    unfold World.cell? at h
    split at h <;> simp at h
theorem block_lt {w : World} {a : Addr} {v : Value} (h : w.cell? a = some v) : a.block < w.heap.size := World.block_lt_of_cell? w a h

set_option maxRecDepth 100000 in
/-- An argument that is a slice reads as a list, where each element's cells do. -/
theorem open_rows {α : Type} (encA : α → List Value) {sz : Nat} (hsz : 0 < sz) (hs : ∀ x, (encA x).length = sz) {t e : TypeId} (ht : Try.prog.underlying t = some (.slice e)) (hC : Try.prog.cellsOf e = sz) {v : Value} {d : DataW H} {p : List MemPlace}
    (hv : Value.okWide Try.prog W .any base t v) (h : DataW.Trod enc Try.prog W 0 (fun _ => true) true t v d p)
    (dec : ∀ (n : Nat) (cs : List Value) (x : DataW H × List MemPlace), DataW.trod enc Try.prog W 0 (fun _ => true) true n e cs = some x → ∃ a : α, cs = encA a) :
    ∃ (A : Option Addr) (c : Nat) (l : List α), v = .slice A l.length c ∧ RS encA sz W W.heap.size A l ∧ l.length ≤ c ∧ c ≤ maxLen := by
  obtain ⟨a0, len, cap, rfl⟩ := okWide_slice ht hv
  obtain ⟨fuel, hf⟩ := h
  rcases open_slice ht hf with ⟨hcs, _⟩ | ⟨a, len', cap', m, n, D, Pl, hcs, _, hl, hm, hmm, _, hi⟩
  · simp [Value.cells] at hcs
    obtain ⟨rfl, rfl, rfl⟩ := hcs
    exact ⟨none, 0, [], rfl, .inl rfl, Nat.le_refl _, Nat.zero_le _⟩
  · simp [Value.cells] at hcs
    obtain ⟨rfl, rfl, rfl⟩ := hcs
    obtain ⟨l, hll, hq⟩ := list_of (n := len) (Q := fun i x => ∀ j u, (encA x)[j]? = some u → W.cell? (a.add (i * sz + j)) = some u) (fun i hil => by
      obtain ⟨cs', hc, htr⟩ := hi i (by rw [hmm]; simp; omega)
      obtain ⟨x, rfl⟩ := dec _ _ _ htr
      obtain ⟨_, hcl, hat⟩ := World.cells?_some hc
      refine ⟨x, fun j u hj => ?_⟩
      have hjl : j < sz := by have := lt_of_getElem? hj; rw [hs] at this; exact this
      rw [hC] at hat
      rw [← Go.Deep.add_add, hat j (by rw [← hC]; rw [hC]; exact hjl), hj])
    subst hll
    refine ⟨some a, cap, l, rfl, ?_, hl, hm⟩
    by_cases hl0 : l = []
    · exact .inl hl0
    · right
      obtain ⟨x, hx⟩ : ∃ x, l[0]? = some x := getElem?_lt (List.length_pos_iff.2 hl0)
      obtain ⟨u, hu⟩ : ∃ u, (encA x)[0]? = some u := getElem?_lt (by rw [hs]; exact hsz)
      have h0 := hq 0 x hx 0 u hu
      have ha : a = ⟨a.block, a.off, none⟩ := spot_none (by simpa [Addr.add] using h0)
      have hb := block_lt (a := a) (by simpa [Addr.add] using h0)
      refine ⟨a.block, a.off, by rw [← ha], hb, fun k y hk j u hj => ?_⟩
      have := hq k y hk j u hj
      rw [ha, Addr.add_lit, ← Nat.add_assoc] at this
      exact this
end
end Go.Proofs.Ytibaindlbpfecaa

/- How the law's arguments are read: tests. -/
namespace Go.Proofs.Ytibaindlbpfecaa
open Go.RowKit Go.ChangeShapes Go.WideShapes Go.ChangeAt Go.Deep
section
variable {H : Type} {enc : TypeId × Value → H} {W : World} {base : Nat} {sp : Nat → Bool} {hd : Bool}
theorem cellsRT : Try.prog.cellsOf 114 = 4 := by kernel_rfl
theorem one_int {n : Nat} {t : TypeId} (ht : Try.prog.underlying t = some (.int .i64)) {cs : List Value} {x : DataW H × List MemPlace} (h : DataW.trod enc Try.prog W base sp hd n t cs = some x) : ∃ z : Int, cs = [.int .i64 z] := by
  obtain ⟨z, hz, _⟩ := DataW.trod_int ht h
  exact ⟨z, hz⟩
theorem one_bool {n : Nat} {t : TypeId} (ht : Try.prog.underlying t = some .bool) {cs : List Value} {x : DataW H × List MemPlace} (h : DataW.trod enc Try.prog W base sp hd n t cs = some x) : ∃ z : Bool, cs = [.bool z] := by
  obtain ⟨z, hz, _⟩ := DataW.trod_bool ht h
  exact ⟨z, hz⟩
theorem one_field {cs : List Value} {o : Nat} {c : Value} {t : TypeId} {n : Nat} {y : DataW H × List MemPlace} (hc : cs[o]? = some c) (hk : Try.prog.cellsOf t = 1)
    (h : DataW.trod enc Try.prog W base sp hd n t ((cs.drop o).take (Try.prog.cellsOf t)) = some y) : DataW.trod enc Try.prog W base sp hd n t [c] = some y := by
  rw [hk, drop_of_get hc] at h
  exact h
theorem cells_int : Try.prog.cellsOf 3 = 1 := by kernel_rfl
theorem cells_bool : Try.prog.cellsOf 4 = 1 := by kernel_rfl
theorem some_of_lt {α : Type} {l : List α} {i n : Nat} (hl : l.length = n) (hi : i < n) : ∃ x, l[i]? = some x := getElem?_lt (by omega)
set_option maxRecDepth 100000 in
theorem dec_test (n : Nat) (cs : List Value) (x : DataW H × List MemPlace) (h : DataW.trod enc Try.prog W base sp hd n 114 cs = some x) : ∃ t : Tst, cs = encT t := by
  obtain ⟨xs, m, _, _, hlen, hxl, hf⟩ := DataW.trod_struct Try.underlying114 h
  rw [cellsRT] at hlen
  match cs, hlen with
  | [c0, c1, c2, c3], _ =>
    obtain ⟨y0, hy0⟩ := some_of_lt (i := 0) hxl (by decide)
    obtain ⟨y1, hy1⟩ := some_of_lt (i := 1) hxl (by decide)
    obtain ⟨y2, hy2⟩ := some_of_lt (i := 2) hxl (by decide)
    obtain ⟨y3, hy3⟩ := some_of_lt (i := 3) hxl (by decide)
    obtain ⟨z0, e0⟩ := one_int Try.underlying3 (one_field (o := 0) (t := 3) rfl cells_int ((hf 0 _ rfl).trans hy0))
    obtain ⟨z1, e1⟩ := one_int Try.underlying3 (one_field (o := 1) (t := 3) rfl cells_int ((hf 1 _ rfl).trans hy1))
    obtain ⟨z2, e2⟩ := one_int Try.underlying3 (one_field (o := 2) (t := 3) rfl cells_int ((hf 2 _ rfl).trans hy2))
    obtain ⟨z3, e3⟩ := one_bool Try.underlying4 (one_field (o := 3) (t := 4) rfl cells_bool ((hf 3 _ rfl).trans hy3))
    cases e0
    cases e1
    cases e2
    cases e3
    exact ⟨⟨z0, z1, z2, z3⟩, rfl⟩
end
end Go.Proofs.Ytibaindlbpfecaa
