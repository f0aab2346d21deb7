import Derived.Test.YtkeicglphmnilaaGreatFrame
import Derived.Test.YtkeicglphmnilaaGreatBase
import Derived.Test.YtkeicglphmnilaaGreatPartsA
namespace Go.Proofs.YtkeicglphmnilaaGreat
open Go.RowKit Go.ChangeShapes Go.WideShapes Go.ChangeAt Go.Deep
section
variable {H : Type} {enc : TypeId × Value → H} {W : World}
theorem cellsRG : Tryz.prog.cellsOf 84 = 5 := by kernel_rfl
theorem cellsRH : Tryz.prog.cellsOf 47 = 3 := by kernel_rfl
theorem cellsSG : Tryz.prog.cellsOf 45 = 1 := by kernel_rfl
set_option maxRecDepth 100000 in
theorem dec_guy (n : Nat) (cs : List Value) (x : DataW H × List MemPlace) (h : DataW.trod enc Tryz.prog W 0 (fun _ => true) true n 84 cs = some x) : ∃ g : Guy, cs = encG g := by
  obtain ⟨xs, m, _, _, hlen, hxl, hf⟩ := DataW.trod_struct Tryz.underlying84 h
  rw [cellsRG] at hlen
  match cs, hlen with
  | [c0, c1, c2, c3, c4], _ =>
    obtain ⟨y0, hy0⟩ := some_of_lt (i := 0) hxl (by decide)
    obtain ⟨y1, hy1⟩ := some_of_lt (i := 1) hxl (by decide)
    obtain ⟨y2, hy2⟩ := some_of_lt (i := 2) hxl (by decide)
    obtain ⟨y3, hy3⟩ := some_of_lt (i := 3) hxl (by decide)
    obtain ⟨y4, hy4⟩ := some_of_lt (i := 4) hxl (by decide)
    obtain ⟨z0, e0⟩ := one_int Tryz.underlying3 (one_field (o := 0) (t := 3) rfl cells_int ((hf 0 _ rfl).trans hy0))
    obtain ⟨z1, e1⟩ := one_int Tryz.underlying3 (one_field (o := 1) (t := 3) rfl cells_int ((hf 1 _ rfl).trans hy1))
    obtain ⟨z2, e2⟩ := one_int Tryz.underlying3 (one_field (o := 2) (t := 3) rfl cells_int ((hf 2 _ rfl).trans hy2))
    obtain ⟨z3, e3⟩ := one_int Tryz.underlying3 (one_field (o := 3) (t := 3) rfl cells_int ((hf 3 _ rfl).trans hy3))
    obtain ⟨z4, e4⟩ := one_int Tryz.underlying3 (one_field (o := 4) (t := 3) rfl cells_int ((hf 4 _ rfl).trans hy4))
    cases e0
    cases e1
    cases e2
    cases e3
    cases e4
    exact ⟨⟨z0, z1, z2, z3, z4⟩, rfl⟩

set_option maxRecDepth 100000 in
/-- A cell that holds a slice reads as a list, where each element's cells do. -/
theorem cell_rows {α : Type} (encA : α → List Value) {sz : Nat} (hsz : 0 < sz) (hs : ∀ x, (encA x).length = sz) {t e : TypeId} (ht : Tryz.prog.underlying t = some (.slice e)) (hC : Tryz.prog.cellsOf e = sz) {v : Value} {fuel : Nat} {y : DataW H × List MemPlace}
    (h : DataW.trod enc Tryz.prog W 0 (fun _ => true) true fuel t [v] = some y)
    (dec : ∀ (n : Nat) (cs : List Value) (x : DataW H × List MemPlace), DataW.trod enc Tryz.prog W 0 (fun _ => true) true n e cs = some x → ∃ a : α, cs = encA a) :
    ∃ (A : Option Addr) (c : Nat) (l : List α), v = .slice A l.length c ∧ RS encA sz W W.heap.size A l ∧ l.length ≤ c ∧ c ≤ maxLen := by
  rcases open_slice ht h with ⟨hcs, _⟩ | ⟨a, len, cap, m, n, D, Pl, hcs, _, hl, hm, hmm, _, hi⟩
  · simp at hcs
    subst hcs
    exact ⟨none, 0, [], rfl, .inl rfl, Nat.le_refl _, Nat.zero_le _⟩
  · simp at hcs
    subst hcs
    obtain ⟨l, hll, hq⟩ := list_of (n := len) (Q := fun i x => ∀ j u, (encA x)[j]? = some u → W.cell? (a.add (i * sz + j)) = some u) (fun i hil => by
      obtain ⟨cs', hc, htr⟩ := hi i (by rw [hmm]; simp; omega)
      obtain ⟨x, rfl⟩ := dec _ _ _ htr
      obtain ⟨_, hcl, hat⟩ := World.cells?_some hc
      refine ⟨x, fun j u hj => ?_⟩
      have hjl : j < sz := by have := lt_of_getElem? hj; rw [hs] at this; exact this
      rw [hC] at hat
      rw [← Go.Deep.add_add, hat j (by rw [← hC]; rw [hC]; exact hjl), hj])
    subst hll
    refine ⟨some a, cap, l, rfl, ?_, hl, hm⟩
    by_cases hl0 : l = []
    · exact .inl hl0
    · right
      obtain ⟨x, hx⟩ : ∃ x, l[0]? = some x := getElem?_lt (List.length_pos_iff.2 hl0)
      obtain ⟨u, hu⟩ : ∃ u, (encA x)[0]? = some u := getElem?_lt (by rw [hs]; exact hsz)
      have h0 := hq 0 x hx 0 u hu
      have ha : a = ⟨a.block, a.off, none⟩ := spot_none (by simpa [Addr.add] using h0)
      have hb := block_lt (a := a) (by simpa [Addr.add] using h0)
      refine ⟨a.block, a.off, by rw [← ha], hb, fun k y hk j u hj => ?_⟩
      have := hq k y hk j u hj
      rw [ha, Addr.add_lit, ← Nat.add_assoc] at this
      exact this

set_option maxRecDepth 100000 in
theorem dec_head (n : Nat) (cs : List Value) (x : DataW H × List MemPlace) (h : DataW.trod enc Tryz.prog W 0 (fun _ => true) true n 47 cs = some x) :
    ∃ (h : Head) (A : Option Addr) (c : Nat), cs = [.int .i64 h.area, .int .i64 h.bears, .slice A h.guys.length c] ∧ RS encG 5 W W.heap.size A h.guys ∧ h.guys.length ≤ c ∧ c ≤ maxLen := by
  obtain ⟨xs, m, _, _, hlen, hxl, hf⟩ := DataW.trod_struct Tryz.underlying47 h
  rw [cellsRH] at hlen
  match cs, hlen with
  | [c0, c1, c2], _ =>
    obtain ⟨y0, hy0⟩ := some_of_lt (i := 0) hxl (by decide)
    obtain ⟨y1, hy1⟩ := some_of_lt (i := 1) hxl (by decide)
    obtain ⟨y2, hy2⟩ := some_of_lt (i := 2) hxl (by decide)
    obtain ⟨z0, e0⟩ := one_int Tryz.underlying3 (one_field (o := 0) (t := 3) rfl cells_int ((hf 0 _ rfl).trans hy0))
    obtain ⟨z1, e1⟩ := one_int Tryz.underlying3 (one_field (o := 1) (t := 3) rfl cells_int ((hf 1 _ rfl).trans hy1))
    obtain ⟨A, c, l, rfl, h1, h2, h3⟩ := cell_rows encG (by decide) (fun _ => rfl) Tryz.underlying45 cellsRG (one_field (o := 2) (t := 45) rfl cellsSG ((hf 2 _ rfl).trans hy2)) (fun n cs x h => dec_guy n cs x h)
    cases e0
    cases e1
    exact ⟨⟨z0, z1, l⟩, A, c, rfl, h1, h2, h3⟩

set_option maxRecDepth 100000 in
/-- An argument that is a tent reads as a list of heads. -/
theorem open_tent {v : Value} {base : Nat} {d : DataW H} {p : List MemPlace} (hv : Value.okWide Tryz.prog W .any base 24 v) (h : DataW.Trod enc Tryz.prog W 0 (fun _ => true) true 24 v d p) :
    ∃ (A : Option Addr) (c : Nat) (t : List Head), v = .slice A t.length c ∧ RH W W.heap.size A t ∧ t.length ≤ c ∧ c ≤ maxLen := by
  obtain ⟨a0, len, cap, rfl⟩ := okWide_slice Tryz.underlying24 hv
  obtain ⟨fuel, hf⟩ := h
  rcases open_slice Tryz.underlying24 hf with ⟨hcs, _⟩ | ⟨a, len', cap', m, n, D, Pl, hcs, _, hl, hm, hmm, _, hi⟩
  · simp [Value.cells] at hcs
    obtain ⟨rfl, rfl, rfl⟩ := hcs
    exact ⟨none, 0, [], rfl, .inl rfl, Nat.le_refl _, Nat.zero_le _⟩
  · simp [Value.cells] at hcs
    obtain ⟨rfl, rfl, rfl⟩ := hcs
    obtain ⟨l, hll, hq⟩ := list_of (n := len) (Q := fun i (h : Head) => ∃ (A' : Option Addr) (c' : Nat), (∀ j u, [Value.int .i64 h.area, .int .i64 h.bears, .slice A' h.guys.length c'][j]? = some u → W.cell? (a.add (i * 3 + j)) = some u) ∧ RS encG 5 W W.heap.size A' h.guys ∧ h.guys.length ≤ c' ∧ c' ≤ maxLen) (fun i hil => by
      obtain ⟨cs', hc, htr⟩ := hi i (by rw [hmm]; simp; omega)
      obtain ⟨x, A', c', rfl, h1, h2, h3⟩ := dec_head _ _ _ htr
      obtain ⟨_, hcl, hat⟩ := World.cells?_some hc
      refine ⟨x, A', c', fun j u hj => ?_, h1, h2, h3⟩
      have hjl : j < 3 := lt_of_getElem? hj
      rw [cellsRH] at hat
      rw [← Go.Deep.add_add, hat j hjl, hj])
    subst hll
    refine ⟨some a, cap, l, rfl, ?_, hl, hm⟩
    by_cases hl0 : l = []
    · exact .inl hl0
    · right
      obtain ⟨x, hx⟩ : ∃ x, l[0]? = some x := getElem?_lt (List.length_pos_iff.2 hl0)
      obtain ⟨A', c', h0, _⟩ := hq 0 x hx
      have h0 := h0 0 _ rfl
      have ha : a = ⟨a.block, a.off, none⟩ := spot_none (by simpa [Addr.add] using h0)
      have hb := block_lt (a := a) (by simpa [Addr.add] using h0)
      refine ⟨a.block, a.off, by rw [← ha], hb, fun k y hk => ?_⟩
      obtain ⟨A', c', g0, g1, g2, g3⟩ := hq k y hk
      have key : ∀ j u, [Value.int .i64 y.area, .int .i64 y.bears, .slice A' y.guys.length c'][j]? = some u → W.cell? ⟨a.block, a.off + k * 3 + j, none⟩ = some u := by
        intro j u hj
        have := g0 j u hj
        rw [ha, Addr.add_lit, ← Nat.add_assoc] at this
        exact this
      exact ⟨A', c', key 0 _ rfl, key 1 _ rfl, key 2 _ rfl, g2, g3, g1⟩
end
end Go.Proofs.YtkeicglphmnilaaGreat

namespace Go.Proofs.YtkeicglphmnilaaGreat
open Go.RowKit

theorem partsE_eq {l : List Tst} {t : List Head} : partsE l t = if faultE l t = 0 then agreeE l else faultE l t := by
  unfold partsE firstE tentedE orM faultE tentE
  by_cases h1 : testsFault l = 0 <;> by_cases h2 : tentOk t = true <;> simp [h1, h2, orM]
theorem ints_val (A1 A2 : Option Addr) (c1 c2 : Nat) {a b : List Int} {n1 n2 : Nat} (h1 : n1 = a.length) (h2 : n2 = b.length) (h : a = b) (w : World) (ha : RS encI 1 w w.heap.size A1 a) (hb : RS encI 1 w w.heap.size A2 b) (hl : n1 ≤ 1000) :
    Calls Tryz.prog 20 #[.slice A1 n1 c1, .slice A2 n2 c2] w fun e w' => e = .returned (.bool true) ∧ Below w.heap.size w w' := by
  subst h1 h2 h
  have := ints_any A1 A2 c1 c2 a a w ha hb (by show _ ≤ _; unfold maxLen; omega) (by show _ ≤ _; unfold maxLen; omega)
  rw [show decide (a = a) = true from by simp] at this
  exact this

end Go.Proofs.YtkeicglphmnilaaGreat

namespace Go.Proofs.YtkeicglphmnilaaGreat
open Go.RowKit

def PartsAll (l : List Tst) (t : List Head) (pe : Int) (w : World) (e : Ending) (w' : World) : Prop :=
  ∃ A n c, e = .returned (.tuple #[.slice A n c, .int .i64 pe]) ∧ (pe ≠ 0 → n = 0) ∧ (pe = 0 → n = t.length ∧ RR w' w'.heap.size A (partsT l t)) ∧ Below w.heap.size w w'
theorem Parts_all {l : List Tst} {t : List Head} {pe : Int} (h : partsE l t = pe) (A : Option Addr) (c : Nat) (A' : Option Addr) (c' : Nat) (w : World) (hr : RS encT 4 w w.heap.size A l) (hl : l.length ≤ maxLen) (ht : RH w w.heap.size A' t) (htl : t.length ≤ maxLen) :
    Calls Tryz.prog 16 #[.slice A l.length c, .slice A' t.length c'] w (PartsAll l t pe w) := by
  by_cases h0 : pe = 0
  · subst h0
    refine (Parts_ok A c l A' c' t w hr hl ht htl h).mono ?_
    rintro e w' ⟨A1, c1, rfl, h1, _, _, h4⟩
    exact ⟨A1, _, c1, rfl, fun h => absurd rfl h, fun _ => ⟨rfl, h1⟩, h4⟩
  · refine (Parts_err A c l A' c' t pe h0 w hr hl ht htl h).mono ?_
    rintro e w' ⟨rfl, h4⟩
    exact ⟨none, 0, 0, rfl, fun _ => rfl, fun h => absurd h h0, h4⟩
end Go.Proofs.YtkeicglphmnilaaGreat

namespace Go.Proofs.YtkeicglphmnilaaGreat
open Go.RowKit
end Go.Proofs.YtkeicglphmnilaaGreat
