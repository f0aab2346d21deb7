import Derived.Test.YtbagfapalkmikaaFlFrame

/- How the law's arguments are read: flights. -/
namespace Go.Proofs.Ytbagfapalkmikaa
open Go.RowKit Go.ChangeShapes Go.WideShapes Go.ChangeAt Go.Deep
section
variable {H : Type} {enc : TypeId × Value → H} {W : World} {base : Nat} {sp : Nat → Bool} {hd : Bool}
theorem cellsR : Try.prog.cellsOf 23 = 2 := by kernel_rfl
theorem cellsB : Try.prog.cellsOf 25 = 4 := by kernel_rfl
theorem cellsY : Try.prog.cellsOf 27 = 9 := by kernel_rfl
theorem cellsC : Try.prog.cellsOf 30 = 4 := by kernel_rfl
theorem cellsX : Try.prog.cellsOf 32 = 15 := by kernel_rfl
theorem cellsL : Try.prog.cellsOf 28 = 1 := by kernel_rfl
set_option maxRecDepth 100000 in
theorem dec_range (n : Nat) (cs : List Value) (x : DataW H × List MemPlace) (h : DataW.trod enc Try.prog W base sp hd n 23 cs = some x) : ∃ r : Rng, cs = [.int .i64 r.lo, .int .i64 r.hi] := by
  obtain ⟨xs, m, _, _, hlen, hxl, hf⟩ := DataW.trod_struct Try.underlying23 h
  rw [cellsR] at hlen
  match cs, hlen with
  | [c0, c1], _ =>
    obtain ⟨y0, hy0⟩ := some_of_lt (i := 0) hxl (by decide)
    obtain ⟨y1, hy1⟩ := some_of_lt (i := 1) hxl (by decide)
    obtain ⟨z0, e0⟩ := one_int Try.underlying3 (one_field (o := 0) (t := 3) rfl cells_int ((hf 0 _ rfl).trans hy0))
    obtain ⟨z1, e1⟩ := one_int Try.underlying3 (one_field (o := 1) (t := 3) rfl cells_int ((hf 1 _ rfl).trans hy1))
    cases e0
    cases e1
    exact ⟨⟨z0, z1⟩, rfl⟩
theorem sub_eq {cs l : List Value} {t : TypeId} {k o : Nat} (hk : Try.prog.cellsOf t = k) (h : (cs.drop o).take (Try.prog.cellsOf t) = l) : (cs.drop o).take k = l := by rw [← hk]; exact h
set_option maxRecDepth 100000 in
theorem dec_box (n : Nat) (cs : List Value) (x : DataW H × List MemPlace) (h : DataW.trod enc Try.prog W base sp hd n 25 cs = some x) : ∃ b : Bx, cs = encB b := by
  obtain ⟨xs, m, _, _, hlen, hxl, hf⟩ := DataW.trod_struct Try.underlying25 h
  rw [cellsB] at hlen
  match cs, hlen with
  | [c0, c1, c2, c3], _ =>
    obtain ⟨y0, hy0⟩ := some_of_lt (i := 0) hxl (by decide)
    obtain ⟨y1, hy1⟩ := some_of_lt (i := 1) hxl (by decide)
    obtain ⟨r0, e0⟩ := dec_range _ _ _ ((hf 0 _ rfl).trans hy0)
    obtain ⟨r1, e1⟩ := dec_range _ _ _ ((hf 1 _ rfl).trans hy1)
    have f0 := sub_eq (t := 23) (o := 0) cellsR e0
    have f1 := sub_eq (t := 23) (o := 2) cellsR e1
    cases f0
    cases f1
    exact ⟨⟨r0, r1⟩, rfl⟩
set_option maxRecDepth 100000 in
theorem dec_flyer (n : Nat) (cs : List Value) (x : DataW H × List MemPlace) (h : DataW.trod enc Try.prog W base sp hd n 27 cs = some x) : ∃ f : Fly, cs = [.int .i64 f.pos.x.lo, .int .i64 f.pos.x.hi, .int .i64 f.pos.z.lo, .int .i64 f.pos.z.hi, .int .i64 f.speed.x.lo, .int .i64 f.speed.x.hi, .int .i64 f.speed.z.lo, .int .i64 f.speed.z.hi, .int .i64 f.mass] := by
  obtain ⟨xs, m, _, _, hlen, hxl, hf⟩ := DataW.trod_struct Try.underlying27 h
  rw [cellsY] at hlen
  match cs, hlen with
  | [c0, c1, c2, c3, c4, c5, c6, c7, c8], _ =>
    obtain ⟨y0, hy0⟩ := some_of_lt (i := 0) hxl (by decide)
    obtain ⟨y1, hy1⟩ := some_of_lt (i := 1) hxl (by decide)
    obtain ⟨y2, hy2⟩ := some_of_lt (i := 2) hxl (by decide)
    obtain ⟨b0, e0⟩ := dec_box _ _ _ ((hf 0 _ rfl).trans hy0)
    obtain ⟨b1, e1⟩ := dec_box _ _ _ ((hf 1 _ rfl).trans hy1)
    obtain ⟨z2, e2⟩ := one_int Try.underlying3 (one_field (o := 8) (t := 3) rfl cells_int ((hf 2 _ rfl).trans hy2))
    have f0 := sub_eq (t := 25) (o := 0) cellsB e0
    have f1 := sub_eq (t := 25) (o := 4) cellsB e1
    cases f0
    cases f1
    cases e2
    exact ⟨⟨b0, b1, z2⟩, rfl⟩
end
section
variable {H : Type} {enc : TypeId × Value → H} {W : World} {base : Nat}
set_option maxRecDepth 100000 in
/-- A cell that holds a slice reads as a list, where each element's cells do. -/
theorem cell_rows {α : Type} (encA : α → List Value) {sz : Nat} (hsz : 0 < sz) (hs : ∀ x, (encA x).length = sz) {t e : TypeId} (ht : Try.prog.underlying t = some (.slice e)) (hC : Try.prog.cellsOf e = sz) {v : Value} {fuel : Nat} {y : DataW H × List MemPlace}
    (h : DataW.trod enc Try.prog W 0 (fun _ => true) true fuel t [v] = some y)
    (dec : ∀ (n : Nat) (cs : List Value) (x : DataW H × List MemPlace), DataW.trod enc Try.prog W 0 (fun _ => true) true n e cs = some x → ∃ a : α, cs = encA a) :
    ∃ (A : Option Addr) (c : Nat) (l : List α), v = .slice A l.length c ∧ RS encA sz W W.heap.size A l ∧ l.length ≤ c ∧ c ≤ maxLen := by
  rcases open_slice ht h with ⟨hcs, _⟩ | ⟨a, len, cap, m, n, D, Pl, hcs, _, hl, hm, hmm, _, hi⟩
  · simp at hcs
    subst hcs
    exact ⟨none, 0, [], rfl, .inl rfl, Nat.le_refl _, Nat.zero_le _⟩
  · simp at hcs
    subst hcs
    obtain ⟨l, hll, hq⟩ := list_of (n := len) (Q := fun i x => ∀ j u, (encA x)[j]? = some u → W.cell? (a.add (i * sz + j)) = some u) (fun i hil => by
      obtain ⟨cs', hc, htr⟩ := hi i (by rw [hmm]; simp; omega)
      obtain ⟨x, rfl⟩ := dec _ _ _ htr
      obtain ⟨_, hcl, hat⟩ := World.cells?_some hc
      refine ⟨x, fun j u hj => ?_⟩
      have hjl : j < sz := by have := lt_of_getElem? hj; rw [hs] at this; exact this
      rw [hC] at hat
      rw [← Go.Deep.add_add, hat j (by rw [← hC]; rw [hC]; exact hjl), hj])
    subst hll
    refine ⟨some a, cap, l, rfl, ?_, hl, hm⟩
    by_cases hl0 : l = []
    · exact .inl hl0
    · right
      obtain ⟨x, hx⟩ : ∃ x, l[0]? = some x := getElem?_lt (List.length_pos_iff.2 hl0)
      obtain ⟨u, hu⟩ : ∃ u, (encA x)[0]? = some u := getElem?_lt (by rw [hs]; exact hsz)
      have h0 := hq 0 x hx 0 u hu
      have ha : a = ⟨a.block, a.off, none⟩ := spot_none (by simpa [Addr.add] using h0)
      have hb := block_lt (a := a) (by simpa [Addr.add] using h0)
      refine ⟨a.block, a.off, by rw [← ha], hb, fun k y hk j u hj => ?_⟩
      have := hq k y hk j u hj
      rw [ha, Addr.add_lit, ← Nat.add_assoc] at this
      exact this

set_option maxRecDepth 100000 in
theorem dec_catcher (n : Nat) (cs : List Value) (x : DataW H × List MemPlace) (h : DataW.trod enc Try.prog W 0 (fun _ => true) true n 30 cs = some x) :
    ∃ (A : Option Addr) (c : Nat) (l : List Bx) (re so be : Int), cs = [.slice A l.length c, .int .i64 re, .int .i64 so, .int .i64 be] ∧ RS encB 4 W W.heap.size A l ∧ l.length ≤ c ∧ c ≤ maxLen := by
  obtain ⟨xs, m, _, _, hlen, hxl, hf⟩ := DataW.trod_struct Try.underlying30 h
  rw [cellsC] at hlen
  match cs, hlen with
  | [c0, c1, c2, c3], _ =>
    obtain ⟨y0, hy0⟩ := some_of_lt (i := 0) hxl (by decide)
    obtain ⟨y1, hy1⟩ := some_of_lt (i := 1) hxl (by decide)
    obtain ⟨y2, hy2⟩ := some_of_lt (i := 2) hxl (by decide)
    obtain ⟨y3, hy3⟩ := some_of_lt (i := 3) hxl (by decide)
    obtain ⟨A, c, l, rfl, h1, h2, h3⟩ := cell_rows encB (by decide) (fun _ => rfl) Try.underlying28 cellsB (one_field (o := 0) (t := 28) rfl cellsL ((hf 0 _ rfl).trans hy0)) (fun n cs x h => dec_box n cs x h)
    obtain ⟨z1, e1⟩ := one_int Try.underlying3 (one_field (o := 1) (t := 3) rfl cells_int ((hf 1 _ rfl).trans hy1))
    obtain ⟨z2, e2⟩ := one_int Try.underlying3 (one_field (o := 2) (t := 3) rfl cells_int ((hf 2 _ rfl).trans hy2))
    obtain ⟨z3, e3⟩ := one_int Try.underlying3 (one_field (o := 3) (t := 3) rfl cells_int ((hf 3 _ rfl).trans hy3))
    cases e1
    cases e2
    cases e3
    exact ⟨A, c, l, z1, z2, z3, rfl, h1, h2, h3⟩
set_option maxRecDepth 100000 in
theorem dec_flight (n : Nat) (cs : List Value) (x : DataW H × List MemPlace) (h : DataW.trod enc Try.prog W 0 (fun _ => true) true n 32 cs = some x) :
    ∃ (f : Flt) (A : Option Addr) (c : Nat), cs = [.int .i64 f.fly.pos.x.lo, .int .i64 f.fly.pos.x.hi, .int .i64 f.fly.pos.z.lo, .int .i64 f.fly.pos.z.hi, .int .i64 f.fly.speed.x.lo, .int .i64 f.fly.speed.x.hi, .int .i64 f.fly.speed.z.lo, .int .i64 f.fly.speed.z.hi, .int .i64 f.fly.mass, .slice A f.cycle.length c, .int .i64 f.reach, .int .i64 f.soft, .int .i64 f.bears, .int .i64 f.least, .int .i64 f.most] ∧ RS encB 4 W W.heap.size A f.cycle ∧ f.cycle.length ≤ c ∧ c ≤ maxLen := by
  obtain ⟨xs, m, _, _, hlen, hxl, hf⟩ := DataW.trod_struct Try.underlying32 h
  rw [cellsX] at hlen
  match cs, hlen with
  | [c0, c1, c2, c3, c4, c5, c6, c7, c8, c9, c10, c11, c12, c13, c14], _ =>
    obtain ⟨y0, hy0⟩ := some_of_lt (i := 0) hxl (by decide)
    obtain ⟨y1, hy1⟩ := some_of_lt (i := 1) hxl (by decide)
    obtain ⟨y2, hy2⟩ := some_of_lt (i := 2) hxl (by decide)
    obtain ⟨y3, hy3⟩ := some_of_lt (i := 3) hxl (by decide)
    obtain ⟨fl, e0⟩ := dec_flyer _ _ _ ((hf 0 _ rfl).trans hy0)
    obtain ⟨A, c, l, re, so, be, e1, h1, h2, h3⟩ := dec_catcher _ _ _ ((hf 1 _ rfl).trans hy1)
    obtain ⟨z2, e2⟩ := one_int Try.underlying3 (one_field (o := 13) (t := 3) rfl cells_int ((hf 2 _ rfl).trans hy2))
    obtain ⟨z3, e3⟩ := one_int Try.underlying3 (one_field (o := 14) (t := 3) rfl cells_int ((hf 3 _ rfl).trans hy3))
    have f0 := sub_eq (t := 27) (o := 0) cellsY e0
    have f1 := sub_eq (t := 30) (o := 9) cellsC e1
    cases f0
    cases f1
    cases e2
    cases e3
    exact ⟨⟨fl, l, re, so, be, z2, z3⟩, A, c, rfl, h1, h2, h3⟩
set_option maxRecDepth 100000 in
theorem open_flight {v : Value} {d : DataW H} {p : List MemPlace} (hv : Value.okWide Try.prog W .any base 32 v) (h : DataW.Trod enc Try.prog W 0 (fun _ => true) true 32 v d p) :
    ∃ (f : Flt) (A : Option Addr) (c : Nat), v = .agg #[.int .i64 f.fly.pos.x.lo, .int .i64 f.fly.pos.x.hi, .int .i64 f.fly.pos.z.lo, .int .i64 f.fly.pos.z.hi, .int .i64 f.fly.speed.x.lo, .int .i64 f.fly.speed.x.hi, .int .i64 f.fly.speed.z.lo, .int .i64 f.fly.speed.z.hi, .int .i64 f.fly.mass, .slice A f.cycle.length c, .int .i64 f.reach, .int .i64 f.soft, .int .i64 f.bears, .int .i64 f.least, .int .i64 f.most] ∧ RS encB 4 W W.heap.size A f.cycle ∧ f.cycle.length ≤ c ∧ c ≤ maxLen := by
  obtain ⟨cs, rfl, _⟩ := okWide_struct Try.underlying32 hv
  obtain ⟨fuel, hf⟩ := h
  obtain ⟨f, A, c, hu, h1, h2, h3⟩ := dec_flight _ _ _ hf
  refine ⟨f, A, c, ?_, h1, h2, h3⟩
  simp only [Value.cells] at hu
  rw [show cs = cs.toList.toArray from by simp, hu]
end
end Go.Proofs.Ytbagfapalkmikaa
