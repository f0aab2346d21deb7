import Derived.Test.YtibaindlbpfecaaFrame
import Derived.Test.YtibaindlbpfecaaBase
import Derived.Test.YtibaindlbpfecaaPartsA
namespace Go.Proofs.Ytibaindlbpfecaa
open Go.RowKit Go.ChangeShapes Go.WideShapes Go.ChangeAt Go.Deep
section
variable {H : Type} {enc : TypeId × Value → H} {W : World}
theorem cellsRG : Try.prog.cellsOf 28 = 5 := by kernel_rfl
theorem cellsRH : Try.prog.cellsOf 64 = 3 := by kernel_rfl
theorem cellsSG : Try.prog.cellsOf 62 = 1 := by kernel_rfl
set_option maxRecDepth 100000 in
theorem dec_guy (n : Nat) (cs : List Value) (x : DataW H × List MemPlace) (h : DataW.trod enc Try.prog W 0 (fun _ => true) true n 28 cs = some x) : ∃ g : Guy, cs = encG g := by
  obtain ⟨xs, m, _, _, hlen, hxl, hf⟩ := DataW.trod_struct Try.underlying28 h
  rw [cellsRG] at hlen
  match cs, hlen with
  | [c0, c1, c2, c3, c4], _ =>
    obtain ⟨y0, hy0⟩ := some_of_lt (i := 0) hxl (by decide)
    obtain ⟨y1, hy1⟩ := some_of_lt (i := 1) hxl (by decide)
    obtain ⟨y2, hy2⟩ := some_of_lt (i := 2) hxl (by decide)
    obtain ⟨y3, hy3⟩ := some_of_lt (i := 3) hxl (by decide)
    obtain ⟨y4, hy4⟩ := some_of_lt (i := 4) hxl (by decide)
    obtain ⟨z0, e0⟩ := one_int Try.underlying3 (one_field (o := 0) (t := 3) rfl cells_int ((hf 0 _ rfl).trans hy0))
    obtain ⟨z1, e1⟩ := one_int Try.underlying3 (one_field (o := 1) (t := 3) rfl cells_int ((hf 1 _ rfl).trans hy1))
    obtain ⟨z2, e2⟩ := one_int Try.underlying3 (one_field (o := 2) (t := 3) rfl cells_int ((hf 2 _ rfl).trans hy2))
    obtain ⟨z3, e3⟩ := one_int Try.underlying3 (one_field (o := 3) (t := 3) rfl cells_int ((hf 3 _ rfl).trans hy3))
    obtain ⟨z4, e4⟩ := one_int Try.underlying3 (one_field (o := 4) (t := 3) rfl cells_int ((hf 4 _ rfl).trans hy4))
    cases e0
    cases e1
    cases e2
    cases e3
    cases e4
    exact ⟨⟨z0, z1, z2, z3, z4⟩, rfl⟩

set_option maxRecDepth 100000 in
/-- A cell that holds a slice reads as a list, where each element's cells do. -/
theorem cell_rows {α : Type} (encA : α → List Value) {sz : Nat} (hsz : 0 < sz) (hs : ∀ x, (encA x).length = sz) {t e : TypeId} (ht : Try.prog.underlying t = some (.slice e)) (hC : Try.prog.cellsOf e = sz) {v : Value} {fuel : Nat} {y : DataW H × List MemPlace}
    (h : DataW.trod enc Try.prog W 0 (fun _ => true) true fuel t [v] = some y)
    (dec : ∀ (n : Nat) (cs : List Value) (x : DataW H × List MemPlace), DataW.trod enc Try.prog W 0 (fun _ => true) true n e cs = some x → ∃ a : α, cs = encA a) :
    ∃ (A : Option Addr) (c : Nat) (l : List α), v = .slice A l.length c ∧ RS encA sz W W.heap.size A l ∧ l.length ≤ c ∧ c ≤ maxLen := by
  rcases open_slice ht h with ⟨hcs, _⟩ | ⟨a, len, cap, m, n, D, Pl, hcs, _, hl, hm, hmm, _, hi⟩
  · simp at hcs
    subst hcs
    exact ⟨none, 0, [], rfl, .inl rfl, Nat.le_refl _, Nat.zero_le _⟩
  · simp at hcs
    subst hcs
    obtain ⟨l, hll, hq⟩ := list_of (n := len) (Q := fun i x => ∀ j u, (encA x)[j]? = some u → W.cell? (a.add (i * sz + j)) = some u) (fun i hil => by
      obtain ⟨cs', hc, htr⟩ := hi i (by rw [hmm]; simp; omega)
      obtain ⟨x, rfl⟩ := dec _ _ _ htr
      obtain ⟨_, hcl, hat⟩ := World.cells?_some hc
      refine ⟨x, fun j u hj => ?_⟩
      have hjl : j < sz := by have := lt_of_getElem? hj; rw [hs] at this; exact this
      rw [hC] at hat
      rw [← Go.Deep.add_add, hat j (by rw [← hC]; rw [hC]; exact hjl), hj])
    subst hll
    refine ⟨some a, cap, l, rfl, ?_, hl, hm⟩
    by_cases hl0 : l = []
    · exact .inl hl0
    · right
      obtain ⟨x, hx⟩ : ∃ x, l[0]? = some x := getElem?_lt (List.length_pos_iff.2 hl0)
      obtain ⟨u, hu⟩ : ∃ u, (encA x)[0]? = some u := getElem?_lt (by rw [hs]; exact hsz)
      have h0 := hq 0 x hx 0 u hu
      have ha : a = ⟨a.block, a.off, none⟩ := spot_none (by simpa [Addr.add] using h0)
      have hb := block_lt (a := a) (by simpa [Addr.add] using h0)
      refine ⟨a.block, a.off, by rw [← ha], hb, fun k y hk j u hj => ?_⟩
      have := hq k y hk j u hj
      rw [ha, Addr.add_lit, ← Nat.add_assoc] at this
      exact this

set_option maxRecDepth 100000 in
theorem dec_head (n : Nat) (cs : List Value) (x : DataW H × List MemPlace) (h : DataW.trod enc Try.prog W 0 (fun _ => true) true n 64 cs = some x) :
    ∃ (h : Head) (A : Option Addr) (c : Nat), cs = [.int .i64 h.area, .int .i64 h.bears, .slice A h.guys.length c] ∧ RS encG 5 W W.heap.size A h.guys ∧ h.guys.length ≤ c ∧ c ≤ maxLen := by
  obtain ⟨xs, m, _, _, hlen, hxl, hf⟩ := DataW.trod_struct Try.underlying64 h
  rw [cellsRH] at hlen
  match cs, hlen with
  | [c0, c1, c2], _ =>
    obtain ⟨y0, hy0⟩ := some_of_lt (i := 0) hxl (by decide)
    obtain ⟨y1, hy1⟩ := some_of_lt (i := 1) hxl (by decide)
    obtain ⟨y2, hy2⟩ := some_of_lt (i := 2) hxl (by decide)
    obtain ⟨z0, e0⟩ := one_int Try.underlying3 (one_field (o := 0) (t := 3) rfl cells_int ((hf 0 _ rfl).trans hy0))
    obtain ⟨z1, e1⟩ := one_int Try.underlying3 (one_field (o := 1) (t := 3) rfl cells_int ((hf 1 _ rfl).trans hy1))
    obtain ⟨A, c, l, rfl, h1, h2, h3⟩ := cell_rows encG (by decide) (fun _ => rfl) Try.underlying62 cellsRG (one_field (o := 2) (t := 62) rfl cellsSG ((hf 2 _ rfl).trans hy2)) (fun n cs x h => dec_guy n cs x h)
    cases e0
    cases e1
    exact ⟨⟨z0, z1, l⟩, A, c, rfl, h1, h2, h3⟩

set_option maxRecDepth 100000 in
/-- An argument that is a tent reads as a list of heads. -/
theorem open_tent {v : Value} {base : Nat} {d : DataW H} {p : List MemPlace} (hv : Value.okWide Try.prog W .any base 24 v) (h : DataW.Trod enc Try.prog W 0 (fun _ => true) true 24 v d p) :
    ∃ (A : Option Addr) (c : Nat) (t : List Head), v = .slice A t.length c ∧ RH W W.heap.size A t ∧ t.length ≤ c ∧ c ≤ maxLen := by
  obtain ⟨a0, len, cap, rfl⟩ := okWide_slice Try.underlying24 hv
  obtain ⟨fuel, hf⟩ := h
  rcases open_slice Try.underlying24 hf with ⟨hcs, _⟩ | ⟨a, len', cap', m, n, D, Pl, hcs, _, hl, hm, hmm, _, hi⟩
  · simp [Value.cells] at hcs
    obtain ⟨rfl, rfl, rfl⟩ := hcs
    exact ⟨none, 0, [], rfl, .inl rfl, Nat.le_refl _, Nat.zero_le _⟩
  · simp [Value.cells] at hcs
    obtain ⟨rfl, rfl, rfl⟩ := hcs
    obtain ⟨l, hll, hq⟩ := list_of (n := len) (Q := fun i (h : Head) => ∃ (A' : Option Addr) (c' : Nat), (∀ j u, [Value.int .i64 h.area, .int .i64 h.bears, .slice A' h.guys.length c'][j]? = some u → W.cell? (a.add (i * 3 + j)) = some u) ∧ RS encG 5 W W.heap.size A' h.guys ∧ h.guys.length ≤ c' ∧ c' ≤ maxLen) (fun i hil => by
      obtain ⟨cs', hc, htr⟩ := hi i (by rw [hmm]; simp; omega)
      obtain ⟨x, A', c', rfl, h1, h2, h3⟩ := dec_head _ _ _ htr
      obtain ⟨_, hcl, hat⟩ := World.cells?_some hc
      refine ⟨x, A', c', fun j u hj => ?_, h1, h2, h3⟩
      have hjl : j < 3 := lt_of_getElem? hj
      rw [cellsRH] at hat
      rw [← Go.Deep.add_add, hat j hjl, hj])
    subst hll
    refine ⟨some a, cap, l, rfl, ?_, hl, hm⟩
    by_cases hl0 : l = []
    · exact .inl hl0
    · right
      obtain ⟨x, hx⟩ : ∃ x, l[0]? = some x := getElem?_lt (List.length_pos_iff.2 hl0)
      obtain ⟨A', c', h0, _⟩ := hq 0 x hx
      have h0 := h0 0 _ rfl
      have ha : a = ⟨a.block, a.off, none⟩ := spot_none (by simpa [Addr.add] using h0)
      have hb := block_lt (a := a) (by simpa [Addr.add] using h0)
      refine ⟨a.block, a.off, by rw [← ha], hb, fun k y hk => ?_⟩
      obtain ⟨A', c', g0, g1, g2, g3⟩ := hq k y hk
      have key : ∀ j u, [Value.int .i64 y.area, .int .i64 y.bears, .slice A' y.guys.length c'][j]? = some u → W.cell? ⟨a.block, a.off + k * 3 + j, none⟩ = some u := by
        intro j u hj
        have := g0 j u hj
        rw [ha, Addr.add_lit, ← Nat.add_assoc] at this
        exact this
      exact ⟨A', c', key 0 _ rfl, key 1 _ rfl, key 2 _ rfl, g2, g3, g1⟩
end
end Go.Proofs.Ytibaindlbpfecaa

namespace Go.Proofs.Ytibaindlbpfecaa
open Go.RowKit

theorem partsE_eq {l : List Tst} {t : List Head} : partsE l t = if faultE l t = 0 then agreeE l else faultE l t := by
  unfold partsE firstE tentedE orM faultE tentE
  by_cases h1 : testsFault l = 0 <;> by_cases h2 : tentOk t = true <;> simp [h1, h2, orM]
theorem ints_val (A1 A2 : Option Addr) (c1 c2 : Nat) {a b : List Int} {n1 n2 : Nat} (h1 : n1 = a.length) (h2 : n2 = b.length) (h : a = b) (w : World) (ha : RS encI 1 w w.heap.size A1 a) (hb : RS encI 1 w w.heap.size A2 b) (hl : n1 ≤ 1000) :
    Calls Try.prog 39 #[.slice A1 n1 c1, .slice A2 n2 c2] w fun e w' => e = .returned (.bool true) ∧ Below w.heap.size w w' := by
  subst h1 h2 h
  have := ints_any A1 A2 c1 c2 a a w ha hb (by show _ ≤ _; unfold maxLen; omega) (by show _ ≤ _; unfold maxLen; omega)
  rw [show decide (a = a) = true from by simp] at this
  exact this

theorem parts_many (A : Option Addr) (c : Nat) (l : List Tst) (A' : Option Addr) (c' : Nat) (t : List Head) (w : World) (ht : RH w w.heap.size A' t) (hl : l.length ≤ maxLen) (htl : t.length ≤ maxLen) (hf : fewB l t = false) :
    Calls Try.prog 9 #[.slice A l.length c, .slice A' t.length c'] w fun e w' => e = .returned (.bool true) ∧ Below w.heap.size w w' := by
  have hv := fun W h => Few_any A c l A' c' t W h hl htl
  rw [hf] at hv
  have Hv := Lib.hid hv
  clear hv hf hl htl
  go_enter Try.func9, Try.ntmps9
  go_wp2_with (first | (go_at_call 14; refine (Hv.out _ ht).mono ?_; rintro e w1 ⟨rfl, hb1⟩) | (go_at_call 20; refine (wakes_any _).mono ?_; rintro e w2 ⟨rfl, hb2⟩; obtain ⟨hc2, hf2⟩ := bcell hb2))
  go_ret
  exact ⟨rfl, sh_next hb1 hb2⟩

set_option maxRecDepth 100000 in
set_option maxHeartbeats 4000000 in
theorem parts_bad (A : Option Addr) (c : Nat) (l : List Tst) (A' : Option Addr) (c' : Nat) (t : List Head) (w : World) (hr : RS encT 4 w w.heap.size A l) (ht : RH w w.heap.size A' t) (hf : fewB l t = true) (hb : tentOk t = false) :
    Calls Try.prog 9 #[.slice A l.length c, .slice A' t.length c'] w fun e w' => e = .returned (.bool true) ∧ Below w.heap.size w w' := by
  obtain ⟨hg10, hl45, ht15⟩ := fewB_iff.1 hf
  have hlm : l.length ≤ maxLen := by show _ ≤ _; unfold maxLen; omega
  have htm : t.length ≤ maxLen := by show _ ≤ _; unfold maxLen; omega
  obtain ⟨z, hz⟩ : ∃ z, faultE l t = z := ⟨_, rfl⟩
  have hz0 : z ≠ 0 := by rw [← hz]; unfold faultE; rw [hb]; split <;> simp_all
  have hpe : partsE l t = z := by rw [partsE_eq, hz, if_neg hz0]
  have hte : tentE t = 1 := by unfold tentE; rw [hb]; rfl
  have HFew := Lib.hid (fun W h => hf ▸ Few_any A c l A' c' t W h hlm htm)
  have HTent := Lib.hid (fun W h => Tent_any A' c' t W h (by omega) (fun x hx => by have := hg10 x hx; omega))
  have HTests := Lib.hid (fun W h => Tests_any A c l W h (by omega))
  have HOver := Lib.hid (fun W B b h => Over_err B b t 1 (by decide) W h htm hte)
  have HCheck := Lib.hid (fun W B b h => hte ▸ checkTent_any B b t W h htm)
  have HParts := Lib.hid (fun W B b B' b' h h' => Parts_err B b l B' b' t z hz0 W h hlm h' htm hpe)
  have HRight := Lib.hid (fun W h => hb ▸ refRight_any A' c' t W h htm)
  have HFault := Lib.hid (fun W h h' => hz ▸ Fault_any A c l A' c' t W h hlm h' htm)
  have e1 : (z == 0) = false := by simpa using hz0
  have e2 : (z != 0) = true := by simpa using hz0
  clear hf hb hz hpe hte hg10 hlm htm hz0
  go_enter Try.func9, Try.ntmps9
  go_upto_region 3 with (go_at_call 14; refine (HFew.out _ ht).mono ?_; rintro e w1 ⟨rfl, hb1⟩)
  have ht1 := ht.to hb1
  have hr1 := hr.to hb1
  go_upto_region 4 with (first | (go_at_call 18; refine (HTent.out _ ht1).mono ?_; rintro e w2 ⟨A2, c2, rfl, hs2, _, _, hb2⟩) | (go_at_call 37; refine (HOver.out _ A2 c2 hs2).mono ?_; rintro e w3 ⟨rfl, hb3⟩))
  have ht3 := (ht1.to hb2).to hb3
  have hr3 := (hr1.to hb2).to hb3
  have hB3 := (sh_next hb1 hb2).trans (hb3.mono (sh_next hb1 hb2).size)
  go_upto_region 5 with (first | (go_at_call 17; refine (HTests.out _ hr3).mono ?_; rintro e w4 ⟨A4, c4, rfl, hs4, _, _, hb4⟩) | (go_at_call 18; refine (HTent.out _ (ht3.to hb4)).mono ?_; rintro e w5 ⟨A5, c5, rfl, hs5, _, _, hb5⟩) | (go_at_call 52; refine (HParts.out _ A4 c4 A5 c5 (hs4.to hb5) hs5).mono ?_; rintro e w6 ⟨rfl, hb6⟩))
  have ht6 := ((ht3.to hb4).to hb5).to hb6
  have hr6 := ((hr3.to hb4).to hb5).to hb6
  have hB5 := hB3.trans ((sh_next hb4 hb5).mono hB3.size)
  have hB6 := hB5.trans (hb6.mono hB5.size)
  clear hs4 hs5 hs2 ht ht1 ht3 hr hr1 hr3 hb1 hb2 hb3 hb4 hb5 hb6 hB3 hB5
  have tk1 : True := trivial
  have tk2 : True := trivial
  have tk3 : True := trivial
  go_upto_region 7 with (first | (go_at_call 18; have := tk1; clear this tk1; refine (HTent.out _ ht6).mono ?_; rintro e w7 ⟨A7, c7, rfl, hs7, _, _, hb7⟩; have ht7 := ht6.to hb7) | (go_at_call 44; have := tk2; clear this tk2; refine (HCheck.out _ A7 c7 hs7).mono ?_; rintro e w8 ⟨rfl, hb8⟩; have ht8 := ht7.to hb8) | (go_at_call 53; have := tk3; clear this tk3; refine (HRight.out _ ht8).mono ?_; rintro e w9 ⟨rfl, hb9⟩; have ht9 := ht8.to hb9) | (go_at_call 53; refine (HRight.out _ ht9).mono ?_; rintro e w10 ⟨rfl, hb10⟩; have ht10 := ht9.to hb10) | (go_at_call 18; refine (HTent.out _ ht10).mono ?_; rintro e w11 ⟨A11, c11, rfl, hs11, _, _, hb11⟩) | (go_at_call 44; refine (HCheck.out _ A11 c11 hs11).mono ?_; rintro e w12 ⟨rfl, hb12⟩))
  have hX8 := sh_next hb7 hb8
  have hX10 := hX8.trans ((sh_next hb9 hb10).mono hX8.size)
  have hX12 := hX10.trans ((sh_next hb11 hb12).mono hX10.size)
  have ht12 := ht6.to hX12
  have hr12 := hr6.to hX12
  have hB12 := hB6.trans (hX12.mono hB6.size)
  clear hs7 hs11 ht6 ht7 ht8 ht9 ht10 hb7 hb8 hb9 hb10 hb11 hb12 hX8 hX10 hX12 hB6
  go_wp2_with (first | (go_at_call 53; refine (HRight.out _ ht12).mono ?_; rintro e w13 ⟨rfl, hb13⟩; have ht13 := ht12.to hb13; have hr13 := hr12.to hb13) | (go_at_call 55; refine (HFault.out _ hr13 ht13).mono ?_; rintro e w14 ⟨rfl, hb14⟩) | (go_at_call 20; refine (wakes_any _).mono ?_; rintro e w15 ⟨rfl, hb15⟩; obtain ⟨hc15, hf15⟩ := bcell hb15))
  go_ret
  have hX := hB12.trans (hb13.mono hB12.size)
  have hY := hX.trans (hb14.mono hX.size)
  exact ⟨rfl, hY.trans (hb15.mono hY.size)⟩
end Go.Proofs.Ytibaindlbpfecaa

namespace Go.Proofs.Ytibaindlbpfecaa
open Go.RowKit

def PartsAll (l : List Tst) (t : List Head) (pe : Int) (w : World) (e : Ending) (w' : World) : Prop :=
  ∃ A n c, e = .returned (.tuple #[.slice A n c, .int .i64 pe]) ∧ (pe ≠ 0 → n = 0) ∧ (pe = 0 → n = t.length ∧ RR w' w'.heap.size A (partsT l t)) ∧ Below w.heap.size w w'
theorem Parts_all {l : List Tst} {t : List Head} {pe : Int} (h : partsE l t = pe) (A : Option Addr) (c : Nat) (A' : Option Addr) (c' : Nat) (w : World) (hr : RS encT 4 w w.heap.size A l) (hl : l.length ≤ maxLen) (ht : RH w w.heap.size A' t) (htl : t.length ≤ maxLen) :
    Calls Try.prog 52 #[.slice A l.length c, .slice A' t.length c'] w (PartsAll l t pe w) := by
  by_cases h0 : pe = 0
  · subst h0
    refine (Parts_ok A c l A' c' t w hr hl ht htl h).mono ?_
    rintro e w' ⟨A1, c1, rfl, h1, _, _, h4⟩
    exact ⟨A1, _, c1, rfl, fun h => absurd rfl h, fun _ => ⟨rfl, h1⟩, h4⟩
  · refine (Parts_err A c l A' c' t pe h0 w hr hl ht htl h).mono ?_
    rintro e w' ⟨rfl, h4⟩
    exact ⟨none, 0, 0, rfl, fun _ => rfl, fun h => absurd h h0, h4⟩
theorem refOver_val {h : Head} {b : Bool} (hv : decide (h.bears < downM h) = b) (A : Option Addr) (c : Nat) (hh : h.ok = true) (w : World) (hr : RS encG 5 w w.heap.size A h.guys) :
    Calls Try.prog 54 #[.agg #[.int .i64 h.area, .int .i64 h.bears, .slice A h.guys.length c]] w fun e w' => e = .returned (.bool b) ∧ Below w.heap.size w w' := by
  rw [← hv]; exact refOverloaded_any A c h hh w hr

set_option maxRecDepth 100000 in
set_option maxHeartbeats 4000000 in
theorem parts_good (A : Option Addr) (c : Nat) (l : List Tst) (A' : Option Addr) (c' : Nat) (t : List Head) (w : World) (hr : RS encT 4 w w.heap.size A l) (ht : RH w w.heap.size A' t) (hf : fewB l t = true) (hb : tentOk t = true) :
    Calls Try.prog 9 #[.slice A l.length c, .slice A' t.length c'] w fun e w' => e = .returned (.bool true) ∧ Below w.heap.size w w' := by
  obtain ⟨i0, hi0, hz0, hz1, hz2⟩ := info_parts infoI
  obtain ⟨hg10, hl45, ht15⟩ := fewB_iff.1 hf
  have hlm : l.length ≤ maxLen := by show _ ≤ _; unfold maxLen; omega
  have htm : t.length ≤ maxLen := by show _ ≤ _; unfold maxLen; omega
  have htk : t.length ≤ 12 ∧ ∀ x ∈ t, x.ok = true := by have := hb; simp [tentOk] at this; exact ⟨this.2.1, this.2.2⟩
  obtain ⟨ht12, hok⟩ := htk
  obtain ⟨z, hz⟩ : ∃ z, faultE l t = z := ⟨_, rfl⟩
  obtain ⟨a, ha⟩ : ∃ a, agreeE l = a := ⟨_, rfl⟩
  obtain ⟨pe, hpe⟩ : ∃ a, partsE l t = a := ⟨_, rfl⟩
  have hpz : pe = if z = 0 then a else z := by rw [← hpe, partsE_eq, hz, ha]
  have hzl : z = 0 → ∀ x ∈ l, x.ok = true := by
    intro h0
    rw [← hz] at h0
    unfold faultE at h0
    split at h0
    · rename_i h; exact (testsFault_ok h).1
    · rename_i h; exact absurd h0 h
  have hte : tentE t = 0 := by unfold tentE; rw [hb]; rfl
  have HFew := Lib.hid (fun W h => hf ▸ Few_any A c l A' c' t W h hlm htm)
  have HTent := Lib.hid (fun W h => Tent_any A' c' t W h (by omega) (fun x hx => by have := hg10 x hx; omega))
  have HTests := Lib.hid (fun W h => Tests_any A c l W h (by omega))
  have HOver := Lib.hid (fun W B b h => Over_ok B b t W h htm hte ht12 hok)
  have HCheck := Lib.hid (fun W B b h => hte ▸ checkTent_any B b t W h htm)
  have HParts := Lib.hid (fun W B b B' b' h h' => Parts_all hpe B b B' b' W h hlm h' htm)
  have HRight := Lib.hid (fun W h => hb ▸ refRight_any A' c' t W h htm)
  have HFault := Lib.hid (fun W h h' => hz ▸ Fault_any A c l A' c' t W h hlm h' htm)
  have HClash := Lib.hid (fun (h0 : z = 0) W h => ha ▸ clashing_any A c l W h hlm (hzl h0))
  have Hpz := Lib.hid hpz
  have Hzl := Lib.hid hzl
  have Hok := Lib.hid hok
  clear hf hb hz hpe hte hg10 ha hpz hzl hok
  go_enter Try.func9, Try.ntmps9
  go_upto_region 3 with (go_at_call 14; refine (HFew.out _ ht).mono ?_; rintro e w1 ⟨rfl, hb1⟩)
  have ht1 := ht.to hb1
  have hr1 := hr.to hb1
  go_upto_region 4 with (first | (go_at_call 18; refine (HTent.out _ ht1).mono ?_; rintro e w2 ⟨A2, c2, rfl, hs2, _, _, hb2⟩) | (go_at_call 37; refine (HOver.out _ A2 c2 hs2).mono ?_; rintro e w3 ⟨A3, c3, rfl, ho3, _, _, hb3⟩))
  have ht3 := (ht1.to hb2).to hb3
  have hr3 := (hr1.to hb2).to hb3
  have hB3 := (sh_next hb1 hb2).trans (hb3.mono (sh_next hb1 hb2).size)
  go_upto_region 5 with (first | (go_at_call 17; refine (HTests.out _ hr3).mono ?_; rintro e w4 ⟨A4, c4, rfl, hs4, _, _, hb4⟩) | (go_at_call 18; refine (HTent.out _ (ht3.to hb4)).mono ?_; rintro e w5 ⟨A5, c5, rfl, hs5, _, _, hb5⟩) | (go_at_call 52; refine (HParts.out _ A4 c4 A5 c5 (hs4.to hb5) hs5).mono ?_; rintro e w6 ⟨A6, n6, c6, rfl, hn6, hp6, hb6⟩))
  have ht6 := ((ht3.to hb4).to hb5).to hb6
  have hr6 := ((hr3.to hb4).to hb5).to hb6
  have ho6 := ((ho3.to hb4).to hb5).to hb6
  have hB5 := hB3.trans ((sh_next hb4 hb5).mono hB3.size)
  have hB6 := hB5.trans (hb6.mono hB5.size)
  have Hn6 := Lib.hid hn6
  have Hp6 := Lib.hid hp6
  clear hs4 hs5 hs2 ht ht1 ht3 hr hr1 hr3 hb1 hb2 hb3 hb4 hb5 hb6 hB3 hB5 ho3 hn6 hp6
  have tk1 : True := trivial
  have tk2 : True := trivial
  go_upto_region 8 with (first | (go_at_call 18; refine (HTent.out _ ht6).mono ?_; rintro e w7 ⟨A7, c7, rfl, hs7, _, _, hb7⟩; have ht7 := ht6.to hb7) | (go_at_call 44; refine (HCheck.out _ A7 c7 hs7).mono ?_; rintro e w8 ⟨rfl, hb8⟩; have ht8 := ht7.to hb8) | (go_at_call 53; have := tk1; clear this tk1; refine (HRight.out _ ht8).mono ?_; rintro e w9 ⟨rfl, hb9⟩; have ht9 := ht8.to hb9) | (go_at_call 53; have := tk2; clear this tk2; refine (HRight.out _ ht9).mono ?_; rintro e w10 ⟨rfl, hb10⟩; have ht10 := ht9.to hb10) | (go_at_call 53; refine (HRight.out _ ht10).mono ?_; rintro e w11 ⟨rfl, hb11⟩))
  have hX8 := sh_next hb7 hb8
  have hX10 := hX8.trans ((sh_next hb9 hb10).mono hX8.size)
  have hX := hX10.trans (hb11.mono hX10.size)
  have ht11 := ht6.to hX
  have hr11 := hr6.to hX
  have ho11 := ho6.to hX
  have hB11 := hB6.trans (hX.mono hB6.size)
  have Hp11 : Hid (pe = 0 → n6 = t.length ∧ RR w11 w11.heap.size A6 (partsT l t)) := by
    intro h0; exact ⟨(Hp6.out h0).1, (Hp6.out h0).2.to hX⟩
  clear hs7 ht6 ht7 ht8 ht9 ht10 hb7 hb8 hb9 hb10 hb11 hX8 hX10 hX hB6 hr6 ho6 Hp6
  go_wp2
  go_loopw [9, 10] (fun v i wr => ∃ k : Nat, k ≤ t.length ∧ i = .int .i64 k ∧ wr.ownsRow w11.heap.size 3 1 v (overM t k).length ((overM t k).flatMap encI) ∧ Below w11.heap.size w11 wr) (fun _ i _ => t.length - (intOf i).toNat)
  case atStart => exact ⟨0, Nat.zero_le _, rfl, World.ownsRow_nil _ _ _ _, Below.refl _ _⟩
  case round =>
    obtain ⟨k, hk, rfl, hown, hB⟩ := hrel
    have hBz := hB.size
    by_cases hlt : k < t.length
    · obtain ⟨h, hh⟩ := getElem?_lt hlt
      have Hhk := Lib.hid (Hok.out h (List.mem_of_getElem? hh))
      obtain ⟨b, off, B2, d2, rfl, hb, x0, x1, x2, hg1, hg2, hg⟩ := (ht11.below hB (Nat.le_refl _)).at_ hh
      have Hh := Lib.hid hh
      have hole := overM_le t k
      have hgg := hg.more hBz
      clear hh hg ht11 hr11 ho11
      cases ho : decide (h.bears < downM h)
      · have Ho0 : ¬ downM h > h.bears := by simpa using ho
        have Ho := Lib.hid Ho0
        clear Ho0
        go_wp2_with (go_at_call 54; refine (refOver_val ho B2 d2 Hhk.out _ hgg).mono ?_; rintro e w2 ⟨rfl, hb2⟩)
        refine ⟨⟨k + 1, by omega, by go_num, ?_, hB.trans (hb2.mono hBz)⟩, by simp [intOf]; omega⟩
        rw [overM_no Hh.out (by have := Ho.out; omega)]
        exact own_below hown hb2
      · have Ho0 : downM h > h.bears := by simpa using ho
        have Ho := Lib.hid Ho0
        clear Ho0
        have hb2z : ∀ {w2 : World}, Below wr.heap.size wr w2 → w11.heap.size ≤ w2.heap.size := fun h => Nat.le_trans hBz h.size
        go_wp2_with (first | (go_at_call 54; refine (refOver_val ho B2 d2 Hhk.out _ hgg).mono ?_; rintro e w2 ⟨rfl, hb2⟩; have hown2 := own_below hown hb2) | (at_builtin; refine wpList_append_own _ rfl _ _ 50 rfl w11.heap.size 3 i0 (.int .i64 0) 1 8 Try.underlying50 hi0 hz0 hz1 hz2 rfl (by decide) _ _ _ rfl (hown2.alloc _) ⟨_, 0, none⟩ 1 1 [.int .i64 (k : Int)] rfl rfl ?c1 ?c2 ?c3 ?c4 ?c5 ?_))
        case c1 => exact cell_one_new _ _ _
        case c2 => simp [Value.oneCell']
        case c3 => unfold maxLen; omega
        case c4 => omega
        case c5 => have := hb2z hb2; simp; omega
        intro v2 w3 hown3 hgrow3 _
        have hz2 := hb2z hb2
        have hB4 := app_belowL ((hB.trans (hb2.mono hBz)).alloc (by omega) (.cells #[.int .i64 (k : Int)] 3)) (Nat.le_refl _) (by simp; omega) (hown2.alloc _) hgrow3
        go_wp2
        refine ⟨⟨k + 1, by omega, by go_num, ?_, hB4⟩, by simp [intOf]; omega⟩
        rw [overM_yes Hh.out Ho.out, List.length_append, List.flatMap_append]
        exact hown3
    · obtain ⟨A9, c9, rfl, _, _⟩ := own_slice hown
      obtain rfl : k = t.length := by omega
      have hole := overM_le t t.length
      have hrs : RS encI 1 wr wr.heap.size A9 (overM t t.length) := RS.of_own (enc := encI) (sz := 1) (fun _ => rfl) hown rfl
      have hoz := ho11.to hB
      have htz := ht11.to hB
      have hrz := hr11.to hB
      have hBw := hB11.trans (hB.mono hB11.size)
      have Hpz' : Hid (pe = 0 → n6 = t.length ∧ RR wr wr.heap.size A6 (partsT l t)) := by
        intro h0; exact ⟨(Hp11.out h0).1, (Hp11.out h0).2.to hB⟩
      clear hown hB hB11 Hp11 ht11 hr11 ho11
      by_cases hp0 : pe = 0
      · have hza : z = 0 ∧ a = 0 := by
          have := Hpz.out
          by_cases h0 : z = 0
          · rw [if_pos h0] at this; exact ⟨h0, by omega⟩
          · rw [if_neg h0] at this; omega
        obtain ⟨h0, h1⟩ := hza
        obtain ⟨hn, hrr⟩ := Hpz'.out hp0
        subst hn
        have Hlok := Lib.hid (Hzl.out h0)
        have hcl := HClash.out h0
        have Hcl := Lib.hid hcl
        clear hcl Hpz Hpz' Hn6 Hzl HClash
        subst h0 h1 hp0
        go_wp2_with (first | (go_at_call 39; refine (ints_val A3 A9 c3 c9 rfl rfl rfl _ hoz hrs (by omega)).mono ?_; rintro e w12 ⟨rfl, hb12⟩) | (go_at_call 55; refine (HFault.out _ (hrz.to hb12) (htz.to hb12)).mono ?_; rintro e w13 ⟨rfl, hb13⟩) | (go_at_call 49; refine (Hcl.out _ ((hrz.to hb12).to hb13)).mono ?_; rintro e w14 ⟨rfl, hb14⟩))
        have hX := (sh_next hb12 hb13).trans (hb14.mono (sh_next hb12 hb13).size)
        have hr14 := hrz.to hX
        have ht14 := htz.to hX
        have hp14 := hrr.to hX
        have hB14 := hBw.trans (hX.mono hBw.size)
        clear hb12 hb13 hb14 hX hrz htz hrr hBw hoz hrs
        go_loopw [12] (fun i wr => ∃ k : Nat, k ≤ t.length ∧ i = .int .i64 k ∧ Below w14.heap.size w14 wr) (fun i _ => t.length - (intOf i).toNat)
        case atStart => exact ⟨0, Nat.zero_le _, rfl, Below.refl _ _⟩
        case round =>
          obtain ⟨k, hk, rfl, hB⟩ := hrel
          by_cases hlt : k < t.length
          · obtain ⟨wo, hwo⟩ : ∃ x, x = wr := ⟨_, rfl⟩
            subst hwo
            have hBz := hB.size
            obtain ⟨h, hh⟩ := getElem?_lt hlt
            have Hhk := Lib.hid (Hok.out h (List.mem_of_getElem? hh))
            have hgl := Head.guys_le Hhk.out
            have Hgs := Lib.hid (Head.guys_ok Hhk.out)
            have Hh := Lib.hid hh
            have hP : (partsT l t)[k]? = some (partsM l h) := by simp [partsT, hh]
            have HP := Lib.hid hP
            have htO := ht14.to hB
            have hrO := hr14.to hB
            have hpO := hp14.to hB
            clear hP hh ht14 hr14 hp14
            go_wp2
            go_loopw [13, 14] (fun v j wr => ∃ m : Nat, m ≤ h.guys.length ∧ j = .int .i64 m ∧ wr.ownsRow wo.heap.size 3 1 v m (((partsM l h).take m).flatMap encI) ∧ Below wo.heap.size wo wr) (fun _ j _ => h.guys.length - (intOf j).toNat)
            case atStart => exact ⟨0, Nat.zero_le _, rfl, World.ownsRow_nil _ _ _ _, Below.refl _ _⟩
            case round =>
              obtain ⟨m, hm, rfl, hown, hB2⟩ := hrel
              have hB2z := hB2.size
              obtain ⟨b, off, B2, d2, hA, hb, x0, x1, x2, hg1, hg2, hg⟩ := (htO.below hB2 (Nat.le_refl _)).at_ Hh.out
              unfold maxLen at hg2
              by_cases hlt2 : m < h.guys.length
              · obtain ⟨g, hgm⟩ := getElem?_lt hlt2
                have gok := Lib.hid (Hgs.out g (List.mem_of_getElem? hgm))
                obtain ⟨b2, off2, rfl, hb2, hc⟩ := hg.at_ hgm
                obtain ⟨y0, y1, y2, y3, y4⟩ := five_cells hc
                have HF : Hid ((partsM l h)[m]? = some (g.part l)) := by
                  show (h.guys.map (Guy.part l))[m]? = _
                  rw [List.getElem?_map, hgm]; rfl
                subst hA
                have hrr := hrO.to hB2
                have hb2z : ∀ {w2 : World}, Below wr.heap.size wr w2 → wo.heap.size ≤ w2.heap.size := fun h => Nat.le_trans hB2z h.size
                clear hgm hc hg hrO htO hpO
                go_wp2_with (first | (go_at_call 56; refine (refPart_any A c l _ g hrr (by unfold maxLen; omega) Hlok.out gok.out).mono ?_; rintro e w2 ⟨rfl, hb2⟩; have hown2 := own_below hown hb2) | (at_builtin; refine wpList_append_own _ rfl _ _ 50 rfl wo.heap.size 3 i0 (.int .i64 0) 1 8 Try.underlying50 hi0 hz0 hz1 hz2 rfl (by decide) _ _ _ rfl (hown2.alloc _) ⟨_, 0, none⟩ 1 1 [.int .i64 (g.part l)] rfl rfl ?c1 ?c2 ?c3 ?c4 ?c5 ?_))
                case c1 => exact cell_one_new _ _ _
                case c2 => simp [Value.oneCell']
                case c3 => unfold maxLen; omega
                case c4 => omega
                case c5 => have := hb2z hb2; simp; omega
                intro v2 w3 hown3 hgrow3 _
                have hz2 := hb2z hb2
                have hB4 := app_belowL ((hB2.trans (hb2.mono hB2z)).alloc (by omega) (.cells #[.int .i64 (g.part l)] 3)) (Nat.le_refl _) (by simp; omega) (hown2.alloc _) hgrow3
                go_wp2
                refine ⟨⟨m + 1, by omega, by go_num, ?_, hB4⟩, by simp [intOf]; omega⟩
                rw [flat_snoc HF.out]
                exact hown3
              · obtain ⟨A10, c10, rfl, _, _⟩ := own_slice hown
                obtain rfl : m = h.guys.length := by omega
                rw [List.take_of_length_le (by rw [partsM_length]; omega)] at hown
                have hrw : RS encI 1 wr wr.heap.size A10 (partsM l h) := RS.of_own (enc := encI) (sz := 1) (fun _ => rfl) hown partsM_length.symm
                obtain ⟨b2, off2, A11, c11, rfl, hb2, q0, q1, q2, q3⟩ := (hpO.to hB2).at_ HP.out
                rw [partsM_length] at q0
                have Hlen := Lib.hid (partsM_length (l := l) (h := h))
                subst hA
                clear hg hown hrO htO hpO
                go_wp2_with (go_at_call 39; refine (ints_val A11 A10 c11 c10 Hlen.out.symm Hlen.out.symm rfl _ q3 hrw (by omega)).mono ?_; rintro e w15 ⟨rfl, hb15⟩)
                have hB5 := hB2.trans (hb15.mono hB2z)
                refine ⟨⟨k + 1, by omega, by go_num, hB.trans (hB5.mono hBz)⟩, by simp [intOf]; omega⟩
          · go_wp2_with ((go_at_call 20; refine (wakes_any _).mono ?_; rintro e w16 ⟨rfl, hb16⟩; obtain ⟨hc16, hf16⟩ := bcell hb16))
            go_ret
            have hX := hB14.trans (hB.mono hB14.size)
            exact ⟨rfl, hX.trans (hb16.mono hX.size)⟩
      · have hn := Hn6.out hp0
        subst hn
        have e0 : (pe != 0) = true := by simpa using hp0
        by_cases h0 : z = 0
        · have h1 : pe = a := by rw [Hpz.out, if_pos h0]
          have hcl := HClash.out h0
          have Hcl := Lib.hid hcl
          clear hcl Hpz Hpz' Hn6 Hzl HClash hp0
          subst h0 h1
          go_wp2_with (first | (go_at_call 39; refine (ints_val A3 A9 c3 c9 rfl rfl rfl _ hoz hrs (by omega)).mono ?_; rintro e w12 ⟨rfl, hb12⟩) | (go_at_call 55; refine (HFault.out _ (hrz.to hb12) (htz.to hb12)).mono ?_; rintro e w13 ⟨rfl, hb13⟩) | (go_at_call 49; refine (Hcl.out _ ((hrz.to hb12).to hb13)).mono ?_; rintro e w14 ⟨rfl, hb14⟩) | (go_at_call 20; refine (wakes_any _).mono ?_; rintro e w15 ⟨rfl, hb15⟩; obtain ⟨hc15, hf15⟩ := bcell hb15))
          go_ret
          have hX := (sh_next hb12 hb13).trans (hb14.mono (sh_next hb12 hb13).size)
          have hY := hBw.trans (hX.mono hBw.size)
          exact ⟨rfl, hY.trans (hb15.mono hY.size)⟩
        · have h1 : pe = z := by rw [Hpz.out, if_neg h0]
          have e1 : (pe == 0) = false := by simpa using hp0
          clear Hpz Hpz' Hn6 Hzl HClash hp0 h0
          subst h1
          go_wp2_with (first | (go_at_call 39; refine (ints_val A3 A9 c3 c9 rfl rfl rfl _ hoz hrs (by omega)).mono ?_; rintro e w12 ⟨rfl, hb12⟩) | (go_at_call 55; refine (HFault.out _ (hrz.to hb12) (htz.to hb12)).mono ?_; rintro e w13 ⟨rfl, hb13⟩) | (go_at_call 20; refine (wakes_any _).mono ?_; rintro e w15 ⟨rfl, hb15⟩; obtain ⟨hc15, hf15⟩ := bcell hb15))
          go_ret
          have hX := sh_next hb12 hb13
          have hY := hBw.trans (hX.mono hBw.size)
          exact ⟨rfl, hY.trans (hb15.mono hY.size)⟩
end Go.Proofs.Ytibaindlbpfecaa

namespace Go.Proofs.Ytibaindlbpfecaa
open Go.RowKit
theorem parts_any (A : Option Addr) (c : Nat) (l : List Tst) (A' : Option Addr) (c' : Nat) (t : List Head) (w : World) (hr : RS encT 4 w w.heap.size A l) (hl : l.length ≤ maxLen) (ht : RH w w.heap.size A' t) (htl : t.length ≤ maxLen) :
    Calls Try.prog 9 #[.slice A l.length c, .slice A' t.length c'] w fun e w' => e = .returned (.bool true) ∧ Below w.heap.size w w' := by
  cases hf : fewB l t
  · exact parts_many A c l A' c' t w ht hl htl hf
  · cases hb : tentOk t
    · exact parts_bad A c l A' c' t w hr ht hf hb
    · exact parts_good A c l A' c' t w hr ht hf hb
end Go.Proofs.Ytibaindlbpfecaa
