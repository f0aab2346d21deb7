import Derived.Test.YtlfaafhdacmgnaaBalances
import Derived.Test.YtlfaafhdacmgnaaUpto

namespace Go.Proofs.Ytlfaafhdacmgnaa
open Go.RowKit

section
variable {P : Program} {w : World}
/-- An append of a whole slice, that may be nil, to a row of the call's own, at a step of a region that draws its order. -/
theorem step_append_any {ops : Array Oper} {o : Oper} {a : Act} {K : Act → World → Prop} {Q : Exit → Act → World → Prop} {E : Prop} (hgd : o.guard = none) (s x : Operand) (t : TypeId)
    (ho : o.op = .call { callee := .builtin .append, args := #[s, x], argTypes := #[t, t] })
    (base : Nat) (e : TypeId) (i : TypeInfo) (z : Value) (size bytes : Nat) (ht : P.underlying t = some (.slice e)) (hi : P.info? e = some i) (hz : i.zero = some z)
    (hsize : i.size = size) (hby : i.bytes = bytes) (hzs : z.cells.size = size) (hsz : 0 < size)
    (v : Value) (n : Nat) (xs : List Value) (hs : a.eval s = v) (hown : w.ownsRow base e size v n xs)
    (ao : Option Addr) (m c : Nat) (news : List Value) (hx : a.eval x = .slice ao m c) (hl : news.length = m * size) (hnone : ao = none → m = 0) (hnews : ∀ ad, ao = some ad → ∀ j u, news[j]? = some u → w.cell? (ad.add j) = some u) (h1 : ∀ u ∈ news, u.oneCell' = true)
    (h63 : n + m ≤ maxLen) (hbytes : (n + m) * bytes ≤ 140737488355328) (hbase : base ≤ w.heap.size)
    (h : ∀ v' w', w'.ownsRow base e size v' (n + m) (xs ++ news) → w.grownBy w' v.ownBlock → K (a.put o.dst v') w') :
    if Region.wanted o (yielded ops a.tmps) = true then Oper.wp P o a w K Q else E := by
  have hw : Region.wanted o (yielded ops a.tmps) = true := by simp [Region.wanted, hgd]
  rw [if_pos hw]
  have key : ∃ v' w', (Builtin.append_ #[t, t] o.type #[v, .slice ao m c]).run P w = .ok v' w' ∧ w'.ownsRow base e size v' (n + m) (xs ++ news) ∧ w.grownBy w' v.ownBlock := by
    cases ao with
    | some ad =>
      obtain ⟨v', w', hr, h2, h3, h4⟩ := run_append_own_at (P := P) w base t o.type e i z size bytes ht hi hz hsize hby hzs hsz v n xs hown ad m c news hl (hnews ad rfl) h1 h63 hbytes hbase
      exact ⟨v', w', hr, h2, h3⟩
    | none =>
      obtain rfl := hnone rfl
      have hnews : news = [] := List.eq_nil_of_length_eq_zero (by simpa using hl)
      subst hnews
      obtain ⟨A, c', rfl, hle, _⟩ := own_slice hown
      exact ⟨_, w, run_append_nothing (P := P) w t t o.type e i ht hi A n c' hle _ (Src.ofNil w ht c), by simpa using hown, World.grownBy.refl _ _⟩
  obtain ⟨v', w', hr, h2, h3⟩ := key
  unfold Oper.wp execOp
  simp only [ho, resolve, invoke, builtin, Sem.run_bind, Sem.run_pure, Result.andThen_ok, List.map_toArray, List.map_cons, List.map_nil, hs, hx, hr]
  exact h v' w' h2 h3
/-- An empty block that is made now is a row of the call's own. -/
theorem own_empty (w : World) (e : TypeId) (sz : Nat) : (w.alloc (.cells #[] e)).ownsRow w.heap.size e sz (.slice (some ⟨w.heap.size, 0, none⟩) 0 0) 0 [] :=
  ⟨by simp, .inr ⟨w.heap.size, 0, #[], rfl, Nat.le_refl _, heap_alloc_new w _, Nat.le_refl _, Nat.zero_le _, by simp, by simp⟩⟩
end

theorem ints_len (ps : List Int) : (ps.flatMap encI).length = ps.length * 1 := by
  induction ps with
  | nil => rfl
  | cons a ps ih => rw [List.flatMap_cons, List.length_append, ih]; simp [encI]; omega
theorem ints_one (ps : List Int) : ∀ u ∈ ps.flatMap encI, u.oneCell' = true := by
  intro u hu
  rw [List.mem_flatMap] at hu
  obtain ⟨x, _, hx⟩ := hu
  simp [encI] at hx
  subst hx
  rfl
theorem either_skip (A : Option Addr) (c : Nat) (l : List Tst) (A' : Option Addr) (c' : Nat) (t : List Head) (head : Int) (push way : Vec) (whole : Int) (A9 : Option Addr) (c9 : Nat) (ps : List Int) (w : World) (hr : RS encT 4 w w.heap.size A l) (hl : l.length ≤ maxLen) (ht : RH w w.heap.size A' t) (htl : t.length ≤ maxLen) (hpl : ps.length ≤ maxLen)
    (hs : fewB l t = false ∨ faultE l t ≠ 0 ∨ agreeE l ≠ 0 ∨ push.corner = false ∨ 12 < ps.length) :
    Calls Try.prog 13 #[.slice A l.length c, .slice A' t.length c', .int .u8 head, .agg #[.int .i64 push.x, .int .i64 push.y], .agg #[.int .i64 way.x, .int .i64 way.y], .agg #[.int .i64 whole, .slice A9 ps.length c9]] w fun e w' => e = .returned (.bool true) ∧ Below w.heap.size w w' := by
  obtain ⟨fb, hfb⟩ : ∃ b, fewB l t = b := ⟨_, rfl⟩
  obtain ⟨z, hz⟩ : ∃ z, faultE l t = z := ⟨_, rfl⟩
  obtain ⟨a, ha⟩ : ∃ z, agreeE l = z := ⟨_, rfl⟩
  obtain ⟨cb, hcb⟩ : ∃ z, push.corner = z := ⟨_, rfl⟩
  have HFew := Lib.hid (fun W h => hfb ▸ Few_any A c l A' c' t W h hl htl)
  have HF := Lib.hid (fun W hr ht => hz ▸ Fault_any A c l A' c' t W hr hl ht htl)
  have HC := Lib.hid (fun (h0 : z = 0) W hr => ha ▸ clashing_any A c l W hr hl (fault_ok (hz.trans h0)))
  have Hcb := Lib.hid hcb
  have hB := (((Below.refl w.heap.size w).alloc (Nat.le_refl _) (.cells #[.int .i64 push.x, .int .i64 push.y] 26)).alloc (by simp) (.cells #[.int .i64 way.x, .int .i64 way.y] 26)).alloc (by simp <;> omega) (.cells #[.int .i64 whole, .slice A9 ps.length c9] 29)
  have kP := ((Blk.new w 26 #[.int .i64 push.x, .int .i64 push.y]).alloc (.cells #[.int .i64 way.x, .int .i64 way.y] 26)).alloc (.cells #[.int .i64 whole, .slice A9 ps.length c9] 29)
  have kB := Blk.new ((w.alloc (.cells #[.int .i64 push.x, .int .i64 push.y] 26)).alloc (.cells #[.int .i64 way.x, .int .i64 way.y] 26)) 29 #[.int .i64 whole, .slice A9 ps.length c9]
  simp only [World.size_alloc] at kB
  have hr1 := hr.to hB
  have ht1 := ht.to hB
  rw [hfb, hz, ha, hcb] at hs
  unfold maxLen at hpl
  clear hfb hz ha hr ht hcb
  cases fb
  · clear hs
    go_enter Try.func13, Try.ntmps13
    go_wp2_with (first | (go_at_call 15; refine (HFew.out _ ht1).mono ?_; rintro e w1 ⟨rfl, hb1⟩) | (go_at_call 16; refine (wakes_any _).mono ?_; rintro e w2 ⟨rfl, hb2⟩; obtain ⟨hc2, hf2⟩ := bcell hb2))
    go_ret
    exact ⟨rfl, hB.trans ((sh_next hb1 hb2).mono hB.size)⟩
  · by_cases h0 : z = 0
    · have e0 : (z != 0) = false := by simpa using h0
      have HC' := Lib.hid (HC.out h0)
      by_cases ha0 : a = 0
      · have e1 : (a != 0) = false := by simpa using ha0
        cases cb
        · clear hs
          go_enter Try.func13, Try.ntmps13
          go_wp2_with (first | (go_at_call 15; refine (HFew.out _ ht1).mono ?_; rintro e w1 ⟨rfl, hb1⟩; have kP1 := kP.below hb1 kP.lt) | (go_at_call 30; refine (HF.out _ (hr1.to hb1) (ht1.to hb1)).mono ?_; rintro e w2 ⟨rfl, hb2⟩; have kP2 := kP1.below hb2 kP1.lt) | (go_at_call 31; refine (HC'.out _ ((hr1.to hb1).to hb2)).mono ?_; rintro e w3 ⟨rfl, hb3⟩; have kP3 := kP2.below hb3 kP2.lt; have y0 := kP3.cell 0; have y1 := kP3.cell 1; simp at y0 y1) | (go_at_call 18; refine (refCorner_val Hcb.out _).mono ?_; rintro e w4 ⟨rfl, hb4⟩) | (go_at_call 16; refine (wakes_any _).mono ?_; rintro e w5 ⟨rfl, hb5⟩; obtain ⟨hc5, hf5⟩ := bcell hb5))
          go_ret
          have b1 := sh_next hb1 hb2
          have b2 := b1.trans (hb3.mono b1.size)
          have b3 := b2.trans (hb4.mono b2.size)
          exact ⟨rfl, hB.trans ((b3.trans (hb5.mono b3.size)).mono hB.size)⟩
        · have h12 : 12 < ps.length := by
            rcases hs with hs | hs | hs | hs | hs
            · cases hs
            · exact absurd h0 hs
            · exact absurd ha0 hs
            · cases hs
            · exact hs
          clear hs
          go_enter Try.func13, Try.ntmps13
          go_wp2_with (first | (go_at_call 15; refine (HFew.out _ ht1).mono ?_; rintro e w1 ⟨rfl, hb1⟩; have kP1 := kP.below hb1 kP.lt; have kB1 := kB.below hb1 kB.lt) | (go_at_call 30; refine (HF.out _ (hr1.to hb1) (ht1.to hb1)).mono ?_; rintro e w2 ⟨rfl, hb2⟩; have kP2 := kP1.below hb2 kP1.lt; have kB2 := kB1.below hb2 kB1.lt) | (go_at_call 31; refine (HC'.out _ ((hr1.to hb1).to hb2)).mono ?_; rintro e w3 ⟨rfl, hb3⟩; have kP3 := kP2.below hb3 kP2.lt; have kB3 := kB2.below hb3 kB2.lt; have y0 := kP3.cell 0; have y1 := kP3.cell 1; simp at y0 y1) | (go_at_call 18; refine (refCorner_val Hcb.out _).mono ?_; rintro e w4 ⟨rfl, hb4⟩; have kB4 := kB3.below hb4 kB3.lt; have x0 := kB4.cell 0; have x1 := kB4.cell 1; simp at x0 x1) | (go_at_call 16; refine (wakes_any _).mono ?_; rintro e w5 ⟨rfl, hb5⟩; obtain ⟨hc5, hf5⟩ := bcell hb5))
          go_ret
          have b1 := sh_next hb1 hb2
          have b2 := b1.trans (hb3.mono b1.size)
          have b3 := b2.trans (hb4.mono b2.size)
          exact ⟨rfl, hB.trans ((b3.trans (hb5.mono b3.size)).mono hB.size)⟩
      · have e1 : (a != 0) = true := by simpa using ha0
        clear hs
        go_enter Try.func13, Try.ntmps13
        go_wp2_with (first | (go_at_call 15; refine (HFew.out _ ht1).mono ?_; rintro e w1 ⟨rfl, hb1⟩) | (go_at_call 30; refine (HF.out _ (hr1.to hb1) (ht1.to hb1)).mono ?_; rintro e w2 ⟨rfl, hb2⟩) | (go_at_call 31; refine (HC'.out _ ((hr1.to hb1).to hb2)).mono ?_; rintro e w3 ⟨rfl, hb3⟩) | (go_at_call 16; refine (wakes_any _).mono ?_; rintro e w4 ⟨rfl, hb4⟩; obtain ⟨hc4, hf4⟩ := bcell hb4))
        go_ret
        have b1 := sh_next hb1 hb2
        have b2 := b1.trans (hb3.mono b1.size)
        exact ⟨rfl, hB.trans ((b2.trans (hb4.mono b2.size)).mono hB.size)⟩
    · have e0 : (z != 0) = true := by simpa using h0
      clear hs
      go_enter Try.func13, Try.ntmps13
      go_wp2_with (first | (go_at_call 15; refine (HFew.out _ ht1).mono ?_; rintro e w1 ⟨rfl, hb1⟩) | (go_at_call 30; refine (HF.out _ (hr1.to hb1) (ht1.to hb1)).mono ?_; rintro e w2 ⟨rfl, hb2⟩) | (go_at_call 16; refine (wakes_any _).mono ?_; rintro e w4 ⟨rfl, hb4⟩; obtain ⟨hc4, hf4⟩ := bcell hb4))
      go_ret
      have b1 := sh_next hb1 hb2
      exact ⟨rfl, hB.trans ((b1.trans (hb4.mono b1.size)).mono hB.size)⟩

/-- What needs more cells than a block has lies elsewhere. -/
theorem RS.set_small {α : Type} {enc : α → List Value} {sz B X : Nat} {w : World} {A : Option Addr} {l : List α} {ty : TypeId} {cs : Array Value} (hs : ∀ x, (enc x).length = sz) (h : RS enc sz w B A l) (hb : Blk w X ty cs) (hc : cs.size < sz) (i : Nat) (u : Value) : RS enc sz (w.setCell ⟨X, i, none⟩ u) B A l := by
  rcases h with rfl | ⟨b, off, hA, hlt, hcell⟩
  · exact .inl rfl
  · by_cases hl : l = []
    · exact .inl hl
    · have hne : b ≠ X := by
        rintro rfl
        obtain ⟨x, hx⟩ : ∃ x, l[0]? = some x := getElem?_lt (List.length_pos_iff.2 hl)
        obtain ⟨v, hv⟩ : ∃ v, (enc x)[sz - 1]? = some v := getElem?_lt (by rw [hs]; omega)
        have := hcell 0 x hx (sz - 1) v hv
        rw [hb.cell, Array.getElem?_eq_none (by omega)] at this
        cases this
      exact RS.far (.inr ⟨b, off, hA, hlt, hcell⟩) (fun ad e => by rw [hA] at e; cases e; exact hne) u
theorem RH.set_small {B X : Nat} {w : World} {A : Option Addr} {t : List Head} {ty : TypeId} {cs : Array Value} (h : RH w B A t) (hb : Blk w X ty cs) (hc : cs.size < 3) (i : Nat) (u : Value) : RH (w.setCell ⟨X, i, none⟩ u) B A t := by
  rcases h with rfl | ⟨b, off, hA, hlt, hcell⟩
  · exact .inl rfl
  · refine .inr ⟨b, off, hA, hlt, fun k x hk => ?_⟩
    obtain ⟨A', c', x0, x1, x2, g1, g2, g3⟩ := hcell k x hk
    have hne : b ≠ X := by
      rintro rfl
      rw [hb.cell, Array.getElem?_eq_none (by omega)] at x2
      cases x2
    refine ⟨A', c', ?_, ?_, ?_, g1, g2, RS.set_small (enc := encG) (sz := 5) (fun _ => rfl) g3 hb (by omega) i u⟩
    · rw [World.cell?_setCell_far _ _ _ _ (Ne.symm hne)]; exact x0
    · rw [World.cell?_setCell_far _ _ _ _ (Ne.symm hne)]; exact x1
    · rw [World.cell?_setCell_far _ _ _ _ (Ne.symm hne)]; exact x2
theorem vec_close {w1 w5 : World} {X : Nat} {x y : Int} (hb : Blk w5 X 43 #[.int .i64 0, .int .i64 0]) (hB : Below w1.heap.size w1 w5) (hX : w1.heap.size ≤ X) :
    Blk ((w5.setCell ⟨X, 0, none⟩ (.int .i64 x)).setCell ⟨X, 1, none⟩ (.int .i64 y)) X 43 #[.int .i64 x, .int .i64 y] ∧
    Below w1.heap.size w1 ((w5.setCell ⟨X, 0, none⟩ (.int .i64 x)).setCell ⟨X, 1, none⟩ (.int .i64 y)) := by
  refine ⟨?_, ?_⟩
  · have := (hb.set_ 0 (.int .i64 x)).set_ 1 (.int .i64 y)
    simpa using this
  · exact (hB.setCell (p := ⟨X, 0, none⟩) (by dsimp only; omega) _).setCell (p := ⟨X, 1, none⟩) (by dsimp only; omega) _
theorem vec_far {w1 w5 : World} {X : Nat} {x y : Int} {A3 A4 : Option Addr} {l : List Tst} {t : List Head} (hb : Blk w5 X 43 #[.int .i64 0, .int .i64 0]) (hr : RS encT 4 w5 w5.heap.size A3 l) (ht : RH w5 w5.heap.size A4 t) (hB : Below w1.heap.size w1 w5) (hX : w1.heap.size ≤ X) :
    RS encT 4 ((w5.setCell ⟨X, 0, none⟩ (.int .i64 x)).setCell ⟨X, 1, none⟩ (.int .i64 y)) ((w5.setCell ⟨X, 0, none⟩ (.int .i64 x)).setCell ⟨X, 1, none⟩ (.int .i64 y)).heap.size A3 l ∧
    RH ((w5.setCell ⟨X, 0, none⟩ (.int .i64 x)).setCell ⟨X, 1, none⟩ (.int .i64 y)) ((w5.setCell ⟨X, 0, none⟩ (.int .i64 x)).setCell ⟨X, 1, none⟩ (.int .i64 y)).heap.size A4 t ∧
    Blk ((w5.setCell ⟨X, 0, none⟩ (.int .i64 x)).setCell ⟨X, 1, none⟩ (.int .i64 y)) X 43 #[.int .i64 x, .int .i64 y] ∧
    Below w1.heap.size w1 ((w5.setCell ⟨X, 0, none⟩ (.int .i64 x)).setCell ⟨X, 1, none⟩ (.int .i64 y)) := by
  obtain ⟨g1, g2⟩ := vec_close (x := x) (y := y) hb hB hX
  have hb2 := hb.set_ 0 (.int .i64 x)
  exact ⟨(RS.set_small (enc := encT) (sz := 4) (fun _ => rfl) (RS.set_small (enc := encT) (sz := 4) (fun _ => rfl) hr hb (by simp) _ _) hb2 (by simp) _ _).more (by simp), ((ht.set_small hb (by simp) _ _).set_small hb2 (by simp) _ _).more (by simp), g1, g2⟩
theorem wk_strong {l : List Tst} {h : Head} {push : Vec} (hall : ∀ d ∈ waysL (forcesM l h), d.dot (push.times h.area) ≤ helpM (forcesM l h) d) : wkI l [h] [push] = -1 ∧ wkK l [h] [push] = -1 := by
  have hs : standsB l [h] [push] = true := stands_one.2 (fun p hp => by rw [List.mem_singleton] at hp; subst hp; exact bad_no.2 hall)
  have ho := stands_none.1 hs
  exact ⟨by unfold wkI; rw [ho], by unfold wkK; rw [ho]⟩
theorem wk_weak {l : List Tst} {h : Head} {push : Vec} (hok : ∀ x ∈ l, x.ok = true) (hh : h.ok = true) (hbad : ¬ ∀ d ∈ waysL (forcesM l h), d.dot (push.times h.area) ≤ helpM (forcesM l h) d) :
    wkI l [h] [push] = 0 ∧ wkK l [h] [push] = 0 ∧ weakInB (forcesM l h) (push.times h.area) (wkW l [h] [push]) = true ∧ VB (wkW l [h] [push]) 500000 := by
  have hs : ¬ standsB l [h] [push] = true := fun hs => hbad (bad_no.1 (stands_one.1 hs push (by simp)))
  cases ho : wkO l [h] [push] with
  | none => exact absurd (stands_none.2 ho) hs
  | some a =>
    obtain ⟨x, m, p, hx, hp, e1, e2, hwi, hvb⟩ := wk_some ho hok (fun y hy => by rw [List.mem_singleton] at hy; subst hy; exact hh)
    have ha : a = 0 := by have := lt_of_getElem? hx; simp at this; exact this
    have hm : m = 0 := by have := lt_of_getElem? hp; simp at this; exact this
    subst ha hm
    simp at hx hp
    subst hx hp
    exact ⟨by rw [e1]; rfl, by rw [e2]; rfl, hwi, hvb⟩
set_option maxRecDepth 100000 in
set_option maxHeartbeats 4000000 in
theorem either_main (A : Option Addr) (c : Nat) (l : List Tst) (A' : Option Addr) (c' : Nat) (t : List Head) (head : Int) (push way : Vec) (whole : Int) (A9 : Option Addr) (c9 : Nat) (ps : List Int) (hh8 : 0 ≤ head ∧ head ≤ 255) (w : World) (hr : RS encT 4 w w.heap.size A l) (ht : RH w w.heap.size A' t) (hrp : RS encI 1 w w.heap.size A9 ps)
    (hf : fewB l t = true) (hz : faultE l t = 0) (ha : agreeE l = 0) (hcb : push.corner = true) (h12 : ps.length ≤ 12) :
    Calls Try.prog 13 #[.slice A l.length c, .slice A' t.length c', .int .u8 head, .agg #[.int .i64 push.x, .int .i64 push.y], .agg #[.int .i64 way.x, .int .i64 way.y], .agg #[.int .i64 whole, .slice A9 ps.length c9]] w fun e w' => e = .returned (.bool true) ∧ Below w.heap.size w w' := by
  obtain ⟨hg10, hl45, ht15⟩ := fewB_iff.1 hf
  have hlm : l.length ≤ maxLen := by show _ ≤ _; unfold maxLen; omega
  have htm : t.length ≤ maxLen := by show _ ≤ _; unfold maxLen; omega
  have ht1l : 1 ≤ t.length := by have := (testsFault_zero hz).2; simp [tentOk] at this; exact this.1
  have hne' : ¬ t = [] := by intro e; rw [e] at ht1l; simp at ht1l
  obtain ⟨ia, t1, t2, hil⟩ := mod_nat hh8.1 ht1l
  have c5 : IntKind.i64.wrap head = head := IntWalk.i64_in _ (by omega)
  have n8 : IntKind.i64.wrap ((ia : Int) + 1) = (ia : Int) + 1 := IntWalk.i64_in _ (by omega)
  obtain ⟨h, hh⟩ := getElem?_lt hil
  have hE : headE l t ia push.corner = 0 := by
    rw [headE_eq, if_pos hz, hcb, if_pos (by simp only [Bool.true_and]; unfold headB; rw [inB_true]; omega), ha]
  obtain ⟨f, hff⟩ : ∃ f, forcesM l h = f := ⟨_, rfl⟩
  obtain ⟨_, hok, hhk, har, hfl, hfv⟩ := asked_ok hE hh hff
  have HFew := Lib.hid (fun W h => hf ▸ Few_any A c l A' c' t W h hlm htm)
  have HF := Lib.hid (fun W hr ht => hz ▸ Fault_any A c l A' c' t W hr hlm ht htm)
  have HC := Lib.hid (fun W hr => ha ▸ clashing_any A c l W hr hlm (fault_ok hz))
  have HTent := Lib.hid (fun W h => Tent_any A' c' t W h (by omega) (fun x hx => by have := hg10 x hx; omega))
  have HTests := Lib.hid (fun W h => Tests_any A c l W h (by omega))
  have Hcb := Lib.hid hcb
  have hB := (((Below.refl w.heap.size w).alloc (Nat.le_refl _) (.cells #[.int .i64 push.x, .int .i64 push.y] 26)).alloc (by simp) (.cells #[.int .i64 way.x, .int .i64 way.y] 26)).alloc (by simp <;> omega) (.cells #[.int .i64 whole, .slice A9 ps.length c9] 29)
  have kP := ((Blk.new w 26 #[.int .i64 push.x, .int .i64 push.y]).alloc (.cells #[.int .i64 way.x, .int .i64 way.y] 26)).alloc (.cells #[.int .i64 whole, .slice A9 ps.length c9] 29)
  have kY := (Blk.new (w.alloc (.cells #[.int .i64 push.x, .int .i64 push.y] 26)) 26 #[.int .i64 way.x, .int .i64 way.y]).alloc (.cells #[.int .i64 whole, .slice A9 ps.length c9] 29)
  have kB := Blk.new ((w.alloc (.cells #[.int .i64 push.x, .int .i64 push.y] 26)).alloc (.cells #[.int .i64 way.x, .int .i64 way.y] 26)) 29 #[.int .i64 whole, .slice A9 ps.length c9]
  simp only [World.size_alloc] at kB kY
  have hr1 := hr.to hB
  have ht1 := ht.to hB
  have hp1 := hrp.to hB
  have Hh := Lib.hid hh
  have Hff := Lib.hid hff
  have Hz := Lib.hid hz
  have Ha := Lib.hid ha
  have HE := Lib.hid hE
  have Hok := Lib.hid hok
  have Hhk := Lib.hid hhk
  have Har := Lib.hid har
  have Hfv := Lib.hid hfv
  clear hf hz ha hr ht hrp hg10 hh hE hh8 hff hok hhk har hfv hcb
  go_enter Try.func13, Try.ntmps13
  go_upto_region 3 with (first | (go_at_call 15; refine (HFew.out _ ht1).mono ?_; rintro e w1 ⟨rfl, hb1⟩; have kP1 := kP.below hb1 kP.lt; have kB1 := kB.below hb1 kB.lt) | (go_at_call 30; refine (HF.out _ (hr1.to hb1) (ht1.to hb1)).mono ?_; rintro e w2 ⟨rfl, hb2⟩; have kP2 := kP1.below hb2 kP1.lt; have kB2 := kB1.below hb2 kB1.lt) | (go_at_call 31; refine (HC.out _ ((hr1.to hb1).to hb2)).mono ?_; rintro e w3 ⟨rfl, hb3⟩; have kP3 := kP2.below hb3 kP2.lt; have kB3 := kB2.below hb3 kB2.lt; have y0 := kP3.cell 0; have y1 := kP3.cell 1; simp at y0 y1) | (go_at_call 18; refine (refCorner_val Hcb.out _).mono ?_; rintro e w4 ⟨rfl, hb4⟩; have kB4 := kB3.below hb4 kB3.lt; have kP4 := kP3.below hb4 kP3.lt; have x0 := kB4.cell 0; have x1 := kB4.cell 1; simp at x0 x1))
  have b1 := sh_next hb1 hb2
  have b2 := b1.trans (hb3.mono b1.size)
  have b3 := b2.trans (hb4.mono b2.size)
  have kY4 := kY.below b3 kY.lt
  have hr2 := hr1.to b3
  have ht2 := ht1.to b3
  have hp2 := hp1.to b3
  have hB1 := hB.trans (b3.mono hB.size)
  clear hr1 ht1 hp1 hB kP kP1 kP2 kP3 kB kB1 kB2 kB3 kY hb1 hb2 hb3 hb4 b1 b2 b3 y0 y1 x0 x1
  go_cut [13, 14, 15] (fun s13 s14 s15 wx => ∃ (A3 : Option Addr) (c3 : Nat) (A4 : Option Addr) (c4 X : Nat), s13 = .slice A3 l.length c3 ∧ s14 = .slice A4 t.length c4 ∧ t.length ≤ c4 ∧ s15 = .pointer (some ⟨X, 0, none⟩) ∧ RS encT 4 wx wx.heap.size A3 l ∧ RH wx wx.heap.size A4 t ∧ Blk wx X 43 #[.int .i64 push.x, .int .i64 push.y] ∧ Below w4.heap.size w4 wx)
  case first =>
    refine name_world (motive := fun W => Code.wp _ _ _ _ W) _ ?_
    intro W0 hW
    have hWc := hW.cell
    have hWz := hW.size
    have hWb := hW.below (Below.refl w4.heap.size w4)
    have hr0 : RS encT 4 W0 W0.heap.size A l := by rw [hW.eq.out]; exact hr2
    have ht0 : RH W0 W0.heap.size A' t := by rw [hW.eq.out]; exact ht2
    have kP := hW.blk kP4
    have k0 := kP.cell 0
    have k1 := kP.cell 1
    simp at k0 k1
    have kz := kP.lt
    clear hWc hWz hr2 ht2 kP4
    go_region_held3 (fun w' => (∀ b o, b < W0.heap.size → w'.cell? ⟨b, o, none⟩ = W0.cell? ⟨b, o, none⟩) ∧ Below W0.heap.size W0 w') (first | with_reducible exact sh_refl _ | (with_reducible refine sh_of ?_; with_reducible assumption) | (with_reducible refine sh_alloc ?_ _; with_reducible assumption) | with_reducible exact sh_first _ _ | (refine sh_of ?_; repeat' (first | with_reducible assumption | with_reducible exact Below.refl _ _ | with_reducible refine Below.drew ?_ | with_reducible refine Below.alloc ?_ (by simp <;> omega) _ | with_reducible refine Below.setCell ?_ (by simp <;> omega) _)))
      (first | (go_at_call 20; go_split_ands; have hS2 : Below W0.heap.size W0 _ := (by with_reducible assumption); refine (HTests.out _ (hr0.to hS2)).mono ?_; rintro e w5 ⟨A3, c3, rfl, hs2, _, _, hb2⟩; have hB2 := sh_next hS2 hb2; obtain ⟨hd2, hf2⟩ := bcell hb2; have hy2 := hb2.size; have hz2 := hB2.size; (try have hq20 : W0.heap.size < w5.heap.size := (by (try simp at hy2); omega))) | (go_at_call 21; go_split_ands; have hS3 : Below W0.heap.size W0 _ := (by with_reducible assumption); refine (HTent.out _ (ht0.to hS3)).mono ?_; rintro e w6 ⟨A4, c4, rfl, hs3, hq4, _, hb3⟩; have hB3 := sh_next hS3 hb3; obtain ⟨hd3, hf3⟩ := bcell hb3; have hy3 := hb3.size; have hz3 := hB3.size; have hs2a : RS encT 4 w6 w6.heap.size A3 l := (by first | exact hs2.to hb3 | exact (hs2.to ((Below.refl _ _).alloc (Nat.le_refl _) _)).to hb3); (try have hq30 : W0.heap.size < w6.heap.size := (by (try simp at hy3); omega)); (try have hq32 : w5.heap.size < w6.heap.size := (by (try simp at hy3); omega))) | (go_at_call 22; go_split_ands; have hS4 : Below W0.heap.size W0 _ := (by with_reducible assumption); refine (Vector_any push _).mono ?_; rintro e w7 ⟨rfl, hb4⟩; have hB4 := sh_next hS4 hb4; obtain ⟨hd4, hf4⟩ := bcell hb4; have hy4 := hb4.size; have hz4 := hB4.size; have hs2b : RS encT 4 w7 w7.heap.size A3 l := (by first | exact hs2a.to hb4 | exact (hs2a.to ((Below.refl _ _).alloc (Nat.le_refl _) _)).to hb4); have hs3b : RH w7 w7.heap.size A4 t := (by first | exact hs3.to hb4 | exact (hs3.to ((Below.refl _ _).alloc (Nat.le_refl _) _)).to hb4); (try have hq40 : W0.heap.size < w7.heap.size := (by (try simp at hy4); omega)); (try have hq42 : w5.heap.size < w7.heap.size := (by (try simp at hy4); omega)); (try have hq43 : w6.heap.size < w7.heap.size := (by (try simp at hy4); omega))))
    all_goals
      go_wp2_with fail
      go_meet
      have hw1 := hWb.trans (hB4.mono hWb.size)
      have hwz := hWb.size
    · exact ⟨A3, c3, A4, c4, _, rfl, rfl, hq4, rfl, hs2b.to ((Below.refl _ _).alloc (Nat.le_refl _) _), hs3b.to ((Below.refl _ _).alloc (Nat.le_refl _) _), Blk.new _ _ _, hw1.alloc hw1.size _⟩
    · obtain ⟨g1, g2, g3, g4⟩ := vec_far (x := push.x) (y := push.y) ((Blk.new w6 _ _).below hb4 (by simp)) hs2b hs3b hw1 (by omega)
      exact ⟨A3, c3, A4, c4, _, rfl, rfl, hq4, rfl, g1, g2, g3, g4⟩
    · obtain ⟨g1, g2, g3, g4⟩ := vec_far (x := push.x) (y := push.y) (((Blk.new w5 _ _).below hb3 (by simp)).below hb4 (by omega)) hs2b hs3b hw1 (by omega)
      exact ⟨A3, c3, A4, c4, _, rfl, rfl, hq4, rfl, g1, g2, g3, g4⟩
    · obtain ⟨g1, g2, g3, g4⟩ := vec_far (x := push.x) (y := push.y) ((((Blk.new W0 _ _).drew.below hb2 (by simp)).below hb3 (by omega)).below hb4 (by omega)) hs2b hs3b hw1 (by omega)
      exact ⟨A3, c3, A4, c4, _, rfl, rfl, hq4, rfl, g1, g2, g3, g4⟩
  case rest =>
    obtain ⟨A3, c3, A4, c4, X, rfl, rfl, hq4, rfl, hs3, hs4, kX, hBx⟩ := hcut
    have kY5 := kY4.below hBx kY4.lt
    have kB5 := kB4.below hBx kB4.lt
    have hp3 := hp2.to hBx
    have hB2 := hB1.trans (hBx.mono hB1.size)
    have x0 := kX.cell 0
    have x1 := kX.cell 1
    simp at x0 x1
    clear hr2 ht2 kP4 hB1 hBx kB4 kY4 hp2
    obtain ⟨wh, bs, er, hI⟩ := balIs_ex l t ia push
    have HI := Lib.hid hI
    have HBal := Lib.hid (fun W B b1 B' b2 hr ht => Balanced_any hI B b1 B' b2 W hr hlm ht htm)
    obtain ⟨zi, hzi⟩ : ∃ x, wkI l [h] [push] = x := ⟨_, rfl⟩
    obtain ⟨zk, hzk⟩ : ∃ x, wkK l [h] [push] = x := ⟨_, rfl⟩
    obtain ⟨u, hu⟩ : ∃ x, wkW l [h] [push] = x := ⟨_, rfl⟩
    have hwE : windyE l [h] [push] = 0 := windy_one Hz.out Ha.out Hh.out (one_ok (Vec.corner_iff.1 Hcb.out))
    have HW := Lib.hid (fun W B b1 B' b2 B2 b3 hr ht hw => hzi ▸ hzk ▸ hu ▸ Weakest_ok B b1 l B' b2 [h] B2 b3 [push] W hr hlm ht (by show _ ≤ _; unfold maxLen; simp) hw (by show _ ≤ _; unfold maxLen; simp) hwE)
    have Hzi := Lib.hid hzi
    have Hzk := Lib.hid hzk
    have Hu := Lib.hid hu
    clear hI hzi hzk hu hwE
    go_upto_region 6 with (go_at_call 19; refine (HBal.out _ A3 c3 A4 c4 hs3 hs4).mono ?_; rintro e w8 ⟨A5, c5, rfl, hrb, hq5, hq6, hb8, hq7⟩)
    have hBa := (Below.refl w8.heap.size w8).alloc (Nat.le_refl _) (.cells #[.int .i64 wh, .slice A5 bs.length c5] 35)
    have hBb := sh_next hb8 hBa
    have kQ := Blk.new w8 35 #[.int .i64 wh, .slice A5 bs.length c5]
    have hrb1 := hrb.to hBa
    have hs3' := hs3.to hBb
    have hs4' := hs4.to hBb
    have kX1 := kX.below hBb kX.lt
    have kY1 := kY5.below hBb kY5.lt
    have kB1 := kB5.below hBb kB5.lt
    have hp4 := hp3.to hBb
    have hB3 := hB2.trans (hBb.mono hB2.size)
    clear hb8 hBa hBb hrb hs3 hs4 kX kY5 kB5 hp3 hB2 x0 x1
    refine name_world (motive := fun W => Code.wp _ _ _ _ W) _ ?_
    intro W0 hW
    have hWc := hW.cell
    have hWz := hW.size
    have hWb := hW.below (hB3)
    have hqz : w8.heap.size < W0.heap.size := by rw [hWz]; simp
    have hs3 : RS encT 4 W0 W0.heap.size A3 l := by rw [hW.eq.out]; exact hs3'
    obtain ⟨b4, off4, rfl, hs4o⟩ := (show RH W0 W0.heap.size A4 t from by rw [hW.eq.out]; exact hs4').one Hh.out
    have hs4 : RH W0 W0.heap.size (some ⟨b4, off4, none⟩) t := by rw [hW.eq.out]; exact hs4'
    have kX := hW.blk kX1
    have kY := hW.blk kY1
    have kB := hW.blk kB1
    have kQ := hW.blk kQ
    have hrb : RS encI 1 W0 W0.heap.size A5 bs := by rw [hW.eq.out]; exact hrb1
    have hp5 : RS encI 1 W0 W0.heap.size A9 ps := by rw [hW.eq.out]; exact hp4
    have x0 := kX.cell 0
    have x1 := kX.cell 1
    simp at x0 x1
    have kz := kX.lt
    have i1 : (0 : Int) ≤ (ia : Int) := by omega
    have i2 : (ia : Int) ≤ (ia : Int) + 1 := by omega
    have i3 : (ia : Int) + 1 ≤ (c4 : Int) := by omega
    have i4 : (ia : Int) + 1 ≤ (t.length : Int) := by omega
    have i5 : (0 : Int) ≤ (ia : Int) + 1 := by omega
    have i6 : (ia : Int) ≤ (t.length : Int) := by omega
    have i7 : ia ≤ c4 := by omega
    have i8 : ia + 1 ≤ c4 := by omega
    have i9 : ¬ c4 = ia := by omega
    clear hWc hWz hs3' hs4' kX1 kY1 kB1 hrb1 hp4 hB3
    go_cut [19, 20, 21, 22] (fun s19 s20 s21 s22 wx => ∃ Y : Nat, s19 = .int .i64 zi ∧ s20 = .int .i64 zk ∧ s21 = .pointer (some ⟨Y, 0, none⟩) ∧ s22 = .int .i64 0 ∧ Blk wx Y 43 #[.int .i64 u.x, .int .i64 u.y] ∧ Below W0.heap.size W0 wx)
    case first =>
      have R0 : RS encV 2 (W0.alloc (.cells #[.int .i64 push.x, .int .i64 push.y] 43)) (W0.alloc (.cells #[.int .i64 push.x, .int .i64 push.y] 43)).heap.size (some ⟨W0.heap.size, 0, none⟩) [push] := rs_new (enc := encV) (sz := 2) (fun _ => rfl) W0 [push] _ rfl
      have R1 : RS encV 2 (W0.alloc (.cells #[.int .i64 push.x, .int .i64 push.y] 43)).drew (W0.alloc (.cells #[.int .i64 push.x, .int .i64 push.y] 43)).drew.heap.size (some ⟨W0.heap.size, 0, none⟩) [push] := R0
      have R2 : RS encV 2 ((W0.alloc (.cells #[.int .i64 push.x, .int .i64 push.y] 43)).alloc (.cells #[.int .i64 0, .int .i64 0] 43)).drew ((W0.alloc (.cells #[.int .i64 push.x, .int .i64 push.y] 43)).alloc (.cells #[.int .i64 0, .int .i64 0] 43)).drew.heap.size (some ⟨W0.heap.size, 0, none⟩) [push] := R0.to ((Below.refl _ _).alloc (Nat.le_refl _) _).drew
      have R3' := rs_new (enc := encV) (sz := 2) (fun _ => rfl) (W0.alloc (.cells #[.int .i64 0, .int .i64 0] 43)) [push] 43 rfl
      rw [World.size_alloc W0] at R3'
      have R3 : RS encV 2 ((W0.alloc (.cells #[.int .i64 0, .int .i64 0] 43)).alloc (.cells #[.int .i64 push.x, .int .i64 push.y] 43)).drew ((W0.alloc (.cells #[.int .i64 0, .int .i64 0] 43)).alloc (.cells #[.int .i64 push.x, .int .i64 push.y] 43)).drew.heap.size (some ⟨W0.heap.size + 1, 0, none⟩) [push] := R3'
      clear R3' R0
      go_region_held3 (fun w' => (∀ b o, b < W0.heap.size → w'.cell? ⟨b, o, none⟩ = W0.cell? ⟨b, o, none⟩) ∧ Below W0.heap.size W0 w') (first | with_reducible exact sh_refl _ | (with_reducible refine sh_of ?_; with_reducible assumption) | (with_reducible refine sh_alloc ?_ _; with_reducible assumption) | with_reducible exact sh_first _ _ | (refine sh_of ?_; repeat' (first | with_reducible assumption | with_reducible exact Below.refl _ _ | with_reducible refine Below.drew ?_ | with_reducible refine Below.alloc ?_ (by simp <;> omega) _ | with_reducible refine Below.setCell ?_ (by simp <;> omega) _)))
        (first | (go_at_call 45; go_split_ands; have hS2 : Below W0.heap.size W0 _ := (by with_reducible assumption); refine (HW.out _ A3 c3 _ _ _ _ (hs3.to hS2) (hs4o.to hS2) (by first | with_reducible exact R1 | with_reducible exact R2 | with_reducible exact R3)).mono ?_; rintro e w10 ⟨rfl, hb10⟩; have hB10 := sh_next hS2 hb10; obtain ⟨hd2, hf2⟩ := bcell hb10; have hy2 := hb10.size; have hz2 := hB10.size; (try have hq20 : W0.heap.size < w10.heap.size := (by (try simp at hy2); omega)); (try have hq21 : W0.heap.size + 1 < w10.heap.size := (by (try simp at hy2); omega))))
      all_goals
        go_wp2_with fail
        go_meet
      · exact ⟨_, rfl, rfl, rfl, rfl, Blk.new _ _ _, hB10.alloc hB10.size _⟩
      · have hk := Blk.new (W0.alloc (.cells #[.int .i64 push.x, .int .i64 push.y] 43)) 43 #[.int .i64 0, .int .i64 0]
        rw [World.size_alloc] at hk
        obtain ⟨g3, g4⟩ := vec_close (x := u.x) (y := u.y) (hk.drew.below hb10 (by simp)) hB10 (by omega)
        exact ⟨_, rfl, rfl, rfl, rfl, g3, g4⟩
      · obtain ⟨g3, g4⟩ := vec_close (x := u.x) (y := u.y) (((Blk.new W0 43 #[.int .i64 0, .int .i64 0]).alloc (.cells #[.int .i64 push.x, .int .i64 push.y] 43)).drew.below hb10 (by simp <;> omega)) hB10 (by omega)
        exact ⟨_, rfl, rfl, rfl, rfl, g3, g4⟩
    case rest =>
      obtain ⟨Y, rfl, rfl, rfl, rfl, kW, hBx⟩ := hcut
      have hs3' := hs3.to hBx
      have hs4' := hs4.to hBx
      have kX1 := kX.below hBx kX.lt
      have kY1 := kY.below hBx kY.lt
      have kB1 := kB.below hBx kB.lt
      have kQ1 := kQ.below hBx kQ.lt
      have hrb1 := hrb.to hBx
      have hp6 := hp5.to hBx
      have hB4 := hWb.trans (hBx.mono hWb.size)
      clear hs3 hs4 hs4o kX kY kB kQ hrb hp5 hWb hBx x0 x1 i1 i2 i3 i4 i5 i6 i7 i8 i9 n8 kz
      obtain ⟨i0, hi0, hz0, hz1, hz2⟩ := info_parts infoI
      obtain ⟨ob, hob⟩ : ∃ b, balByB (push.times h.area) f whole ps = b := ⟨_, rfl⟩
      obtain ⟨lb, hlb⟩ : ∃ b, (way.insideB 1000000 && weakInB f (push.times h.area) way) = b := ⟨_, rfl⟩
      have HPB := Lib.hid (fun W B b1 B' b2 B3 b3 hr ht hp => hob ▸ ProveBalance_ok B b1 l B' b2 t ia h Hh.out push whole B3 b3 ps f Hff.out W hr hlm ht htm hp (by show _ ≤ _; unfold maxLen; omega) (by rw [Hcb.out] at *; exact HE.out))
      have HPW := Lib.hid (fun W B b1 B' b2 hr ht => hlb ▸ ProveWeak_ok B b1 l B' b2 t ia h Hh.out push way f Hff.out W hr hlm ht htm HE.out)
      have Hob := Lib.hid hob
      have Hlb := Lib.hid hlb
      clear hob hlb
      go_upto_region 7 with fail
      refine name_world (motive := fun W => Code.wp _ _ _ _ W) _ ?_
      intro W0 hW
      have hWc := hW.cell
      have hWz := hW.size
      have hWb := hW.below (hB4)
      have hs3 : RS encT 4 W0 W0.heap.size A3 l := by rw [hW.eq.out]; exact hs3'
      have hs4 : RH W0 W0.heap.size (some ⟨b4, off4, none⟩) t := by rw [hW.eq.out]; exact hs4'
      have kX := hW.blk kX1
      have kY := hW.blk kY1
      have kB := hW.blk kB1
      have kQ := hW.blk kQ1
      have kW := hW.blk kW
      have hrb : RS encI 1 W0 W0.heap.size A5 bs := by rw [hW.eq.out]; exact hrb1
      have hp7 : RS encI 1 W0 W0.heap.size A9 ps := by rw [hW.eq.out]; exact hp6
      have x0 := kX.cell 0
      have x1 := kX.cell 1
      have y0 := kB.cell 0
      have y1 := kB.cell 1
      simp at x0 x1 y0 y1
      have kz := kX.lt
      have kz2 := kB.lt
      obtain ⟨hnone, hnews⟩ := RS.news (sz := 1) (fun _ => rfl) (show RS encI 1 (W0.alloc (.cells #[] 3)).drew (W0.alloc (.cells #[] 3)).drew.heap.size A9 ps from hp7.to ((Below.refl _ _).alloc (Nat.le_refl _) _).drew)
      clear hWc hWz hs3' hs4' kX1 kY1 kB1 kQ1 hrb1 hp6 hB4 hp7
      go_cut [23] (fun s23 wx => s23 = .bool ob ∧ Below W0.heap.size W0 wx)
      case first =>
        go_region_held3 (fun w' => (∀ b o, b < W0.heap.size → w'.cell? ⟨b, o, none⟩ = W0.cell? ⟨b, o, none⟩) ∧ Below W0.heap.size W0 w') (first | with_reducible exact sh_refl _ | (with_reducible refine sh_of ?_; with_reducible assumption) | (with_reducible refine sh_alloc ?_ _; with_reducible assumption) | with_reducible exact sh_first _ _ | (refine sh_of ?_; repeat' (first | with_reducible assumption | with_reducible exact Below.refl _ _ | with_reducible refine Below.drew ?_ | with_reducible refine Below.alloc ?_ (by simp <;> omega) _ | with_reducible refine Below.setCell ?_ (by simp <;> omega) _)))
          (first | ((refine step_append_any (by rfl) _ _ _ (by rfl) W0.heap.size 3 i0 _ 1 8 Try.underlying27 hi0 hz0 hz1 hz2 rfl (by omega) (.slice (some ⟨W0.heap.size, 0, none⟩) 0 0) 0 [] (by rfl) (own_empty W0 3 1).drew A9 ps.length c9 (ps.flatMap encI) (by rfl) (ints_len ps) hnone hnews (ints_one ps) (by unfold maxLen; omega) (by omega) (by simp) ?_); intro v2 w11 hown2 hgrow2; have hB11 : Below W0.heap.size W0 w11 := app_below (((Below.refl _ W0).alloc (Nat.le_refl _) _).drew) (by simp) (own_empty W0 3 1).drew hgrow2; rw [Nat.zero_add, List.nil_append] at hown2; obtain ⟨A10, c10, rfl, hq10, hq11⟩ := own_slice hown2; have hrp6 : RS encI 1 w11 w11.heap.size A10 ps := RS.of_own (enc := encI) (sz := 1) (fun _ => rfl) hown2 rfl) | (go_at_call 28; go_split_ands; have hS2 : Below W0.heap.size W0 _ := (by with_reducible assumption); refine (HPB.out _ A3 c3 (some ⟨b4, off4, none⟩) c4 A10 c10 (hs3.to hS2) (hs4.to hS2) hrp6).mono ?_; rintro e w12 ⟨rfl, hb12⟩; have hB12 := sh_next hS2 hb12))
        all_goals
          go_wp2_with fail
          go_meet
          exact ⟨rfl, hB12⟩
      case rest =>
        obtain ⟨rfl, hBx⟩ := hcut
        have hs3' := hs3.to hBx
        have hs4' := hs4.to hBx
        have kX1 := kX.below hBx kX.lt
        have kY1 := kY.below hBx kY.lt
        have kQ1 := kQ.below hBx kQ.lt
        have kW1 := kW.below hBx kW.lt
        have hrb1 := hrb.to hBx
        have hB5 := hWb.trans (hBx.mono hWb.size)
        have hB4' : Below w.heap.size w W0 := hWb
        clear hs3 hs4 kX kY kB kQ kW hrb hBx x0 x1 y0 y1 kz kz2 hnone hnews
        go_upto_region 8 with fail
        refine name_world (motive := fun W => Code.wp _ _ _ _ W) _ ?_
        intro W0 hW
        have hWc := hW.cell
        have hWz := hW.size
        have hWb := hW.below (hB5)
        have hs3 : RS encT 4 W0 W0.heap.size A3 l := by rw [hW.eq.out]; exact hs3'
        have hs4 : RH W0 W0.heap.size (some ⟨b4, off4, none⟩) t := by rw [hW.eq.out]; exact hs4'
        have kX := hW.blk kX1
        have kY := hW.blk kY1
        have x0 := kX.cell 0
        have x1 := kX.cell 1
        have y0 := kY.cell 0
        have y1 := kY.cell 1
        simp at x0 x1 y0 y1
        have kz := kX.lt
        have kz2 := kY.lt
        have kQ := hW.blk kQ1
        have kW := hW.blk kW1
        have hrb : RS encI 1 W0 W0.heap.size A5 bs := by rw [hW.eq.out]; exact hrb1
        clear hWc hWz hs3' hs4' kX1 kY1 kQ1 kW1 hrb1 hB5
        go_region_held3 (fun w' => (∀ b o, b < W0.heap.size → w'.cell? ⟨b, o, none⟩ = W0.cell? ⟨b, o, none⟩) ∧ Below W0.heap.size W0 w') (first | with_reducible exact sh_refl _ | (with_reducible refine sh_of ?_; with_reducible assumption) | (with_reducible refine sh_alloc ?_ _; with_reducible assumption) | with_reducible exact sh_first _ _)
          (first | (go_at_call 22; go_split_ands; have hS4 : Below W0.heap.size W0 _ := (by with_reducible assumption); refine (Vector_any way _).mono ?_; rintro e w13 ⟨rfl, hb13⟩; have hB13 := sh_next hS4 hb13) | (go_at_call 29; go_split_ands; have hS5 : Below W0.heap.size W0 _ := (by with_reducible assumption); refine (HPW.out _ A3 c3 (some ⟨b4, off4, none⟩) c4 (hs3.to hS5) (hs4.to hS5)).mono ?_; rintro e w14 ⟨rfl, hb14⟩; have hB14 := sh_next hS5 hb14))
        have hs3' := hs3.to hB14
        have hs4' := hs4.to hB14
        have kX1 := kX.below hB14 kX.lt
        have kQ1 := kQ.below hB14 kQ.lt
        have kW1 := kW.below hB14 kW.lt
        have hrb1 := hrb.to hB14
        have hB6 := hWb.trans (hB14.mono hWb.size)
        have x0 := kX1.cell 0
        have x1 := kX1.cell 1
        have q0 := kQ1.cell 0
        have q1 := kQ1.cell 1
        have u0 := kW1.cell 0
        have u1 := kW1.cell 1
        simp at x0 x1 q0 q1 u0 u1
        clear hs3 hs4 kX kY kQ kW hrb hWb hB14 y0 y1 kz kz2 hb13 hb14
        obtain ⟨k', h', hk', hh', e1, e2⟩ := HI.out.good HE.out
        obtain rfl : ia = k' := by omega
        rw [Hh.out] at hh'
        obtain rfl : h = h' := by simpa using hh'
        rw [Hff.out] at e1 e2
        have hHh := Hh.out
        cases hb : findBal (push.times h.area) f with
        | none =>
          rw [hb] at e1 e2
          simp at e1 e2
          subst e2
          obtain ⟨rfl, rfl⟩ := e1
          have hbad : ¬ ∀ d ∈ waysL f, d.dot (push.times h.area) ≤ helpM f d := fun hall => absurd hb (by have := (bal_find Hfv.out).2 hall; exact this)
          have hob : ob = false := by
            rw [← Hob.out, ← Bool.not_eq_true]
            exact fun hx => hbad (fun d _ => balBy_sound hx d)
          obtain ⟨f1, f2, f3, f4⟩ := wk_weak (push := push) Hok.out Hhk.out (by rw [Hff.out]; exact hbad)
          rw [Hzi.out] at f1
          rw [Hzk.out] at f2
          rw [Hu.out, Hff.out] at f3
          rw [Hu.out] at f4
          subst f1 f2 hob
          have hins : (u.insideB 1000000 && weakInB f (push.times h.area) u) = true := by
            have g1 := f4.1
            have g2 := f4.2
            rw [f3, Bool.and_true]
            unfold Vec.insideB
            rw [Bool.and_eq_true, inB_true, inB_true]
            omega
          have HPW2 := Lib.hid (fun W B b1 B' b2 hr ht => hins ▸ ProveWeak_ok B b1 l B' b2 t ia h Hh.out push u f Hff.out W hr hlm ht htm HE.out)
          clear hbad f3 f4 hb hHh hh' hk' hins
          go_wp2_with (first | (go_at_call 29; refine (HPW2.out _ A3 c3 (some ⟨b4, off4, none⟩) c4 hs3' hs4').mono ?_; rintro e w15 ⟨rfl, hb15⟩) | (go_at_call 16; refine (wakes_any _).mono ?_; rintro e w16 ⟨rfl, hb16⟩; obtain ⟨hc16, hf16⟩ := bcell hb16))
          go_ret
          exact ⟨rfl, hB6.trans ((sh_next hb15 hb16).mono hB6.size)⟩
        | some r =>
          rw [hb] at e1 e2
          simp at e1 e2
          subst e2
          obtain ⟨r1, r2⟩ := r
          simp at e1
          obtain ⟨rfl, rfl⟩ := e1
          have hbb := find_sound Hfv.out hb
          have hlb : lb = false := by
            rw [← Hlb.out]
            have := balBy_sound hbb way
            have hw : weakInB f (push.times h.area) way = false := by unfold weakInB; simpa using this
            rw [hw]; simp
          obtain ⟨f1, f2⟩ := wk_strong (l := l) (h := h) (push := push) (by rw [Hff.out]; exact fun d _ => balBy_sound hbb d)
          rw [Hzi.out] at f1
          rw [Hzk.out] at f2
          subst f1 f2 hlb
          have hbl : r2.length ≤ maxLen := Nat.le_trans hq5 hq6
          have HPB2 := Lib.hid (fun W B b1 B' b2 B3 b3 hr ht hp => hbb ▸ ProveBalance_ok B b1 l B' b2 t ia h Hh.out push r1 B3 b3 r2 f Hff.out W hr hlm ht htm hp hbl HE.out)
          clear hbb hb hHh hh' hk'
          go_wp2_with (first | (go_at_call 28; refine (HPB2.out _ A3 c3 (some ⟨b4, off4, none⟩) c4 A5 c5 hs3' hs4' hrb1).mono ?_; rintro e w15 ⟨rfl, hb15⟩) | (go_at_call 16; refine (wakes_any _).mono ?_; rintro e w16 ⟨rfl, hb16⟩; obtain ⟨hc16, hf16⟩ := bcell hb16))
          go_ret
          exact ⟨rfl, hB6.trans ((sh_next hb15 hb16).mono hB6.size)⟩

theorem either_any (A : Option Addr) (c : Nat) (l : List Tst) (A' : Option Addr) (c' : Nat) (t : List Head) (head : Int) (push way : Vec) (whole : Int) (A9 : Option Addr) (c9 : Nat) (ps : List Int) (hh8 : 0 ≤ head ∧ head ≤ 255) (w : World) (hr : RS encT 4 w w.heap.size A l) (hl : l.length ≤ maxLen) (ht : RH w w.heap.size A' t) (htl : t.length ≤ maxLen) (hrp : RS encI 1 w w.heap.size A9 ps) (hpl : ps.length ≤ maxLen) :
    Calls Try.prog 13 #[.slice A l.length c, .slice A' t.length c', .int .u8 head, .agg #[.int .i64 push.x, .int .i64 push.y], .agg #[.int .i64 way.x, .int .i64 way.y], .agg #[.int .i64 whole, .slice A9 ps.length c9]] w fun e w' => e = .returned (.bool true) ∧ Below w.heap.size w w' := by
  by_cases h : fewB l t = true ∧ faultE l t = 0 ∧ agreeE l = 0 ∧ push.corner = true ∧ ps.length ≤ 12
  · exact either_main A c l A' c' t head push way whole A9 c9 ps hh8 w hr ht hrp h.1 h.2.1 h.2.2.1 h.2.2.2.1 h.2.2.2.2
  · refine either_skip A c l A' c' t head push way whole A9 c9 ps w hr hl ht htl hpl ?_
    by_cases h1 : fewB l t = true
    · by_cases h2 : faultE l t = 0
      · by_cases h3 : agreeE l = 0
        · by_cases h4 : push.corner = true
          · by_cases h5 : ps.length ≤ 12
            · exact absurd ⟨h1, h2, h3, h4, h5⟩ h
            · exact .inr (.inr (.inr (.inr (by omega))))
          · exact .inr (.inr (.inr (.inl (by simpa using h4))))
        · exact .inr (.inr (.inl h3))
      · exact .inr (.inl h2)
    · exact .inl (by simpa using h1)
end Go.Proofs.Ytlfaafhdacmgnaa
