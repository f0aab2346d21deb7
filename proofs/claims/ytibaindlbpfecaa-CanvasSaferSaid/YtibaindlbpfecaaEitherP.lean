import Derived.Test.YtibaindlbpfecaaBalances
import Derived.Test.YtibaindlbpfecaaUptoP

namespace Go.Proofs.Ytibaindlbpfecaa
open Go.RowKit

section
variable {P : Program} {w : World}
/-- An append of a whole slice, that may be nil, to a row of the call's own, at a step of a region that draws its order. -/
theorem step_append_any {ops : Array Oper} {o : Oper} {a : Act} {K : Act → World → Prop} {Q : Exit → Act → World → Prop} {E : Prop} (hgd : o.guard = none) (s x : Operand) (t : TypeId)
    (ho : o.op = .call { callee := .builtin .append, args := #[s, x], argTypes := #[t, t] })
    (base : Nat) (e : TypeId) (i : TypeInfo) (z : Value) (size bytes : Nat) (ht : P.underlying t = some (.slice e)) (hi : P.info? e = some i) (hz : i.zero = some z)
    (hsize : i.size = size) (hby : i.bytes = bytes) (hzs : z.cells.size = size) (hsz : 0 < size)
    (v : Value) (n : Nat) (xs : List Value) (hs : a.eval s = v) (hown : w.ownsRow base e size v n xs)
    (ao : Option Addr) (m c : Nat) (news : List Value) (hx : a.eval x = .slice ao m c) (hl : news.length = m * size) (hnone : ao = none → m = 0) (hnews : ∀ ad, ao = some ad → ∀ j u, news[j]? = some u → w.cell? (ad.add j) = some u) (h1 : ∀ u ∈ news, u.oneCell' = true)
    (h63 : n + m ≤ maxLen) (hbytes : (n + m) * bytes ≤ 140737488355328) (hbase : base ≤ w.heap.size)
    (h : ∀ v' w', w'.ownsRow base e size v' (n + m) (xs ++ news) → w.grownBy w' v.ownBlock → K (a.put o.dst v') w') :
    if Region.wanted o (yielded ops a.tmps) = true then Oper.wp P o a w K Q else E := by
  have hw : Region.wanted o (yielded ops a.tmps) = true := by simp [Region.wanted, hgd]
  rw [if_pos hw]
  have key : ∃ v' w', (Builtin.append_ #[t, t] o.type #[v, .slice ao m c]).run P w = .ok v' w' ∧ w'.ownsRow base e size v' (n + m) (xs ++ news) ∧ w.grownBy w' v.ownBlock := by
    cases ao with
    | some ad =>
      obtain ⟨v', w', hr, h2, h3, h4⟩ := run_append_own_at (P := P) w base t o.type e i z size bytes ht hi hz hsize hby hzs hsz v n xs hown ad m c news hl (hnews ad rfl) h1 h63 hbytes hbase
      exact ⟨v', w', hr, h2, h3⟩
    | none =>
      obtain rfl := hnone rfl
      have hnews : news = [] := List.eq_nil_of_length_eq_zero (by simpa using hl)
      subst hnews
      obtain ⟨A, c', rfl, hle, _⟩ := own_slice hown
      exact ⟨_, w, run_append_nothing (P := P) w t t o.type e i ht hi A n c' hle _ (Src.ofNil w ht c), by simpa using hown, World.grownBy.refl _ _⟩
  obtain ⟨v', w', hr, h2, h3⟩ := key
  unfold Oper.wp execOp
  simp only [ho, resolve, invoke, builtin, Sem.run_bind, Sem.run_pure, Result.andThen_ok, List.map_toArray, List.map_cons, List.map_nil, hs, hx, hr]
  exact h v' w' h2 h3
/-- An empty block that is made now is a row of the call's own. -/
theorem own_empty (w : World) (e : TypeId) (sz : Nat) : (w.alloc (.cells #[] e)).ownsRow w.heap.size e sz (.slice (some ⟨w.heap.size, 0, none⟩) 0 0) 0 [] :=
  ⟨by simp, .inr ⟨w.heap.size, 0, #[], rfl, Nat.le_refl _, heap_alloc_new w _, Nat.le_refl _, Nat.zero_le _, by simp, by simp⟩⟩
end

theorem ints_len (ps : List Int) : (ps.flatMap encI).length = ps.length * 1 := by
  induction ps with
  | nil => rfl
  | cons a ps ih => rw [List.flatMap_cons, List.length_append, ih]; simp [encI]; omega
theorem ints_one (ps : List Int) : ∀ u ∈ ps.flatMap encI, u.oneCell' = true := by
  intro u hu
  rw [List.mem_flatMap] at hu
  obtain ⟨x, _, hx⟩ := hu
  simp [encI] at hx
  subst hx
  rfl
/-- What needs more cells than a block has lies elsewhere. -/
theorem RS.set_small {α : Type} {enc : α → List Value} {sz B X : Nat} {w : World} {A : Option Addr} {l : List α} {ty : TypeId} {cs : Array Value} (hs : ∀ x, (enc x).length = sz) (h : RS enc sz w B A l) (hb : Blk w X ty cs) (hc : cs.size < sz) (i : Nat) (u : Value) : RS enc sz (w.setCell ⟨X, i, none⟩ u) B A l := by
  rcases h with rfl | ⟨b, off, hA, hlt, hcell⟩
  · exact .inl rfl
  · by_cases hl : l = []
    · exact .inl hl
    · have hne : b ≠ X := by
        rintro rfl
        obtain ⟨x, hx⟩ : ∃ x, l[0]? = some x := getElem?_lt (List.length_pos_iff.2 hl)
        obtain ⟨v, hv⟩ : ∃ v, (enc x)[sz - 1]? = some v := getElem?_lt (by rw [hs]; omega)
        have := hcell 0 x hx (sz - 1) v hv
        rw [hb.cell, Array.getElem?_eq_none (by omega)] at this
        cases this
      exact RS.far (.inr ⟨b, off, hA, hlt, hcell⟩) (fun ad e => by rw [hA] at e; cases e; exact hne) u
theorem RH.set_small {B X : Nat} {w : World} {A : Option Addr} {t : List Head} {ty : TypeId} {cs : Array Value} (h : RH w B A t) (hb : Blk w X ty cs) (hc : cs.size < 3) (i : Nat) (u : Value) : RH (w.setCell ⟨X, i, none⟩ u) B A t := by
  rcases h with rfl | ⟨b, off, hA, hlt, hcell⟩
  · exact .inl rfl
  · refine .inr ⟨b, off, hA, hlt, fun k x hk => ?_⟩
    obtain ⟨A', c', x0, x1, x2, g1, g2, g3⟩ := hcell k x hk
    have hne : b ≠ X := by
      rintro rfl
      rw [hb.cell, Array.getElem?_eq_none (by omega)] at x2
      cases x2
    refine ⟨A', c', ?_, ?_, ?_, g1, g2, RS.set_small (enc := encG) (sz := 5) (fun _ => rfl) g3 hb (by omega) i u⟩
    · rw [World.cell?_setCell_far _ _ _ _ (Ne.symm hne)]; exact x0
    · rw [World.cell?_setCell_far _ _ _ _ (Ne.symm hne)]; exact x1
    · rw [World.cell?_setCell_far _ _ _ _ (Ne.symm hne)]; exact x2
theorem vec_close {w1 w5 : World} {X : Nat} {x y : Int} (hb : Blk w5 X 58 #[.int .i64 0, .int .i64 0]) (hB : Below w1.heap.size w1 w5) (hX : w1.heap.size ≤ X) :
    Blk ((w5.setCell ⟨X, 0, none⟩ (.int .i64 x)).setCell ⟨X, 1, none⟩ (.int .i64 y)) X 58 #[.int .i64 x, .int .i64 y] ∧
    Below w1.heap.size w1 ((w5.setCell ⟨X, 0, none⟩ (.int .i64 x)).setCell ⟨X, 1, none⟩ (.int .i64 y)) := by
  refine ⟨?_, ?_⟩
  · have := (hb.set_ 0 (.int .i64 x)).set_ 1 (.int .i64 y)
    simpa using this
  · exact (hB.setCell (p := ⟨X, 0, none⟩) (by dsimp only; omega) _).setCell (p := ⟨X, 1, none⟩) (by dsimp only; omega) _
theorem vec_far {w1 w5 : World} {X : Nat} {x y : Int} {A3 A4 : Option Addr} {l : List Tst} {t : List Head} (hb : Blk w5 X 58 #[.int .i64 0, .int .i64 0]) (hr : RS encT 4 w5 w5.heap.size A3 l) (ht : RH w5 w5.heap.size A4 t) (hB : Below w1.heap.size w1 w5) (hX : w1.heap.size ≤ X) :
    RS encT 4 ((w5.setCell ⟨X, 0, none⟩ (.int .i64 x)).setCell ⟨X, 1, none⟩ (.int .i64 y)) ((w5.setCell ⟨X, 0, none⟩ (.int .i64 x)).setCell ⟨X, 1, none⟩ (.int .i64 y)).heap.size A3 l ∧
    RH ((w5.setCell ⟨X, 0, none⟩ (.int .i64 x)).setCell ⟨X, 1, none⟩ (.int .i64 y)) ((w5.setCell ⟨X, 0, none⟩ (.int .i64 x)).setCell ⟨X, 1, none⟩ (.int .i64 y)).heap.size A4 t ∧
    Blk ((w5.setCell ⟨X, 0, none⟩ (.int .i64 x)).setCell ⟨X, 1, none⟩ (.int .i64 y)) X 58 #[.int .i64 x, .int .i64 y] ∧
    Below w1.heap.size w1 ((w5.setCell ⟨X, 0, none⟩ (.int .i64 x)).setCell ⟨X, 1, none⟩ (.int .i64 y)) := by
  obtain ⟨g1, g2⟩ := vec_close (x := x) (y := y) hb hB hX
  have hb2 := hb.set_ 0 (.int .i64 x)
  exact ⟨(RS.set_small (enc := encT) (sz := 4) (fun _ => rfl) (RS.set_small (enc := encT) (sz := 4) (fun _ => rfl) hr hb (by simp) _ _) hb2 (by simp) _ _).more (by simp), ((ht.set_small hb (by simp) _ _).set_small hb2 (by simp) _ _).more (by simp), g1, g2⟩
theorem wk_strong {l : List Tst} {h : Head} {push : Vec} (hall : ∀ d ∈ waysL (forcesM l h), d.dot (push.times h.area) ≤ helpM (forcesM l h) d) : wkI l [h] [push] = -1 ∧ wkK l [h] [push] = -1 := by
  have hs : standsB l [h] [push] = true := stands_one.2 (fun p hp => by rw [List.mem_singleton] at hp; subst hp; exact bad_no.2 hall)
  have ho := stands_none.1 hs
  exact ⟨by unfold wkI; rw [ho], by unfold wkK; rw [ho]⟩
theorem wk_weak {l : List Tst} {h : Head} {push : Vec} (hok : ∀ x ∈ l, x.ok = true) (hh : h.ok = true) (hbad : ¬ ∀ d ∈ waysL (forcesM l h), d.dot (push.times h.area) ≤ helpM (forcesM l h) d) :
    wkI l [h] [push] = 0 ∧ wkK l [h] [push] = 0 ∧ weakInB (forcesM l h) (push.times h.area) (wkW l [h] [push]) = true ∧ VB (wkW l [h] [push]) 500000 := by
  have hs : ¬ standsB l [h] [push] = true := fun hs => hbad (bad_no.1 (stands_one.1 hs push (by simp)))
  cases ho : wkO l [h] [push] with
  | none => exact absurd (stands_none.2 ho) hs
  | some a =>
    obtain ⟨x, m, p, hx, hp, e1, e2, hwi, hvb⟩ := wk_some ho hok (fun y hy => by rw [List.mem_singleton] at hy; subst hy; exact hh)
    have ha : a = 0 := by have := lt_of_getElem? hx; simp at this; exact this
    have hm : m = 0 := by have := lt_of_getElem? hp; simp at this; exact this
    subst ha hm
    simp at hx hp
    subst hx hp
    exact ⟨by rw [e1]; rfl, by rw [e2]; rfl, hwi, hvb⟩
end Go.Proofs.Ytibaindlbpfecaa
