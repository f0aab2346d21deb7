import Derived.Test.YtkeicglphmnilaaGreatLawC

namespace Go.Proofs.YtkeicglphmnilaaGreat
open Go.RowKit

def evenV (v : Vec) : Vec := ⟨v.x.tdiv 2 * 2, v.y.tdiv 2 * 2⟩
def evens (wind : List Vec) : List Vec := wind.map evenV
theorem evens_len (wind : List Vec) : (evens wind).length = wind.length := by simp [evens]
theorem td2 (x : Int) : (0 ≤ x → x.tdiv 2 = x / 2) ∧ (x < 0 → x.tdiv 2 = -(-x / 2)) := by
  constructor
  · intro h; rw [Int.tdiv_eq_ediv_of_nonneg h]
  · intro h
    rw [show x = -(-x) from by omega, Int.neg_tdiv, Int.tdiv_eq_ediv_of_nonneg (by omega), Int.neg_neg]
theorem even_one (x : Int) (h : -10000 ≤ x ∧ x ≤ 10000) : -10000 ≤ x.tdiv 2 * 2 ∧ x.tdiv 2 * 2 ≤ 10000 := by have := td2 x; omega
theorem even_wrap (x : Int) (h : -10000 ≤ x ∧ x ≤ 10000) : IntKind.i64.wrap (IntKind.i64.wrap (x.tdiv 2) * 2) = x.tdiv 2 * 2 := by
  have := td2 x
  rw [IntWalk.i64_in (x.tdiv 2) (by omega), IntWalk.i64_in _ (by omega)]
theorem evenV_vb {v : Vec} (h : VB v 10000) : VB (evenV v) 10000 := ⟨even_one _ h.1, even_one _ h.2⟩
theorem evens_ok {wind : List Vec} (h : windOk wind = true) : windOk (evens wind) = true := by
  simp only [windOk, Bool.and_eq_true, decide_eq_true_eq, List.all_eq_true, evens_len] at *
  refine ⟨h.1, h.2.1, fun v hv => ?_⟩
  unfold evens at hv
  obtain ⟨u, hu, rfl⟩ := List.mem_map.1 hv
  exact Vec.corner_iff.2 (evenV_vb (Vec.corner_iff.1 (h.2.2 u hu)))
theorem windy_of {l : List Tst} {t : List Head} {wind wind' : List Vec} (h : windyE l t wind = 0) (hk : windOk wind' = true) : windyE l t wind' = 0 := by
  obtain ⟨h1, h2, h3, h4⟩ := windyE_zero h
  have : windE wind' = 0 := by unfold windE; rw [hk]; rfl
  unfold windyE firstE
  simp [orM, h1, h2, this, h4]
theorem windOk_of {l : List Tst} {t : List Head} {wind : List Vec} (h : windyE l t wind = 0) : windOk wind = true := by
  have := (windyE_zero h).2.2.1
  unfold windE at this
  split at this
  · assumption
  · cases this

theorem mod_nat {i : Int} {n : Nat} (h0 : 0 ≤ i) (hn : 1 ≤ n) : ∃ a : Nat, i.tmod n = a ∧ i % n = a ∧ a < n := by
  have h1 := Int.emod_nonneg i (show (n : Int) ≠ 0 by omega)
  have h2 := Int.emod_lt_of_pos i (show (0 : Int) < n by omega)
  refine ⟨(i % n).toNat, ?_, by omega, by omega⟩
  rw [Int.tmod_eq_emod_of_nonneg h0]; omega
theorem rs_new {α : Type} {enc : α → List Value} {sz : Nat} (hs : ∀ x, (enc x).length = sz) (w : World) (l : List α) (t : TypeId) {cs : Array Value} (hc : cs = (l.flatMap enc).toArray) : RS enc sz (w.alloc (.cells cs t)) (w.alloc (.cells cs t)).heap.size (some ⟨w.heap.size, 0, none⟩) l := by
  subst hc
  refine .inr ⟨w.heap.size, 0, rfl, by simp, fun k x hk j v hv => ?_⟩
  rw [Nat.zero_add, (Blk.new w t _).cell, List.getElem?_toArray]
  exact flat_get hs l k x hk j v hv
theorem RS.takeN {α : Type} {enc : α → List Value} {sz B : Nat} {w : World} {A : Option Addr} {l : List α} (h : RS enc sz w B A l) (n : Nat) : RS enc sz w B A (l.take n) := by
  rcases h with rfl | ⟨b, off, hA, hb, hc⟩
  · exact .inl (by simp)
  · refine .inr ⟨b, off, hA, hb, fun k x hk j v hv => hc k x ?_ j v hv⟩
    have hl := lt_of_getElem? hk
    rw [List.length_take] at hl
    rwa [List.getElem?_take_of_lt (by omega)] at hk
theorem two_boxes (w : World) (p q : Vec) : Blk ((w.alloc (.cells #[.int .i64 p.x, .int .i64 p.y] 60)).alloc (.cells #[.int .i64 q.x, .int .i64 q.y] 60)).drew w.heap.size 60 #[.int .i64 p.x, .int .i64 p.y] := ((Blk.new w _ _).alloc _).drew
theorem two_boxes2 (w : World) (p q : Vec) : Blk ((w.alloc (.cells #[.int .i64 p.x, .int .i64 p.y] 60)).alloc (.cells #[.int .i64 q.x, .int .i64 q.y] 60)).drew (w.heap.size + 1) 60 #[.int .i64 q.x, .int .i64 q.y] := by
  have := Blk.new (w.alloc (.cells #[.int .i64 p.x, .int .i64 p.y] 60)) 60 #[.int .i64 q.x, .int .i64 q.y]
  rw [World.size_alloc] at this
  exact this.drew
theorem two_below (w : World) (p q : Vec) : Below w.heap.size w ((w.alloc (.cells #[.int .i64 p.x, .int .i64 p.y] 60)).alloc (.cells #[.int .i64 q.x, .int .i64 q.y] 60)).drew := (((Below.refl w.heap.size w).alloc (Nat.le_refl _) _).alloc (by simp) _).drew
theorem evens_in {wind : List Vec} (hv : ∀ v ∈ wind, VB v 10000) {k : Nat} {p : Vec} (hp : (evens wind)[k]? = some p) : (∃ a, p.x = a * 2 ∧ -5000 ≤ a ∧ a ≤ 5000) ∧ (∃ a, p.y = a * 2 ∧ -5000 ≤ a ∧ a ≤ 5000) := by
  unfold evens at hp
  rw [List.getElem?_map] at hp
  cases hx : wind[k]? with
  | none => rw [hx] at hp; cases hp
  | some x =>
    rw [hx] at hp
    cases hp
    obtain ⟨h1, h2⟩ := hv x (List.mem_of_getElem? hx)
    have a1 := td2 x.x
    have a2 := td2 x.y
    exact ⟨⟨x.x.tdiv 2, rfl, by omega, by omega⟩, ⟨x.y.tdiv 2, rfl, by omega, by omega⟩⟩
theorem mean_in {a b : Int} (ha : ∃ x, a = x * 2 ∧ -5000 ≤ x ∧ x ≤ 5000) (hb : ∃ x, b = x * 2 ∧ -5000 ≤ x ∧ x ≤ 5000) : ∃ m, 2 * m = a + b ∧ (-10000 ≤ m ∧ m ≤ 10000) ∧ (a + b).tdiv 2 = m := by
  obtain ⟨x, rfl, hx1, hx2⟩ := ha
  obtain ⟨y, rfl, hy1, hy2⟩ := hb
  refine ⟨x + y, by omega, by omega, ?_⟩
  have := td2 (x * 2 + y * 2)
  omega
theorem take_ok {wind : List Vec} {n : Nat} (hn : 1 ≤ n) (h : windOk wind = true) : windOk (wind.take n) = true := by
  simp only [windOk, Bool.and_eq_true, decide_eq_true_eq, List.all_eq_true, List.length_take] at *
  exact ⟨by omega, by omega, fun v hv => h.2.2 v (List.mem_of_mem_take hv)⟩
theorem one_ok {v : Vec} (h : VB v 10000) : windOk [v] = true := by
  simp [windOk, Vec.corner_iff.2 h]

end Go.Proofs.YtkeicglphmnilaaGreat
