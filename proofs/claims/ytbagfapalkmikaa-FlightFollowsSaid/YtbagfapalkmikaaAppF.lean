import Derived.Test.YtbagfapalkmikaaFollow
import Derived.Test.YtbagfapalkmikaaCatches
import Derived.Deep.Upon

/- Appends of whole lists, that may be nil, and stores into rows of the call's own. -/
namespace Go.Proofs.Ytbagfapalkmikaa
open Go.RowKit Go.Shelf
theorem flat_from {α : Type} {enc : α → List Value} {sz : Nat} (hs : ∀ x, (enc x).length = sz) : ∀ (l : List α) (j : Nat) (u : Value), (l.flatMap enc)[j]? = some u → ∃ k x i, l[k]? = some x ∧ (enc x)[i]? = some u ∧ j = k * sz + i := by
  intro l
  induction l with
  | nil => intro j u h; simp at h
  | cons a l ih =>
    intro j u h
    rw [List.flatMap_cons] at h
    by_cases hj : j < (enc a).length
    · rw [List.getElem?_append_left hj] at h
      exact ⟨0, a, j, rfl, h, by simp⟩
    · rw [List.getElem?_append_right (by omega)] at h
      obtain ⟨k, x, i, h1, h2, h3⟩ := ih _ _ h
      exact ⟨k + 1, x, i, by simpa using h1, h2, by rw [hs] at h3 hj; rw [Nat.add_mul, Nat.one_mul]; omega⟩
theorem RS.fresh {α : Type} {enc : α → List Value} {sz B : Nat} (hs : ∀ x, (enc x).length = sz) {w : World} {A : Option Addr} {l : List α} (h : RS enc sz w B A l) :
    (A = none → l.length = 0) ∧ ∀ ad, A = some ad → ∀ j u, (l.flatMap enc)[j]? = some u → w.cell? (ad.add j) = some u := by
  rcases h with rfl | ⟨b, off, rfl, hb, hc⟩
  · exact ⟨fun _ => rfl, fun ad _ j u h => by simp at h⟩
  · refine ⟨fun h => (by cases h), fun ad h j u hj => ?_⟩
    obtain ⟨k, x, i, h1, h2, rfl⟩ := flat_from hs _ _ _ hj
    cases h
    rw [Addr.add_lit, ← Nat.add_assoc]
    exact hc k x h1 i u h2
section
variable {P : Program} {w : World}
/-- An append of a whole slice, that may be nil, to a row of the call's own, at the list of a plain region. -/
theorem app_list {ops : Array Oper} {rest : List Oper} {o : Oper} {a : Act} {Q : Exit → Act → World → Prop} (hgd : o.guard = none) (s x : Operand) (t : TypeId)
    (ho : o.op = .call { callee := .builtin .append, args := #[s, x], argTypes := #[t, t] })
    (base : Nat) (e : TypeId) (i : TypeInfo) (z : Value) (size bytes : Nat) (ht : P.underlying t = some (.slice e)) (hi : P.info? e = some i) (hz : i.zero = some z)
    (hsize : i.size = size) (hby : i.bytes = bytes) (hzs : z.cells.size = size) (hsz : 0 < size)
    (v : Value) (n : Nat) (xs : List Value) (hs : a.eval s = v) (hown : w.ownsRow base e size v n xs)
    (ao : Option Addr) (m c : Nat) (news : List Value) (hx : a.eval x = .slice ao m c) (hl : news.length = m * size) (hnone : ao = none → m = 0) (hnews : ∀ ad, ao = some ad → ∀ j u, news[j]? = some u → w.cell? (ad.add j) = some u) (h1 : ∀ u ∈ news, u.oneCell' = true)
    (h63 : n + m ≤ maxLen) (hbytes : (n + m) * bytes ≤ 140737488355328) (hbase : base ≤ w.heap.size)
    (h : ∀ v' w', w'.ownsRow base e size v' (n + m) (xs ++ news) → w.grownBy w' v.ownBlock → wpList P ops Q rest (a.put o.dst v') w') :
    wpList P ops Q (o :: rest) a w := by
  refine wpList_plain hgd fun K hK => ?_
  have key : ∃ v' w', (Builtin.append_ #[t, t] o.type #[v, .slice ao m c]).run P w = .ok v' w' ∧ w'.ownsRow base e size v' (n + m) (xs ++ news) ∧ w.grownBy w' v.ownBlock := by
    cases ao with
    | some ad =>
      obtain ⟨v', w', hr, h2, h3, h4⟩ := run_append_own_at (P := P) w base t o.type e i z size bytes ht hi hz hsize hby hzs hsz v n xs hown ad m c news hl (hnews ad rfl) h1 h63 hbytes hbase
      exact ⟨v', w', hr, h2, h3⟩
    | none =>
      obtain rfl := hnone rfl
      have hnews : news = [] := List.eq_nil_of_length_eq_zero (by simpa using hl)
      subst hnews
      obtain ⟨A, c', rfl, hle, _⟩ := own_slice hown
      exact ⟨_, w, run_append_nothing (P := P) w t t o.type e i ht hi A n c' hle _ (Src.ofNil w ht c), by simpa using hown, World.grownBy.refl _ _⟩
  obtain ⟨v', w', hr, h2, h3⟩ := key
  unfold Oper.wp execOp
  simp only [ho, resolve, invoke, builtin, Sem.run_bind, Sem.run_pure, Result.andThen_ok, List.map_toArray, List.map_cons, List.map_nil, hs, hx, hr]
  exact hK _ _ (h v' w' h2 h3)
end

theorem own_new_of {B : Nat} {w W : World} (_h : Below B w W) (e : TypeId) (sz : Nat) : (W.alloc (.cells #[] e)).ownsRow W.heap.size e sz (.slice (some ⟨W.heap.size, 0, none⟩) 0 0) 0 [] :=
  ⟨by simp, .inr ⟨W.heap.size, 0, #[], rfl, Nat.le_refl _, heap_alloc_new W _, Nat.le_refl _, Nat.zero_le _, by simp, by simp⟩⟩
theorem app_belowF {B B' e sz n : Nat} {a w w1 : World} {v : Value} {xs : List Value} (h : Below B' a w) (hle : B' ≤ B) (hB : B' ≤ w.heap.size) (hown : w.ownsRow B e sz v n xs) (hg : w.grownBy w1 v.ownBlock) : Below B' a w1 :=
  h.grown hg hB (fun k hk => Nat.le_trans hle (hown.lt k hk).1)
theorem intsI_len (ps : List Int) : (ps.flatMap encI).length = ps.length * 1 := by
  induction ps with
  | nil => rfl
  | cons a ps ih => rw [List.flatMap_cons, List.length_append, ih]; simp [encI]; omega
theorem intsI_one (ps : List Int) : ∀ u ∈ ps.flatMap encI, u.oneCell' = true := by
  intro u hu
  rw [List.mem_flatMap] at hu
  obtain ⟨x, _, hx⟩ := hu
  simp [encI] at hx
  rw [hx]; rfl
/-- An append of a whole slice, that may be nil, at a step of a region inside a fence. -/
theorem append_step_any {F : Fence} {n : Nat} {P : Program} (hall : ∀ f, F.fn f) {o : Oper} {a : Act} {w : World} {K : Act → World → Prop} {Q : Exit → Act → World → Prop} (s x : Operand) (t : TypeId)
    (hop : o.op = Op.call { callee := Callee.builtin Builtin.append, args := #[s, x], argTypes := #[t, t] })
    (base : Nat) (e : TypeId) (i : TypeInfo) (z : Value) (size bytes : Nat) (h1 : P.underlying t = some (.slice e)) (h2 : P.info? e = some i) (h3 : i.zero = some z) (h4 : i.size = size) (h5 : i.bytes = bytes) (h6 : z.cells.size = size) (h7 : 0 < size)
    (v : Value) (k : Nat) (xs : List Value) (hs : a.eval s = v) (hown : w.ownsRow base e size v k xs) (ao : Option Addr) (m c : Nat) (news : List Value) (hx : a.eval x = .slice ao m c) (hn : news.length = m * size)
    (hnone : ao = none → m = 0) (hc : ∀ ad, ao = some ad → ∀ j u, news[j]? = some u → w.cell? (ad.add j) = some u) (h1c : ∀ u ∈ news, u.oneCell' = true) (b1 : k + m ≤ maxLen) (b2 : (k + m) * bytes ≤ 140737488355328) (b3 : base ≤ w.heap.size)
    (hK : ∀ v' w', w'.ownsRow base e size v' (k + m) (xs ++ news) → w.grownBy w' v.ownBlock → K (a.put o.dst v') w') : Oper.wpIn F n P o a w K Q := by
  have key : ∃ v' w', (Builtin.append_ #[t, t] o.type #[v, .slice ao m c]).run P w = .ok v' w' ∧ w'.ownsRow base e size v' (k + m) (xs ++ news) ∧ w.grownBy w' v.ownBlock := by
    cases ao with
    | some ad =>
      obtain ⟨v', w', hr, h2, h3, h4⟩ := run_append_own_at (P := P) w base t o.type e i z size bytes h1 h2 h3 h4 h5 h6 h7 v k xs hown ad m c news hn (hc ad rfl) h1c b1 b2 b3
      exact ⟨v', w', hr, h2, h3⟩
    | none =>
      obtain rfl := hnone rfl
      have hnews : news = [] := List.eq_nil_of_length_eq_zero (by simpa using hn)
      subst hnews
      obtain ⟨A, c', rfl, hle, _⟩ := own_slice hown
      exact ⟨_, w, run_append_nothing (P := P) w t t o.type e i h1 h2 A k c' hle _ (Src.ofNil w h1 c), by simpa using hown, World.grownBy.refl _ _⟩
  obtain ⟨v', w', hrun, r1, r2⟩ := key
  refine ⟨fun f _ => hall f, ?_⟩
  rw [semAt_plain (by rw [hop]; intro c hc'; cases hc')]
  simp [execOp, hop, resolve, invoke, builtin, hs, hx, hrun, Result.andThen, Oper.uponIn]
  exact hK v' w' r1 r2
/-- A row of the call's own with numbers: its block. -/
theorem own_block {w : World} {B : Nat} {A : Option Addr} {n c : Nat} {l : List Int} (h : w.ownsRow B 3 1 (.slice A n c) n (l.flatMap encI)) (hn : l.length = n) (hp : 0 < n) :
    ∃ g cur, A = some ⟨g, 0, none⟩ ∧ B ≤ g ∧ Blk w g 3 cur ∧ ∀ (k : Nat) (x : Int), l[k]? = some x → cur[k]? = some (Value.int .i64 x) := by
  obtain ⟨hl, h2⟩ := h
  rcases h2 with ⟨_, rfl⟩ | ⟨g, cap, cur, hv, hg, hh, h1, h3, h4, h5⟩
  · omega
  · injection hv with hA _ _
    subst hA
    refine ⟨g, cur, rfl, hg, hh, fun k x hk => ?_⟩
    have hkn : k < n := by rw [← hn]; exact (List.getElem?_eq_some_iff.1 hk).1
    have := congrArg (fun (z : List Value) => z[k]?) h5
    simp only [List.getElem?_take] at this
    rw [if_pos (by omega)] at this
    rw [← Array.getElem?_toList, this]
    have hf := flat_get (enc := encI) (sz := 1) (fun _ => rfl) l k x hk 0 (.int .i64 x) rfl
    simpa using hf
/-- The list behind a store. -/
theorem own_stored {w : World} {g : Nat} {cur : Array Value} {l : List Int} (h : Blk w g 3 cur) (hc : ∀ (k : Nat) (x : Int), l[k]? = some x → cur[k]? = some (Value.int .i64 x)) (i : Nat) (y : Int) :
    RS encI 1 (w.setCell ⟨g, i, none⟩ (.int .i64 y)) (w.setCell ⟨g, i, none⟩ (.int .i64 y)).heap.size (some ⟨g, 0, none⟩) (l.set i y) := by
  have h2 := h.set_ i (.int .i64 y)
  refine .inr ⟨g, 0, rfl, h2.lt, fun k x hk j v hv => ?_⟩
  have hj : j = 0 ∧ v = .int .i64 x := by
    unfold encI at hv
    cases j with
    | zero => simp at hv; exact ⟨rfl, hv.symm⟩
    | succ j => simp at hv
  obtain ⟨rfl, rfl⟩ := hj
  rw [Nat.zero_add, Nat.mul_one, Nat.add_zero, h2.cell k]
  rw [List.getElem?_set] at hk
  by_cases hik : i = k
  · subst hik
    rw [if_pos rfl] at hk
    split at hk
    · rename_i hlt
      cases hk
      obtain ⟨z, hz⟩ := getElem?_lt hlt
      have := hc i z hz
      have hlt2 : i < cur.size := (Array.getElem?_eq_some_iff.1 this).1
      rw [Array.getElem?_setIfInBounds_self_of_lt hlt2]
    · cases hk
  · rw [if_neg hik] at hk
    rw [Array.getElem?_setIfInBounds_ne hik]
    exact hc k x hk
end Go.Proofs.Ytbagfapalkmikaa
