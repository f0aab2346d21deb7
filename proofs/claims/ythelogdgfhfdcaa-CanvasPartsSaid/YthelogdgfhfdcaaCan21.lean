import Derived.Test.YthelogdgfhfdcaaCan20
import Derived.Maps.OwnIn
import Derived.Deep.Upon
namespace Go.Proofs.Ythelogdgfhfdcaa
open Go.RowKit Go.Shelf

/-- A guy's place in a set; a number below 0 has none. -/
def busy (s : Nat) (a : Int) : Bool := decide (0 ≤ a) && s.testBit a.toNat
theorem hasZ_any (s : Nat) (a : Int) (w : World) (hs : s < 65536) (h0 : 0 ≤ a) (ha : a < 64) :
    Calls Try.prog 102 #[.int .i64 s, .int .i64 a] w fun e w' => e = .returned (.bool (busy s a)) ∧ w = w' := by
  obtain ⟨k, rfl⟩ := Int.eq_ofNat_of_zero_le h0
  refine (has_any s k w hs (by omega)).mono ?_
  rintro e w' ⟨rfl, rfl⟩
  exact ⟨by simp [busy], rfl⟩
def tryAt (fs : List Vec) (n s : Nat) (rest : Vec) (i k : Nat) : Option (Int × List Int) :=
  match fs[i]?, fs[k]? with
  | some f, some g =>
    if (busy s ((i : Int) - 2) || busy s ((k : Int) - 2)) = true then none
    else if (splitM rest f g).ok (decide (0 ≤ (i : Int) - 2)) (decide (0 ≤ (k : Int) - 2)) = true then some ((splitM rest f g).whole, (splitM rest f g).parts n s ((i : Int) - 2) ((k : Int) - 2)) else none
  | _, _ => none
def tryRow (fs : List Vec) (n s : Nat) (rest : Vec) (i : Nat) : Option (Int × List Int) := (List.range i).findSome? (tryAt fs n s rest i)
def trySet (p : Vec) (f : List Vec) (s : Nat) : Option (Int × List Int) :=
  (List.range (f.length + 2)).findSome? (tryRow (⟨1, 0⟩ :: ⟨0, 1⟩ :: f) f.length s (restM s p f))
/-- The balance that the search comes to first, as the whole and its parts. -/
def findBal (p : Vec) (f : List Vec) : Option (Int × List Int) := (List.range (2 ^ f.length)).findSome? (trySet p f)

theorem some_snoc {α β : Type} {g : α → Option β} {l : List α} {x : α} (h : l.findSome? g = none) : (l ++ [x]).findSome? g = g x := by
  rw [List.findSome?_append, h]; simp
theorem some_range_succ {β : Type} {g : Nat → Option β} {k : Nat} (h : (List.range k).findSome? g = none) (hg : g k = none) : (List.range (k + 1)).findSome? g = none := by
  rw [List.range_succ, some_snoc h, hg]
theorem some_prefix {α β : Type} {g : α → Option β} {l l' : List α} {r : β} (hp : l <+: l') (h : l.findSome? g = some r) : l'.findSome? g = some r := by
  obtain ⟨t, rfl⟩ := hp
  rw [List.findSome?_append, h]; rfl
theorem some_range {β : Type} {g : Nat → Option β} {k n : Nat} {r : β} (h : (List.range k).findSome? g = none) (hk : k < n) (hg : g k = some r) : (List.range n).findSome? g = some r := by
  refine some_prefix (l := List.range (k + 1)) ?_ (by rw [List.range_succ, some_snoc h, hg])
  obtain ⟨c, rfl⟩ := Nat.le.dest (show k + 1 ≤ n by omega)
  rw [List.range_add (n := k + 1)]
  exact List.prefix_append _ _
theorem setsUpto_some {β : Type} {g : Nat → Option β} {N : Nat} (hN : N ≤ 65536) : (setsUpto N).findSome? (fun x => g x.1) = (List.range N).findSome? g := by
  have key : ∀ k, k ≤ N → (setsUpto k).findSome? (fun x => g x.1) = (List.range k).findSome? g := by
    intro k
    induction k with
    | zero => intro _; rfl
    | succ k ih =>
      intro hk
      rw [setsUpto_succ, List.range_succ, List.findSome?_append, List.findSome?_append, ih (by omega)]
      simp [setAt_val (show k < 65536 by omega)]
  exact key N (Nat.le_refl _)

/-- What lies in whole blocks stays, whatever the loop's own records do. -/
theorem Blk.kept {A B : World} {g t : Nat} {cs : Array Value} {row : Option Nat} (h : Blk A g t cs) (hg : A.grownBy B row) (hr : ∀ r, row = some r → ∃ o : Obj, A.heap[r]? = some o ∧ o.isCells = false) : Blk B g t cs :=
  h.grown hg (fun e => by
    obtain ⟨o, ho, hc⟩ := hr g e.symm
    unfold Blk at h
    rw [h] at ho
    cases ho
    simp [Obj.isCells] at hc)
theorem RS.kept {α : Type} {enc : α → List Value} {sz B : Nat} {W W' : World} {A : Option Addr} {l : List α} {row : Option Nat} (h : RS enc sz W B A l) (hg : W.grownBy W' row) (hr : ∀ r, row = some r → ∃ o : Obj, W.heap[r]? = some o ∧ o.isCells = false) : RS enc sz W' B A l := by
  rcases h with rfl | ⟨b, off, hA, hb, hc⟩
  · exact .inl rfl
  · exact .inr ⟨b, off, hA, hb, fun k x hk j v hv => cell_kept (hc k x hk j v hv) hg hr⟩
theorem RS.far {α : Type} {enc : α → List Value} {sz B : Nat} {W : World} {A : Option Addr} {l : List α} (h : RS enc sz W B A l) {p : Addr} (hp : ∀ ad, A = some ad → ad.block ≠ p.block) (v : Value) : RS enc sz (W.setCell p v) B A l := by
  rcases h with rfl | ⟨b, off, hA, hb, hc⟩
  · exact .inl rfl
  · refine .inr ⟨b, off, hA, hb, fun k x hk j u hv => ?_⟩
    have hne : b ≠ p.block := hp _ hA
    rw [← hc k x hk j u hv]
    have := Below.heap_setCell W p v b hne
    simp only [World.cell?, this]
theorem RS.drew' {α : Type} {enc : α → List Value} {sz B : Nat} {W : World} {A : Option Addr} {l : List α} (h : RS enc sz W B A l) : RS enc sz W.drew B A l := h
theorem Below.others {W W' : World} (h : Below W.heap.size W W') : KeepsOthers W W' :=
  ⟨h.size, fun k o hk _ => (h.block k (by
    rcases Nat.lt_or_ge k W.heap.size with hlt | hge
    · exact hlt
    · rw [Array.getElem?_eq_none hge] at hk; cases hk)).trans hk⟩
theorem flat_inv {α : Type} {enc : α → List Value} {sz : Nat} (hs : ∀ x, (enc x).length = sz) : ∀ (l : List α) (j : Nat) (u : Value), (l.flatMap enc)[j]? = some u → ∃ k x i, l[k]? = some x ∧ (enc x)[i]? = some u ∧ j = k * sz + i := by
  intro l
  induction l with
  | nil => intro j u h; simp at h
  | cons a l ih =>
    intro j u h
    rw [List.flatMap_cons] at h
    by_cases hj : j < (enc a).length
    · rw [List.getElem?_append_left hj] at h
      exact ⟨0, a, j, rfl, h, by simp⟩
    · rw [List.getElem?_append_right (by omega)] at h
      obtain ⟨k, x, i, h1, h2, h3⟩ := ih _ _ h
      exact ⟨k + 1, x, i, by simpa using h1, h2, by rw [hs] at h3 hj; rw [Nat.add_mul, Nat.one_mul]; omega⟩
theorem RS.news {α : Type} {enc : α → List Value} {sz B : Nat} (hs : ∀ x, (enc x).length = sz) {w : World} {A : Option Addr} {l : List α} (h : RS enc sz w B A l) :
    (A = none → l.length = 0) ∧ ∀ ad, A = some ad → ∀ j u, (l.flatMap enc)[j]? = some u → w.cell? (ad.add j) = some u := by
  rcases h with rfl | ⟨b, off, rfl, hb, hc⟩
  · exact ⟨fun _ => rfl, fun ad _ j u h => by simp at h⟩
  · refine ⟨fun h => (by cases h), fun ad h j u hj => ?_⟩
    obtain ⟨k, x, i, h1, h2, rfl⟩ := flat_inv hs _ _ _ hj
    cases h
    rw [Addr.add_lit, ← Nat.add_assoc]
    exact hc k x h1 i u h2
section
variable {F : Fence} {nF : Nat} {P : Program} {w : World}
/-- Appending a whole slice, nil or not, to a row of the call's own. -/
theorem wpListIn_append_any {ops : Array Oper} {rest : List Oper} {o : Oper} {a : Act} {Q : Exit → Act → World → Prop} (hgd : o.guard = none) (s x : Operand) (t : TypeId)
    (ho : o.op = .call { callee := .builtin .append, args := #[s, x], argTypes := #[t, t] })
    (base : Nat) (e : TypeId) (i : TypeInfo) (z : Value) (size bytes : Nat) (ht : P.underlying t = some (.slice e)) (hi : P.info? e = some i) (hz : i.zero = some z)
    (hsize : i.size = size) (hby : i.bytes = bytes) (hzs : z.cells.size = size) (hsz : 0 < size)
    (v : Value) (n : Nat) (xs : List Value) (hs : a.eval s = v) (hown : w.ownsRow base e size v n xs)
    (ao : Option Addr) (m c : Nat) (news : List Value) (hx : a.eval x = .slice ao m c) (hl : news.length = m * size) (hnone : ao = none → m = 0) (hnews : ∀ ad, ao = some ad → ∀ j u, news[j]? = some u → w.cell? (ad.add j) = some u) (h1 : ∀ u ∈ news, u.oneCell' = true)
    (h63 : n + m ≤ maxLen) (hbytes : (n + m) * bytes ≤ 140737488355328) (hbase : base ≤ w.heap.size)
    (h : ∀ v' w', w'.ownsRow base e size v' (n + m) (xs ++ news) → w.grownBy w' v.ownBlock → wpListIn F nF P ops Q rest (a.put o.dst v') w') :
    wpListIn F nF P ops Q (o :: rest) a w := by
  have key : ∃ v' w', (Builtin.append_ #[t, t] o.type #[v, .slice ao m c]).run P w = .ok v' w' ∧ w'.ownsRow base e size v' (n + m) (xs ++ news) ∧ w.grownBy w' v.ownBlock := by
    cases ao with
    | some ad =>
      obtain ⟨v', w', hr, h2, h3, h4⟩ := run_append_own_at (P := P) w base t o.type e i z size bytes ht hi hz hsize hby hzs hsz v n xs hown ad m c news hl (hnews ad rfl) h1 h63 hbytes hbase
      exact ⟨v', w', hr, h2, h3⟩
    | none =>
      obtain rfl := hnone rfl
      have hnews : news = [] := List.eq_nil_of_length_eq_zero (by simpa using hl)
      subst hnews
      obtain ⟨A, c', rfl, hle, _⟩ := own_slice hown
      exact ⟨_, w, run_append_nothing (P := P) w t t o.type e i ht hi A n c' hle _ (Src.ofNil w ht c), by simpa using hown, World.grownBy.refl _ _⟩
  obtain ⟨v', w', hr, h2, h3⟩ := key
  refine wpListIn_plain hgd fun K hK => ?_
  unfold Oper.wpIn
  refine ⟨by simp [Oper.about, ho, resolve, Target.leads, Sem.run_pure], ?_⟩
  rw [Oper.semAt_plain F _ _ (by rw [ho]; intro c hc'; cases hc')]
  simp [execOp, ho, resolve, invoke, builtin, hs, hx, hr, Result.andThen]
  exact hK _ _ (h v' w' h2 h3)
end
end Go.Proofs.Ythelogdgfhfdcaa
