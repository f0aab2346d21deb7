import Derived.Test.YtibaindlbpfecaaEitherP

namespace Go.Proofs.Ytibaindlbpfecaa
open Go.RowKit

section
variable {P : Program} {w : World}
/-- An append of a whole slice, that may be nil, to a row of the call's own, at the list of a plain region. -/
theorem wpList_append_any {ops : Array Oper} {rest : List Oper} {o : Oper} {a : Act} {Q : Exit → Act → World → Prop} (hgd : o.guard = none) (s x : Operand) (t : TypeId)
    (ho : o.op = .call { callee := .builtin .append, args := #[s, x], argTypes := #[t, t] })
    (base : Nat) (e : TypeId) (i : TypeInfo) (z : Value) (size bytes : Nat) (ht : P.underlying t = some (.slice e)) (hi : P.info? e = some i) (hz : i.zero = some z)
    (hsize : i.size = size) (hby : i.bytes = bytes) (hzs : z.cells.size = size) (hsz : 0 < size)
    (v : Value) (n : Nat) (xs : List Value) (hs : a.eval s = v) (hown : w.ownsRow base e size v n xs)
    (ao : Option Addr) (m c : Nat) (news : List Value) (hx : a.eval x = .slice ao m c) (hl : news.length = m * size) (hnone : ao = none → m = 0) (hnews : ∀ ad, ao = some ad → ∀ j u, news[j]? = some u → w.cell? (ad.add j) = some u) (h1 : ∀ u ∈ news, u.oneCell' = true)
    (h63 : n + m ≤ maxLen) (hbytes : (n + m) * bytes ≤ 140737488355328) (hbase : base ≤ w.heap.size)
    (h : ∀ v' w', w'.ownsRow base e size v' (n + m) (xs ++ news) → w.grownBy w' v.ownBlock → wpList P ops Q rest (a.put o.dst v') w') :
    wpList P ops Q (o :: rest) a w := by
  refine wpList_plain hgd fun K hK => ?_
  have key : ∃ v' w', (Builtin.append_ #[t, t] o.type #[v, .slice ao m c]).run P w = .ok v' w' ∧ w'.ownsRow base e size v' (n + m) (xs ++ news) ∧ w.grownBy w' v.ownBlock := by
    cases ao with
    | some ad =>
      obtain ⟨v', w', hr, h2, h3, h4⟩ := run_append_own_at (P := P) w base t o.type e i z size bytes ht hi hz hsize hby hzs hsz v n xs hown ad m c news hl (hnews ad rfl) h1 h63 hbytes hbase
      exact ⟨v', w', hr, h2, h3⟩
    | none =>
      obtain rfl := hnone rfl
      have hnews : news = [] := List.eq_nil_of_length_eq_zero (by simpa using hl)
      subst hnews
      obtain ⟨A, c', rfl, hle, _⟩ := own_slice hown
      exact ⟨_, w, run_append_nothing (P := P) w t t o.type e i ht hi A n c' hle _ (Src.ofNil w ht c), by simpa using hown, World.grownBy.refl _ _⟩
  obtain ⟨v', w', hr, h2, h3⟩ := key
  unfold Oper.wp execOp
  simp only [ho, resolve, invoke, builtin, Sem.run_bind, Sem.run_pure, Result.andThen_ok, List.map_toArray, List.map_cons, List.map_nil, hs, hx, hr]
  exact hK _ _ (h v' w' h2 h3)
end
theorem guys_len (gs : List Guy) : (gs.flatMap encG).length = gs.length * 5 := by
  induction gs with
  | nil => rfl
  | cons a gs ih => rw [List.flatMap_cons, List.length_append, ih]; simp [encG]; omega
theorem guys_one (gs : List Guy) : ∀ u ∈ gs.flatMap encG, u.oneCell' = true := by
  intro u hu
  rw [List.mem_flatMap] at hu
  obtain ⟨x, _, hx⟩ := hu
  simp [encG] at hx
  rcases hx with rfl | rfl | rfl | rfl | rfl <;> rfl

def ClonePost (gs : List Guy) (w : World) (e : Ending) (w' : World) : Prop :=
  ∃ v, e = .returned v ∧ w'.ownsRow w.heap.size 45 5 v gs.length (gs.flatMap encG) ∧ Below w.heap.size w w'
set_option maxRecDepth 100000 in
set_option maxHeartbeats 1000000 in
theorem clone_any (b off c : Nat) (gs : List Guy) (w : World) (hr : RS encG 5 w w.heap.size (some ⟨b, off, none⟩) gs) (hl : gs.length ≤ 1000) :
    Calls Try.prog 112 #[.slice (some ⟨b, off, none⟩) gs.length c] w (ClonePost gs w) := by
  obtain ⟨i0, hi0, hz0, hz1, hz2⟩ := info_parts infoCG
  have hB := (Below.refl w.heap.size w).alloc (Nat.le_refl _) (.cells #[] 45)
  obtain ⟨hnone, hnews⟩ := RS.news (sz := 5) (fun _ => rfl) (hr.to hB)
  have hk := Blk.new w 45 #[]
  have hown : (w.alloc (.cells #[] 45)).ownsRow w.heap.size 45 5 (.slice (some ⟨w.heap.size, 0, none⟩) 0 0) 0 [] := ⟨by simp, .inr ⟨w.heap.size, 0, #[], rfl, Nat.le_refl _, hk, Nat.le_refl _, Nat.zero_le _, by simp, by simp⟩⟩
  clear hr
  have heq := fun w => Lib.run_eql_slice_nil (P := Try.prog) w 41 _ (some ⟨b, off, none⟩) gs.length c 0 0 Try.underlying41
  go_enter Try.func112, Try.ntmps112
  go_wp2_with (at_builtin; refine wpList_append_any rfl _ _ 41 rfl w.heap.size 45 i0 _ 5 40 Try.underlying41 hi0 hz0 hz1 hz2 rfl (by decide) (.slice (some ⟨w.heap.size, 0, none⟩) 0 0) 0 [] rfl hown (some ⟨b, off, none⟩) gs.length c (gs.flatMap encG) rfl (guys_len gs) hnone hnews (guys_one gs) ?c3 ?c4 ?c5 ?_)
  case c3 => unfold maxLen; omega
  case c4 => omega
  case c5 => simp
  intro v2 w2 hown2 hgrow2
  have hB2 : Below w.heap.size w w2 := app_below hB (by simp) hown hgrow2
  go_wp2
  go_ret
  exact ⟨_, rfl, hown2, hB2⟩
end Go.Proofs.Ytibaindlbpfecaa
