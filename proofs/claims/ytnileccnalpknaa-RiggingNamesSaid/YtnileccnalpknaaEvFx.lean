import Derived.Test.YtnileccnalpknaaEvFd

/- An operation looks at no slot but those that it names. -/
namespace Go.Ev
set_option linter.unusedSimpArgs false
set_option linter.unusedVariables false
noncomputable section
open Go
variable {P : Program} {a b : AT} {H : AH}

theorem evs_congr : ∀ {l : List Operand}, (∀ x, x ∈ l → a.ev x = b.ev x) → a.evs l = b.evs l
  | [], _ => rfl
  | x :: l, h => by
    rw [AT.evs, AT.evs, h x (by simp), evs_congr (l := l) fun y hy => h y (by simp [hy])]
theorem evp_congr : ∀ {l : List (Nat × Operand)}, (∀ x, x ∈ l.map (·.2) → a.ev x = b.ev x) → a.evp l = b.evp l
  | [], _ => rfl
  | (i, x) :: l, h => by
    rw [AT.evp, AT.evp, h x (by simp), evp_congr (l := l) fun y hy => h y (by
      rw [List.map_cons]
      exact List.mem_cons_of_mem _ hy)]
theorem evo_congr : ∀ {x : Option Operand}, (∀ y, x = some y → a.ev y = b.ev y) → a.evo x = b.evo x
  | none, _ => rfl
  | some x, h => by rw [AT.evo, AT.evo, h x rfl]
theorem aquiet_congr {o : Oper} (h : ∀ x, x ∈ o.op.operands.toList → a.ev x = b.ev x) : aquiet P a o = aquiet P b o := by
  unfold aquiet
  have h1 : a.allGround o.op = b.allGround o.op := by
    unfold AT.allGround
    revert h
    generalize o.op.operands.toList = l
    intro h
    induction l with
    | nil => rfl
    | cons x l ih =>
      rw [List.all_cons, List.all_cons, ih fun y hy => h y (List.mem_cons_of_mem _ hy), h x (by simp)]
  rw [h1]
  cases hs : notSelect o.op with
  | false => rfl
  | true =>
    rw [execOp_congr (ρ := a.evD) (ρ' := b.evD) o (fun cs b e => by rw [e] at hs; cases hs) fun x hx => by
      unfold AT.evD
      rw [h x (by simpa using hx)]]
theorem abin_congr {o : Oper} {op : BinOp} {t : TypeId} {x y : Operand} (hq : aquiet P a o = aquiet P b o) (hx : a.ev x = b.ev x) (hy : a.ev y = b.ev y) : abin P a o op t x y = abin P b o op t x y := by
  unfold abin
  rw [hq, hx, hy]
theorem acall_congr {o : Oper} {c : Call} (hq : aquiet P a o = aquiet P b o) (h : ∀ x, x ∈ c.operands.toList → a.ev x = b.ev x) : acall P a H o c = acall P b H o c := by
  obtain ⟨callee, args, ts⟩ := c
  have ha : ∀ x, x ∈ args.toList → a.ev x = b.ev x := fun x hx => h x (by simp [Call.operands] at hx ⊢; exact .inr hx)
  unfold acall
  cases callee with
  | invoke r m => rfl
  | value f =>
    have hf := h f (by simp [Call.operands])
    dsimp only
    rw [hf, evs_congr ha]
  | builtin k =>
    dsimp only
    cases k <;> first | rfl | (dsimp only; rw [hq]) | skip
    all_goals
      dsimp only
      revert ha
      generalize args.toList = l1
      generalize ts.toList = l2
      intro ha
      rcases l1 with _ | ⟨x, _ | ⟨y, _ | ⟨z, l1⟩⟩⟩ <;> rcases l2 with _ | ⟨t, _ | ⟨u, _ | ⟨z2, l2⟩⟩⟩ <;> first | rfl | (dsimp only; rw [ha x (by simp), ha y (by simp)]; done) | (dsimp only; rw [ha x (by simp)]; done)
theorem aop_congr {o : Oper} (h : ∀ x, x ∈ o.op.operands.toList → a.ev x = b.ev x) : aop P a H o = aop P b H o := by
  have hq : aquiet P a o = aquiet P b o := aquiet_congr h
  unfold aop
  cases ho : o.op with
  | move x => rw [ho] at h; dsimp only; rw [h x (by simp [Op.operands])]
  | assign x => rw [ho] at h; dsimp only; rw [h x (by simp [Op.operands])]
  | pick c x y => rw [ho] at h; dsimp only; rw [h c (by simp [Op.operands]), h x (by simp [Op.operands]), h y (by simp [Op.operands])]
  | box e x => rw [ho] at h; dsimp only; rw [h x (by simp [Op.operands])]
  | build t ps => rw [ho] at h; dsimp only; rw [evp_congr (l := ps.toList) fun y hy => h y (by simpa [Op.operands] using hy)]
  | buildSlice t n ps => rw [ho] at h; dsimp only; rw [evp_congr (l := ps.toList) fun y hy => h y (by simpa [Op.operands] using hy)]
  | insert t m k v => rw [ho] at h; dsimp only; rw [h m (by simp [Op.operands]), h k (by simp [Op.operands]), h v (by simp [Op.operands])]
  | load t x => rw [ho] at h; dsimp only; rw [h x (by simp [Op.operands])]
  | store t x v => rw [ho] at h; dsimp only; rw [h x (by simp [Op.operands]), h v (by simp [Op.operands])]
  | nilCheck x => rw [ho] at h; dsimp only; rw [h x (by simp [Op.operands])]
  | binOp op t x y yt => rw [ho] at h; dsimp only; rw [abin_congr hq (h x (by simp [Op.operands])) (h y (by simp [Op.operands]))]
  | unOp op t x => dsimp only; rw [hq]
  | convert s d x => dsimp only; rw [hq]
  | makeInterface t x => dsimp only; rw [hq]
  | typeAssert x t s ok => dsimp only; rw [hq]
  | makeFunc fn first captured => rw [ho] at h; dsimp only; rw [evs_congr (l := first.toList) fun y hy => h y (by simp [Op.operands]; exact .inl (by simpa using hy)), evs_congr (l := captured.toList) fun y hy => h y (by simp [Op.operands]; exact .inr (by simpa using hy))]
  | makeMap t r => cases r <;> rfl
  | makeSlice t l c => rw [ho] at h; dsimp only; rw [h l (by simp [Op.operands]), h c (by simp [Op.operands])]
  | slice t x lo hi mx =>
    rw [ho] at h
    dsimp only
    rw [h x (by simp [Op.operands]), evo_congr (x := lo) fun y hy => h y (by simp [Op.operands, hy]), evo_congr (x := hi) fun y hy => h y (by simp [Op.operands, hy]), evo_congr (x := mx) fun y hy => h y (by simp [Op.operands, hy])]
  | fieldAddr s x f => rw [ho] at h; dsimp only; rw [h x (by simp [Op.operands])]
  | field t x f => rw [ho] at h; dsimp only; rw [h x (by simp [Op.operands])]
  | indexAddr t x i => rw [ho] at h; dsimp only; rw [h x (by simp [Op.operands]), h i (by simp [Op.operands])]
  | index t x i => rw [ho] at h; dsimp only; rw [hq, h x (by simp [Op.operands]), h i (by simp [Op.operands])]
  | lookup t x k ok => rw [ho] at h; dsimp only; rw [h x (by simp [Op.operands]), h k (by simp [Op.operands])]
  | mapUpdate t m k v => rw [ho] at h; dsimp only; rw [h m (by simp [Op.operands]), h k (by simp [Op.operands]), h v (by simp [Op.operands])]
  | extract x i => rw [ho] at h; dsimp only; rw [h x (by simp [Op.operands])]
  | call c => rw [ho] at h; dsimp only; exact acall_congr hq h
  | _ => rfl

theorem ev_look {ds : List Nat} (hn : a.n ≤ 1000000) {x : Operand} (hx : ∀ t, x = .tmp t → t ∈ ds) : AT.ev ⟨look a ds, a.n⟩ x = a.ev x := by
  cases x with
  | tmp t =>
    unfold AT.ev
    dsimp only
    cases hb : Nat.blt t a.n with
    | false => rfl
    | true => dsimp only; rw [get_look hn (blt_lt hb), if_pos (hx t rfl)]
  | _ => rfl
theorem aop_look {ops : Array Oper} {o : Oper} (hn : a.n ≤ 1000000) : aop P ⟨look a (o.looksAt ops), a.n⟩ H o = aop P a H o :=
  aop_congr fun x hx => ev_look hn fun t ht => by
    subst ht
    exact List.mem_append_left _ (List.mem_filterMap.2 ⟨.tmp t, hx, rfl⟩)
theorem awanted_look {ops : Array Oper} {o : Oper} (hn : a.n ≤ 1000000) : awanted ops ⟨look a (o.looksAt ops), a.n⟩ o = awanted ops a o := by
  unfold awanted
  cases hg : o.guard with
  | none => rfl
  | some p =>
    obtain ⟨j, want⟩ := p
    dsimp only
    cases hj : ops.toList[j]? with
    | none => rfl
    | some q =>
      dsimp only
      cases hd : q.dst with
      | none => rfl
      | some d =>
        dsimp only
        cases hb : Nat.blt d a.n with
        | false => rfl
        | true =>
          have hm : d ∈ o.looksAt ops := List.mem_append_right _ (by
            rw [hg]
            have : ops[j]? = some q := by simpa using hj
            simp [this, hd])
          rw [get_look hn (blt_lt hb), if_pos hm]
end
end Go.Ev
