import Derived.Test.YtbagfapalkmikaaSure
import Derived.Test.YtbagfapalkmikaaHeldIn
import Derived.Test.YtbagfapalkmikaaReg

/- A flight that is followed: what does not depend on its release. -/
namespace Go.Proofs.Ytbagfapalkmikaa
open Go.RowKit Go.Shelf

theorem Blk.kept {A B : World} {g t : Nat} {cs : Array Value} {row : Option Nat} (h : Blk A g t cs) (hg : A.grownBy B row) (hr : ∀ r, row = some r → ∃ o : Obj, A.heap[r]? = some o ∧ o.isCells = false) : Blk B g t cs :=
  h.grown hg (fun e => by
    obtain ⟨o, ho, hc⟩ := hr g e.symm
    unfold Blk at h
    rw [h] at ho
    cases ho
    simp [Obj.isCells] at hc)
theorem RS.kept {α : Type} {enc : α → List Value} {sz B : Nat} {W W' : World} {A : Option Addr} {l : List α} {row : Option Nat} (h : RS enc sz W B A l) (hg : W.grownBy W' row) (hr : ∀ r, row = some r → ∃ o : Obj, W.heap[r]? = some o ∧ o.isCells = false) : RS enc sz W' B A l := by
  rcases h with rfl | ⟨b, off, hA, hb, hc⟩
  · exact .inl rfl
  · exact .inr ⟨b, off, hA, hb, fun k x hk j v hv => cell_kept (hc k x hk j v hv) hg hr⟩
theorem RS.far {α : Type} {enc : α → List Value} {sz B : Nat} {W : World} {A : Option Addr} {l : List α} (h : RS enc sz W B A l) {p : Addr} (hp : ∀ ad, A = some ad → ad.block ≠ p.block) (v : Value) : RS enc sz (W.setCell p v) B A l := by
  rcases h with rfl | ⟨b, off, hA, hb, hc⟩
  · exact .inl rfl
  · refine .inr ⟨b, off, hA, hb, fun k x hk j u hv => ?_⟩
    have hne : b ≠ p.block := hp _ hA
    rw [← hc k x hk j u hv]
    have := Below.heap_setCell W p v b hne
    simp only [World.cell?, this]
theorem RS.drew' {α : Type} {enc : α → List Value} {sz B : Nat} {W : World} {A : Option Addr} {l : List α} (h : RS enc sz W B A l) : RS enc sz W.drew B A l := h
theorem Below.others {W W' : World} (h : Below W.heap.size W W') : KeepsOthers W W' :=
  ⟨h.size, fun k o hk _ => (h.block k (by
    rcases Nat.lt_or_ge k W.heap.size with hlt | hge
    · exact hlt
    · rw [Array.getElem?_eq_none hge] at hk; cases hk)).trans hk⟩
theorem own_kept {W W' : World} {row : Option Nat} {base : Nat} {e : TypeId} {sz n : Nat} {v : Value} {xs : List Value} (h : W.ownsRow base e sz v n xs) (hg : W.grownBy W' row) (hr : ∀ r, row = some r → ∃ o : Obj, W.heap[r]? = some o ∧ o.isCells = false) : W'.ownsRow base e sz v n xs := by
  refine h.kept hg ?_
  rcases h.2 with ⟨rfl, _⟩ | ⟨g, cap, cur, rfl, _, hgb, _⟩
  · exact .inl rfl
  · refine .inr fun e' => ?_
    obtain ⟨o, ho, hc⟩ := hr g (by simpa [Value.ownBlock] using e'.symm)
    rw [hgb] at ho; cases ho; cases hc
theorem own_cells {W : World} {base : Nat} {e : TypeId} {sz n : Nat} {v : Value} {xs : List Value} (h : W.ownsRow base e sz v n xs) : ∀ (j : Nat) (o : Obj), v.ownBlock = some j → W.heap[j]? = some o → o.isCells = true := by
  intro j o ej hj
  rcases h.2 with ⟨rfl, _⟩ | ⟨g, cap, cur, rfl, _, hgb, _⟩
  · simp [Value.ownBlock] at ej
  · obtain rfl : g = j := by simpa [Value.ownBlock] using ej
    rw [hgb] at hj; cases hj; rfl
theorem own_base {W : World} {base : Nat} {e : TypeId} {sz n : Nat} {v : Value} {xs : List Value} (h : W.ownsRow base e sz v n xs) : ∀ j, v.ownBlock = some j → base ≤ j := by
  intro j ej
  rcases h.2 with ⟨rfl, _⟩ | ⟨g, cap, cur, rfl, hb, hgb, _⟩
  · simp [Value.ownBlock] at ej
  · obtain rfl : g = j := by simpa [Value.ownBlock] using ej
    exact hb
theorem Blk.add {W : World} {g : Nat} {t : TypeId} {cs : Array Value} (h : Blk W g t cs) {j : Nat} {u : Value} (hj : cs.toList[j]? = some u) : W.cell? ((⟨g, 0, none⟩ : Addr).add j) = some u := by
  rw [Addr.add_lit, Nat.zero_add, h.cell]
  simpa using hj
theorem keptAt_of {W W' : World} {g : Nat} {t : TypeId} {cs : Array Value} (h : Blk W g t cs) (h' : Blk W' g t cs) : KeptAt g W W' := h'.trans h.symm
theorem grown_same (w : World) (R : Nat) : w.grownBy w (some R) := ⟨rfl, rfl, rfl, Nat.le_refl _, fun _ _ _ => rfl⟩
theorem own_lt {W : World} {base : Nat} {e : TypeId} {sz n : Nat} {v : Value} {xs : List Value} (h : W.ownsRow base e sz v n xs) : ∀ j, v.ownBlock = some j → j < W.heap.size := by
  intro j ej
  rcases h.2 with ⟨rfl, _⟩ | ⟨g, cap, cur, rfl, hb, hgb, _⟩
  · simp [Value.ownBlock] at ej
  · obtain rfl : g = j := by simpa [Value.ownBlock] using ej
    exact (Array.getElem?_eq_some_iff.1 hgb).1
theorem own_fresh {W : World} {base : Nat} {e : TypeId} {sz n : Nat} {v : Value} {xs : List Value} (h : W.ownsRow base e sz v n xs) {j : Nat} (ej : v.ownBlock = some j) : j < W.heap.size := own_lt h j ej
theorem own_apart {v v' : Value} {B : Nat} (h : ∀ j, v.ownBlock = some j → j < B) (h' : ∀ j, v'.ownBlock = some j → B ≤ j) : v.ownBlock = none ∨ v.ownBlock ≠ v'.ownBlock := by
  cases e : v.ownBlock with
  | none => exact .inl rfl
  | some j => exact .inr fun e' => by have h1 := h j e; have h2 := h' j e'.symm; omega
theorem bear_stops (n : Nat) (hn : 1 ≤ n) (g : Nat) (f : Flt) (A : Option Addr) (c : Nat) (hf : f.fly.ok = true) (hs : 1 ≤ f.soft ∧ f.soft ≤ 100) (hl : 0 ≤ f.least ∧ f.least ≤ 300) (hm : 0 ≤ f.most ∧ f.most ≤ 300) (w : World) (hk : Blk w g 50 #[.int .i64 f.fly.pos.x.lo, .int .i64 f.fly.pos.x.hi, .int .i64 f.fly.pos.z.lo, .int .i64 f.fly.pos.z.hi, .int .i64 f.fly.speed.x.lo, .int .i64 f.fly.speed.x.hi, .int .i64 f.fly.speed.z.lo, .int .i64 f.fly.speed.z.hi, .int .i64 f.fly.mass, .slice A f.cycle.length c, .int .i64 f.reach, .int .i64 f.soft, .int .i64 f.bears, .int .i64 f.least, .int .i64 f.most]) :
    SeqStopsK Fence.wide n Try.prog 107 #[.pointer (some ⟨g, 0, none⟩)] (fun x : Tick => #[Value.int .i64 x.1]) (KeptAt g) (fun ys => ys = borneL f) (fun pre => pre <+: borneL f) 301 w := fun l J Jx W hW hJ _ hY h0 =>
  bear1_in n hn l g f A c hf hs hl hm J Jx W.heap.size hJ hY W (hk.below hW hk.lt) h0

theorem infoM : (Try.prog.info? 158).map (fun i => (i.zero, i.size, i.bytes)) = some (some (.agg #[.int .i64 0, .int .i64 0, .int .i64 0, .int .i64 0, .int .i64 0]), 5, 40) := by kernel_rfl
theorem infoB : (Try.prog.info? 37).map (fun i => (i.zero, i.size, i.bytes)) = some (some (.agg #[.int .i64 0, .int .i64 0, .int .i64 0, .int .i64 0]), 4, 32) := by kernel_rfl

/-- Append of a row of the call's own, as one step of a region inside a fence. -/
theorem append_step {F : Fence} {n : Nat} {P : Program} (hall : ∀ f, F.fn f) {o : Oper} {a : Act} {w : World} {K : Act → World → Prop} {Q : Exit → Act → World → Prop} (s x : Operand) (t : TypeId)
    (hop : o.op = Op.call { callee := Callee.builtin Builtin.append, args := #[s, x], argTypes := #[t, t] })
    (base : Nat) (e : TypeId) (i : TypeInfo) (z : Value) (size bytes : Nat) (h1 : P.underlying t = some (.slice e)) (h2 : P.info? e = some i) (h3 : i.zero = some z) (h4 : i.size = size) (h5 : i.bytes = bytes) (h6 : z.cells.size = size) (h7 : 0 < size)
    (v : Value) (k : Nat) (xs : List Value) (hs : a.eval s = v) (hown : w.ownsRow base e size v k xs) (ad : Addr) (m c : Nat) (news : List Value) (hx : a.eval x = .slice (some ad) m c) (hn : news.length = m * size)
    (hc : ∀ j u, news[j]? = some u → w.cell? (ad.add j) = some u) (h1c : ∀ u ∈ news, u.oneCell' = true) (b1 : k + m ≤ maxLen) (b2 : (k + m) * bytes ≤ 140737488355328) (b3 : base ≤ w.heap.size)
    (hK : ∀ v' w', w'.ownsRow base e size v' (k + m) (xs ++ news) → w.grownBy w' v.ownBlock → K (a.put o.dst v') w') : Oper.wpIn F n P o a w K Q := by
  obtain ⟨v', w', hrun, r1, r2, _⟩ := run_append_own (P := P) w base t o.type e i z size bytes h1 h2 h3 h4 h5 h6 h7 v k xs hown ad m c news hn hc h1c b1 b2 b3
  refine ⟨fun f _ => hall f, ?_⟩
  rw [semAt_plain (by rw [hop]; intro c hc'; cases hc')]
  simp [execOp, hop, resolve, invoke, builtin, hs, hx, hrun, Result.andThen, Oper.uponIn]
  exact hK v' w' r1 r2

attribute [local go_sem] Oper.semAt_some
set_option linter.unusedSimpArgs false in
set_option maxRecDepth 100000 in
set_option maxHeartbeats 8000000 in
theorem follow_any (f : Flt) (A : Option Addr) (c : Nat) (w : World) (hf : f.ok = true) (hr : RS encB 4 w w.heap.size A f.cycle) :
    Calls Try.prog 66 #[.agg #[.int .i64 f.fly.pos.x.lo, .int .i64 f.fly.pos.x.hi, .int .i64 f.fly.pos.z.lo, .int .i64 f.fly.pos.z.hi, .int .i64 f.fly.speed.x.lo, .int .i64 f.fly.speed.x.hi, .int .i64 f.fly.speed.z.lo, .int .i64 f.fly.speed.z.hi, .int .i64 f.fly.mass, .slice A f.cycle.length c, .int .i64 f.reach, .int .i64 f.soft, .int .i64 f.bears, .int .i64 f.least, .int .i64 f.most]] w fun e w' => ∃ g Ab An cb cn, e = .returned (.pointer (some ⟨g, 0, none⟩)) ∧ w.heap.size ≤ g ∧ FolW f A c w' w'.heap.size g Ab An cb cn ∧ Below w.heap.size w w' := by
  obtain ⟨hfl, ⟨hc1, hc2⟩, hcb, hre, hso, hbe, hle, hmo, hlm⟩ := Flt.ok_iff.1 hf
  have HFL := Lib.hid hfl
  refine (callsIn_wide (n := 9)).1 ?_
  refine callsIn_of_wp_marks Try.func66 rfl trivial ?_ rfl
  simp only [Try.ntmps66, List.size_toArray, List.length_cons, List.length_nil, Nat.reduceAdd, Nat.reduceSub, Array.replicate_succ, Array.replicate_zero, List.push_toArray, List.append_toArray, List.nil_append, List.cons_append]
  gi_wp2_with (refine ⟨trivial, ?_⟩; gi_at_call 98; refine (callsIn_wide.2 (bearable_any f A c _)).mono ?_; rintro e w2 ⟨rfl, rfl⟩)
  have hBL := ((((Below.refl w.heap.size w).alloc (Nat.le_refl _) (.cells #[.int .i64 f.fly.pos.x.lo, .int .i64 f.fly.pos.x.hi, .int .i64 f.fly.pos.z.lo, .int .i64 f.fly.pos.z.hi, .int .i64 f.fly.speed.x.lo, .int .i64 f.fly.speed.x.hi, .int .i64 f.fly.speed.z.lo, .int .i64 f.fly.speed.z.hi, .int .i64 f.fly.mass, .slice A f.cycle.length c, .int .i64 f.reach, .int .i64 f.soft, .int .i64 f.bears, .int .i64 f.least, .int .i64 f.most] 50)).alloc (by simp) (.cells #[.int .i64 f.fly.pos.x.lo, .int .i64 f.fly.pos.x.hi, .int .i64 f.fly.pos.z.lo, .int .i64 f.fly.pos.z.hi, .int .i64 f.fly.speed.x.lo, .int .i64 f.fly.speed.x.hi, .int .i64 f.fly.speed.z.lo, .int .i64 f.fly.speed.z.hi, .int .i64 f.fly.mass, .slice A f.cycle.length c, .int .i64 f.reach, .int .i64 f.soft, .int .i64 f.bears, .int .i64 f.least, .int .i64 f.most, .slice none 0 0, .slice none 0 0] 155)).alloc (by simp <;> omega) (.cells #[.pointer (some ⟨w.heap.size + 1, 0, none⟩)] 124)).alloc (by simp <;> omega) (.cells #[.int .i64 f.fly.pos.x.lo, .int .i64 f.fly.pos.x.hi, .int .i64 f.fly.pos.z.lo, .int .i64 f.fly.pos.z.hi, .int .i64 f.fly.speed.x.lo, .int .i64 f.fly.speed.x.hi, .int .i64 f.fly.speed.z.lo, .int .i64 f.fly.speed.z.hi, .int .i64 f.fly.mass, .slice A f.cycle.length c, .int .i64 f.reach, .int .i64 f.soft, .int .i64 f.bears, .int .i64 f.least, .int .i64 f.most] 50)
  have kF := (((Blk.new w 50 #[.int .i64 f.fly.pos.x.lo, .int .i64 f.fly.pos.x.hi, .int .i64 f.fly.pos.z.lo, .int .i64 f.fly.pos.z.hi, .int .i64 f.fly.speed.x.lo, .int .i64 f.fly.speed.x.hi, .int .i64 f.fly.speed.z.lo, .int .i64 f.fly.speed.z.hi, .int .i64 f.fly.mass, .slice A f.cycle.length c, .int .i64 f.reach, .int .i64 f.soft, .int .i64 f.bears, .int .i64 f.least, .int .i64 f.most]).alloc (.cells #[.int .i64 f.fly.pos.x.lo, .int .i64 f.fly.pos.x.hi, .int .i64 f.fly.pos.z.lo, .int .i64 f.fly.pos.z.hi, .int .i64 f.fly.speed.x.lo, .int .i64 f.fly.speed.x.hi, .int .i64 f.fly.speed.z.lo, .int .i64 f.fly.speed.z.hi, .int .i64 f.fly.mass, .slice A f.cycle.length c, .int .i64 f.reach, .int .i64 f.soft, .int .i64 f.bears, .int .i64 f.least, .int .i64 f.most, .slice none 0 0, .slice none 0 0] 155)).alloc (.cells #[.pointer (some ⟨w.heap.size + 1, 0, none⟩)] 124)).alloc (.cells #[.int .i64 f.fly.pos.x.lo, .int .i64 f.fly.pos.x.hi, .int .i64 f.fly.pos.z.lo, .int .i64 f.fly.pos.z.hi, .int .i64 f.fly.speed.x.lo, .int .i64 f.fly.speed.x.hi, .int .i64 f.fly.speed.z.lo, .int .i64 f.fly.speed.z.hi, .int .i64 f.fly.mass, .slice A f.cycle.length c, .int .i64 f.reach, .int .i64 f.soft, .int .i64 f.bears, .int .i64 f.least, .int .i64 f.most] 50)
  have kX := ((Blk.new (w.alloc (.cells #[.int .i64 f.fly.pos.x.lo, .int .i64 f.fly.pos.x.hi, .int .i64 f.fly.pos.z.lo, .int .i64 f.fly.pos.z.hi, .int .i64 f.fly.speed.x.lo, .int .i64 f.fly.speed.x.hi, .int .i64 f.fly.speed.z.lo, .int .i64 f.fly.speed.z.hi, .int .i64 f.fly.mass, .slice A f.cycle.length c, .int .i64 f.reach, .int .i64 f.soft, .int .i64 f.bears, .int .i64 f.least, .int .i64 f.most] 50)) 155 #[.int .i64 f.fly.pos.x.lo, .int .i64 f.fly.pos.x.hi, .int .i64 f.fly.pos.z.lo, .int .i64 f.fly.pos.z.hi, .int .i64 f.fly.speed.x.lo, .int .i64 f.fly.speed.x.hi, .int .i64 f.fly.speed.z.lo, .int .i64 f.fly.speed.z.hi, .int .i64 f.fly.mass, .slice A f.cycle.length c, .int .i64 f.reach, .int .i64 f.soft, .int .i64 f.bears, .int .i64 f.least, .int .i64 f.most, .slice none 0 0, .slice none 0 0]).alloc (.cells #[.pointer (some ⟨w.heap.size + 1, 0, none⟩)] 124)).alloc (.cells #[.int .i64 f.fly.pos.x.lo, .int .i64 f.fly.pos.x.hi, .int .i64 f.fly.pos.z.lo, .int .i64 f.fly.pos.z.hi, .int .i64 f.fly.speed.x.lo, .int .i64 f.fly.speed.x.hi, .int .i64 f.fly.speed.z.lo, .int .i64 f.fly.speed.z.hi, .int .i64 f.fly.mass, .slice A f.cycle.length c, .int .i64 f.reach, .int .i64 f.soft, .int .i64 f.bears, .int .i64 f.least, .int .i64 f.most] 50)
  have kV := (Blk.new ((w.alloc (.cells #[.int .i64 f.fly.pos.x.lo, .int .i64 f.fly.pos.x.hi, .int .i64 f.fly.pos.z.lo, .int .i64 f.fly.pos.z.hi, .int .i64 f.fly.speed.x.lo, .int .i64 f.fly.speed.x.hi, .int .i64 f.fly.speed.z.lo, .int .i64 f.fly.speed.z.hi, .int .i64 f.fly.mass, .slice A f.cycle.length c, .int .i64 f.reach, .int .i64 f.soft, .int .i64 f.bears, .int .i64 f.least, .int .i64 f.most] 50)).alloc (.cells #[.int .i64 f.fly.pos.x.lo, .int .i64 f.fly.pos.x.hi, .int .i64 f.fly.pos.z.lo, .int .i64 f.fly.pos.z.hi, .int .i64 f.fly.speed.x.lo, .int .i64 f.fly.speed.x.hi, .int .i64 f.fly.speed.z.lo, .int .i64 f.fly.speed.z.hi, .int .i64 f.fly.mass, .slice A f.cycle.length c, .int .i64 f.reach, .int .i64 f.soft, .int .i64 f.bears, .int .i64 f.least, .int .i64 f.most, .slice none 0 0, .slice none 0 0] 155)) 124 #[.pointer (some ⟨w.heap.size + 1, 0, none⟩)]).alloc (.cells #[.int .i64 f.fly.pos.x.lo, .int .i64 f.fly.pos.x.hi, .int .i64 f.fly.pos.z.lo, .int .i64 f.fly.pos.z.hi, .int .i64 f.fly.speed.x.lo, .int .i64 f.fly.speed.x.hi, .int .i64 f.fly.speed.z.lo, .int .i64 f.fly.speed.z.hi, .int .i64 f.fly.mass, .slice A f.cycle.length c, .int .i64 f.reach, .int .i64 f.soft, .int .i64 f.bears, .int .i64 f.least, .int .i64 f.most] 50)
  have kI := Blk.new (((w.alloc (.cells #[.int .i64 f.fly.pos.x.lo, .int .i64 f.fly.pos.x.hi, .int .i64 f.fly.pos.z.lo, .int .i64 f.fly.pos.z.hi, .int .i64 f.fly.speed.x.lo, .int .i64 f.fly.speed.x.hi, .int .i64 f.fly.speed.z.lo, .int .i64 f.fly.speed.z.hi, .int .i64 f.fly.mass, .slice A f.cycle.length c, .int .i64 f.reach, .int .i64 f.soft, .int .i64 f.bears, .int .i64 f.least, .int .i64 f.most] 50)).alloc (.cells #[.int .i64 f.fly.pos.x.lo, .int .i64 f.fly.pos.x.hi, .int .i64 f.fly.pos.z.lo, .int .i64 f.fly.pos.z.hi, .int .i64 f.fly.speed.x.lo, .int .i64 f.fly.speed.x.hi, .int .i64 f.fly.speed.z.lo, .int .i64 f.fly.speed.z.hi, .int .i64 f.fly.mass, .slice A f.cycle.length c, .int .i64 f.reach, .int .i64 f.soft, .int .i64 f.bears, .int .i64 f.least, .int .i64 f.most, .slice none 0 0, .slice none 0 0] 155)).alloc (.cells #[.pointer (some ⟨w.heap.size + 1, 0, none⟩)] 124)) 50 #[.int .i64 f.fly.pos.x.lo, .int .i64 f.fly.pos.x.hi, .int .i64 f.fly.pos.z.lo, .int .i64 f.fly.pos.z.hi, .int .i64 f.fly.speed.x.lo, .int .i64 f.fly.speed.x.hi, .int .i64 f.fly.speed.z.lo, .int .i64 f.fly.speed.z.hi, .int .i64 f.fly.mass, .slice A f.cycle.length c, .int .i64 f.reach, .int .i64 f.soft, .int .i64 f.bears, .int .i64 f.least, .int .i64 f.most]
  have hWS : ((((w.alloc (.cells #[.int .i64 f.fly.pos.x.lo, .int .i64 f.fly.pos.x.hi, .int .i64 f.fly.pos.z.lo, .int .i64 f.fly.pos.z.hi, .int .i64 f.fly.speed.x.lo, .int .i64 f.fly.speed.x.hi, .int .i64 f.fly.speed.z.lo, .int .i64 f.fly.speed.z.hi, .int .i64 f.fly.mass, .slice A f.cycle.length c, .int .i64 f.reach, .int .i64 f.soft, .int .i64 f.bears, .int .i64 f.least, .int .i64 f.most] 50)).alloc (.cells #[.int .i64 f.fly.pos.x.lo, .int .i64 f.fly.pos.x.hi, .int .i64 f.fly.pos.z.lo, .int .i64 f.fly.pos.z.hi, .int .i64 f.fly.speed.x.lo, .int .i64 f.fly.speed.x.hi, .int .i64 f.fly.speed.z.lo, .int .i64 f.fly.speed.z.hi, .int .i64 f.fly.mass, .slice A f.cycle.length c, .int .i64 f.reach, .int .i64 f.soft, .int .i64 f.bears, .int .i64 f.least, .int .i64 f.most, .slice none 0 0, .slice none 0 0] 155)).alloc (.cells #[.pointer (some ⟨w.heap.size + 1, 0, none⟩)] 124)).alloc (.cells #[.int .i64 f.fly.pos.x.lo, .int .i64 f.fly.pos.x.hi, .int .i64 f.fly.pos.z.lo, .int .i64 f.fly.pos.z.hi, .int .i64 f.fly.speed.x.lo, .int .i64 f.fly.speed.x.hi, .int .i64 f.fly.speed.z.lo, .int .i64 f.fly.speed.z.hi, .int .i64 f.fly.mass, .slice A f.cycle.length c, .int .i64 f.reach, .int .i64 f.soft, .int .i64 f.bears, .int .i64 f.least, .int .i64 f.most] 50)).heap.size = w.heap.size + 1 + 1 + 1 + 1 := by simp
  simp only [World.size_alloc] at kX kV kI
  generalize hWL : (((w.alloc (.cells #[.int .i64 f.fly.pos.x.lo, .int .i64 f.fly.pos.x.hi, .int .i64 f.fly.pos.z.lo, .int .i64 f.fly.pos.z.hi, .int .i64 f.fly.speed.x.lo, .int .i64 f.fly.speed.x.hi, .int .i64 f.fly.speed.z.lo, .int .i64 f.fly.speed.z.hi, .int .i64 f.fly.mass, .slice A f.cycle.length c, .int .i64 f.reach, .int .i64 f.soft, .int .i64 f.bears, .int .i64 f.least, .int .i64 f.most] 50)).alloc (.cells #[.int .i64 f.fly.pos.x.lo, .int .i64 f.fly.pos.x.hi, .int .i64 f.fly.pos.z.lo, .int .i64 f.fly.pos.z.hi, .int .i64 f.fly.speed.x.lo, .int .i64 f.fly.speed.x.hi, .int .i64 f.fly.speed.z.lo, .int .i64 f.fly.speed.z.hi, .int .i64 f.fly.mass, .slice A f.cycle.length c, .int .i64 f.reach, .int .i64 f.soft, .int .i64 f.bears, .int .i64 f.least, .int .i64 f.most, .slice none 0 0, .slice none 0 0] 155)).alloc (.cells #[.pointer (some ⟨w.heap.size + 1, 0, none⟩)] 124)).alloc (.cells #[.int .i64 f.fly.pos.x.lo, .int .i64 f.fly.pos.x.hi, .int .i64 f.fly.pos.z.lo, .int .i64 f.fly.pos.z.hi, .int .i64 f.fly.speed.x.lo, .int .i64 f.fly.speed.x.hi, .int .i64 f.fly.speed.z.lo, .int .i64 f.fly.speed.z.hi, .int .i64 f.fly.mass, .slice A f.cycle.length c, .int .i64 f.reach, .int .i64 f.soft, .int .i64 f.bears, .int .i64 f.least, .int .i64 f.most] 50) = WL at *
  clear hWL
  obtain ⟨i0, hi0, hz0, hz1, hz2⟩ := info_parts infoM
  have hbl3 := borneL_len hmo.2
  have HSO := Lib.hid hso
  have HLE := Lib.hid hle
  have HMO := Lib.hid hmo
  refine wpIn_rangeFunc_ownF (F := Fence.wide) rfl (by omega) (gf := 107) (lb := #[.pointer (some ⟨w.heap.size + 1 + 1 + 1, 0, none⟩)]) rfl trivial (enters_of Try.func107 (by kernel_rfl) rfl)
    (bear_stops (9 - 1) (by omega) (w.heap.size + 1 + 1 + 1) f A c hfl hso hle hmo WL kI) keptAt_t (keptAt_b (by omega)) (Below.refl _ _) (fun _ => by rfl)
    (fun pre W => (∃ v, Blk W w.heap.size 50 #[.int .i64 f.fly.pos.x.lo, .int .i64 f.fly.pos.x.hi, .int .i64 f.fly.pos.z.lo, .int .i64 f.fly.pos.z.hi, .int .i64 f.fly.speed.x.lo, .int .i64 f.fly.speed.x.hi, .int .i64 f.fly.speed.z.lo, .int .i64 f.fly.speed.z.hi, .int .i64 f.fly.mass, .slice A f.cycle.length c, .int .i64 f.reach, .int .i64 f.soft, .int .i64 f.bears, .int .i64 f.least, .int .i64 f.most] ∧ Blk W (w.heap.size + 1) 155 #[.int .i64 f.fly.pos.x.lo, .int .i64 f.fly.pos.x.hi, .int .i64 f.fly.pos.z.lo, .int .i64 f.fly.pos.z.hi, .int .i64 f.fly.speed.x.lo, .int .i64 f.fly.speed.x.hi, .int .i64 f.fly.speed.z.lo, .int .i64 f.fly.speed.z.hi, .int .i64 f.fly.mass, .slice A f.cycle.length c, .int .i64 f.reach, .int .i64 f.soft, .int .i64 f.bears, .int .i64 f.least, .int .i64 f.most, v, .slice none 0 0] ∧ Blk W (w.heap.size + 1 + 1) 124 #[.pointer (some ⟨w.heap.size + 1, 0, none⟩)] ∧ Blk W (w.heap.size + 1 + 1 + 1) 50 #[.int .i64 f.fly.pos.x.lo, .int .i64 f.fly.pos.x.hi, .int .i64 f.fly.pos.z.lo, .int .i64 f.fly.pos.z.hi, .int .i64 f.fly.speed.x.lo, .int .i64 f.fly.speed.x.hi, .int .i64 f.fly.speed.z.lo, .int .i64 f.fly.speed.z.hi, .int .i64 f.fly.mass, .slice A f.cycle.length c, .int .i64 f.reach, .int .i64 f.soft, .int .i64 f.bears, .int .i64 f.least, .int .i64 f.most] ∧ W.ownsRow WL.heap.size 158 5 v pre.length (pre.flatMap (encM f.fly))) ∧ Below w.heap.size w W)
    (fun _ _ _ => False)
    (OwnFrom.and (Own.from (fun s A B row hs hg hr => by obtain ⟨v, q1, q2, q3, q4, q5⟩ := hs; exact ⟨v, q1.kept hg hr, q2.kept hg hr, q3.kept hg hr, q4.kept hg hr, own_kept q5 hg hr⟩) _) (ownFrom_below (Nat.le_refl _) (by omega)))
    (fun _ _ _ _ _ hs _ _ => hs)
    ⟨⟨_, kF, kX, kV, kI, World.ownsRow_nil _ _ _ _⟩, hBL⟩
    (fun x => { tmps := #[.agg #[.int .i64 f.fly.pos.x.lo, .int .i64 f.fly.pos.x.hi, .int .i64 f.fly.pos.z.lo, .int .i64 f.fly.pos.z.hi, .int .i64 f.fly.speed.x.lo, .int .i64 f.fly.speed.x.hi, .int .i64 f.fly.speed.z.lo, .int .i64 f.fly.speed.z.hi, .int .i64 f.fly.mass, .slice A f.cycle.length c, .int .i64 f.reach, .int .i64 f.soft, .int .i64 f.bears, .int .i64 f.least, .int .i64 f.most], .pointer (some ⟨w.heap.size, 0, none⟩), .pointer none, .pointer (some ⟨w.heap.size + 1 + 1, 0, none⟩), .int .i64 x.1, undef, undef, .agg #[.int .i64 f.fly.pos.x.lo, .int .i64 f.fly.pos.x.hi, .int .i64 f.fly.pos.z.lo, .int .i64 f.fly.pos.z.hi, .int .i64 f.fly.speed.x.lo, .int .i64 f.fly.speed.x.hi, .int .i64 f.fly.speed.z.lo, .int .i64 f.fly.speed.z.hi, .int .i64 f.fly.mass, .slice A f.cycle.length c, .int .i64 f.reach, .int .i64 f.soft, .int .i64 f.bears, .int .i64 f.least, .int .i64 f.most], .agg #[.int .i64 f.fly.pos.x.lo, .int .i64 f.fly.pos.x.hi, .int .i64 f.fly.pos.z.lo, .int .i64 f.fly.pos.z.hi, .int .i64 f.fly.speed.x.lo, .int .i64 f.fly.speed.x.hi, .int .i64 f.fly.speed.z.lo, .int .i64 f.fly.speed.z.hi, .int .i64 f.fly.mass, .slice A f.cycle.length c, .int .i64 f.reach, .int .i64 f.soft, .int .i64 f.bears, .int .i64 f.least, .int .i64 f.most, .slice none 0 0, .slice none 0 0], .pointer (some ⟨w.heap.size + 1, 0, none⟩), .agg #[.int .i64 f.fly.pos.x.lo, .int .i64 f.fly.pos.x.hi, .int .i64 f.fly.pos.z.lo, .int .i64 f.fly.pos.z.hi, .int .i64 f.fly.speed.x.lo, .int .i64 f.fly.speed.x.hi, .int .i64 f.fly.speed.z.lo, .int .i64 f.fly.speed.z.hi, .int .i64 f.fly.mass, .slice A f.cycle.length c, .int .i64 f.reach, .int .i64 f.soft, .int .i64 f.bears, .int .i64 f.least, .int .i64 f.most], .func (.func 107) #[] #[.pointer (some ⟨w.heap.size + 1 + 1 + 1, 0, none⟩)], .int .i64 x.1, undef, undef, undef, undef, undef, undef, undef, undef, undef, undef, undef, undef, undef, undef, undef, undef, undef, undef, undef, undef, undef, undef, undef, undef, undef, undef, undef, undef, undef, undef, undef, undef, undef, undef, undef, undef, undef, undef, undef, undef, undef, undef, undef, undef, undef, undef, undef], defers := [] }) ?assign ?body ?done ?stop
  case assign =>
    intro l x W K hK
    gi_wp2
    exact hK
  case body =>
    rintro l pre x W ⟨⟨v, bF, bX, bV, bI, hrow⟩, hB⟩ hlt
    have hxt := x.2
    have HA : Hid (∀ W : World, Calls Try.prog 55 #[.agg #[.int .i64 f.fly.pos.x.lo, .int .i64 f.fly.pos.x.hi, .int .i64 f.fly.pos.z.lo, .int .i64 f.fly.pos.z.hi, .int .i64 f.fly.speed.x.lo, .int .i64 f.fly.speed.x.hi, .int .i64 f.fly.speed.z.lo, .int .i64 f.fly.speed.z.hi, .int .i64 f.fly.mass], .int .i64 x.1] W fun e w' => e = .returned (.agg #[.int .i64 (f.fly.after x.1).x.lo, .int .i64 (f.fly.after x.1).x.hi, .int .i64 (f.fly.after x.1).z.lo, .int .i64 (f.fly.after x.1).z.hi]) ∧ Below W.heap.size W w') := fun W => after_any f.fly x.1 W HFL.out ⟨by omega, by omega⟩
    have hmx : Try.prog.follows .mixedOrders = true := by kernel_rfl
    obtain ⟨bx, hbx⟩ : ∃ bx, f.fly.after (x.1 : Int) = bx := ⟨_, rfl⟩
    rw [hbx] at HA
    have HEnc : Hid (encM f.fly x = [.int .i64 bx.x.lo, .int .i64 bx.x.hi, .int .i64 bx.z.lo, .int .i64 bx.z.hi, .int .i64 x.1]) := by show _ = _; unfold encM; rw [hbx]
    have hWz := hB.size
    have hbase : WL.heap.size ≤ W.heap.size := by have := bI.lt; omega
    have x15 := bX.cell 15
    simp at x15
    have HROW := Lib.hid hrow
    have HBW := Lib.hid hB
    have HI0 := Lib.hid hi0
    have HZ0 := Lib.hid hz0
    have HZ1 := Lib.hid hz1
    have HZ2 := Lib.hid hz2
    clear hbx hrow hB hi0 hz0 hz1 hz2
    gi_wp2
    refine region_rest (S := (fun w' => Blk w' w.heap.size 50 #[.int .i64 f.fly.pos.x.lo, .int .i64 f.fly.pos.x.hi, .int .i64 f.fly.pos.z.lo, .int .i64 f.fly.pos.z.hi, .int .i64 f.fly.speed.x.lo, .int .i64 f.fly.speed.x.hi, .int .i64 f.fly.speed.z.lo, .int .i64 f.fly.speed.z.hi, .int .i64 f.fly.mass, .slice A f.cycle.length c, .int .i64 f.reach, .int .i64 f.soft, .int .i64 f.bears, .int .i64 f.least, .int .i64 f.most] ∧ Blk w' (w.heap.size + 1 + 1) 124 #[.pointer (some ⟨w.heap.size + 1, 0, none⟩)])) hmx ?_ (fun hHeld => ?_)
    · exact ⟨bF.drew, bV.drew⟩
    change RestIn _ _ _ _ _ _ _ 16 #[false, false, false, false, false, false, false, false, false, false, false, false, false, false, false, false] _ (World.drew _)
    refine rest_take (i := 0) (v := _) (all_round l) (noDefers_of (by kernel_rfl)) rfl (by kernel_rfl) (by kernel_rfl) (by kernel_rfl) (fun _ _ _ h => h) (Or.inl ⟨by rfl, by intro w hSw; (obtain ⟨kf, kv⟩ := hSw; have q0 := kf.cell 0; have q1 := kf.cell 1; have q2 := kf.cell 2; have q3 := kf.cell 3; have q4 := kf.cell 4; have q5 := kf.cell 5; have q6 := kf.cell 6; have q7 := kf.cell 7; have q8 := kf.cell 8; have v0 := kv.cell 0; simp at q0 q1 q2 q3 q4 q5 q6 q7 q8 v0); go_simp; first | done | with_reducible rfl⟩) hHeld ?_
    change RestIn _ _ _ _ _ _ _ 15 #[true, false, false, false, false, false, false, false, false, false, false, false, false, false, false, false] _ _
    try simp only [Act.put, List.setIfInBounds_toArray, List.set_cons_zero, List.set_cons_succ, List.getElem_toArray, List.getElem_cons_zero, List.getElem_cons_succ]
    refine rest_take (i := 1) (v := _) (all_round l) (noDefers_of (by kernel_rfl)) rfl (by kernel_rfl) (by kernel_rfl) (by kernel_rfl) (fun _ _ _ h => h) (Or.inl ⟨by rfl, by intro w hSw; (obtain ⟨kf, kv⟩ := hSw; have q0 := kf.cell 0; have q1 := kf.cell 1; have q2 := kf.cell 2; have q3 := kf.cell 3; have q4 := kf.cell 4; have q5 := kf.cell 5; have q6 := kf.cell 6; have q7 := kf.cell 7; have q8 := kf.cell 8; have v0 := kv.cell 0; simp at q0 q1 q2 q3 q4 q5 q6 q7 q8 v0); go_simp; first | done | with_reducible rfl⟩) hHeld ?_
    change RestIn _ _ _ _ _ _ _ 14 #[true, true, false, false, false, false, false, false, false, false, false, false, false, false, false, false] _ _
    try simp only [Act.put, List.setIfInBounds_toArray, List.set_cons_zero, List.set_cons_succ, List.getElem_toArray, List.getElem_cons_zero, List.getElem_cons_succ]
    refine rest_take (i := 2) (v := _) (all_round l) (noDefers_of (by kernel_rfl)) rfl (by kernel_rfl) (by kernel_rfl) (by kernel_rfl) (fun _ _ _ h => h) (Or.inl ⟨by rfl, by intro w hSw; (obtain ⟨kf, kv⟩ := hSw; have q0 := kf.cell 0; have q1 := kf.cell 1; have q2 := kf.cell 2; have q3 := kf.cell 3; have q4 := kf.cell 4; have q5 := kf.cell 5; have q6 := kf.cell 6; have q7 := kf.cell 7; have q8 := kf.cell 8; have v0 := kv.cell 0; simp at q0 q1 q2 q3 q4 q5 q6 q7 q8 v0); go_simp; first | done | with_reducible rfl⟩) hHeld ?_
    change RestIn _ _ _ _ _ _ _ 13 #[true, true, true, false, false, false, false, false, false, false, false, false, false, false, false, false] _ _
    try simp only [Act.put, List.setIfInBounds_toArray, List.set_cons_zero, List.set_cons_succ, List.getElem_toArray, List.getElem_cons_zero, List.getElem_cons_succ]
    refine rest_take (i := 3) (v := _) (all_round l) (noDefers_of (by kernel_rfl)) rfl (by kernel_rfl) (by kernel_rfl) (by kernel_rfl) (fun _ _ _ h => h) (Or.inl ⟨by rfl, by intro w hSw; (obtain ⟨kf, kv⟩ := hSw; have q0 := kf.cell 0; have q1 := kf.cell 1; have q2 := kf.cell 2; have q3 := kf.cell 3; have q4 := kf.cell 4; have q5 := kf.cell 5; have q6 := kf.cell 6; have q7 := kf.cell 7; have q8 := kf.cell 8; have v0 := kv.cell 0; simp at q0 q1 q2 q3 q4 q5 q6 q7 q8 v0); go_simp; first | done | with_reducible rfl⟩) hHeld ?_
    change RestIn _ _ _ _ _ _ _ 12 #[true, true, true, true, false, false, false, false, false, false, false, false, false, false, false, false] _ _
    try simp only [Act.put, List.setIfInBounds_toArray, List.set_cons_zero, List.set_cons_succ, List.getElem_toArray, List.getElem_cons_zero, List.getElem_cons_succ]
    refine rest_take (i := 5) (v := _) (all_round l) (noDefers_of (by kernel_rfl)) rfl (by kernel_rfl) (by kernel_rfl) (by kernel_rfl) (fun _ _ _ h => h) (Or.inl ⟨by rfl, by intro w hSw; (obtain ⟨kf, kv⟩ := hSw; have q0 := kf.cell 0; have q1 := kf.cell 1; have q2 := kf.cell 2; have q3 := kf.cell 3; have q4 := kf.cell 4; have q5 := kf.cell 5; have q6 := kf.cell 6; have q7 := kf.cell 7; have q8 := kf.cell 8; have v0 := kv.cell 0; simp at q0 q1 q2 q3 q4 q5 q6 q7 q8 v0); go_simp; first | done | with_reducible rfl⟩) hHeld ?_
    change RestIn _ _ _ _ _ _ _ 11 #[true, true, true, true, false, true, false, false, false, false, false, false, false, false, false, false] _ _
    try simp only [Act.put, List.setIfInBounds_toArray, List.set_cons_zero, List.set_cons_succ, List.getElem_toArray, List.getElem_cons_zero, List.getElem_cons_succ]
    refine rest_take (i := 6) (v := _) (all_round l) (noDefers_of (by kernel_rfl)) rfl (by kernel_rfl) (by kernel_rfl) (by kernel_rfl) (fun _ _ _ h => h) (Or.inl ⟨by rfl, by intro w hSw; (obtain ⟨kf, kv⟩ := hSw; have q0 := kf.cell 0; have q1 := kf.cell 1; have q2 := kf.cell 2; have q3 := kf.cell 3; have q4 := kf.cell 4; have q5 := kf.cell 5; have q6 := kf.cell 6; have q7 := kf.cell 7; have q8 := kf.cell 8; have v0 := kv.cell 0; simp at q0 q1 q2 q3 q4 q5 q6 q7 q8 v0); go_simp; first | done | with_reducible rfl⟩) hHeld ?_
    change RestIn _ _ _ _ _ _ _ 10 #[true, true, true, true, false, true, true, false, false, false, false, false, false, false, false, false] _ _
    try simp only [Act.put, List.setIfInBounds_toArray, List.set_cons_zero, List.set_cons_succ, List.getElem_toArray, List.getElem_cons_zero, List.getElem_cons_succ]
    refine rest_take (i := 7) (v := _) (all_round l) (noDefers_of (by kernel_rfl)) rfl (by kernel_rfl) (by kernel_rfl) (by kernel_rfl) (fun _ _ _ h => h) (Or.inl ⟨by rfl, by intro w hSw; (obtain ⟨kf, kv⟩ := hSw; have q0 := kf.cell 0; have q1 := kf.cell 1; have q2 := kf.cell 2; have q3 := kf.cell 3; have q4 := kf.cell 4; have q5 := kf.cell 5; have q6 := kf.cell 6; have q7 := kf.cell 7; have q8 := kf.cell 8; have v0 := kv.cell 0; simp at q0 q1 q2 q3 q4 q5 q6 q7 q8 v0); go_simp; first | done | with_reducible rfl⟩) hHeld ?_
    change RestIn _ _ _ _ _ _ _ 9 #[true, true, true, true, false, true, true, true, false, false, false, false, false, false, false, false] _ _
    try simp only [Act.put, List.setIfInBounds_toArray, List.set_cons_zero, List.set_cons_succ, List.getElem_toArray, List.getElem_cons_zero, List.getElem_cons_succ]
    refine rest_take (i := 9) (v := _) (all_round l) (noDefers_of (by kernel_rfl)) rfl (by kernel_rfl) (by kernel_rfl) (by kernel_rfl) (fun _ _ _ h => h) (Or.inl ⟨by rfl, by intro w hSw; (obtain ⟨kf, kv⟩ := hSw; have q0 := kf.cell 0; have q1 := kf.cell 1; have q2 := kf.cell 2; have q3 := kf.cell 3; have q4 := kf.cell 4; have q5 := kf.cell 5; have q6 := kf.cell 6; have q7 := kf.cell 7; have q8 := kf.cell 8; have v0 := kv.cell 0; simp at q0 q1 q2 q3 q4 q5 q6 q7 q8 v0); go_simp; first | done | with_reducible rfl⟩) hHeld ?_
    change RestIn _ _ _ _ _ _ _ 8 #[true, true, true, true, false, true, true, true, false, true, false, false, false, false, false, false] _ _
    try simp only [Act.put, List.setIfInBounds_toArray, List.set_cons_zero, List.set_cons_succ, List.getElem_toArray, List.getElem_cons_zero, List.getElem_cons_succ]
    refine rest_ready (rs := [4, 8]) (by kernel_rfl) (by simp) ?_
    refine AllRest.cons rfl (fun K hK => ?_) ?_
    · go_simp
      refine hK.out _ _ ?_ (fun hHeld' => ?_)
      · exact hHeld
      clear hK K
      change RestIn _ _ _ _ _ _ _ 7 #[true, true, true, true, true, true, true, true, false, true, false, false, false, false, false, false] _ _
      try simp only [Act.put, List.setIfInBounds_toArray, List.set_cons_zero, List.set_cons_succ, List.getElem_toArray, List.getElem_cons_zero, List.getElem_cons_succ]
      clear hHeld
      have hHeld := hHeld'
      clear hHeld'
      refine rest_ready (rs := [8]) (by kernel_rfl) (by simp) ?_
      refine AllRest.cons rfl (fun K hK => ?_) AllRest.nil
      go_simp
      gi_wp2_with ((refine ⟨trivial, ?_⟩; gi_at_call 55; refine (CallsIn.inRound l (callsIn_wide.2 (HA.out _))).mono ?_; rintro e w1 ⟨rfl, hb1⟩; have bX1 := (Blk.drew bX).below hb1 (Blk.lt (Blk.drew bX)); have x15 := bX1.cell 15; simp at x15))
      refine hK.out _ _ ?_ (fun hHeld' => ?_)
      · exact ⟨hHeld.1.below hb1 hHeld.1.lt, hHeld.2.below hb1 hHeld.2.lt⟩
      clear hK K
      change RestIn _ _ _ _ _ _ _ 6 #[true, true, true, true, true, true, true, true, true, true, false, false, false, false, false, false] _ _
      try simp only [Act.put, List.setIfInBounds_toArray, List.set_cons_zero, List.set_cons_succ, List.getElem_toArray, List.getElem_cons_zero, List.getElem_cons_succ]
      have hrow1 := Lib.hid (own_below (w := W.drew) HROW.out hb1)
      clear hHeld
      have hHeld := hHeld'
      clear hHeld'
      refine rest_take (i := 10) (v := _) (all_round l) (noDefers_of (by kernel_rfl)) rfl (by kernel_rfl) (by kernel_rfl) (by kernel_rfl) (fun _ _ _ h => h) (Or.inl ⟨by rfl, by intro w hSw; (obtain ⟨kf, kv⟩ := hSw; have q0 := kf.cell 0; have q1 := kf.cell 1; have q2 := kf.cell 2; have q3 := kf.cell 3; have q4 := kf.cell 4; have q5 := kf.cell 5; have q6 := kf.cell 6; have q7 := kf.cell 7; have q8 := kf.cell 8; have v0 := kv.cell 0; simp at q0 q1 q2 q3 q4 q5 q6 q7 q8 v0); go_simp; first | done | with_reducible rfl⟩) hHeld ?_
      change RestIn _ _ _ _ _ _ _ 5 #[true, true, true, true, true, true, true, true, true, true, true, false, false, false, false, false] _ _
      try simp only [Act.put, List.setIfInBounds_toArray, List.set_cons_zero, List.set_cons_succ, List.getElem_toArray, List.getElem_cons_zero, List.getElem_cons_succ]
      refine rest_ready (rs := [11]) (by kernel_rfl) (by simp) ?_
      refine AllRest.cons rfl (fun K hK => ?_) AllRest.nil
      go_simp
      refine hK.out _ _ ?_ (fun hHeld' => ?_)
      · exact ⟨hHeld.1.alloc _, hHeld.2.alloc _⟩
      clear hK K
      change RestIn _ _ _ _ _ _ _ 4 #[true, true, true, true, true, true, true, true, true, true, true, true, false, false, false, false] _ _
      try simp only [Act.put, List.setIfInBounds_toArray, List.set_cons_zero, List.set_cons_succ, List.getElem_toArray, List.getElem_cons_zero, List.getElem_cons_succ]
      have bX2 := bX1.alloc (.cells #[.int .i64 bx.x.lo, .int .i64 bx.x.hi, .int .i64 bx.z.lo, .int .i64 bx.z.hi, .int .i64 x.1] 158)
      have x15 := bX2.cell 15
      simp at x15
      have hrow2 := Lib.hid (hrow1.out.alloc (.cells #[.int .i64 bx.x.lo, .int .i64 bx.x.hi, .int .i64 bx.z.lo, .int .i64 bx.z.hi, .int .i64 x.1] 158))
      have kn := Blk.new w1 158 #[.int .i64 bx.x.lo, .int .i64 bx.x.hi, .int .i64 bx.z.lo, .int .i64 bx.z.hi, .int .i64 x.1]
      clear hHeld
      have hHeld := hHeld'
      clear hHeld'
      refine rest_ready (rs := [12]) (by kernel_rfl) (by simp) ?_
      refine AllRest.cons rfl (fun K hK => ?_) AllRest.nil
      rw [if_pos (by rfl)]
      refine append_step (all_round l) _ _ 153 rfl WL.heap.size 158 i0 _ 5 40 Try.underlying153 HI0.out HZ0.out HZ1.out HZ2.out rfl (by decide) v pre.length _ rfl hrow2.out ⟨w1.heap.size, 0, none⟩ 1 1 [.int .i64 bx.x.lo, .int .i64 bx.x.hi, .int .i64 bx.z.lo, .int .i64 bx.z.hi, .int .i64 x.1] rfl rfl (fun j u h => Blk.add kn h) (by simp [Value.oneCell']) (by unfold maxLen; omega) (by omega) (by have := hb1.size; simp at this; simp; omega) ?_
      intro v' w2 hown2 hgrow2
      refine hK.out _ _ ?_ (fun hHeld' => ?_)
      · exact ⟨hHeld.1.grown hgrow2 (fun e => by have := own_base hrow2.out _ e.symm; omega), hHeld.2.grown hgrow2 (fun e => by have := own_base hrow2.out _ e.symm; omega)⟩
      clear hK K
      change RestIn _ _ _ _ _ _ _ 3 #[true, true, true, true, true, true, true, true, true, true, true, true, true, false, false, false] _ _
      try simp only [Act.put, List.setIfInBounds_toArray, List.set_cons_zero, List.set_cons_succ, List.getElem_toArray, List.getElem_cons_zero, List.getElem_cons_succ]
      obtain ⟨g', cap', rfl⟩ := ownsRow_succ hown2
      have bX3 := bX2.grown hgrow2 (fun e => by have := own_base hrow2.out _ e.symm; omega)
      have x15 := bX3.cell 15
      have f15 := bX3.frozen 15
      have xl := bX3.lt
      simp at x15
      clear hHeld
      have hHeld := hHeld'
      clear hHeld'
      refine rest_take (i := 13) (v := _) (all_round l) (noDefers_of (by kernel_rfl)) rfl (by kernel_rfl) (by kernel_rfl) (by kernel_rfl) (fun _ _ _ h => h) (Or.inl ⟨by rfl, by intro w hSw; (obtain ⟨kf, kv⟩ := hSw; have q0 := kf.cell 0; have q1 := kf.cell 1; have q2 := kf.cell 2; have q3 := kf.cell 3; have q4 := kf.cell 4; have q5 := kf.cell 5; have q6 := kf.cell 6; have q7 := kf.cell 7; have q8 := kf.cell 8; have v0 := kv.cell 0; simp at q0 q1 q2 q3 q4 q5 q6 q7 q8 v0); go_simp; first | done | with_reducible rfl⟩) hHeld ?_
      change RestIn _ _ _ _ _ _ _ 2 #[true, true, true, true, true, true, true, true, true, true, true, true, true, true, false, false] _ _
      try simp only [Act.put, List.setIfInBounds_toArray, List.set_cons_zero, List.set_cons_succ, List.getElem_toArray, List.getElem_cons_zero, List.getElem_cons_succ]
      refine rest_take (i := 14) (v := _) (all_round l) (noDefers_of (by kernel_rfl)) rfl (by kernel_rfl) (by kernel_rfl) (by kernel_rfl) (fun _ _ _ h => h) (Or.inl ⟨by rfl, by intro w hSw; (obtain ⟨kf, kv⟩ := hSw; have q0 := kf.cell 0; have q1 := kf.cell 1; have q2 := kf.cell 2; have q3 := kf.cell 3; have q4 := kf.cell 4; have q5 := kf.cell 5; have q6 := kf.cell 6; have q7 := kf.cell 7; have q8 := kf.cell 8; have v0 := kv.cell 0; simp at q0 q1 q2 q3 q4 q5 q6 q7 q8 v0); go_simp; first | done | with_reducible rfl⟩) hHeld ?_
      change RestIn _ _ _ _ _ _ _ 1 #[true, true, true, true, true, true, true, true, true, true, true, true, true, true, true, false] _ _
      try simp only [Act.put, List.setIfInBounds_toArray, List.set_cons_zero, List.set_cons_succ, List.getElem_toArray, List.getElem_cons_zero, List.getElem_cons_succ]
      refine rest_ready (rs := [15]) (by kernel_rfl) (by simp) ?_
      refine AllRest.cons rfl (fun K hK => ?_) AllRest.nil
      go_simp
      refine hK.out _ _ ?_ (fun hHeld' => ?_)
      · exact ⟨hHeld.1.far (by simp) _, hHeld.2.far (by simp <;> omega) _⟩
      clear hK K
      change RestIn _ _ _ _ _ _ _ 0 #[true, true, true, true, true, true, true, true, true, true, true, true, true, true, true, true] _ _
      try simp only [Act.put, List.setIfInBounds_toArray, List.set_cons_zero, List.set_cons_succ, List.getElem_toArray, List.getElem_cons_zero, List.getElem_cons_succ]
      clear hHeld
      have hHeld := hHeld'
      clear hHeld'
      refine rest_done (by kernel_rfl) ?_
      gi_wp2
      have bI3 := ((((Blk.drew bI).below hb1 (Blk.lt (Blk.drew bI))).alloc (.cells #[.int .i64 bx.x.lo, .int .i64 bx.x.hi, .int .i64 bx.z.lo, .int .i64 bx.z.hi, .int .i64 x.1] 158)).grown hgrow2 (fun e => by have := own_base hrow2.out _ e.symm; omega)).far (p := ⟨w.heap.size + 1, 15, none⟩) (by simp <;> omega) (.slice (some ⟨g', 0, none⟩) (pre.length + 1) cap')
      have hBe := (((HBW.out.drew.trans (hb1.mono (by simpa using hWz))).alloc (by have := hb1.size; simp at this; omega) (.cells #[.int .i64 bx.x.lo, .int .i64 bx.x.hi, .int .i64 bx.z.lo, .int .i64 bx.z.hi, .int .i64 x.1] 158)).grown hgrow2 (by have := hb1.size; simp at this; simp; omega) (fun j e => by have := own_base hrow2.out _ e; omega)).setCell (p := ⟨w.heap.size + 1, 15, none⟩) (by simp) (.slice (some ⟨g', 0, none⟩) (pre.length + 1) cap')
      refine ⟨((((KeepsOthers.drew W).trans (Below.others hb1)).trans (KeepsOthers.alloc _ _)).trans (KeepsOthers.of_grownBy hgrow2 (own_cells hrow2.out))).trans (KeepsOthers.setCell _ _ _), keptAt_of bI bI3, ⟨_, hHeld.1, by simpa using bX3.set_ 15 (.slice (some ⟨g', 0, none⟩) (pre.length + 1) cap'), hHeld.2, bI3, ?_⟩, hBe⟩
      have hfin := hown2.kept (gr_set (grown_same w2 (w.heap.size + 1)) 15 (.slice (some ⟨g', 0, none⟩) (pre.length + 1) cap')) (.inr (fun e => by have := own_base hown2 _ e; omega))
      rw [List.length_append, List.flatMap_append, show [x].flatMap (encM f.fly) = encM f.fly x by simp, HEnc.out]
      exact hfin
    refine AllRest.cons rfl (fun K hK => ?_) ?_
    · go_simp
      gi_wp2_with ((refine ⟨trivial, ?_⟩; gi_at_call 55; refine (CallsIn.inRound l (callsIn_wide.2 (HA.out _))).mono ?_; rintro e w1 ⟨rfl, hb1⟩; have bX1 := (Blk.drew bX).below hb1 (Blk.lt (Blk.drew bX)); have x15 := bX1.cell 15; simp at x15))
      refine hK.out _ _ ?_ (fun hHeld' => ?_)
      · exact ⟨hHeld.1.below hb1 hHeld.1.lt, hHeld.2.below hb1 hHeld.2.lt⟩
      clear hK K
      change RestIn _ _ _ _ _ _ _ 7 #[true, true, true, true, false, true, true, true, true, true, false, false, false, false, false, false] _ _
      try simp only [Act.put, List.setIfInBounds_toArray, List.set_cons_zero, List.set_cons_succ, List.getElem_toArray, List.getElem_cons_zero, List.getElem_cons_succ]
      have hrow1 := Lib.hid (own_below (w := W.drew) HROW.out hb1)
      clear hHeld
      have hHeld := hHeld'
      clear hHeld'
      refine rest_take (i := 10) (v := _) (all_round l) (noDefers_of (by kernel_rfl)) rfl (by kernel_rfl) (by kernel_rfl) (by kernel_rfl) (fun _ _ _ h => h) (Or.inl ⟨by rfl, by intro w hSw; (obtain ⟨kf, kv⟩ := hSw; have q0 := kf.cell 0; have q1 := kf.cell 1; have q2 := kf.cell 2; have q3 := kf.cell 3; have q4 := kf.cell 4; have q5 := kf.cell 5; have q6 := kf.cell 6; have q7 := kf.cell 7; have q8 := kf.cell 8; have v0 := kv.cell 0; simp at q0 q1 q2 q3 q4 q5 q6 q7 q8 v0); go_simp; first | done | with_reducible rfl⟩) hHeld ?_
      change RestIn _ _ _ _ _ _ _ 6 #[true, true, true, true, false, true, true, true, true, true, true, false, false, false, false, false] _ _
      try simp only [Act.put, List.setIfInBounds_toArray, List.set_cons_zero, List.set_cons_succ, List.getElem_toArray, List.getElem_cons_zero, List.getElem_cons_succ]
      refine rest_ready (rs := [4, 11]) (by kernel_rfl) (by simp) ?_
      refine AllRest.cons rfl (fun K hK => ?_) ?_
      · go_simp
        refine hK.out _ _ ?_ (fun hHeld' => ?_)
        · exact hHeld
        clear hK K
        change RestIn _ _ _ _ _ _ _ 5 #[true, true, true, true, true, true, true, true, true, true, true, false, false, false, false, false] _ _
        try simp only [Act.put, List.setIfInBounds_toArray, List.set_cons_zero, List.set_cons_succ, List.getElem_toArray, List.getElem_cons_zero, List.getElem_cons_succ]
        clear hHeld
        have hHeld := hHeld'
        clear hHeld'
        refine rest_ready (rs := [11]) (by kernel_rfl) (by simp) ?_
        refine AllRest.cons rfl (fun K hK => ?_) AllRest.nil
        go_simp
        refine hK.out _ _ ?_ (fun hHeld' => ?_)
        · exact ⟨hHeld.1.alloc _, hHeld.2.alloc _⟩
        clear hK K
        change RestIn _ _ _ _ _ _ _ 4 #[true, true, true, true, true, true, true, true, true, true, true, true, false, false, false, false] _ _
        try simp only [Act.put, List.setIfInBounds_toArray, List.set_cons_zero, List.set_cons_succ, List.getElem_toArray, List.getElem_cons_zero, List.getElem_cons_succ]
        have bX2 := bX1.alloc (.cells #[.int .i64 bx.x.lo, .int .i64 bx.x.hi, .int .i64 bx.z.lo, .int .i64 bx.z.hi, .int .i64 x.1] 158)
        have x15 := bX2.cell 15
        simp at x15
        have hrow2 := Lib.hid (hrow1.out.alloc (.cells #[.int .i64 bx.x.lo, .int .i64 bx.x.hi, .int .i64 bx.z.lo, .int .i64 bx.z.hi, .int .i64 x.1] 158))
        have kn := Blk.new w1 158 #[.int .i64 bx.x.lo, .int .i64 bx.x.hi, .int .i64 bx.z.lo, .int .i64 bx.z.hi, .int .i64 x.1]
        clear hHeld
        have hHeld := hHeld'
        clear hHeld'
        refine rest_ready (rs := [12]) (by kernel_rfl) (by simp) ?_
        refine AllRest.cons rfl (fun K hK => ?_) AllRest.nil
        rw [if_pos (by rfl)]
        refine append_step (all_round l) _ _ 153 rfl WL.heap.size 158 i0 _ 5 40 Try.underlying153 HI0.out HZ0.out HZ1.out HZ2.out rfl (by decide) v pre.length _ rfl hrow2.out ⟨w1.heap.size, 0, none⟩ 1 1 [.int .i64 bx.x.lo, .int .i64 bx.x.hi, .int .i64 bx.z.lo, .int .i64 bx.z.hi, .int .i64 x.1] rfl rfl (fun j u h => Blk.add kn h) (by simp [Value.oneCell']) (by unfold maxLen; omega) (by omega) (by have := hb1.size; simp at this; simp; omega) ?_
        intro v' w2 hown2 hgrow2
        refine hK.out _ _ ?_ (fun hHeld' => ?_)
        · exact ⟨hHeld.1.grown hgrow2 (fun e => by have := own_base hrow2.out _ e.symm; omega), hHeld.2.grown hgrow2 (fun e => by have := own_base hrow2.out _ e.symm; omega)⟩
        clear hK K
        change RestIn _ _ _ _ _ _ _ 3 #[true, true, true, true, true, true, true, true, true, true, true, true, true, false, false, false] _ _
        try simp only [Act.put, List.setIfInBounds_toArray, List.set_cons_zero, List.set_cons_succ, List.getElem_toArray, List.getElem_cons_zero, List.getElem_cons_succ]
        obtain ⟨g', cap', rfl⟩ := ownsRow_succ hown2
        have bX3 := bX2.grown hgrow2 (fun e => by have := own_base hrow2.out _ e.symm; omega)
        have x15 := bX3.cell 15
        have f15 := bX3.frozen 15
        have xl := bX3.lt
        simp at x15
        clear hHeld
        have hHeld := hHeld'
        clear hHeld'
        refine rest_take (i := 13) (v := _) (all_round l) (noDefers_of (by kernel_rfl)) rfl (by kernel_rfl) (by kernel_rfl) (by kernel_rfl) (fun _ _ _ h => h) (Or.inl ⟨by rfl, by intro w hSw; (obtain ⟨kf, kv⟩ := hSw; have q0 := kf.cell 0; have q1 := kf.cell 1; have q2 := kf.cell 2; have q3 := kf.cell 3; have q4 := kf.cell 4; have q5 := kf.cell 5; have q6 := kf.cell 6; have q7 := kf.cell 7; have q8 := kf.cell 8; have v0 := kv.cell 0; simp at q0 q1 q2 q3 q4 q5 q6 q7 q8 v0); go_simp; first | done | with_reducible rfl⟩) hHeld ?_
        change RestIn _ _ _ _ _ _ _ 2 #[true, true, true, true, true, true, true, true, true, true, true, true, true, true, false, false] _ _
        try simp only [Act.put, List.setIfInBounds_toArray, List.set_cons_zero, List.set_cons_succ, List.getElem_toArray, List.getElem_cons_zero, List.getElem_cons_succ]
        refine rest_take (i := 14) (v := _) (all_round l) (noDefers_of (by kernel_rfl)) rfl (by kernel_rfl) (by kernel_rfl) (by kernel_rfl) (fun _ _ _ h => h) (Or.inl ⟨by rfl, by intro w hSw; (obtain ⟨kf, kv⟩ := hSw; have q0 := kf.cell 0; have q1 := kf.cell 1; have q2 := kf.cell 2; have q3 := kf.cell 3; have q4 := kf.cell 4; have q5 := kf.cell 5; have q6 := kf.cell 6; have q7 := kf.cell 7; have q8 := kf.cell 8; have v0 := kv.cell 0; simp at q0 q1 q2 q3 q4 q5 q6 q7 q8 v0); go_simp; first | done | with_reducible rfl⟩) hHeld ?_
        change RestIn _ _ _ _ _ _ _ 1 #[true, true, true, true, true, true, true, true, true, true, true, true, true, true, true, false] _ _
        try simp only [Act.put, List.setIfInBounds_toArray, List.set_cons_zero, List.set_cons_succ, List.getElem_toArray, List.getElem_cons_zero, List.getElem_cons_succ]
        refine rest_ready (rs := [15]) (by kernel_rfl) (by simp) ?_
        refine AllRest.cons rfl (fun K hK => ?_) AllRest.nil
        go_simp
        refine hK.out _ _ ?_ (fun hHeld' => ?_)
        · exact ⟨hHeld.1.far (by simp) _, hHeld.2.far (by simp <;> omega) _⟩
        clear hK K
        change RestIn _ _ _ _ _ _ _ 0 #[true, true, true, true, true, true, true, true, true, true, true, true, true, true, true, true] _ _
        try simp only [Act.put, List.setIfInBounds_toArray, List.set_cons_zero, List.set_cons_succ, List.getElem_toArray, List.getElem_cons_zero, List.getElem_cons_succ]
        clear hHeld
        have hHeld := hHeld'
        clear hHeld'
        refine rest_done (by kernel_rfl) ?_
        gi_wp2
        have bI3 := ((((Blk.drew bI).below hb1 (Blk.lt (Blk.drew bI))).alloc (.cells #[.int .i64 bx.x.lo, .int .i64 bx.x.hi, .int .i64 bx.z.lo, .int .i64 bx.z.hi, .int .i64 x.1] 158)).grown hgrow2 (fun e => by have := own_base hrow2.out _ e.symm; omega)).far (p := ⟨w.heap.size + 1, 15, none⟩) (by simp <;> omega) (.slice (some ⟨g', 0, none⟩) (pre.length + 1) cap')
        have hBe := (((HBW.out.drew.trans (hb1.mono (by simpa using hWz))).alloc (by have := hb1.size; simp at this; omega) (.cells #[.int .i64 bx.x.lo, .int .i64 bx.x.hi, .int .i64 bx.z.lo, .int .i64 bx.z.hi, .int .i64 x.1] 158)).grown hgrow2 (by have := hb1.size; simp at this; simp; omega) (fun j e => by have := own_base hrow2.out _ e; omega)).setCell (p := ⟨w.heap.size + 1, 15, none⟩) (by simp) (.slice (some ⟨g', 0, none⟩) (pre.length + 1) cap')
        refine ⟨((((KeepsOthers.drew W).trans (Below.others hb1)).trans (KeepsOthers.alloc _ _)).trans (KeepsOthers.of_grownBy hgrow2 (own_cells hrow2.out))).trans (KeepsOthers.setCell _ _ _), keptAt_of bI bI3, ⟨_, hHeld.1, by simpa using bX3.set_ 15 (.slice (some ⟨g', 0, none⟩) (pre.length + 1) cap'), hHeld.2, bI3, ?_⟩, hBe⟩
        have hfin := hown2.kept (gr_set (grown_same w2 (w.heap.size + 1)) 15 (.slice (some ⟨g', 0, none⟩) (pre.length + 1) cap')) (.inr (fun e => by have := own_base hown2 _ e; omega))
        rw [List.length_append, List.flatMap_append, show [x].flatMap (encM f.fly) = encM f.fly x by simp, HEnc.out]
        exact hfin
      refine AllRest.cons rfl (fun K hK => ?_) ?_
      · go_simp
        refine hK.out _ _ ?_ (fun hHeld' => ?_)
        · exact ⟨hHeld.1.alloc _, hHeld.2.alloc _⟩
        clear hK K
        change RestIn _ _ _ _ _ _ _ 5 #[true, true, true, true, false, true, true, true, true, true, true, true, false, false, false, false] _ _
        try simp only [Act.put, List.setIfInBounds_toArray, List.set_cons_zero, List.set_cons_succ, List.getElem_toArray, List.getElem_cons_zero, List.getElem_cons_succ]
        have bX2 := bX1.alloc (.cells #[.int .i64 bx.x.lo, .int .i64 bx.x.hi, .int .i64 bx.z.lo, .int .i64 bx.z.hi, .int .i64 x.1] 158)
        have x15 := bX2.cell 15
        simp at x15
        have hrow2 := Lib.hid (hrow1.out.alloc (.cells #[.int .i64 bx.x.lo, .int .i64 bx.x.hi, .int .i64 bx.z.lo, .int .i64 bx.z.hi, .int .i64 x.1] 158))
        have kn := Blk.new w1 158 #[.int .i64 bx.x.lo, .int .i64 bx.x.hi, .int .i64 bx.z.lo, .int .i64 bx.z.hi, .int .i64 x.1]
        clear hHeld
        have hHeld := hHeld'
        clear hHeld'
        refine rest_ready (rs := [4]) (by kernel_rfl) (by simp) ?_
        refine AllRest.cons rfl (fun K hK => ?_) AllRest.nil
        go_simp
        refine hK.out _ _ ?_ (fun hHeld' => ?_)
        · exact hHeld
        clear hK K
        change RestIn _ _ _ _ _ _ _ 4 #[true, true, true, true, true, true, true, true, true, true, true, true, false, false, false, false] _ _
        try simp only [Act.put, List.setIfInBounds_toArray, List.set_cons_zero, List.set_cons_succ, List.getElem_toArray, List.getElem_cons_zero, List.getElem_cons_succ]
        clear hHeld
        have hHeld := hHeld'
        clear hHeld'
        refine rest_ready (rs := [12]) (by kernel_rfl) (by simp) ?_
        refine AllRest.cons rfl (fun K hK => ?_) AllRest.nil
        rw [if_pos (by rfl)]
        refine append_step (all_round l) _ _ 153 rfl WL.heap.size 158 i0 _ 5 40 Try.underlying153 HI0.out HZ0.out HZ1.out HZ2.out rfl (by decide) v pre.length _ rfl hrow2.out ⟨w1.heap.size, 0, none⟩ 1 1 [.int .i64 bx.x.lo, .int .i64 bx.x.hi, .int .i64 bx.z.lo, .int .i64 bx.z.hi, .int .i64 x.1] rfl rfl (fun j u h => Blk.add kn h) (by simp [Value.oneCell']) (by unfold maxLen; omega) (by omega) (by have := hb1.size; simp at this; simp; omega) ?_
        intro v' w2 hown2 hgrow2
        refine hK.out _ _ ?_ (fun hHeld' => ?_)
        · exact ⟨hHeld.1.grown hgrow2 (fun e => by have := own_base hrow2.out _ e.symm; omega), hHeld.2.grown hgrow2 (fun e => by have := own_base hrow2.out _ e.symm; omega)⟩
        clear hK K
        change RestIn _ _ _ _ _ _ _ 3 #[true, true, true, true, true, true, true, true, true, true, true, true, true, false, false, false] _ _
        try simp only [Act.put, List.setIfInBounds_toArray, List.set_cons_zero, List.set_cons_succ, List.getElem_toArray, List.getElem_cons_zero, List.getElem_cons_succ]
        obtain ⟨g', cap', rfl⟩ := ownsRow_succ hown2
        have bX3 := bX2.grown hgrow2 (fun e => by have := own_base hrow2.out _ e.symm; omega)
        have x15 := bX3.cell 15
        have f15 := bX3.frozen 15
        have xl := bX3.lt
        simp at x15
        clear hHeld
        have hHeld := hHeld'
        clear hHeld'
        refine rest_take (i := 13) (v := _) (all_round l) (noDefers_of (by kernel_rfl)) rfl (by kernel_rfl) (by kernel_rfl) (by kernel_rfl) (fun _ _ _ h => h) (Or.inl ⟨by rfl, by intro w hSw; (obtain ⟨kf, kv⟩ := hSw; have q0 := kf.cell 0; have q1 := kf.cell 1; have q2 := kf.cell 2; have q3 := kf.cell 3; have q4 := kf.cell 4; have q5 := kf.cell 5; have q6 := kf.cell 6; have q7 := kf.cell 7; have q8 := kf.cell 8; have v0 := kv.cell 0; simp at q0 q1 q2 q3 q4 q5 q6 q7 q8 v0); go_simp; first | done | with_reducible rfl⟩) hHeld ?_
        change RestIn _ _ _ _ _ _ _ 2 #[true, true, true, true, true, true, true, true, true, true, true, true, true, true, false, false] _ _
        try simp only [Act.put, List.setIfInBounds_toArray, List.set_cons_zero, List.set_cons_succ, List.getElem_toArray, List.getElem_cons_zero, List.getElem_cons_succ]
        refine rest_take (i := 14) (v := _) (all_round l) (noDefers_of (by kernel_rfl)) rfl (by kernel_rfl) (by kernel_rfl) (by kernel_rfl) (fun _ _ _ h => h) (Or.inl ⟨by rfl, by intro w hSw; (obtain ⟨kf, kv⟩ := hSw; have q0 := kf.cell 0; have q1 := kf.cell 1; have q2 := kf.cell 2; have q3 := kf.cell 3; have q4 := kf.cell 4; have q5 := kf.cell 5; have q6 := kf.cell 6; have q7 := kf.cell 7; have q8 := kf.cell 8; have v0 := kv.cell 0; simp at q0 q1 q2 q3 q4 q5 q6 q7 q8 v0); go_simp; first | done | with_reducible rfl⟩) hHeld ?_
        change RestIn _ _ _ _ _ _ _ 1 #[true, true, true, true, true, true, true, true, true, true, true, true, true, true, true, false] _ _
        try simp only [Act.put, List.setIfInBounds_toArray, List.set_cons_zero, List.set_cons_succ, List.getElem_toArray, List.getElem_cons_zero, List.getElem_cons_succ]
        refine rest_ready (rs := [15]) (by kernel_rfl) (by simp) ?_
        refine AllRest.cons rfl (fun K hK => ?_) AllRest.nil
        go_simp
        refine hK.out _ _ ?_ (fun hHeld' => ?_)
        · exact ⟨hHeld.1.far (by simp) _, hHeld.2.far (by simp <;> omega) _⟩
        clear hK K
        change RestIn _ _ _ _ _ _ _ 0 #[true, true, true, true, true, true, true, true, true, true, true, true, true, true, true, true] _ _
        try simp only [Act.put, List.setIfInBounds_toArray, List.set_cons_zero, List.set_cons_succ, List.getElem_toArray, List.getElem_cons_zero, List.getElem_cons_succ]
        clear hHeld
        have hHeld := hHeld'
        clear hHeld'
        refine rest_done (by kernel_rfl) ?_
        gi_wp2
        have bI3 := ((((Blk.drew bI).below hb1 (Blk.lt (Blk.drew bI))).alloc (.cells #[.int .i64 bx.x.lo, .int .i64 bx.x.hi, .int .i64 bx.z.lo, .int .i64 bx.z.hi, .int .i64 x.1] 158)).grown hgrow2 (fun e => by have := own_base hrow2.out _ e.symm; omega)).far (p := ⟨w.heap.size + 1, 15, none⟩) (by simp <;> omega) (.slice (some ⟨g', 0, none⟩) (pre.length + 1) cap')
        have hBe := (((HBW.out.drew.trans (hb1.mono (by simpa using hWz))).alloc (by have := hb1.size; simp at this; omega) (.cells #[.int .i64 bx.x.lo, .int .i64 bx.x.hi, .int .i64 bx.z.lo, .int .i64 bx.z.hi, .int .i64 x.1] 158)).grown hgrow2 (by have := hb1.size; simp at this; simp; omega) (fun j e => by have := own_base hrow2.out _ e; omega)).setCell (p := ⟨w.heap.size + 1, 15, none⟩) (by simp) (.slice (some ⟨g', 0, none⟩) (pre.length + 1) cap')
        refine ⟨((((KeepsOthers.drew W).trans (Below.others hb1)).trans (KeepsOthers.alloc _ _)).trans (KeepsOthers.of_grownBy hgrow2 (own_cells hrow2.out))).trans (KeepsOthers.setCell _ _ _), keptAt_of bI bI3, ⟨_, hHeld.1, by simpa using bX3.set_ 15 (.slice (some ⟨g', 0, none⟩) (pre.length + 1) cap'), hHeld.2, bI3, ?_⟩, hBe⟩
        have hfin := hown2.kept (gr_set (grown_same w2 (w.heap.size + 1)) 15 (.slice (some ⟨g', 0, none⟩) (pre.length + 1) cap')) (.inr (fun e => by have := own_base hown2 _ e; omega))
        rw [List.length_append, List.flatMap_append, show [x].flatMap (encM f.fly) = encM f.fly x by simp, HEnc.out]
        exact hfin
      exact AllRest.nil
    exact AllRest.nil
  case done =>
    rintro D ys W hD rfl ⟨⟨v, bF, bX, bV, bI, hrow⟩, hB⟩ hK
    have c9 := bF.cell 9
    have fl := bF.lt
    simp at c9
    have hWz := hB.size
    have hbase : WL.heap.size ≤ W.heap.size := by have := bI.lt; omega
    obtain ⟨i1, hi1, hy0, hy1, hy2⟩ := info_parts infoB
    have HI1 := Lib.hid hi1
    have HY0 := Lib.hid hy0
    have HY1 := Lib.hid hy1
    have HY2 := Lib.hid hy2
    have HROW := Lib.hid hrow
    have HKD := Lib.hid hK
    have HCB := Lib.hid hcb
    have hnl : (nearL f).length = f.cycle.length := by simp [nearL]
    have HB0 := Lib.hid hB
    have hvl : ∀ j, v.ownBlock = some j → j < W.heap.size := own_lt hrow
    clear hi1 hy0 hy1 hy2 hrow hK hcb hB hi0 hz0 hz1 hz2
    gi_wp2
    gi_loopw [32] (fun i wr => ∃ (k : Nat) (v2 : Value), k ≤ f.cycle.length ∧ i = .int .i64 k ∧ Blk wr w.heap.size 50 #[.int .i64 f.fly.pos.x.lo, .int .i64 f.fly.pos.x.hi, .int .i64 f.fly.pos.z.lo, .int .i64 f.fly.pos.z.hi, .int .i64 f.fly.speed.x.lo, .int .i64 f.fly.speed.x.hi, .int .i64 f.fly.speed.z.lo, .int .i64 f.fly.speed.z.hi, .int .i64 f.fly.mass, .slice A f.cycle.length c, .int .i64 f.reach, .int .i64 f.soft, .int .i64 f.bears, .int .i64 f.least, .int .i64 f.most] ∧ Blk wr (w.heap.size + 1) 155 #[.int .i64 f.fly.pos.x.lo, .int .i64 f.fly.pos.x.hi, .int .i64 f.fly.pos.z.lo, .int .i64 f.fly.pos.z.hi, .int .i64 f.fly.speed.x.lo, .int .i64 f.fly.speed.x.hi, .int .i64 f.fly.speed.z.lo, .int .i64 f.fly.speed.z.hi, .int .i64 f.fly.mass, .slice A f.cycle.length c, .int .i64 f.reach, .int .i64 f.soft, .int .i64 f.bears, .int .i64 f.least, .int .i64 f.most, v, v2] ∧ Blk wr (w.heap.size + 1 + 1) 124 #[.pointer (some ⟨w.heap.size + 1, 0, none⟩)] ∧ wr.ownsRow WL.heap.size 158 5 v (borneL f).length ((borneL f).flatMap (encM f.fly)) ∧ wr.ownsRow W.heap.size 37 4 v2 k (((nearL f).take k).flatMap encB) ∧ KeepsOthers W wr ∧ Below w.heap.size w wr ∧ W.heap.size ≤ wr.heap.size) (fun i _ => f.cycle.length - (intOf i).toNat)
    case atStart => exact ⟨0, _, Nat.zero_le _, rfl, bF, bX, bV, HROW.out, World.ownsRow_nil _ _ _ _, KeepsOthers.refl _, HB0.out, Nat.le_refl _⟩
    case round =>
      obtain ⟨k, v2, hk, rfl, rF, rX, rV, hrow, hrow2, hKO, hB, hsz⟩ := hrel
      by_cases hlt : k < f.cycle.length
      · obtain ⟨cb, hcb⟩ := getElem?_lt hlt
        obtain ⟨⟨p1, p2, p3⟩, p4, p5, p6⟩ := Bx.inside_iff.1 (HCB.out cb (List.mem_of_getElem? hcb))
        obtain ⟨re1, re2⟩ := hre
        have hnk : (nearL f)[k]? = some (cb.near f.reach) := by unfold nearL; rw [List.getElem?_map, hcb]; rfl
        have HNK : Hid (((nearL f).take (k + 1)).flatMap encB = ((nearL f).take k).flatMap encB ++ [.int .i64 (cb.x.hi - f.reach), .int .i64 (cb.x.lo + f.reach), .int .i64 (cb.z.hi - f.reach), .int .i64 (cb.z.lo + f.reach)]) := by
          show _ = _
          rw [take_snoc' hnk, List.flatMap_append]; rfl
        obtain ⟨b, off, rfl, hbb, hcc⟩ := (hr.below hB (Nat.le_refl _)).at_ hcb
        have e0 := hcc 0 _ rfl
        have e1 := hcc 1 _ rfl
        have e2 := hcc 2 _ rfl
        have e3 := hcc 3 _ rfl
        simp only [Nat.add_zero] at e0
        have HN1 : Hid (∀ W : World, Calls Try.prog 99 #[.agg #[.int .i64 cb.x.lo, .int .i64 cb.x.hi], .int .i64 f.reach] W fun e w' => e = .returned (.agg #[.int .i64 (cb.x.hi - f.reach), .int .i64 (cb.x.lo + f.reach)]) ∧ Below W.heap.size W w') := fun W => near_any _ _ _ W ⟨p1, by omega⟩ ⟨by omega, p3⟩ ⟨re1, re2⟩
        have HN2 : Hid (∀ W : World, Calls Try.prog 99 #[.agg #[.int .i64 cb.z.lo, .int .i64 cb.z.hi], .int .i64 f.reach] W fun e w' => e = .returned (.agg #[.int .i64 (cb.z.hi - f.reach), .int .i64 (cb.z.lo + f.reach)]) ∧ Below W.heap.size W w') := fun W => near_any _ _ _ W ⟨p4, by omega⟩ ⟨by omega, p6⟩ ⟨re1, re2⟩
        have HR1 := Lib.hid hrow
        have HR2 := Lib.hid hrow2
        have HKO := Lib.hid hKO
        have HBB := Lib.hid hB
        have hmx : Try.prog.follows .mixedOrders = true := by kernel_rfl
        clear hcb hnk hcc hrow hrow2 hKO
        gi_wp2
        have hA1 := (Below.refl wr.heap.size wr).alloc (Nat.le_refl _) (.cells #[.int .i64 cb.x.lo, .int .i64 cb.x.hi, .int .i64 cb.z.lo, .int .i64 cb.z.hi] 37)
        have kB1 := Blk.new wr 37 #[.int .i64 cb.x.lo, .int .i64 cb.x.hi, .int .i64 cb.z.lo, .int .i64 cb.z.hi]
        have rF1 := rF.alloc (.cells #[.int .i64 cb.x.lo, .int .i64 cb.x.hi, .int .i64 cb.z.lo, .int .i64 cb.z.hi] 37)
        have rX1 := rX.alloc (.cells #[.int .i64 cb.x.lo, .int .i64 cb.x.hi, .int .i64 cb.z.lo, .int .i64 cb.z.hi] 37)
        have rV1 := rV.alloc (.cells #[.int .i64 cb.x.lo, .int .i64 cb.x.hi, .int .i64 cb.z.lo, .int .i64 cb.z.hi] 37)
        have hKO1 := HKO.out.trans (KeepsOthers.alloc wr (.cells #[.int .i64 cb.x.lo, .int .i64 cb.x.hi, .int .i64 cb.z.lo, .int .i64 cb.z.hi] 37))
        have hR1a := HR1.out.alloc (.cells #[.int .i64 cb.x.lo, .int .i64 cb.x.hi, .int .i64 cb.z.lo, .int .i64 cb.z.hi] 37)
        have hR2a := HR2.out.alloc (.cells #[.int .i64 cb.x.lo, .int .i64 cb.x.hi, .int .i64 cb.z.lo, .int .i64 cb.z.hi] 37)
        have hB1 := HBB.out.alloc HBB.out.size (.cells #[.int .i64 cb.x.lo, .int .i64 cb.x.hi, .int .i64 cb.z.lo, .int .i64 cb.z.hi] 37)
        refine name_world (motive := fun W => Code.wpIn _ _ _ _ _ _ W) _ ?_
        intro Wd hWd
        have kB := hWd.blk kB1
        have dF := hWd.blk rF1
        have dX := hWd.blk rX1
        have dV := hWd.blk rV1
        have hBd := hWd.below hB1
        have hAd := hWd.below hA1
        have hE := hWd.eq.out
        rw [← hE] at hKO1 hR1a hR2a
        have HKO2 := Lib.hid hKO1
        have HR1d := Lib.hid hR1a
        have HR2d := Lib.hid hR2a
        have HBd := Lib.hid hBd
        have hdz : W.heap.size ≤ Wd.heap.size := Nat.le_trans hsz hAd.size
        have hwz : w.heap.size ≤ Wd.heap.size := hBd.size
        have x16 := dX.cell 16
        simp at x16
        have hgl := rX.lt
        have hvl2 : w.heap.size + 1 + 1 < wr.heap.size := rV.lt
        clear hWd hE kB1 rF1 rX1 rV1 hKO1 hR1a hR2a hB1 hA1 hB e0 e1 e2 e3 hBd
        refine Code.wpIn_mono NoPanic.imp ?_
        refine region_rest (S := (fun w' => Blk w' w.heap.size 50 #[.int .i64 f.fly.pos.x.lo, .int .i64 f.fly.pos.x.hi, .int .i64 f.fly.pos.z.lo, .int .i64 f.fly.pos.z.hi, .int .i64 f.fly.speed.x.lo, .int .i64 f.fly.speed.x.hi, .int .i64 f.fly.speed.z.lo, .int .i64 f.fly.speed.z.hi, .int .i64 f.fly.mass, .slice (some ⟨b, off, none⟩) f.cycle.length c, .int .i64 f.reach, .int .i64 f.soft, .int .i64 f.bears, .int .i64 f.least, .int .i64 f.most] ∧ Blk w' (w.heap.size + 1 + 1) 124 #[.pointer (some ⟨w.heap.size + 1, 0, none⟩)] ∧ Blk w' wr.heap.size 37 #[.int .i64 cb.x.lo, .int .i64 cb.x.hi, .int .i64 cb.z.lo, .int .i64 cb.z.hi])) hmx ?_ (fun hHeld => ?_)
        · exact ⟨dF.drew, dV.drew, kB.drew⟩
        change RestIn _ _ _ _ _ _ _ 23 #[false, false, false, false, false, false, false, false, false, false, false, false, false, false, false, false, false, false, false, false, false, false, false] _ (World.drew _)
        refine rest_take (i := 0) (v := _) all_wide (noDefers_of (by kernel_rfl)) rfl (by kernel_rfl) (by kernel_rfl) (by kernel_rfl) (fun _ _ _ h => h) (Or.inl ⟨by rfl, by intro w hSw; (obtain ⟨kf, kv, kb⟩ := hSw; have q10 := kf.cell 10; have v0 := kv.cell 0; have b0 := kb.cell 0; have b1 := kb.cell 1; have b2 := kb.cell 2; have b3 := kb.cell 3; simp at q10 v0 b0 b1 b2 b3); go_simp; first | done | with_reducible rfl⟩) hHeld ?_
        change RestIn _ _ _ _ _ _ _ 22 #[true, false, false, false, false, false, false, false, false, false, false, false, false, false, false, false, false, false, false, false, false, false, false] _ _
        try simp only [Act.put, List.setIfInBounds_toArray, List.set_cons_zero, List.set_cons_succ, List.getElem_toArray, List.getElem_cons_zero, List.getElem_cons_succ]
        refine rest_take (i := 1) (v := _) all_wide (noDefers_of (by kernel_rfl)) rfl (by kernel_rfl) (by kernel_rfl) (by kernel_rfl) (fun _ _ _ h => h) (Or.inl ⟨by rfl, by intro w hSw; (obtain ⟨kf, kv, kb⟩ := hSw; have q10 := kf.cell 10; have v0 := kv.cell 0; have b0 := kb.cell 0; have b1 := kb.cell 1; have b2 := kb.cell 2; have b3 := kb.cell 3; simp at q10 v0 b0 b1 b2 b3); go_simp; first | done | with_reducible rfl⟩) hHeld ?_
        change RestIn _ _ _ _ _ _ _ 21 #[true, true, false, false, false, false, false, false, false, false, false, false, false, false, false, false, false, false, false, false, false, false, false] _ _
        try simp only [Act.put, List.setIfInBounds_toArray, List.set_cons_zero, List.set_cons_succ, List.getElem_toArray, List.getElem_cons_zero, List.getElem_cons_succ]
        refine rest_take (i := 2) (v := _) all_wide (noDefers_of (by kernel_rfl)) rfl (by kernel_rfl) (by kernel_rfl) (by kernel_rfl) (fun _ _ _ h => h) (Or.inl ⟨by rfl, by intro w hSw; (obtain ⟨kf, kv, kb⟩ := hSw; have q10 := kf.cell 10; have v0 := kv.cell 0; have b0 := kb.cell 0; have b1 := kb.cell 1; have b2 := kb.cell 2; have b3 := kb.cell 3; simp at q10 v0 b0 b1 b2 b3); go_simp; first | done | with_reducible rfl⟩) hHeld ?_
        change RestIn _ _ _ _ _ _ _ 20 #[true, true, true, false, false, false, false, false, false, false, false, false, false, false, false, false, false, false, false, false, false, false, false] _ _
        try simp only [Act.put, List.setIfInBounds_toArray, List.set_cons_zero, List.set_cons_succ, List.getElem_toArray, List.getElem_cons_zero, List.getElem_cons_succ]
        refine rest_take (i := 3) (v := _) all_wide (noDefers_of (by kernel_rfl)) rfl (by kernel_rfl) (by kernel_rfl) (by kernel_rfl) (fun _ _ _ h => h) (Or.inl ⟨by rfl, by intro w hSw; (obtain ⟨kf, kv, kb⟩ := hSw; have q10 := kf.cell 10; have v0 := kv.cell 0; have b0 := kb.cell 0; have b1 := kb.cell 1; have b2 := kb.cell 2; have b3 := kb.cell 3; simp at q10 v0 b0 b1 b2 b3); go_simp; first | done | with_reducible rfl⟩) hHeld ?_
        change RestIn _ _ _ _ _ _ _ 19 #[true, true, true, true, false, false, false, false, false, false, false, false, false, false, false, false, false, false, false, false, false, false, false] _ _
        try simp only [Act.put, List.setIfInBounds_toArray, List.set_cons_zero, List.set_cons_succ, List.getElem_toArray, List.getElem_cons_zero, List.getElem_cons_succ]
        refine rest_take (i := 5) (v := _) all_wide (noDefers_of (by kernel_rfl)) rfl (by kernel_rfl) (by kernel_rfl) (by kernel_rfl) (fun _ _ _ h => h) (Or.inl ⟨by rfl, by intro w hSw; (obtain ⟨kf, kv, kb⟩ := hSw; have q10 := kf.cell 10; have v0 := kv.cell 0; have b0 := kb.cell 0; have b1 := kb.cell 1; have b2 := kb.cell 2; have b3 := kb.cell 3; simp at q10 v0 b0 b1 b2 b3); go_simp; first | done | with_reducible rfl⟩) hHeld ?_
        change RestIn _ _ _ _ _ _ _ 18 #[true, true, true, true, false, true, false, false, false, false, false, false, false, false, false, false, false, false, false, false, false, false, false] _ _
        try simp only [Act.put, List.setIfInBounds_toArray, List.set_cons_zero, List.set_cons_succ, List.getElem_toArray, List.getElem_cons_zero, List.getElem_cons_succ]
        refine rest_take (i := 6) (v := _) all_wide (noDefers_of (by kernel_rfl)) rfl (by kernel_rfl) (by kernel_rfl) (by kernel_rfl) (fun _ _ _ h => h) (Or.inl ⟨by rfl, by intro w hSw; (obtain ⟨kf, kv, kb⟩ := hSw; have q10 := kf.cell 10; have v0 := kv.cell 0; have b0 := kb.cell 0; have b1 := kb.cell 1; have b2 := kb.cell 2; have b3 := kb.cell 3; simp at q10 v0 b0 b1 b2 b3); go_simp; first | done | with_reducible rfl⟩) hHeld ?_
        change RestIn _ _ _ _ _ _ _ 17 #[true, true, true, true, false, true, true, false, false, false, false, false, false, false, false, false, false, false, false, false, false, false, false] _ _
        try simp only [Act.put, List.setIfInBounds_toArray, List.set_cons_zero, List.set_cons_succ, List.getElem_toArray, List.getElem_cons_zero, List.getElem_cons_succ]
        refine rest_take (i := 7) (v := _) all_wide (noDefers_of (by kernel_rfl)) rfl (by kernel_rfl) (by kernel_rfl) (by kernel_rfl) (fun _ _ _ h => h) (Or.inl ⟨by rfl, by intro w hSw; (obtain ⟨kf, kv, kb⟩ := hSw; have q10 := kf.cell 10; have v0 := kv.cell 0; have b0 := kb.cell 0; have b1 := kb.cell 1; have b2 := kb.cell 2; have b3 := kb.cell 3; simp at q10 v0 b0 b1 b2 b3); go_simp; first | done | with_reducible rfl⟩) hHeld ?_
        change RestIn _ _ _ _ _ _ _ 16 #[true, true, true, true, false, true, true, true, false, false, false, false, false, false, false, false, false, false, false, false, false, false, false] _ _
        try simp only [Act.put, List.setIfInBounds_toArray, List.set_cons_zero, List.set_cons_succ, List.getElem_toArray, List.getElem_cons_zero, List.getElem_cons_succ]
        refine rest_take (i := 8) (v := _) all_wide (noDefers_of (by kernel_rfl)) rfl (by kernel_rfl) (by kernel_rfl) (by kernel_rfl) (fun _ _ _ h => h) (Or.inl ⟨by rfl, by intro w hSw; (obtain ⟨kf, kv, kb⟩ := hSw; have q10 := kf.cell 10; have v0 := kv.cell 0; have b0 := kb.cell 0; have b1 := kb.cell 1; have b2 := kb.cell 2; have b3 := kb.cell 3; simp at q10 v0 b0 b1 b2 b3); go_simp; first | done | with_reducible rfl⟩) hHeld ?_
        change RestIn _ _ _ _ _ _ _ 15 #[true, true, true, true, false, true, true, true, true, false, false, false, false, false, false, false, false, false, false, false, false, false, false] _ _
        try simp only [Act.put, List.setIfInBounds_toArray, List.set_cons_zero, List.set_cons_succ, List.getElem_toArray, List.getElem_cons_zero, List.getElem_cons_succ]
        refine rest_take (i := 9) (v := _) all_wide (noDefers_of (by kernel_rfl)) rfl (by kernel_rfl) (by kernel_rfl) (by kernel_rfl) (fun _ _ _ h => h) (Or.inl ⟨by rfl, by intro w hSw; (obtain ⟨kf, kv, kb⟩ := hSw; have q10 := kf.cell 10; have v0 := kv.cell 0; have b0 := kb.cell 0; have b1 := kb.cell 1; have b2 := kb.cell 2; have b3 := kb.cell 3; simp at q10 v0 b0 b1 b2 b3); go_simp; first | done | with_reducible rfl⟩) hHeld ?_
        change RestIn _ _ _ _ _ _ _ 14 #[true, true, true, true, false, true, true, true, true, true, false, false, false, false, false, false, false, false, false, false, false, false, false] _ _
        try simp only [Act.put, List.setIfInBounds_toArray, List.set_cons_zero, List.set_cons_succ, List.getElem_toArray, List.getElem_cons_zero, List.getElem_cons_succ]
        refine rest_take (i := 11) (v := _) all_wide (noDefers_of (by kernel_rfl)) rfl (by kernel_rfl) (by kernel_rfl) (by kernel_rfl) (fun _ _ _ h => h) (Or.inl ⟨by rfl, by intro w hSw; (obtain ⟨kf, kv, kb⟩ := hSw; have q10 := kf.cell 10; have v0 := kv.cell 0; have b0 := kb.cell 0; have b1 := kb.cell 1; have b2 := kb.cell 2; have b3 := kb.cell 3; simp at q10 v0 b0 b1 b2 b3); go_simp; first | done | with_reducible rfl⟩) hHeld ?_
        change RestIn _ _ _ _ _ _ _ 13 #[true, true, true, true, false, true, true, true, true, true, false, true, false, false, false, false, false, false, false, false, false, false, false] _ _
        try simp only [Act.put, List.setIfInBounds_toArray, List.set_cons_zero, List.set_cons_succ, List.getElem_toArray, List.getElem_cons_zero, List.getElem_cons_succ]
        refine rest_take (i := 12) (v := _) all_wide (noDefers_of (by kernel_rfl)) rfl (by kernel_rfl) (by kernel_rfl) (by kernel_rfl) (fun _ _ _ h => h) (Or.inl ⟨by rfl, by intro w hSw; (obtain ⟨kf, kv, kb⟩ := hSw; have q10 := kf.cell 10; have v0 := kv.cell 0; have b0 := kb.cell 0; have b1 := kb.cell 1; have b2 := kb.cell 2; have b3 := kb.cell 3; simp at q10 v0 b0 b1 b2 b3); go_simp; first | done | with_reducible rfl⟩) hHeld ?_
        change RestIn _ _ _ _ _ _ _ 12 #[true, true, true, true, false, true, true, true, true, true, false, true, true, false, false, false, false, false, false, false, false, false, false] _ _
        try simp only [Act.put, List.setIfInBounds_toArray, List.set_cons_zero, List.set_cons_succ, List.getElem_toArray, List.getElem_cons_zero, List.getElem_cons_succ]
        refine rest_take (i := 13) (v := _) all_wide (noDefers_of (by kernel_rfl)) rfl (by kernel_rfl) (by kernel_rfl) (by kernel_rfl) (fun _ _ _ h => h) (Or.inl ⟨by rfl, by intro w hSw; (obtain ⟨kf, kv, kb⟩ := hSw; have q10 := kf.cell 10; have v0 := kv.cell 0; have b0 := kb.cell 0; have b1 := kb.cell 1; have b2 := kb.cell 2; have b3 := kb.cell 3; simp at q10 v0 b0 b1 b2 b3); go_simp; first | done | with_reducible rfl⟩) hHeld ?_
        change RestIn _ _ _ _ _ _ _ 11 #[true, true, true, true, false, true, true, true, true, true, false, true, true, true, false, false, false, false, false, false, false, false, false] _ _
        try simp only [Act.put, List.setIfInBounds_toArray, List.set_cons_zero, List.set_cons_succ, List.getElem_toArray, List.getElem_cons_zero, List.getElem_cons_succ]
        refine rest_take (i := 14) (v := _) all_wide (noDefers_of (by kernel_rfl)) rfl (by kernel_rfl) (by kernel_rfl) (by kernel_rfl) (fun _ _ _ h => h) (Or.inl ⟨by rfl, by intro w hSw; (obtain ⟨kf, kv, kb⟩ := hSw; have q10 := kf.cell 10; have v0 := kv.cell 0; have b0 := kb.cell 0; have b1 := kb.cell 1; have b2 := kb.cell 2; have b3 := kb.cell 3; simp at q10 v0 b0 b1 b2 b3); go_simp; first | done | with_reducible rfl⟩) hHeld ?_
        change RestIn _ _ _ _ _ _ _ 10 #[true, true, true, true, false, true, true, true, true, true, false, true, true, true, true, false, false, false, false, false, false, false, false] _ _
        try simp only [Act.put, List.setIfInBounds_toArray, List.set_cons_zero, List.set_cons_succ, List.getElem_toArray, List.getElem_cons_zero, List.getElem_cons_succ]
        refine rest_take (i := 15) (v := _) all_wide (noDefers_of (by kernel_rfl)) rfl (by kernel_rfl) (by kernel_rfl) (by kernel_rfl) (fun _ _ _ h => h) (Or.inl ⟨by rfl, by intro w hSw; (obtain ⟨kf, kv, kb⟩ := hSw; have q10 := kf.cell 10; have v0 := kv.cell 0; have b0 := kb.cell 0; have b1 := kb.cell 1; have b2 := kb.cell 2; have b3 := kb.cell 3; simp at q10 v0 b0 b1 b2 b3); go_simp; first | done | with_reducible rfl⟩) hHeld ?_
        change RestIn _ _ _ _ _ _ _ 9 #[true, true, true, true, false, true, true, true, true, true, false, true, true, true, true, true, false, false, false, false, false, false, false] _ _
        try simp only [Act.put, List.setIfInBounds_toArray, List.set_cons_zero, List.set_cons_succ, List.getElem_toArray, List.getElem_cons_zero, List.getElem_cons_succ]
        refine rest_ready (rs := [4, 10]) (by kernel_rfl) (by simp) ?_
        refine AllRest.cons rfl (fun K hK => ?_) ?_
        · go_simp
          refine hK.out _ _ ?_ (fun hHeld' => ?_)
          · exact hHeld
          clear hK K
          change RestIn _ _ _ _ _ _ _ 8 #[true, true, true, true, true, true, true, true, true, true, false, true, true, true, true, true, false, false, false, false, false, false, false] _ _
          try simp only [Act.put, List.setIfInBounds_toArray, List.set_cons_zero, List.set_cons_succ, List.getElem_toArray, List.getElem_cons_zero, List.getElem_cons_succ]
          clear hHeld
          have hHeld := hHeld'
          clear hHeld'
          refine rest_ready (rs := [10]) (by kernel_rfl) (by simp) ?_
          refine AllRest.cons rfl (fun K hK => ?_) AllRest.nil
          go_simp
          gi_wp2_with ((refine ⟨trivial, ?_⟩; gi_at_call 99; (with_reducible refine (callsIn_wide.2 (HN1.out _)).mono ?_); rintro e w1 ⟨rfl, hb1⟩; have dX1 := (Blk.drew dX).below hb1 (Blk.lt (Blk.drew dX)); have x16 := dX1.cell 16; simp at x16))
          refine hK.out _ _ ?_ (fun hHeld' => ?_)
          · exact ⟨hHeld.1.below hb1 hHeld.1.lt, hHeld.2.1.below hb1 hHeld.2.1.lt, hHeld.2.2.below hb1 hHeld.2.2.lt⟩
          clear hK K
          change RestIn _ _ _ _ _ _ _ 7 #[true, true, true, true, true, true, true, true, true, true, true, true, true, true, true, true, false, false, false, false, false, false, false] _ _
          try simp only [Act.put, List.setIfInBounds_toArray, List.set_cons_zero, List.set_cons_succ, List.getElem_toArray, List.getElem_cons_zero, List.getElem_cons_succ]
          have hr1 := Lib.hid (own_below (w := Wd.drew) HR1d.out hb1)
          have hr2 := Lib.hid (own_below (w := Wd.drew) HR2d.out hb1)
          clear hHeld
          have hHeld := hHeld'
          clear hHeld'
          refine rest_ready (rs := [16]) (by kernel_rfl) (by simp) ?_
          refine AllRest.cons rfl (fun K hK => ?_) AllRest.nil
          go_simp
          gi_wp2_with ((refine ⟨trivial, ?_⟩; gi_at_call 99; (with_reducible refine (callsIn_wide.2 (HN2.out _)).mono ?_); rintro e w2 ⟨rfl, hb2⟩; have dX2 := dX1.below hb2 (Blk.lt dX1); have x16 := dX2.cell 16; simp at x16))
          refine hK.out _ _ ?_ (fun hHeld' => ?_)
          · exact ⟨hHeld.1.below hb2 hHeld.1.lt, hHeld.2.1.below hb2 hHeld.2.1.lt, hHeld.2.2.below hb2 hHeld.2.2.lt⟩
          clear hK K
          change RestIn _ _ _ _ _ _ _ 6 #[true, true, true, true, true, true, true, true, true, true, true, true, true, true, true, true, true, false, false, false, false, false, false] _ _
          try simp only [Act.put, List.setIfInBounds_toArray, List.set_cons_zero, List.set_cons_succ, List.getElem_toArray, List.getElem_cons_zero, List.getElem_cons_succ]
          have hr1b := Lib.hid (own_below hr1.out hb2)
          have hr2b := Lib.hid (own_below hr2.out hb2)
          have hz12 : Wd.heap.size ≤ w2.heap.size := (by have h1 := hb1.size; have h2 := hb2.size; simp at h1; omega)
          clear hHeld
          have hHeld := hHeld'
          clear hHeld'
          refine rest_take (i := 17) (v := _) all_wide (noDefers_of (by kernel_rfl)) rfl (by kernel_rfl) (by kernel_rfl) (by kernel_rfl) (fun _ _ _ h => h) (Or.inl ⟨by rfl, by intro w hSw; (obtain ⟨kf, kv, kb⟩ := hSw; have q10 := kf.cell 10; have v0 := kv.cell 0; have b0 := kb.cell 0; have b1 := kb.cell 1; have b2 := kb.cell 2; have b3 := kb.cell 3; simp at q10 v0 b0 b1 b2 b3); go_simp; first | done | with_reducible rfl⟩) hHeld ?_
          change RestIn _ _ _ _ _ _ _ 5 #[true, true, true, true, true, true, true, true, true, true, true, true, true, true, true, true, true, true, false, false, false, false, false] _ _
          try simp only [Act.put, List.setIfInBounds_toArray, List.set_cons_zero, List.set_cons_succ, List.getElem_toArray, List.getElem_cons_zero, List.getElem_cons_succ]
          refine rest_ready (rs := [18]) (by kernel_rfl) (by simp) ?_
          refine AllRest.cons rfl (fun K hK => ?_) AllRest.nil
          go_simp
          refine hK.out _ _ ?_ (fun hHeld' => ?_)
          · exact ⟨hHeld.1.alloc _, hHeld.2.1.alloc _, hHeld.2.2.alloc _⟩
          clear hK K
          change RestIn _ _ _ _ _ _ _ 4 #[true, true, true, true, true, true, true, true, true, true, true, true, true, true, true, true, true, true, true, false, false, false, false] _ _
          try simp only [Act.put, List.setIfInBounds_toArray, List.set_cons_zero, List.set_cons_succ, List.getElem_toArray, List.getElem_cons_zero, List.getElem_cons_succ]
          have dX3 := dX2.alloc (.cells #[.int .i64 (cb.x.hi - f.reach), .int .i64 (cb.x.lo + f.reach), .int .i64 (cb.z.hi - f.reach), .int .i64 (cb.z.lo + f.reach)] 37)
          have x16 := dX3.cell 16
          simp at x16
          have hr1c := Lib.hid (hr1b.out.alloc (.cells #[.int .i64 (cb.x.hi - f.reach), .int .i64 (cb.x.lo + f.reach), .int .i64 (cb.z.hi - f.reach), .int .i64 (cb.z.lo + f.reach)] 37))
          have hr2c := Lib.hid (hr2b.out.alloc (.cells #[.int .i64 (cb.x.hi - f.reach), .int .i64 (cb.x.lo + f.reach), .int .i64 (cb.z.hi - f.reach), .int .i64 (cb.z.lo + f.reach)] 37))
          have kn := Blk.new w2 37 #[.int .i64 (cb.x.hi - f.reach), .int .i64 (cb.x.lo + f.reach), .int .i64 (cb.z.hi - f.reach), .int .i64 (cb.z.lo + f.reach)]
          clear hHeld
          have hHeld := hHeld'
          clear hHeld'
          refine rest_ready (rs := [19]) (by kernel_rfl) (by simp) ?_
          refine AllRest.cons rfl (fun K hK => ?_) AllRest.nil
          rw [if_pos (by rfl)]
          refine append_step all_wide _ _ 46 rfl W.heap.size 37 i1 _ 4 32 Try.underlying46 HI1.out HY0.out HY1.out HY2.out rfl (by decide) v2 k _ rfl hr2c.out ⟨w2.heap.size, 0, none⟩ 1 1 [.int .i64 (cb.x.hi - f.reach), .int .i64 (cb.x.lo + f.reach), .int .i64 (cb.z.hi - f.reach), .int .i64 (cb.z.lo + f.reach)] rfl rfl (fun j u h => Blk.add kn h) (by simp [Value.oneCell']) (by unfold maxLen; omega) (by omega) (by simp; omega) ?_
          intro v' w3 hown3 hgrow3
          refine hK.out _ _ ?_ (fun hHeld' => ?_)
          · exact ⟨hHeld.1.grown hgrow3 (fun e => by have := own_base hr2c.out _ e.symm; omega), hHeld.2.1.grown hgrow3 (fun e => by have := own_base hr2c.out _ e.symm; omega), hHeld.2.2.grown hgrow3 (fun e => by have := own_fresh HR2.out e.symm; omega)⟩
          clear hK K
          change RestIn _ _ _ _ _ _ _ 3 #[true, true, true, true, true, true, true, true, true, true, true, true, true, true, true, true, true, true, true, true, false, false, false] _ _
          try simp only [Act.put, List.setIfInBounds_toArray, List.set_cons_zero, List.set_cons_succ, List.getElem_toArray, List.getElem_cons_zero, List.getElem_cons_succ]
          obtain ⟨g', cap', rfl⟩ := ownsRow_succ hown3
          have dX4 := dX3.grown hgrow3 (fun e => by have := own_base hr2c.out _ e.symm; omega)
          have x16 := dX4.cell 16
          have f16 := dX4.frozen 16
          have xl := dX4.lt
          simp at x16
          have hr1d := Lib.hid (hr1c.out.kept hgrow3 (own_apart hvl (own_base hr2c.out)))
          clear hHeld
          have hHeld := hHeld'
          clear hHeld'
          refine rest_take (i := 20) (v := _) all_wide (noDefers_of (by kernel_rfl)) rfl (by kernel_rfl) (by kernel_rfl) (by kernel_rfl) (fun _ _ _ h => h) (Or.inl ⟨by rfl, by intro w hSw; (obtain ⟨kf, kv, kb⟩ := hSw; have q10 := kf.cell 10; have v0 := kv.cell 0; have b0 := kb.cell 0; have b1 := kb.cell 1; have b2 := kb.cell 2; have b3 := kb.cell 3; simp at q10 v0 b0 b1 b2 b3); go_simp; first | done | with_reducible rfl⟩) hHeld ?_
          change RestIn _ _ _ _ _ _ _ 2 #[true, true, true, true, true, true, true, true, true, true, true, true, true, true, true, true, true, true, true, true, true, false, false] _ _
          try simp only [Act.put, List.setIfInBounds_toArray, List.set_cons_zero, List.set_cons_succ, List.getElem_toArray, List.getElem_cons_zero, List.getElem_cons_succ]
          refine rest_take (i := 21) (v := _) all_wide (noDefers_of (by kernel_rfl)) rfl (by kernel_rfl) (by kernel_rfl) (by kernel_rfl) (fun _ _ _ h => h) (Or.inl ⟨by rfl, by intro w hSw; (obtain ⟨kf, kv, kb⟩ := hSw; have q10 := kf.cell 10; have v0 := kv.cell 0; have b0 := kb.cell 0; have b1 := kb.cell 1; have b2 := kb.cell 2; have b3 := kb.cell 3; simp at q10 v0 b0 b1 b2 b3); go_simp; first | done | with_reducible rfl⟩) hHeld ?_
          change RestIn _ _ _ _ _ _ _ 1 #[true, true, true, true, true, true, true, true, true, true, true, true, true, true, true, true, true, true, true, true, true, true, false] _ _
          try simp only [Act.put, List.setIfInBounds_toArray, List.set_cons_zero, List.set_cons_succ, List.getElem_toArray, List.getElem_cons_zero, List.getElem_cons_succ]
          refine rest_ready (rs := [22]) (by kernel_rfl) (by simp) ?_
          refine AllRest.cons rfl (fun K hK => ?_) AllRest.nil
          go_simp
          refine hK.out _ _ ?_ (fun hHeld' => ?_)
          · exact ⟨hHeld.1.far (by simp) _, hHeld.2.1.far (by simp <;> omega) _, hHeld.2.2.far (by simp <;> omega) _⟩
          clear hK K
          change RestIn _ _ _ _ _ _ _ 0 #[true, true, true, true, true, true, true, true, true, true, true, true, true, true, true, true, true, true, true, true, true, true, true] _ _
          try simp only [Act.put, List.setIfInBounds_toArray, List.set_cons_zero, List.set_cons_succ, List.getElem_toArray, List.getElem_cons_zero, List.getElem_cons_succ]
          clear hHeld
          have hHeld := hHeld'
          clear hHeld'
          refine rest_done (by kernel_rfl) ?_
          refine NoPanic.normal ?_
          gi_wp2
          have hs1 := hb1.size
          have hs2 := hb2.size
          have hs3 := hgrow3.size
          simp at hs1 hs3
          have hBe := ((((HBd.out.drew.trans (hb1.mono (by simpa using hwz))).trans (hb2.mono (by omega))).alloc (by omega) (.cells #[.int .i64 (cb.x.hi - f.reach), .int .i64 (cb.x.lo + f.reach), .int .i64 (cb.z.hi - f.reach), .int .i64 (cb.z.lo + f.reach)] 37)).grown hgrow3 (by simp; omega) (fun j e => by have := own_base hr2c.out _ e; omega)).setCell (p := ⟨w.heap.size + 1, 16, none⟩) (by simp) (.slice (some ⟨g', 0, none⟩) (k + 1) cap')
          have hKe := (((((HKO2.out.trans (KeepsOthers.drew Wd)).trans (Below.others hb1)).trans (Below.others hb2)).trans (KeepsOthers.alloc _ _)).trans (KeepsOthers.of_grownBy hgrow3 (own_cells hr2c.out))).trans (KeepsOthers.setCell w3 ⟨w.heap.size + 1, 16, none⟩ (.slice (some ⟨g', 0, none⟩) (k + 1) cap'))
          have hr1e := hr1d.out.kept (gr_set (grown_same w3 (w.heap.size + 1)) 16 (.slice (some ⟨g', 0, none⟩) (k + 1) cap')) (.inr (fun e => by have := own_base hr1d.out _ e; omega))
          have hr2e := hown3.kept (gr_set (grown_same w3 (w.heap.size + 1)) 16 (.slice (some ⟨g', 0, none⟩) (k + 1) cap')) (.inr (fun e => by have := own_base hown3 _ e; omega))
          have hXe := dX4.set_ 16 (.slice (some ⟨g', 0, none⟩) (k + 1) cap')
          exact ⟨⟨k + 1, _, by omega, by go_num, hHeld.1, by simpa using hXe, hHeld.2.1, hr1e, by rw [HNK.out]; exact hr2e, hKe, hBe, by simp; omega⟩, by simp [intOf]; omega⟩
        refine AllRest.cons rfl (fun K hK => ?_) ?_
        · go_simp
          gi_wp2_with ((refine ⟨trivial, ?_⟩; gi_at_call 99; (with_reducible refine (callsIn_wide.2 (HN1.out _)).mono ?_); rintro e w1 ⟨rfl, hb1⟩; have dX1 := (Blk.drew dX).below hb1 (Blk.lt (Blk.drew dX)); have x16 := dX1.cell 16; simp at x16))
          refine hK.out _ _ ?_ (fun hHeld' => ?_)
          · exact ⟨hHeld.1.below hb1 hHeld.1.lt, hHeld.2.1.below hb1 hHeld.2.1.lt, hHeld.2.2.below hb1 hHeld.2.2.lt⟩
          clear hK K
          change RestIn _ _ _ _ _ _ _ 8 #[true, true, true, true, false, true, true, true, true, true, true, true, true, true, true, true, false, false, false, false, false, false, false] _ _
          try simp only [Act.put, List.setIfInBounds_toArray, List.set_cons_zero, List.set_cons_succ, List.getElem_toArray, List.getElem_cons_zero, List.getElem_cons_succ]
          have hr1 := Lib.hid (own_below (w := Wd.drew) HR1d.out hb1)
          have hr2 := Lib.hid (own_below (w := Wd.drew) HR2d.out hb1)
          clear hHeld
          have hHeld := hHeld'
          clear hHeld'
          refine rest_ready (rs := [4, 16]) (by kernel_rfl) (by simp) ?_
          refine AllRest.cons rfl (fun K hK => ?_) ?_
          · go_simp
            refine hK.out _ _ ?_ (fun hHeld' => ?_)
            · exact hHeld
            clear hK K
            change RestIn _ _ _ _ _ _ _ 7 #[true, true, true, true, true, true, true, true, true, true, true, true, true, true, true, true, false, false, false, false, false, false, false] _ _
            try simp only [Act.put, List.setIfInBounds_toArray, List.set_cons_zero, List.set_cons_succ, List.getElem_toArray, List.getElem_cons_zero, List.getElem_cons_succ]
            clear hHeld
            have hHeld := hHeld'
            clear hHeld'
            refine rest_ready (rs := [16]) (by kernel_rfl) (by simp) ?_
            refine AllRest.cons rfl (fun K hK => ?_) AllRest.nil
            go_simp
            gi_wp2_with ((refine ⟨trivial, ?_⟩; gi_at_call 99; (with_reducible refine (callsIn_wide.2 (HN2.out _)).mono ?_); rintro e w2 ⟨rfl, hb2⟩; have dX2 := dX1.below hb2 (Blk.lt dX1); have x16 := dX2.cell 16; simp at x16))
            refine hK.out _ _ ?_ (fun hHeld' => ?_)
            · exact ⟨hHeld.1.below hb2 hHeld.1.lt, hHeld.2.1.below hb2 hHeld.2.1.lt, hHeld.2.2.below hb2 hHeld.2.2.lt⟩
            clear hK K
            change RestIn _ _ _ _ _ _ _ 6 #[true, true, true, true, true, true, true, true, true, true, true, true, true, true, true, true, true, false, false, false, false, false, false] _ _
            try simp only [Act.put, List.setIfInBounds_toArray, List.set_cons_zero, List.set_cons_succ, List.getElem_toArray, List.getElem_cons_zero, List.getElem_cons_succ]
            have hr1b := Lib.hid (own_below hr1.out hb2)
            have hr2b := Lib.hid (own_below hr2.out hb2)
            have hz12 : Wd.heap.size ≤ w2.heap.size := (by have h1 := hb1.size; have h2 := hb2.size; simp at h1; omega)
            clear hHeld
            have hHeld := hHeld'
            clear hHeld'
            refine rest_take (i := 17) (v := _) all_wide (noDefers_of (by kernel_rfl)) rfl (by kernel_rfl) (by kernel_rfl) (by kernel_rfl) (fun _ _ _ h => h) (Or.inl ⟨by rfl, by intro w hSw; (obtain ⟨kf, kv, kb⟩ := hSw; have q10 := kf.cell 10; have v0 := kv.cell 0; have b0 := kb.cell 0; have b1 := kb.cell 1; have b2 := kb.cell 2; have b3 := kb.cell 3; simp at q10 v0 b0 b1 b2 b3); go_simp; first | done | with_reducible rfl⟩) hHeld ?_
            change RestIn _ _ _ _ _ _ _ 5 #[true, true, true, true, true, true, true, true, true, true, true, true, true, true, true, true, true, true, false, false, false, false, false] _ _
            try simp only [Act.put, List.setIfInBounds_toArray, List.set_cons_zero, List.set_cons_succ, List.getElem_toArray, List.getElem_cons_zero, List.getElem_cons_succ]
            refine rest_ready (rs := [18]) (by kernel_rfl) (by simp) ?_
            refine AllRest.cons rfl (fun K hK => ?_) AllRest.nil
            go_simp
            refine hK.out _ _ ?_ (fun hHeld' => ?_)
            · exact ⟨hHeld.1.alloc _, hHeld.2.1.alloc _, hHeld.2.2.alloc _⟩
            clear hK K
            change RestIn _ _ _ _ _ _ _ 4 #[true, true, true, true, true, true, true, true, true, true, true, true, true, true, true, true, true, true, true, false, false, false, false] _ _
            try simp only [Act.put, List.setIfInBounds_toArray, List.set_cons_zero, List.set_cons_succ, List.getElem_toArray, List.getElem_cons_zero, List.getElem_cons_succ]
            have dX3 := dX2.alloc (.cells #[.int .i64 (cb.x.hi - f.reach), .int .i64 (cb.x.lo + f.reach), .int .i64 (cb.z.hi - f.reach), .int .i64 (cb.z.lo + f.reach)] 37)
            have x16 := dX3.cell 16
            simp at x16
            have hr1c := Lib.hid (hr1b.out.alloc (.cells #[.int .i64 (cb.x.hi - f.reach), .int .i64 (cb.x.lo + f.reach), .int .i64 (cb.z.hi - f.reach), .int .i64 (cb.z.lo + f.reach)] 37))
            have hr2c := Lib.hid (hr2b.out.alloc (.cells #[.int .i64 (cb.x.hi - f.reach), .int .i64 (cb.x.lo + f.reach), .int .i64 (cb.z.hi - f.reach), .int .i64 (cb.z.lo + f.reach)] 37))
            have kn := Blk.new w2 37 #[.int .i64 (cb.x.hi - f.reach), .int .i64 (cb.x.lo + f.reach), .int .i64 (cb.z.hi - f.reach), .int .i64 (cb.z.lo + f.reach)]
            clear hHeld
            have hHeld := hHeld'
            clear hHeld'
            refine rest_ready (rs := [19]) (by kernel_rfl) (by simp) ?_
            refine AllRest.cons rfl (fun K hK => ?_) AllRest.nil
            rw [if_pos (by rfl)]
            refine append_step all_wide _ _ 46 rfl W.heap.size 37 i1 _ 4 32 Try.underlying46 HI1.out HY0.out HY1.out HY2.out rfl (by decide) v2 k _ rfl hr2c.out ⟨w2.heap.size, 0, none⟩ 1 1 [.int .i64 (cb.x.hi - f.reach), .int .i64 (cb.x.lo + f.reach), .int .i64 (cb.z.hi - f.reach), .int .i64 (cb.z.lo + f.reach)] rfl rfl (fun j u h => Blk.add kn h) (by simp [Value.oneCell']) (by unfold maxLen; omega) (by omega) (by simp; omega) ?_
            intro v' w3 hown3 hgrow3
            refine hK.out _ _ ?_ (fun hHeld' => ?_)
            · exact ⟨hHeld.1.grown hgrow3 (fun e => by have := own_base hr2c.out _ e.symm; omega), hHeld.2.1.grown hgrow3 (fun e => by have := own_base hr2c.out _ e.symm; omega), hHeld.2.2.grown hgrow3 (fun e => by have := own_fresh HR2.out e.symm; omega)⟩
            clear hK K
            change RestIn _ _ _ _ _ _ _ 3 #[true, true, true, true, true, true, true, true, true, true, true, true, true, true, true, true, true, true, true, true, false, false, false] _ _
            try simp only [Act.put, List.setIfInBounds_toArray, List.set_cons_zero, List.set_cons_succ, List.getElem_toArray, List.getElem_cons_zero, List.getElem_cons_succ]
            obtain ⟨g', cap', rfl⟩ := ownsRow_succ hown3
            have dX4 := dX3.grown hgrow3 (fun e => by have := own_base hr2c.out _ e.symm; omega)
            have x16 := dX4.cell 16
            have f16 := dX4.frozen 16
            have xl := dX4.lt
            simp at x16
            have hr1d := Lib.hid (hr1c.out.kept hgrow3 (own_apart hvl (own_base hr2c.out)))
            clear hHeld
            have hHeld := hHeld'
            clear hHeld'
            refine rest_take (i := 20) (v := _) all_wide (noDefers_of (by kernel_rfl)) rfl (by kernel_rfl) (by kernel_rfl) (by kernel_rfl) (fun _ _ _ h => h) (Or.inl ⟨by rfl, by intro w hSw; (obtain ⟨kf, kv, kb⟩ := hSw; have q10 := kf.cell 10; have v0 := kv.cell 0; have b0 := kb.cell 0; have b1 := kb.cell 1; have b2 := kb.cell 2; have b3 := kb.cell 3; simp at q10 v0 b0 b1 b2 b3); go_simp; first | done | with_reducible rfl⟩) hHeld ?_
            change RestIn _ _ _ _ _ _ _ 2 #[true, true, true, true, true, true, true, true, true, true, true, true, true, true, true, true, true, true, true, true, true, false, false] _ _
            try simp only [Act.put, List.setIfInBounds_toArray, List.set_cons_zero, List.set_cons_succ, List.getElem_toArray, List.getElem_cons_zero, List.getElem_cons_succ]
            refine rest_take (i := 21) (v := _) all_wide (noDefers_of (by kernel_rfl)) rfl (by kernel_rfl) (by kernel_rfl) (by kernel_rfl) (fun _ _ _ h => h) (Or.inl ⟨by rfl, by intro w hSw; (obtain ⟨kf, kv, kb⟩ := hSw; have q10 := kf.cell 10; have v0 := kv.cell 0; have b0 := kb.cell 0; have b1 := kb.cell 1; have b2 := kb.cell 2; have b3 := kb.cell 3; simp at q10 v0 b0 b1 b2 b3); go_simp; first | done | with_reducible rfl⟩) hHeld ?_
            change RestIn _ _ _ _ _ _ _ 1 #[true, true, true, true, true, true, true, true, true, true, true, true, true, true, true, true, true, true, true, true, true, true, false] _ _
            try simp only [Act.put, List.setIfInBounds_toArray, List.set_cons_zero, List.set_cons_succ, List.getElem_toArray, List.getElem_cons_zero, List.getElem_cons_succ]
            refine rest_ready (rs := [22]) (by kernel_rfl) (by simp) ?_
            refine AllRest.cons rfl (fun K hK => ?_) AllRest.nil
            go_simp
            refine hK.out _ _ ?_ (fun hHeld' => ?_)
            · exact ⟨hHeld.1.far (by simp) _, hHeld.2.1.far (by simp <;> omega) _, hHeld.2.2.far (by simp <;> omega) _⟩
            clear hK K
            change RestIn _ _ _ _ _ _ _ 0 #[true, true, true, true, true, true, true, true, true, true, true, true, true, true, true, true, true, true, true, true, true, true, true] _ _
            try simp only [Act.put, List.setIfInBounds_toArray, List.set_cons_zero, List.set_cons_succ, List.getElem_toArray, List.getElem_cons_zero, List.getElem_cons_succ]
            clear hHeld
            have hHeld := hHeld'
            clear hHeld'
            refine rest_done (by kernel_rfl) ?_
            refine NoPanic.normal ?_
            gi_wp2
            have hs1 := hb1.size
            have hs2 := hb2.size
            have hs3 := hgrow3.size
            simp at hs1 hs3
            have hBe := ((((HBd.out.drew.trans (hb1.mono (by simpa using hwz))).trans (hb2.mono (by omega))).alloc (by omega) (.cells #[.int .i64 (cb.x.hi - f.reach), .int .i64 (cb.x.lo + f.reach), .int .i64 (cb.z.hi - f.reach), .int .i64 (cb.z.lo + f.reach)] 37)).grown hgrow3 (by simp; omega) (fun j e => by have := own_base hr2c.out _ e; omega)).setCell (p := ⟨w.heap.size + 1, 16, none⟩) (by simp) (.slice (some ⟨g', 0, none⟩) (k + 1) cap')
            have hKe := (((((HKO2.out.trans (KeepsOthers.drew Wd)).trans (Below.others hb1)).trans (Below.others hb2)).trans (KeepsOthers.alloc _ _)).trans (KeepsOthers.of_grownBy hgrow3 (own_cells hr2c.out))).trans (KeepsOthers.setCell w3 ⟨w.heap.size + 1, 16, none⟩ (.slice (some ⟨g', 0, none⟩) (k + 1) cap'))
            have hr1e := hr1d.out.kept (gr_set (grown_same w3 (w.heap.size + 1)) 16 (.slice (some ⟨g', 0, none⟩) (k + 1) cap')) (.inr (fun e => by have := own_base hr1d.out _ e; omega))
            have hr2e := hown3.kept (gr_set (grown_same w3 (w.heap.size + 1)) 16 (.slice (some ⟨g', 0, none⟩) (k + 1) cap')) (.inr (fun e => by have := own_base hown3 _ e; omega))
            have hXe := dX4.set_ 16 (.slice (some ⟨g', 0, none⟩) (k + 1) cap')
            exact ⟨⟨k + 1, _, by omega, by go_num, hHeld.1, by simpa using hXe, hHeld.2.1, hr1e, by rw [HNK.out]; exact hr2e, hKe, hBe, by simp; omega⟩, by simp [intOf]; omega⟩
          refine AllRest.cons rfl (fun K hK => ?_) ?_
          · go_simp
            gi_wp2_with ((refine ⟨trivial, ?_⟩; gi_at_call 99; (with_reducible refine (callsIn_wide.2 (HN2.out _)).mono ?_); rintro e w2 ⟨rfl, hb2⟩; have dX2 := dX1.below hb2 (Blk.lt dX1); have x16 := dX2.cell 16; simp at x16))
            refine hK.out _ _ ?_ (fun hHeld' => ?_)
            · exact ⟨hHeld.1.below hb2 hHeld.1.lt, hHeld.2.1.below hb2 hHeld.2.1.lt, hHeld.2.2.below hb2 hHeld.2.2.lt⟩
            clear hK K
            change RestIn _ _ _ _ _ _ _ 7 #[true, true, true, true, false, true, true, true, true, true, true, true, true, true, true, true, true, false, false, false, false, false, false] _ _
            try simp only [Act.put, List.setIfInBounds_toArray, List.set_cons_zero, List.set_cons_succ, List.getElem_toArray, List.getElem_cons_zero, List.getElem_cons_succ]
            have hr1b := Lib.hid (own_below hr1.out hb2)
            have hr2b := Lib.hid (own_below hr2.out hb2)
            have hz12 : Wd.heap.size ≤ w2.heap.size := (by have h1 := hb1.size; have h2 := hb2.size; simp at h1; omega)
            clear hHeld
            have hHeld := hHeld'
            clear hHeld'
            refine rest_take (i := 17) (v := _) all_wide (noDefers_of (by kernel_rfl)) rfl (by kernel_rfl) (by kernel_rfl) (by kernel_rfl) (fun _ _ _ h => h) (Or.inl ⟨by rfl, by intro w hSw; (obtain ⟨kf, kv, kb⟩ := hSw; have q10 := kf.cell 10; have v0 := kv.cell 0; have b0 := kb.cell 0; have b1 := kb.cell 1; have b2 := kb.cell 2; have b3 := kb.cell 3; simp at q10 v0 b0 b1 b2 b3); go_simp; first | done | with_reducible rfl⟩) hHeld ?_
            change RestIn _ _ _ _ _ _ _ 6 #[true, true, true, true, false, true, true, true, true, true, true, true, true, true, true, true, true, true, false, false, false, false, false] _ _
            try simp only [Act.put, List.setIfInBounds_toArray, List.set_cons_zero, List.set_cons_succ, List.getElem_toArray, List.getElem_cons_zero, List.getElem_cons_succ]
            refine rest_ready (rs := [4, 18]) (by kernel_rfl) (by simp) ?_
            refine AllRest.cons rfl (fun K hK => ?_) ?_
            · go_simp
              refine hK.out _ _ ?_ (fun hHeld' => ?_)
              · exact hHeld
              clear hK K
              change RestIn _ _ _ _ _ _ _ 5 #[true, true, true, true, true, true, true, true, true, true, true, true, true, true, true, true, true, true, false, false, false, false, false] _ _
              try simp only [Act.put, List.setIfInBounds_toArray, List.set_cons_zero, List.set_cons_succ, List.getElem_toArray, List.getElem_cons_zero, List.getElem_cons_succ]
              clear hHeld
              have hHeld := hHeld'
              clear hHeld'
              refine rest_ready (rs := [18]) (by kernel_rfl) (by simp) ?_
              refine AllRest.cons rfl (fun K hK => ?_) AllRest.nil
              go_simp
              refine hK.out _ _ ?_ (fun hHeld' => ?_)
              · exact ⟨hHeld.1.alloc _, hHeld.2.1.alloc _, hHeld.2.2.alloc _⟩
              clear hK K
              change RestIn _ _ _ _ _ _ _ 4 #[true, true, true, true, true, true, true, true, true, true, true, true, true, true, true, true, true, true, true, false, false, false, false] _ _
              try simp only [Act.put, List.setIfInBounds_toArray, List.set_cons_zero, List.set_cons_succ, List.getElem_toArray, List.getElem_cons_zero, List.getElem_cons_succ]
              have dX3 := dX2.alloc (.cells #[.int .i64 (cb.x.hi - f.reach), .int .i64 (cb.x.lo + f.reach), .int .i64 (cb.z.hi - f.reach), .int .i64 (cb.z.lo + f.reach)] 37)
              have x16 := dX3.cell 16
              simp at x16
              have hr1c := Lib.hid (hr1b.out.alloc (.cells #[.int .i64 (cb.x.hi - f.reach), .int .i64 (cb.x.lo + f.reach), .int .i64 (cb.z.hi - f.reach), .int .i64 (cb.z.lo + f.reach)] 37))
              have hr2c := Lib.hid (hr2b.out.alloc (.cells #[.int .i64 (cb.x.hi - f.reach), .int .i64 (cb.x.lo + f.reach), .int .i64 (cb.z.hi - f.reach), .int .i64 (cb.z.lo + f.reach)] 37))
              have kn := Blk.new w2 37 #[.int .i64 (cb.x.hi - f.reach), .int .i64 (cb.x.lo + f.reach), .int .i64 (cb.z.hi - f.reach), .int .i64 (cb.z.lo + f.reach)]
              clear hHeld
              have hHeld := hHeld'
              clear hHeld'
              refine rest_ready (rs := [19]) (by kernel_rfl) (by simp) ?_
              refine AllRest.cons rfl (fun K hK => ?_) AllRest.nil
              rw [if_pos (by rfl)]
              refine append_step all_wide _ _ 46 rfl W.heap.size 37 i1 _ 4 32 Try.underlying46 HI1.out HY0.out HY1.out HY2.out rfl (by decide) v2 k _ rfl hr2c.out ⟨w2.heap.size, 0, none⟩ 1 1 [.int .i64 (cb.x.hi - f.reach), .int .i64 (cb.x.lo + f.reach), .int .i64 (cb.z.hi - f.reach), .int .i64 (cb.z.lo + f.reach)] rfl rfl (fun j u h => Blk.add kn h) (by simp [Value.oneCell']) (by unfold maxLen; omega) (by omega) (by simp; omega) ?_
              intro v' w3 hown3 hgrow3
              refine hK.out _ _ ?_ (fun hHeld' => ?_)
              · exact ⟨hHeld.1.grown hgrow3 (fun e => by have := own_base hr2c.out _ e.symm; omega), hHeld.2.1.grown hgrow3 (fun e => by have := own_base hr2c.out _ e.symm; omega), hHeld.2.2.grown hgrow3 (fun e => by have := own_fresh HR2.out e.symm; omega)⟩
              clear hK K
              change RestIn _ _ _ _ _ _ _ 3 #[true, true, true, true, true, true, true, true, true, true, true, true, true, true, true, true, true, true, true, true, false, false, false] _ _
              try simp only [Act.put, List.setIfInBounds_toArray, List.set_cons_zero, List.set_cons_succ, List.getElem_toArray, List.getElem_cons_zero, List.getElem_cons_succ]
              obtain ⟨g', cap', rfl⟩ := ownsRow_succ hown3
              have dX4 := dX3.grown hgrow3 (fun e => by have := own_base hr2c.out _ e.symm; omega)
              have x16 := dX4.cell 16
              have f16 := dX4.frozen 16
              have xl := dX4.lt
              simp at x16
              have hr1d := Lib.hid (hr1c.out.kept hgrow3 (own_apart hvl (own_base hr2c.out)))
              clear hHeld
              have hHeld := hHeld'
              clear hHeld'
              refine rest_take (i := 20) (v := _) all_wide (noDefers_of (by kernel_rfl)) rfl (by kernel_rfl) (by kernel_rfl) (by kernel_rfl) (fun _ _ _ h => h) (Or.inl ⟨by rfl, by intro w hSw; (obtain ⟨kf, kv, kb⟩ := hSw; have q10 := kf.cell 10; have v0 := kv.cell 0; have b0 := kb.cell 0; have b1 := kb.cell 1; have b2 := kb.cell 2; have b3 := kb.cell 3; simp at q10 v0 b0 b1 b2 b3); go_simp; first | done | with_reducible rfl⟩) hHeld ?_
              change RestIn _ _ _ _ _ _ _ 2 #[true, true, true, true, true, true, true, true, true, true, true, true, true, true, true, true, true, true, true, true, true, false, false] _ _
              try simp only [Act.put, List.setIfInBounds_toArray, List.set_cons_zero, List.set_cons_succ, List.getElem_toArray, List.getElem_cons_zero, List.getElem_cons_succ]
              refine rest_take (i := 21) (v := _) all_wide (noDefers_of (by kernel_rfl)) rfl (by kernel_rfl) (by kernel_rfl) (by kernel_rfl) (fun _ _ _ h => h) (Or.inl ⟨by rfl, by intro w hSw; (obtain ⟨kf, kv, kb⟩ := hSw; have q10 := kf.cell 10; have v0 := kv.cell 0; have b0 := kb.cell 0; have b1 := kb.cell 1; have b2 := kb.cell 2; have b3 := kb.cell 3; simp at q10 v0 b0 b1 b2 b3); go_simp; first | done | with_reducible rfl⟩) hHeld ?_
              change RestIn _ _ _ _ _ _ _ 1 #[true, true, true, true, true, true, true, true, true, true, true, true, true, true, true, true, true, true, true, true, true, true, false] _ _
              try simp only [Act.put, List.setIfInBounds_toArray, List.set_cons_zero, List.set_cons_succ, List.getElem_toArray, List.getElem_cons_zero, List.getElem_cons_succ]
              refine rest_ready (rs := [22]) (by kernel_rfl) (by simp) ?_
              refine AllRest.cons rfl (fun K hK => ?_) AllRest.nil
              go_simp
              refine hK.out _ _ ?_ (fun hHeld' => ?_)
              · exact ⟨hHeld.1.far (by simp) _, hHeld.2.1.far (by simp <;> omega) _, hHeld.2.2.far (by simp <;> omega) _⟩
              clear hK K
              change RestIn _ _ _ _ _ _ _ 0 #[true, true, true, true, true, true, true, true, true, true, true, true, true, true, true, true, true, true, true, true, true, true, true] _ _
              try simp only [Act.put, List.setIfInBounds_toArray, List.set_cons_zero, List.set_cons_succ, List.getElem_toArray, List.getElem_cons_zero, List.getElem_cons_succ]
              clear hHeld
              have hHeld := hHeld'
              clear hHeld'
              refine rest_done (by kernel_rfl) ?_
              refine NoPanic.normal ?_
              gi_wp2
              have hs1 := hb1.size
              have hs2 := hb2.size
              have hs3 := hgrow3.size
              simp at hs1 hs3
              have hBe := ((((HBd.out.drew.trans (hb1.mono (by simpa using hwz))).trans (hb2.mono (by omega))).alloc (by omega) (.cells #[.int .i64 (cb.x.hi - f.reach), .int .i64 (cb.x.lo + f.reach), .int .i64 (cb.z.hi - f.reach), .int .i64 (cb.z.lo + f.reach)] 37)).grown hgrow3 (by simp; omega) (fun j e => by have := own_base hr2c.out _ e; omega)).setCell (p := ⟨w.heap.size + 1, 16, none⟩) (by simp) (.slice (some ⟨g', 0, none⟩) (k + 1) cap')
              have hKe := (((((HKO2.out.trans (KeepsOthers.drew Wd)).trans (Below.others hb1)).trans (Below.others hb2)).trans (KeepsOthers.alloc _ _)).trans (KeepsOthers.of_grownBy hgrow3 (own_cells hr2c.out))).trans (KeepsOthers.setCell w3 ⟨w.heap.size + 1, 16, none⟩ (.slice (some ⟨g', 0, none⟩) (k + 1) cap'))
              have hr1e := hr1d.out.kept (gr_set (grown_same w3 (w.heap.size + 1)) 16 (.slice (some ⟨g', 0, none⟩) (k + 1) cap')) (.inr (fun e => by have := own_base hr1d.out _ e; omega))
              have hr2e := hown3.kept (gr_set (grown_same w3 (w.heap.size + 1)) 16 (.slice (some ⟨g', 0, none⟩) (k + 1) cap')) (.inr (fun e => by have := own_base hown3 _ e; omega))
              have hXe := dX4.set_ 16 (.slice (some ⟨g', 0, none⟩) (k + 1) cap')
              exact ⟨⟨k + 1, _, by omega, by go_num, hHeld.1, by simpa using hXe, hHeld.2.1, hr1e, by rw [HNK.out]; exact hr2e, hKe, hBe, by simp; omega⟩, by simp [intOf]; omega⟩
            refine AllRest.cons rfl (fun K hK => ?_) ?_
            · go_simp
              refine hK.out _ _ ?_ (fun hHeld' => ?_)
              · exact ⟨hHeld.1.alloc _, hHeld.2.1.alloc _, hHeld.2.2.alloc _⟩
              clear hK K
              change RestIn _ _ _ _ _ _ _ 5 #[true, true, true, true, false, true, true, true, true, true, true, true, true, true, true, true, true, true, true, false, false, false, false] _ _
              try simp only [Act.put, List.setIfInBounds_toArray, List.set_cons_zero, List.set_cons_succ, List.getElem_toArray, List.getElem_cons_zero, List.getElem_cons_succ]
              have dX3 := dX2.alloc (.cells #[.int .i64 (cb.x.hi - f.reach), .int .i64 (cb.x.lo + f.reach), .int .i64 (cb.z.hi - f.reach), .int .i64 (cb.z.lo + f.reach)] 37)
              have x16 := dX3.cell 16
              simp at x16
              have hr1c := Lib.hid (hr1b.out.alloc (.cells #[.int .i64 (cb.x.hi - f.reach), .int .i64 (cb.x.lo + f.reach), .int .i64 (cb.z.hi - f.reach), .int .i64 (cb.z.lo + f.reach)] 37))
              have hr2c := Lib.hid (hr2b.out.alloc (.cells #[.int .i64 (cb.x.hi - f.reach), .int .i64 (cb.x.lo + f.reach), .int .i64 (cb.z.hi - f.reach), .int .i64 (cb.z.lo + f.reach)] 37))
              have kn := Blk.new w2 37 #[.int .i64 (cb.x.hi - f.reach), .int .i64 (cb.x.lo + f.reach), .int .i64 (cb.z.hi - f.reach), .int .i64 (cb.z.lo + f.reach)]
              clear hHeld
              have hHeld := hHeld'
              clear hHeld'
              refine rest_ready (rs := [4]) (by kernel_rfl) (by simp) ?_
              refine AllRest.cons rfl (fun K hK => ?_) AllRest.nil
              go_simp
              refine hK.out _ _ ?_ (fun hHeld' => ?_)
              · exact hHeld
              clear hK K
              change RestIn _ _ _ _ _ _ _ 4 #[true, true, true, true, true, true, true, true, true, true, true, true, true, true, true, true, true, true, true, false, false, false, false] _ _
              try simp only [Act.put, List.setIfInBounds_toArray, List.set_cons_zero, List.set_cons_succ, List.getElem_toArray, List.getElem_cons_zero, List.getElem_cons_succ]
              clear hHeld
              have hHeld := hHeld'
              clear hHeld'
              refine rest_ready (rs := [19]) (by kernel_rfl) (by simp) ?_
              refine AllRest.cons rfl (fun K hK => ?_) AllRest.nil
              rw [if_pos (by rfl)]
              refine append_step all_wide _ _ 46 rfl W.heap.size 37 i1 _ 4 32 Try.underlying46 HI1.out HY0.out HY1.out HY2.out rfl (by decide) v2 k _ rfl hr2c.out ⟨w2.heap.size, 0, none⟩ 1 1 [.int .i64 (cb.x.hi - f.reach), .int .i64 (cb.x.lo + f.reach), .int .i64 (cb.z.hi - f.reach), .int .i64 (cb.z.lo + f.reach)] rfl rfl (fun j u h => Blk.add kn h) (by simp [Value.oneCell']) (by unfold maxLen; omega) (by omega) (by simp; omega) ?_
              intro v' w3 hown3 hgrow3
              refine hK.out _ _ ?_ (fun hHeld' => ?_)
              · exact ⟨hHeld.1.grown hgrow3 (fun e => by have := own_base hr2c.out _ e.symm; omega), hHeld.2.1.grown hgrow3 (fun e => by have := own_base hr2c.out _ e.symm; omega), hHeld.2.2.grown hgrow3 (fun e => by have := own_fresh HR2.out e.symm; omega)⟩
              clear hK K
              change RestIn _ _ _ _ _ _ _ 3 #[true, true, true, true, true, true, true, true, true, true, true, true, true, true, true, true, true, true, true, true, false, false, false] _ _
              try simp only [Act.put, List.setIfInBounds_toArray, List.set_cons_zero, List.set_cons_succ, List.getElem_toArray, List.getElem_cons_zero, List.getElem_cons_succ]
              obtain ⟨g', cap', rfl⟩ := ownsRow_succ hown3
              have dX4 := dX3.grown hgrow3 (fun e => by have := own_base hr2c.out _ e.symm; omega)
              have x16 := dX4.cell 16
              have f16 := dX4.frozen 16
              have xl := dX4.lt
              simp at x16
              have hr1d := Lib.hid (hr1c.out.kept hgrow3 (own_apart hvl (own_base hr2c.out)))
              clear hHeld
              have hHeld := hHeld'
              clear hHeld'
              refine rest_take (i := 20) (v := _) all_wide (noDefers_of (by kernel_rfl)) rfl (by kernel_rfl) (by kernel_rfl) (by kernel_rfl) (fun _ _ _ h => h) (Or.inl ⟨by rfl, by intro w hSw; (obtain ⟨kf, kv, kb⟩ := hSw; have q10 := kf.cell 10; have v0 := kv.cell 0; have b0 := kb.cell 0; have b1 := kb.cell 1; have b2 := kb.cell 2; have b3 := kb.cell 3; simp at q10 v0 b0 b1 b2 b3); go_simp; first | done | with_reducible rfl⟩) hHeld ?_
              change RestIn _ _ _ _ _ _ _ 2 #[true, true, true, true, true, true, true, true, true, true, true, true, true, true, true, true, true, true, true, true, true, false, false] _ _
              try simp only [Act.put, List.setIfInBounds_toArray, List.set_cons_zero, List.set_cons_succ, List.getElem_toArray, List.getElem_cons_zero, List.getElem_cons_succ]
              refine rest_take (i := 21) (v := _) all_wide (noDefers_of (by kernel_rfl)) rfl (by kernel_rfl) (by kernel_rfl) (by kernel_rfl) (fun _ _ _ h => h) (Or.inl ⟨by rfl, by intro w hSw; (obtain ⟨kf, kv, kb⟩ := hSw; have q10 := kf.cell 10; have v0 := kv.cell 0; have b0 := kb.cell 0; have b1 := kb.cell 1; have b2 := kb.cell 2; have b3 := kb.cell 3; simp at q10 v0 b0 b1 b2 b3); go_simp; first | done | with_reducible rfl⟩) hHeld ?_
              change RestIn _ _ _ _ _ _ _ 1 #[true, true, true, true, true, true, true, true, true, true, true, true, true, true, true, true, true, true, true, true, true, true, false] _ _
              try simp only [Act.put, List.setIfInBounds_toArray, List.set_cons_zero, List.set_cons_succ, List.getElem_toArray, List.getElem_cons_zero, List.getElem_cons_succ]
              refine rest_ready (rs := [22]) (by kernel_rfl) (by simp) ?_
              refine AllRest.cons rfl (fun K hK => ?_) AllRest.nil
              go_simp
              refine hK.out _ _ ?_ (fun hHeld' => ?_)
              · exact ⟨hHeld.1.far (by simp) _, hHeld.2.1.far (by simp <;> omega) _, hHeld.2.2.far (by simp <;> omega) _⟩
              clear hK K
              change RestIn _ _ _ _ _ _ _ 0 #[true, true, true, true, true, true, true, true, true, true, true, true, true, true, true, true, true, true, true, true, true, true, true] _ _
              try simp only [Act.put, List.setIfInBounds_toArray, List.set_cons_zero, List.set_cons_succ, List.getElem_toArray, List.getElem_cons_zero, List.getElem_cons_succ]
              clear hHeld
              have hHeld := hHeld'
              clear hHeld'
              refine rest_done (by kernel_rfl) ?_
              refine NoPanic.normal ?_
              gi_wp2
              have hs1 := hb1.size
              have hs2 := hb2.size
              have hs3 := hgrow3.size
              simp at hs1 hs3
              have hBe := ((((HBd.out.drew.trans (hb1.mono (by simpa using hwz))).trans (hb2.mono (by omega))).alloc (by omega) (.cells #[.int .i64 (cb.x.hi - f.reach), .int .i64 (cb.x.lo + f.reach), .int .i64 (cb.z.hi - f.reach), .int .i64 (cb.z.lo + f.reach)] 37)).grown hgrow3 (by simp; omega) (fun j e => by have := own_base hr2c.out _ e; omega)).setCell (p := ⟨w.heap.size + 1, 16, none⟩) (by simp) (.slice (some ⟨g', 0, none⟩) (k + 1) cap')
              have hKe := (((((HKO2.out.trans (KeepsOthers.drew Wd)).trans (Below.others hb1)).trans (Below.others hb2)).trans (KeepsOthers.alloc _ _)).trans (KeepsOthers.of_grownBy hgrow3 (own_cells hr2c.out))).trans (KeepsOthers.setCell w3 ⟨w.heap.size + 1, 16, none⟩ (.slice (some ⟨g', 0, none⟩) (k + 1) cap'))
              have hr1e := hr1d.out.kept (gr_set (grown_same w3 (w.heap.size + 1)) 16 (.slice (some ⟨g', 0, none⟩) (k + 1) cap')) (.inr (fun e => by have := own_base hr1d.out _ e; omega))
              have hr2e := hown3.kept (gr_set (grown_same w3 (w.heap.size + 1)) 16 (.slice (some ⟨g', 0, none⟩) (k + 1) cap')) (.inr (fun e => by have := own_base hown3 _ e; omega))
              have hXe := dX4.set_ 16 (.slice (some ⟨g', 0, none⟩) (k + 1) cap')
              exact ⟨⟨k + 1, _, by omega, by go_num, hHeld.1, by simpa using hXe, hHeld.2.1, hr1e, by rw [HNK.out]; exact hr2e, hKe, hBe, by simp; omega⟩, by simp [intOf]; omega⟩
            exact AllRest.nil
          exact AllRest.nil
        exact AllRest.nil
      · obtain rfl : k = f.cycle.length := by omega
        have v0 := rV.cell 0
        have vl := rV.lt
        simp at v0
        rw [show (nearL f).take f.cycle.length = nearL f by rw [← hnl]; exact List.take_length] at hrow2
        obtain ⟨Ab, cb, rfl, _⟩ := own_slice hrow
        obtain ⟨An, cn, rfl, _⟩ := own_slice hrow2
        have hKr := hKO.same D _ HKD.out rfl
        gi_wp2
        refine ⟨by simp, .inl ⟨_, _, rfl, run_takeDeferred hKr, ?_⟩⟩
        refine ⟨_, results_tmp rfl _ _ _, w.heap.size + 1, Ab, An, cb, cn, rfl, by omega, ⟨?_, ?_, ?_, ?_⟩, hB.trans (belowK_b (w := w) (Nat.le_refl _) wr D _ _ (by omega) hKr rfl rfl)⟩
        · exact rX.kept (grownBy_putObj' wr D (.deferred none)) (fun r e => by cases e; exact ⟨_, hKr, rfl⟩)
        · exact ((RS.of_own (enc := encM f.fly) (sz := 5) (fun _ => rfl) hrow rfl).kept (grownBy_putObj' wr D (.deferred none)) (fun r e => by cases e; exact ⟨_, hKr, rfl⟩)).more (by simp)
        · exact ((RS.of_own (enc := encB) (sz := 4) (fun _ => rfl) hrow2 hnl.symm).kept (grownBy_putObj' wr D (.deferred none)) (fun r e => by cases e; exact ⟨_, hKr, rfl⟩)).more (by simp)
        · have := rX.lt; simp; omega
  case stop =>
    rintro D c pre W _ _ h _
    exact h.elim
end Go.Proofs.Ytbagfapalkmikaa
