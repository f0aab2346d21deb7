import Derived.Test.YtibaindlbpfecaaEitherP
import Derived.Test.YtibaindlbpfecaaHeldIn

/- What CanvasProves leans on: the memory of its own that Forces hands out, and what a balance's parts are. -/
namespace Go.Proofs.Ytibaindlbpfecaa
open Go.RowKit
theorem cell_after {W W' : World} {a : Addr} {v : Value} (hb : Below W.heap.size W W') (h : W.cell? a = some v) : W'.cell? a = some v := (hb.cell (World.block_lt_of_cell? W a h)).trans h
theorem blk_new_of {B : Nat} {w W : World} (_h : Below B w W) (t : TypeId) (cs : Array Value) : Blk (W.alloc (.cells cs t)) W.heap.size t cs := Blk.new W t cs
theorem own_base {W : World} {base : Nat} {e : TypeId} {sz n : Nat} {v : Value} {xs : List Value} (h : W.ownsRow base e sz v n xs) : ∀ j, v.ownBlock = some j → base ≤ j := by
  intro j ej
  rcases h.2 with ⟨rfl, _⟩ | ⟨g, cap, cur, rfl, hb, hgb, _⟩
  · simp [Value.ownBlock] at ej
  · obtain rfl : g = j := by simpa [Value.ownBlock] using ej
    exact hb
theorem bal_facts {l : List Tst} {t : List Head} {head : Int} {push : Vec} {wh : Int} {ps : List Int} {er : Int} (hI : BalIs l t head push wh ps er) (h : headE l t head push.corner = 0) :
    ps.length ≤ 8 ∧ ((er = 7 ∧ ps = []) ∨ (er = 0 ∧ ∀ p ∈ ps, 0 ≤ p ∧ p ≤ 500000000000)) := by
  obtain ⟨k, x, rfl, hx, e1, e2⟩ := hI.good h
  obtain ⟨_, _, _, _, hfl, hfv⟩ := asked_ok h hx rfl
  cases hb : findBal (push.times x.area) (forcesM l x) with
  | none =>
    rw [hb] at e1 e2
    simp at e1 e2
    obtain ⟨rfl, rfl⟩ := e1
    subst e2
    exact ⟨by simp, .inl ⟨rfl, rfl⟩⟩
  | some r =>
    obtain ⟨r1, r2⟩ := r
    have hs := find_sound hfv hb
    rw [hb] at e1 e2
    simp at e1 e2
    obtain ⟨rfl, rfl⟩ := e1
    subst e2
    unfold balByB at hs
    simp only [Bool.and_eq_true, decide_eq_true_eq, List.all_eq_true, inB_true] at hs
    obtain ⟨h1, h2, h3, _⟩ := hs
    refine ⟨by omega, .inr ⟨rfl, fun p hp => ?_⟩⟩
    have := h3 p hp
    omega
theorem RSF.ne {w : World} {A : Option Addr} {l : List Int} (h : RSF w w.heap.size A l) : ∀ ad, A = some ad → l ≠ [] → ad.block ≠ w.heap.size := by
  intro ad e hl
  rcases h.2 with h2 | ⟨g, cs, hA, hg, _⟩
  · exact absurd h2 hl
  · rw [hA] at e
    cases e
    exact Nat.ne_of_lt hg
theorem RSF.set_far {w : World} {B : Nat} {A : Option Addr} {l : List Int} (h : RSF w B A l) {p : Addr} (hp : ∀ ad, A = some ad → l ≠ [] → ad.block ≠ p.block) (v : Value) : RSF (w.setCell p v) B A l := by
  by_cases hl : l = []
  · subst hl
    exact RSF.nil
  · exact h.far (fun ad e => hp ad e hl) v
theorem RS.set_far {α : Type} {enc : α → List Value} {sz : Nat} {w : World} {B : Nat} {A : Option Addr} {l : List α} (h : RS enc sz w B A l) {p : Addr} (hp : ∀ ad, A = some ad → l ≠ [] → ad.block ≠ p.block) (v : Value) : RS enc sz (w.setCell p v) B A l := by
  by_cases hl : l = []
  · exact .inl hl
  · exact h.far (fun ad e => hp ad e hl) v
theorem RS.ne_size {α : Type} {enc : α → List Value} {sz : Nat} {w : World} {A : Option Addr} {l : List α} (h : RS enc sz w w.heap.size A l) : ∀ ad, A = some ad → l ≠ [] → ad.block ≠ w.heap.size := by
  intro ad e hl
  rcases h with h2 | ⟨b, off, hA, hb, _⟩
  · exact absurd h2 hl
  · rw [hA] at e
    cases e
    exact Nat.ne_of_lt hb
theorem step_append_in {n' : Nat} {P : Program} {w : World} {ops : Array Oper} {o : Oper} {a : Act} {K : Act → World → Prop} {Q : Exit → Act → World → Prop} {E : Prop} (hgd : o.guard = none) (s x : Operand) (t : TypeId)
    (ho : o.op = .call { callee := .builtin .append, args := #[s, x], argTypes := #[t, t] })
    (base : Nat) (e : TypeId) (i : TypeInfo) (z : Value) (size bytes : Nat) (ht : P.underlying t = some (.slice e)) (hi : P.info? e = some i) (hz : i.zero = some z)
    (hsize : i.size = size) (hby : i.bytes = bytes) (hzs : z.cells.size = size) (hsz : 0 < size)
    (v : Value) (n : Nat) (xs : List Value) (hs : a.eval s = v) (hown : w.ownsRow base e size v n xs)
    (ao : Option Addr) (m c : Nat) (news : List Value) (hx : a.eval x = .slice ao m c) (hl : news.length = m * size) (hnone : ao = none → m = 0) (hnews : ∀ ad, ao = some ad → ∀ j u, news[j]? = some u → w.cell? (ad.add j) = some u) (h1 : ∀ u ∈ news, u.oneCell' = true)
    (h63 : n + m ≤ maxLen) (hbytes : (n + m) * bytes ≤ 140737488355328) (hbase : base ≤ w.heap.size)
    (h : ∀ v' w', w'.ownsRow base e size v' (n + m) (xs ++ news) → w.grownBy w' v.ownBlock → (v'.ownBlock = v.ownBlock ∨ v'.ownBlock = some w.heap.size) → K (a.put o.dst v') w') :
    if Region.wanted o (yielded ops a.tmps) = true then Oper.wpIn Fence.wide n' P o a w K Q else E := by
  have hw : Region.wanted o (yielded ops a.tmps) = true := by simp [Region.wanted, hgd]
  rw [if_pos hw]
  have key : ∃ v' w', (Builtin.append_ #[t, t] o.type #[v, .slice ao m c]).run P w = .ok v' w' ∧ w'.ownsRow base e size v' (n + m) (xs ++ news) ∧ w.grownBy w' v.ownBlock ∧ (v'.ownBlock = v.ownBlock ∨ v'.ownBlock = some w.heap.size) := by
    cases ao with
    | some ad =>
      obtain ⟨v', w', hr, h2, h3, _, h5⟩ := run_append_own_at (P := P) w base t o.type e i z size bytes ht hi hz hsize hby hzs hsz v n xs hown ad m c news hl (hnews ad rfl) h1 h63 hbytes hbase
      exact ⟨v', w', hr, h2, h3, h5⟩
    | none =>
      obtain rfl := hnone rfl
      have hnews : news = [] := List.eq_nil_of_length_eq_zero (by simpa using hl)
      subst hnews
      obtain ⟨A, c', rfl, hle, _⟩ := own_slice hown
      exact ⟨_, w, run_append_nothing (P := P) w t t o.type e i ht hi A n c' hle _ (Src.ofNil w ht c), by simpa using hown, World.grownBy.refl _ _, .inl rfl⟩
  obtain ⟨v', w', hr, h2, h3, h4⟩ := key
  refine ⟨fun _ _ => trivial, ?_⟩
  rw [Oper.semAt_eq _ _ _ (fun c => by rw [ho]; exact fun e => by cases e)]
  unfold execOp
  simp only [ho, resolve, invoke, builtin, Sem.run_bind, Sem.run_pure, Result.andThen_ok, List.map_toArray, List.map_cons, List.map_nil, hs, hx, hr]
  exact h v' w' h2 h3 h4
theorem cell_keptE {W W' : World} {E : Nat} {t : TypeId} (hk : Blk W E t #[]) (hg : W.grownBy W' (some E)) {b o : Nat} {v : Value} (h : W.cell? ⟨b, o, none⟩ = some v) : W'.cell? ⟨b, o, none⟩ = some v := by
  have hne : b ≠ E := by
    rintro rfl
    rw [hk.cell] at h
    simp at h
  rw [World.cell?_of_block (hg.block b (World.block_lt_of_cell? W _ h) (fun e => hne (Option.some.inj e)))]
  exact h
theorem RS.keptE {α : Type} {enc : α → List Value} {sz B : Nat} {W W' : World} {E : Nat} {t : TypeId} {A : Option Addr} {l : List α} (h : RS enc sz W B A l) (hk : Blk W E t #[]) (hg : W.grownBy W' (some E)) : RS enc sz W' B A l := by
  rcases h with rfl | ⟨b, off, hA, hb, hc⟩
  · exact .inl rfl
  · exact .inr ⟨b, off, hA, hb, fun k x hx j v hv => cell_keptE hk hg (hc k x hx j v hv)⟩
theorem RH.keptE {B : Nat} {W W' : World} {E : Nat} {ty : TypeId} {A : Option Addr} {t : List Head} (h : RH W B A t) (hk : Blk W E ty #[]) (hg : W.grownBy W' (some E)) : RH W' B A t := by
  rcases h with rfl | ⟨b, off, hA, hb, hc⟩
  · exact .inl rfl
  · refine .inr ⟨b, off, hA, hb, fun k x hx => ?_⟩
    obtain ⟨A', c', x0, x1, x2, g1, g2, g3⟩ := hc k x hx
    exact ⟨A', c', cell_keptE hk hg x0, cell_keptE hk hg x1, cell_keptE hk hg x2, g1, g2, g3.keptE hk hg⟩
theorem below_grownE {B : Nat} {w W W' : World} {E : Nat} {t : TypeId} (h : Below B w W) (_hk : Blk W E t #[]) (hE : B ≤ E) (hB : B ≤ W.heap.size) (hg : W.grownBy W' (some E)) : Below B w W' := h.grown hg hB (fun k e => by cases e; exact hE)
/-- A balance is stored into a block that holds one already. -/
theorem box_put {w1 w5 : World} {X : Nat} {A5 : Option Addr} {ps : List Int} {wh : Int} {c5 : Nat} {o0 o1 : Value} (hb : Blk w5 X 55 #[o0, o1]) (hrb : RS encI 1 w5 w5.heap.size A5 ps) (hfr : ∀ ad, A5 = some ad → ps ≠ [] → ad.block ≠ X) (hB : Below w1.heap.size w1 w5) (hX : w1.heap.size ≤ X) :
    Blk ((w5.setCell ⟨X, 0, none⟩ (.int .i64 wh)).setCell ⟨X, 1, none⟩ (.slice A5 ps.length c5)) X 55 #[.int .i64 wh, .slice A5 ps.length c5] ∧
    RS encI 1 ((w5.setCell ⟨X, 0, none⟩ (.int .i64 wh)).setCell ⟨X, 1, none⟩ (.slice A5 ps.length c5)) ((w5.setCell ⟨X, 0, none⟩ (.int .i64 wh)).setCell ⟨X, 1, none⟩ (.slice A5 ps.length c5)).heap.size A5 ps ∧
    Below w1.heap.size w1 ((w5.setCell ⟨X, 0, none⟩ (.int .i64 wh)).setCell ⟨X, 1, none⟩ (.slice A5 ps.length c5)) := by
  refine ⟨?_, ?_, ?_⟩
  · have := (hb.set_ 0 (.int .i64 wh)).set_ 1 (.slice A5 ps.length c5)
    simpa using this
  · exact ((RS.set_far hrb (p := ⟨X, 0, none⟩) hfr _).set_far (p := ⟨X, 1, none⟩) hfr _).more (by simp)
  · exact (hB.setCell (p := ⟨X, 0, none⟩) (by dsimp only; omega) _).setCell (p := ⟨X, 1, none⟩) (by dsimp only; omega) _
/-- One part of the row is stored. -/
theorem RS.put {w : World} {g : Nat} {cs : Array Value} {l : List Int} (h : RS encI 1 w w.heap.size (some ⟨g, 0, none⟩) l) (hk : Blk w g 3 cs) {k : Nat} (hkl : k < l.length) (v : Int) :
    RS encI 1 (w.setCell ⟨g, k, none⟩ (.int .i64 v)) (w.setCell ⟨g, k, none⟩ (.int .i64 v)).heap.size (some ⟨g, 0, none⟩) (l.set k v) := by
  have hcs : ∀ (i : Nat) (x : Int), l[i]? = some x → cs[i]? = some (.int .i64 x) := by
    intro i x hx
    obtain ⟨b, off, e, _, hc⟩ := h.at_ hx
    cases e
    have := hc 0 _ rfl
    rw [← hk.cell]
    simpa using this
  refine .inr ⟨g, 0, rfl, by simpa using hk.lt, fun i x hx j u hu => ?_⟩
  have hS := hk.set_ k (.int .i64 v)
  have hj : j = 0 := by
    rcases j with _ | j
    · rfl
    · simp [encI] at hu
  subst hj
  simp only [encI, List.getElem?_cons_zero, Option.some.injEq] at hu
  subst hu
  rw [show (⟨g, 0 + i * 1 + 0, none⟩ : Addr) = ⟨g, i, none⟩ by simp, hS.cell]
  by_cases hik : i = k
  · subst hik
    rw [List.getElem?_set_self hkl] at hx
    cases hx
    obtain ⟨y, hy⟩ := getElem?_lt hkl
    have hlt : i < cs.size := by
      have := hcs i y hy
      rcases Nat.lt_or_ge i cs.size with h1 | h1
      · exact h1
      · rw [Array.getElem?_eq_none h1] at this
        cases this
    simp [hlt]
  · rw [List.getElem?_set_ne (Ne.symm hik)] at hx
    rw [Array.getElem?_setIfInBounds_ne (Ne.symm hik)]
    exact hcs i x hx
theorem proves_both (l : List Tst) (t : List Head) (head : Int) (push way : Vec) (whx : Int) (psx : List Int) (hlm : l.length ≤ maxLen) (htm : t.length ≤ maxLen) (hpm : psx.length ≤ maxLen) :
    ∃ bw bb : Bool, (∀ (A : Option Addr) (c : Nat) (A' : Option Addr) (c' : Nat) (A3 : Option Addr) (c3 : Nat) (w : World), RS encT 4 w w.heap.size A l → RH w w.heap.size A' t → RS encI 1 w w.heap.size A3 psx →
        Calls Try.prog 31 #[.slice A l.length c, .slice A' t.length c', .int .i64 head, .agg #[.int .i64 push.x, .int .i64 push.y], .agg #[.int .i64 whx, .slice A3 psx.length c3]] w fun e w' => e = .returned (.bool bb) ∧ Below w.heap.size w w') ∧
      (∀ (A : Option Addr) (c : Nat) (A' : Option Addr) (c' : Nat) (w : World), RS encT 4 w w.heap.size A l → RH w w.heap.size A' t →
        Calls Try.prog 32 #[.slice A l.length c, .slice A' t.length c', .int .i64 head, .agg #[.int .i64 push.x, .int .i64 push.y], .agg #[.int .i64 way.x, .int .i64 way.y]] w fun e w' => e = .returned (.bool bw) ∧ Below w.heap.size w w') ∧
      ((headE l t head push.corner ≠ 0 ∧ bw = false ∧ bb = false) ∨ (headE l t head push.corner = 0 ∧ ∃ (k : Nat) (x : Head) (f : List Vec), head = k ∧ t[k]? = some x ∧ forcesM l x = f ∧ bw = (inB way.x (-1000000) 1000000 && (inB way.y (-1000000) 1000000 && weakInB f (push.times x.area) way)) ∧ bb = balByB (push.times x.area) f whx psx)) := by
  by_cases h : headE l t head push.corner = 0
  · obtain ⟨k, x, rfl, hx⟩ := headE_get h
    refine ⟨_, _, fun A c A' c' A3 c3 w h1 h2 h3 => ProveBalance_ok A c l A' c' t k x hx push whx A3 c3 psx _ rfl w h1 hlm h2 htm h3 hpm h, fun A c A' c' w h1 h2 => ?_, .inr ⟨h, k, x, _, rfl, hx, rfl, rfl, rfl⟩⟩
    have := ProveWeak_ok A c l A' c' t k x hx push way _ rfl w h1 hlm h2 htm h
    rw [show (way.insideB 1000000 && weakInB (forcesM l x) (push.times x.area) way) = (inB way.x (-1000000) 1000000 && (inB way.y (-1000000) 1000000 && weakInB (forcesM l x) (push.times x.area) way)) by simp [Vec.insideB, Bool.and_assoc]] at this
    exact this
  · exact ⟨false, false, fun A c A' c' A3 c3 w h1 h2 _ => ProveBalance_bad A c l A' c' t head push whx A3 c3 psx _ h w h1 hlm h2 htm rfl, fun A c A' c' w h1 h2 => ProveWeak_bad A c l A' c' t head push way _ h w h1 hlm h2 htm rfl, .inl ⟨h, rfl, rfl⟩⟩
theorem refForces_own (A : Option Addr) (c : Nat) (l : List Tst) (A' : Option Addr) (c' : Nat) (h : Head) (w : World) (hr : RS encT 4 w w.heap.size A l) (hl : l.length ≤ maxLen) (hok : ∀ x ∈ l, x.ok = true) (hh : h.ok = true) (hg : RS encG 5 w w.heap.size A' h.guys) :
    Calls Try.prog 27 #[.slice A l.length c, .agg #[.int .i64 h.area, .int .i64 h.bears, .slice A' h.guys.length c']] w fun e w' => ∃ A1 c1, e = .returned (.slice A1 h.guys.length c1) ∧ RS encV 2 w' w'.heap.size A1 (forcesM l h) ∧ (∀ ad, A1 = some ad → w.heap.size ≤ ad.block) ∧ Below w.heap.size w w' := by
  obtain ⟨i0, hi0, hz0, hz1, hz2⟩ := info_parts infoV
  have hgl := Head.guys_le hh
  have Hgs := Lib.hid (Head.guys_ok hh)
  have Hok := Lib.hid hok
  clear hh hok
  go_enter Try.func27, Try.ntmps27
  go_wp2
  go_loopw [5, 6] (fun v i wr => ∃ k : Nat, k ≤ h.guys.length ∧ i = .int .i64 k ∧ wr.ownsRow (w.heap.size + 1) 49 2 v k (((forcesM l h).take k).flatMap encV) ∧ Below (w.heap.size + 1) (w.alloc (.cells #[.int .i64 h.area, .int .i64 h.bears, .slice A' h.guys.length c'] 64)) wr) (fun _ i _ => h.guys.length - (intOf i).toNat)
  case atStart => exact ⟨0, Nat.zero_le _, rfl, World.ownsRow_nil _ _ _ _, Below.refl _ _⟩
  case round =>
    obtain ⟨k, hk, rfl, hown, hB⟩ := hrel
    have hB0 : Below w.heap.size w wr := ((Below.refl w.heap.size w).alloc (Nat.le_refl _) _).trans (hB.mono (by omega))
    have hK := (Blk.new w 64 #[.int .i64 h.area, .int .i64 h.bears, .slice A' h.guys.length c']).below hB (by omega)
    have k2 := hK.cell 2
    have kz := hK.lt
    simp at k2
    by_cases hlt : k < h.guys.length
    · obtain ⟨g, hgk⟩ := getElem?_lt hlt
      have gok := Hgs.out g (List.mem_of_getElem? hgk)
      have gb := force_vb Hok.out gok
      obtain ⟨b, off, rfl, hb, hc⟩ := (hg.below hB0 (Nat.le_refl _)).at_ hgk
      have c0 := hc 0 _ rfl
      have c1 := hc 1 _ rfl
      have c2 := hc 2 _ rfl
      have c3 := hc 3 _ rfl
      have c4 := hc 4 _ rfl
      simp only [Nat.add_zero] at c0
      have hrr := (hr.below hB0 (Nat.le_refl _)).more hB0.size
      have Hgk := Lib.hid hgk
      have HF : Hid ((forcesM l h)[k]? = some (g.force l)) := by
        show (h.guys.map (Guy.force l))[k]? = _
        rw [List.getElem?_map, hgk]; rfl
      clear hgk hc hg hr
      go_wp2_with (go_at_call 56; refine (refPart_any _ _ _ _ _ hrr hl Hok.out gok).mono ?_; rintro e w1 ⟨rfl, hb1⟩; obtain ⟨hc1, hf1⟩ := bcell hb1)
      have gb1 := gb.1
      have gb2 := gb.2
      simp only [Guy.force] at gb1 gb2
      have n1 : IntKind.i64.wrap (g.part l * g.x) = g.part l * g.x := IntWalk.i64_in _ (by omega)
      have n2 : IntKind.i64.wrap (g.part l * g.y) = g.part l * g.y := IntWalk.i64_in _ (by omega)
      have hown1 := own_below hown hb1
      have hB1 := hB.trans (hb1.mono kz)
      have hz1' : w.heap.size + 1 ≤ w1.heap.size := by have := hb1.size; omega
      have hbw : b < w.heap.size + 1 := by omega
      have hbr : b < wr.heap.size := by omega
      refine name_world (motive := fun W => Code.wp _ _ _ _ W) _ ?_
      intro W0 hW
      have hWc := hW.cell
      have hBW : w.heap.size + 1 ≤ W0.heap.size := by rw [hW.size]; exact hz1'
      have hownW : W0.ownsRow (w.heap.size + 1) 49 2 u5 k (((forcesM l h).take k).flatMap encV) := by rw [hW.eq.out]; exact hown1
      have hkl : k < 8 := by omega
      go_region_held3 (fun w' => (∀ b o, b < w.heap.size + 1 → w'.cell? ⟨b, o, none⟩ = W0.cell? ⟨b, o, none⟩) ∧ Below (w.heap.size + 1) W0 w') (first | exact shB_refl _ _ | exact shB_of (by assumption) | exact shB_first _ hBW _ | exact shB_alloc (by assumption) hBW _)
        (first | ((refine step_append_lies _ (by rfl) _ _ _ (by rfl) (w.heap.size + 1) 49 i0 _ 2 16 Try.underlying25 hi0 hz0 hz1 hz2 rfl (by omega) u5 k _ (by rfl) ((hownW).alloc _).drew ⟨W0.heap.size, 0, none⟩ 1 1 [.int .i64 (g.part l * g.x), .int .i64 (g.part l * g.y)] (by rfl) (by rfl) (World.news_of_block (cs := #[.int .i64 (g.part l * g.x), .int .i64 (g.part l * g.y)]) (t := 49) (fr := (0, 0)) (heap_alloc_new W0 _)) (by simp [Value.oneCell']) (by omega) (by unfold maxLen; omega) (by omega) (by simp; omega) (W0.heap.size + 1) (by simp) ?_); intro gg cap w2 hown2 hgrow2 hat hlt2; have hB2 : Below (w.heap.size + 1) W0 w2 := app_below (((Below.refl _ W0).alloc hBW _).drew) (by simp; omega) ((hownW).alloc _).drew hgrow2))
      go_wp2
      refine ⟨⟨k + 1, by omega, by go_num, ?_, (hW.below hB1).trans hB2⟩, by simp [intOf]; omega⟩
      rw [flat_snoc HF.out]
      exact hown2
    · go_wp2
      obtain ⟨A1, c1, rfl, _⟩ := own_slice hown
      have hfr : ∀ ad, A1 = some ad → w.heap.size ≤ ad.block := fun ad e => by subst e; have := own_base hown ad.block (by simp [Value.ownBlock]); omega
      obtain rfl : k = h.guys.length := by omega
      go_ret
      rw [List.take_of_length_le (by rw [forcesM_length]; omega)] at hown
      exact ⟨A1, c1, rfl, RS.of_own (enc := encV) (sz := 2) (fun _ => rfl) hown forcesM_length.symm, hfr, hB0⟩
end Go.Proofs.Ytibaindlbpfecaa
