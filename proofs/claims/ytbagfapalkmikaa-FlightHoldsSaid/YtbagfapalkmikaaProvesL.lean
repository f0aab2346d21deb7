import Derived.Test.YtbagfapalkmikaaSureAt
import Derived.Test.YtbagfapalkmikaaProveW
import Derived.Test.YtbagfapalkmikaaAppF
import Derived.Test.YtbagfapalkmikaaConvF
import Derived.Test.YtbagfapalkmikaaPick

/- What ProveWindow accepts is as the document says. -/
namespace Go.Proofs.Ytbagfapalkmikaa
open Go.RowKit Go.Shelf
theorem RS.past_empty {α : Type} {enc : α → List Value} {sz : Nat} (hs : ∀ x, (enc x).length = sz) (hsz : 0 < sz) {w w' : World} {B g : Nat} {t : TypeId} {A : Option Addr} {l : List α} (h : RS enc sz w B A l) (hB : B ≤ w.heap.size) (hk : Blk w g t #[]) (hg : w.grownBy w' (some g)) : RS enc sz w' w'.heap.size A l := by
  rcases h with rfl | ⟨b, off, rfl, hlt, hc⟩
  · exact .inl rfl
  · cases l with
    | nil => exact .inl rfl
    | cons x0 l =>
      have hne : b ≠ g := by
        rintro rfl
        obtain ⟨u, hu⟩ : ∃ u, (enc x0)[0]? = some u := getElem?_lt (by rw [hs]; exact hsz)
        have h1 := hc 0 x0 rfl 0 u hu
        rw [hk.cell] at h1
        simp at h1
      have hsz2 := hg.size
      exact .inr ⟨b, off, rfl, by omega, fun k x hk' j v hv => (World.cell?_of_block (hg.block b (by omega) (by intro e; exact hne (by simpa using e)))).trans (hc k x hk' j v hv)⟩
def pvR (f : Flt) (a b : Int) : Bool := f.ok && (inB a 0 6000 && inB b a 6000)
theorem pvR_iff {f : Flt} {a b : Int} : pvR f a b = true ↔ f.ok = true ∧ (0 ≤ a ∧ a ≤ 6000) ∧ a ≤ b ∧ b ≤ 6000 := by simp [pvR, inB_true]
/-- Is each of the first k numbers a tick at which the catch is sure? -/
def pvTo (f : Flt) (a : Int) (l : List Int) (k : Nat) : Bool := (List.range k).all fun i => match l[i]? with | some x => inB x 0 10000 && decide (x ∈ ints (sureL f (a.toNat + i))) | none => true
theorem pvTo_succ {f : Flt} {a : Int} {l : List Int} {k : Nat} {x : Int} (h : l[k]? = some x) : pvTo f a l (k + 1) = (pvTo f a l k && (inB x 0 10000 && decide (x ∈ ints (sureL f (a.toNat + k))))) := by
  unfold pvTo
  rw [List.range_succ, List.all_append]
  simp [h]
theorem pvTo_false {f : Flt} {a : Int} {l : List Int} {k n : Nat} (hk : k ≤ n) (h : pvTo f a l k = false) : pvTo f a l n = false := by
  rw [Bool.eq_false_iff] at h ⊢
  intro hn
  apply h
  unfold pvTo at hn ⊢
  rw [List.all_eq_true] at hn ⊢
  intro i hi
  exact hn i (by rw [List.mem_range] at hi ⊢; omega)
theorem pvTo_eq {f : Flt} {a : Int} {l : List Int} {k : Nat} (hf : f.ok = true) (ha : a.toNat + k ≤ 6001) : pvTo f a l k = provedB f a.toNat l k := by
  unfold pvTo provedB
  obtain ⟨_, _, _, _, _, _, ⟨l1, l2⟩, ⟨m1, m2⟩, _⟩ := Flt.ok_iff.1 hf
  rw [Bool.eq_iff_iff, List.all_eq_true, List.all_eq_true]
  refine forall_congr' fun i => forall_congr' fun hi => ?_
  rw [List.mem_range] at hi
  cases h : l[i]? with
  | none => simp
  | some x =>
    simp only [Bool.and_eq_true, decide_eq_true_eq]
    constructor
    · exact fun h => h.2
    · intro hm
      refine ⟨?_, hm⟩
      obtain ⟨n, hn, rfl⟩ := mem_ints.1 hm
      obtain ⟨t, rfl, t1, t2, _⟩ := (mem_sure m2 m1 l1).1 hn
      exact inB_true.2 (by omega)
/-- What the document says of a window and a list. -/
def pvW (f : Flt) (a b : Int) (l : List Int) : Bool := (pvR f a b && decide ((l.length : Int) = b - a + 1)) && pvTo f a l l.length
theorem pvW_eq {f : Flt} {a b : Int} {l : List Int} : pwB f a b l = pvW f a b l := by
  unfold pwB pvW pvR winB
  cases hf : f.ok
  · rfl
  cases h1 : inB a 0 6000
  · rfl
  obtain ⟨a1, a2⟩ := inB_true.1 h1
  have h2 : (inB b 0 6000 && decide (a ≤ b)) = inB b a 6000 := by
    rw [Bool.eq_iff_iff]; simp [inB_true]; omega
  rw [h2]
  cases h3 : inB b a 6000
  · rfl
  obtain ⟨b1, b2⟩ := inB_true.1 h3
  by_cases h4 : (l.length : Int) = b - a + 1
  · rw [decide_eq_true h4, pvTo_eq hf (by omega)]
    simp
  · rw [decide_eq_false h4]; rfl

set_option linter.unusedSimpArgs false in
set_option maxRecDepth 100000 in
set_option maxHeartbeats 32000000 in
theorem proves_ok (f : Flt) (A Ac : Option Addr) (c cc : Nat) (a b : Int) (cs : List Int) (own : Bool) (at_ by_ : Int) (w : World) (hr : RS encB 4 w w.heap.size A f.cycle) (hfew : f.cycle.length ≤ 700) (hcs : RS encI 1 w w.heap.size Ac cs) (hcl : cs.length ≤ 400) (hat : 0 ≤ at_ ∧ at_ ≤ 255) :
    Calls Try.prog 8 #[.agg #[.int .i64 f.fly.pos.x.lo, .int .i64 f.fly.pos.x.hi, .int .i64 f.fly.pos.z.lo, .int .i64 f.fly.pos.z.hi, .int .i64 f.fly.speed.x.lo, .int .i64 f.fly.speed.x.hi, .int .i64 f.fly.speed.z.lo, .int .i64 f.fly.speed.z.hi, .int .i64 f.fly.mass, .slice A f.cycle.length c, .int .i64 f.reach, .int .i64 f.soft, .int .i64 f.bears, .int .i64 f.least, .int .i64 f.most], .agg #[.int .i64 a, .int .i64 b], .slice Ac cs.length cc, .bool own, .int .u8 at_, .int .i64 by_] w fun e w' => e = .returned (.bool true) ∧ Below w.heap.size w w' := by
  obtain ⟨i0, hi0, hz0, hz1, hz2⟩ := info_parts infoI
  have hB0 := ((Below.refl w.heap.size w).alloc (Nat.le_refl _) (.cells #[.int .i64 f.fly.pos.x.lo, .int .i64 f.fly.pos.x.hi, .int .i64 f.fly.pos.z.lo, .int .i64 f.fly.pos.z.hi, .int .i64 f.fly.speed.x.lo, .int .i64 f.fly.speed.x.hi, .int .i64 f.fly.speed.z.lo, .int .i64 f.fly.speed.z.hi, .int .i64 f.fly.mass, .slice A f.cycle.length c, .int .i64 f.reach, .int .i64 f.soft, .int .i64 f.bears, .int .i64 f.least, .int .i64 f.most] 32)).alloc (by simp) (.cells #[.int .i64 a, .int .i64 b] 88)
  have kF0 := (Blk.new w 32 #[.int .i64 f.fly.pos.x.lo, .int .i64 f.fly.pos.x.hi, .int .i64 f.fly.pos.z.lo, .int .i64 f.fly.pos.z.hi, .int .i64 f.fly.speed.x.lo, .int .i64 f.fly.speed.x.hi, .int .i64 f.fly.speed.z.lo, .int .i64 f.fly.speed.z.hi, .int .i64 f.fly.mass, .slice A f.cycle.length c, .int .i64 f.reach, .int .i64 f.soft, .int .i64 f.bears, .int .i64 f.least, .int .i64 f.most]).alloc (.cells #[.int .i64 a, .int .i64 b] 88)
  have kW0 := Blk.new (w.alloc (.cells #[.int .i64 f.fly.pos.x.lo, .int .i64 f.fly.pos.x.hi, .int .i64 f.fly.pos.z.lo, .int .i64 f.fly.pos.z.hi, .int .i64 f.fly.speed.x.lo, .int .i64 f.fly.speed.x.hi, .int .i64 f.fly.speed.z.lo, .int .i64 f.fly.speed.z.hi, .int .i64 f.fly.mass, .slice A f.cycle.length c, .int .i64 f.reach, .int .i64 f.soft, .int .i64 f.bears, .int .i64 f.least, .int .i64 f.most] 32)) 88 #[.int .i64 a, .int .i64 b]
  simp only [World.size_alloc] at kW0
  have hR00 := hr.to hB0
  have hL00 := hcs.to hB0
  have HFEW : Hid (∀ W : World, Calls Try.prog 14 #[.agg #[.int .i64 f.fly.pos.x.lo, .int .i64 f.fly.pos.x.hi, .int .i64 f.fly.pos.z.lo, .int .i64 f.fly.pos.z.hi, .int .i64 f.fly.speed.x.lo, .int .i64 f.fly.speed.x.hi, .int .i64 f.fly.speed.z.lo, .int .i64 f.fly.speed.z.hi, .int .i64 f.fly.mass, .slice A f.cycle.length c, .int .i64 f.reach, .int .i64 f.soft, .int .i64 f.bears, .int .i64 f.least, .int .i64 f.most]] W fun e w' => e = .returned (.bool true) ∧ Below W.heap.size W w') := fun W => by have := few_any f A c W; rw [decide_eq_true hfew] at this; exact this
  have HFL : Hid (∀ W : World, RS encB 4 W W.heap.size A f.cycle → Calls Try.prog 19 #[.agg #[.int .i64 f.fly.pos.x.lo, .int .i64 f.fly.pos.x.hi, .int .i64 f.fly.pos.z.lo, .int .i64 f.fly.pos.z.hi, .int .i64 f.fly.speed.x.lo, .int .i64 f.fly.speed.x.hi, .int .i64 f.fly.speed.z.lo, .int .i64 f.fly.speed.z.hi, .int .i64 f.fly.mass, .slice A f.cycle.length c, .int .i64 f.reach, .int .i64 f.soft, .int .i64 f.bears, .int .i64 f.least, .int .i64 f.most]] W fun e w' => ∃ (A : Option Addr) (c : Nat), e = .returned (.agg #[.int .i64 f.fly.pos.x.lo, .int .i64 f.fly.pos.x.hi, .int .i64 f.fly.pos.z.lo, .int .i64 f.fly.pos.z.hi, .int .i64 f.fly.speed.x.lo, .int .i64 f.fly.speed.x.hi, .int .i64 f.fly.speed.z.lo, .int .i64 f.fly.speed.z.hi, .int .i64 f.fly.mass, .slice A f.cycle.length c, .int .i64 f.reach, .int .i64 f.soft, .int .i64 f.bears, .int .i64 f.least, .int .i64 f.most]) ∧ RS encB 4 w' w'.heap.size A f.cycle ∧ Below W.heap.size W w') := fun W h => lawFlight_any f A c W h hfew
  have HR : Hid (∀ W : World, RS encB 4 W W.heap.size A f.cycle → Calls Try.prog 22 #[.agg #[.int .i64 f.fly.pos.x.lo, .int .i64 f.fly.pos.x.hi, .int .i64 f.fly.pos.z.lo, .int .i64 f.fly.pos.z.hi, .int .i64 f.fly.speed.x.lo, .int .i64 f.fly.speed.x.hi, .int .i64 f.fly.speed.z.lo, .int .i64 f.fly.speed.z.hi, .int .i64 f.fly.mass, .slice A f.cycle.length c, .int .i64 f.reach, .int .i64 f.soft, .int .i64 f.bears, .int .i64 f.least, .int .i64 f.most]] W fun e w' => e = .returned (.bool f.ok) ∧ Below W.heap.size W w') := fun W h => right_any f A c W h hfew
  have HPW : Hid (∀ (A Al : Option Addr) (c cl : Nat) (l : List Int) (W : World), RS encB 4 W W.heap.size A f.cycle → RS encI 1 W W.heap.size Al l → Calls Try.prog 41 #[.agg #[.int .i64 f.fly.pos.x.lo, .int .i64 f.fly.pos.x.hi, .int .i64 f.fly.pos.z.lo, .int .i64 f.fly.pos.z.hi, .int .i64 f.fly.speed.x.lo, .int .i64 f.fly.speed.x.hi, .int .i64 f.fly.speed.z.lo, .int .i64 f.fly.speed.z.hi, .int .i64 f.fly.mass, .slice A f.cycle.length c, .int .i64 f.reach, .int .i64 f.soft, .int .i64 f.bears, .int .i64 f.least, .int .i64 f.most], .agg #[.int .i64 a, .int .i64 b], .slice Al l.length cl] W fun e w' => e = .returned (.bool (pvW f a b l)) ∧ Below W.heap.size W w') := fun A Al c cl l W h1 h2 => by
    rw [← pvW_eq]
    exact ProveWindow_any f A Al c cl a b l W (by have : (700 : Nat) ≤ maxLen := (by unfold maxLen; omega); omega) h1 h2
  have HSA : Hid (∀ (r : Nat) (x : Int) (W : World), f.ok = true → r ≤ 6000 → 0 ≤ x ∧ x ≤ 10000 → RS encB 4 W W.heap.size A f.cycle → Calls Try.prog 40 #[.agg #[.int .i64 f.fly.pos.x.lo, .int .i64 f.fly.pos.x.hi, .int .i64 f.fly.pos.z.lo, .int .i64 f.fly.pos.z.hi, .int .i64 f.fly.speed.x.lo, .int .i64 f.fly.speed.x.hi, .int .i64 f.fly.speed.z.lo, .int .i64 f.fly.speed.z.hi, .int .i64 f.fly.mass, .slice A f.cycle.length c, .int .i64 f.reach, .int .i64 f.soft, .int .i64 f.bears, .int .i64 f.least, .int .i64 f.most], .int .i64 (r : Int), .int .i64 x] W fun e w' => e = .returned (.bool (decide (x ∈ ints (sureL f r)))) ∧ Below W.heap.size W w') := fun r x W h1 h2 h3 h4 => refSureAt_any f A c r x W h1 h2 h3 h4
  have HCA : Hid (∀ (r : Nat) (W : World), f.ok = true → r ≤ 6000 → RS encB 4 W W.heap.size A f.cycle → Calls Try.prog 39 #[.agg #[.int .i64 f.fly.pos.x.lo, .int .i64 f.fly.pos.x.hi, .int .i64 f.fly.pos.z.lo, .int .i64 f.fly.pos.z.hi, .int .i64 f.fly.speed.x.lo, .int .i64 f.fly.speed.x.hi, .int .i64 f.fly.speed.z.lo, .int .i64 f.fly.speed.z.hi, .int .i64 f.fly.mass, .slice A f.cycle.length c, .int .i64 f.reach, .int .i64 f.soft, .int .i64 f.bears, .int .i64 f.least, .int .i64 f.most], .int .i64 (r : Int)] W fun e w' => ∃ A' c', e = .returned (.slice A' (sureL f r).length c') ∧ RS encI 1 w' w'.heap.size A' (ints (sureL f r)) ∧ Below W.heap.size W w') := fun r W h1 h2 h3 => by
    have := refCatches_any f A c r W h1 h2 h3
    rw [air_sure (Flt.ok_iff.1 h1).2.2.2.2.2.2.2.1.2] at this
    exact this
  clear hr hcs hfew
  have hmx : Try.prog.follows .mixedOrders = true := by kernel_rfl
  go_enter Try.func8, Try.ntmps8
  go_upto_region 1 with fail
  refine name_world (motive := fun W => Code.wp _ _ _ _ W) _ ?_
  intro W0 hW
  have hWc := hW.cell
  have hWz := hW.size
  have hWb := hW.below (hB0)
  have kF := hW.blk kF0
  have kW := hW.blk kW0
  have hR0 := hR00.to (hW.below (Below.refl _ _))
  have hL0 := hL00.to (hW.below (Below.refl _ _))
  have HB0 := Lib.hid hWb
  clear hB0 kF0 kW0 hR00 hL00 hW hWc hWz hWb
  have hX := Below.refl W0.heap.size W0
  have kX := kF
  have x0 := kX.cell 0; have x1 := kX.cell 1; have x2 := kX.cell 2; have x3 := kX.cell 3; have x4 := kX.cell 4; have x5 := kX.cell 5; have x6 := kX.cell 6; have x7 := kX.cell 7; have x8 := kX.cell 8; have x9 := kX.cell 9; have x10 := kX.cell 10; have x11 := kX.cell 11; have x12 := kX.cell 12; have x13 := kX.cell 13; have x14 := kX.cell 14; simp at x0 x1 x2 x3 x4 x5 x6 x7 x8 x9 x10 x11 x12 x13 x14
  go_upto_region 3 with (go_at_call 14; (with_reducible refine (HFEW.out _).mono ?_); rintro e wn ⟨rfl, hb⟩; have hX := sh_next hX hb; clear kX x0 x1 x2 x3 x4 x5 x6 x7 x8 x9 x10 x11 x12 x13 x14; have kX := kF.below hX kF.lt; have x0 := kX.cell 0; have x1 := kX.cell 1; have x2 := kX.cell 2; have x3 := kX.cell 3; have x4 := kX.cell 4; have x5 := kX.cell 5; have x6 := kX.cell 6; have x7 := kX.cell 7; have x8 := kX.cell 8; have x9 := kX.cell 9; have x10 := kX.cell 10; have x11 := kX.cell 11; have x12 := kX.cell 12; have x13 := kX.cell 13; have x14 := kX.cell 14; simp at x0 x1 x2 x3 x4 x5 x6 x7 x8 x9 x10 x11 x12 x13 x14)
  clear x0 x1 x2 x3 x4 x5 x6 x7 x8 x9 x10 x11 x12 x13 x14
  have kF1 := kF.below hX kF.lt
  have kW1 := kW.below hX kW.lt
  have hR1 := hR0.to hX
  have hL1 := hL0.to hX
  have HB1 := Lib.hid (HB0.out.trans (hX.mono HB0.out.size))
  clear kF kW kX hR0 hL0 HB0
  refine name_world (motive := fun W => Code.wp _ _ _ _ W) _ ?_
  intro W0 hW
  have hWc := hW.cell
  have hWz := hW.size
  have hWb := hW.below (hX)
  have kF := hW.blk kF1
  have kW := hW.blk kW1
  have hR0 := hR1.to (hW.below (Below.refl _ _))
  have hL0 := hL1.to (hW.below (Below.refl _ _))
  have HB0 := Lib.hid (HB1.out.trans ((hW.below (Below.refl _ _)).mono HB1.out.size))
  clear kF1 kW1 hR1 hL1 HB1 hW hWc hWz hWb hX
  have hAl := (Below.refl W0.heap.size W0).alloc (Nat.le_refl _) (.cells #[] 3)
  obtain ⟨hnone, hnews⟩ := RS.fresh (sz := 1) (fun _ => rfl) (hL0.to hAl)
  have hownE := own_new_of (Below.refl W0.heap.size W0) 3 1
  go_upto_region 4 with (at_builtin; refine app_list rfl _ _ 78 rfl W0.heap.size 3 i0 _ 1 8 Try.underlying78 hi0 hz0 hz1 hz2 rfl (by decide) (.slice (some ⟨W0.heap.size, 0, none⟩) 0 0) 0 [] rfl hownE Ac cs.length cc (cs.flatMap encI) rfl (intsI_len cs) hnone hnews (intsI_one cs) ?c3 ?c4 ?c5 ?_)
  case c3 => unfold maxLen; omega
  case c4 => omega
  case c5 => simp
  intro v2 w2 hown2 hgrow2
  have hB2 := app_below hAl (by simp) hownE hgrow2
  try rw [Nat.zero_add, List.nil_append] at hown2
  obtain ⟨Al, cl, rfl, _⟩ := own_slice hown2
  have hS2 := RS.of_own (enc := encI) (sz := 1) (fun _ => rfl) hown2 rfl
  have kF1 := kF.below hB2 kF.lt
  have kW1 := kW.below hB2 kW.lt
  have hR1 := hR0.to hB2
  have HB1 := Lib.hid (HB0.out.trans (hB2.mono HB0.out.size))
  clear kF kW hR0 hL0 HB0 hownE hnone hnews hown2 hgrow2 hAl
  go_upto_region 4 with fail
  refine name_world (motive := fun W => Code.wp _ _ _ _ W) _ ?_
  intro W0 hW
  have hWc := hW.cell
  have hWz := hW.size
  have hWb := hW.below (hB2)
  have kF := hW.blk kF1
  have kW := hW.blk kW1
  have hR0 := hR1.to (hW.below (Below.refl _ _))
  have hS0 := hS2.to (hW.below (Below.refl _ _))
  have HB0 := Lib.hid (HB1.out.trans ((hW.below (Below.refl _ _)).mono HB1.out.size))
  clear kF1 kW1 hR1 hS2 HB1 hW hWc hWz hWb hB2
  have HRD : Hid (pvR f a b = (f.ok && (inB a 0 6000 && inB b a 6000))) := rfl
  go_cut [14] (fun s14 wx => s14 = .bool (pvR f a b) ∧ Below W0.heap.size W0 wx)
  case first =>
    have x0 := kF.cell 0; have x1 := kF.cell 1; have x2 := kF.cell 2; have x3 := kF.cell 3; have x4 := kF.cell 4; have x5 := kF.cell 5; have x6 := kF.cell 6; have x7 := kF.cell 7; have x8 := kF.cell 8; have x9 := kF.cell 9; have x10 := kF.cell 10; have x11 := kF.cell 11; have x12 := kF.cell 12; have x13 := kF.cell 13; have x14 := kF.cell 14; simp at x0 x1 x2 x3 x4 x5 x6 x7 x8 x9 x10 x11 x12 x13 x14
    cases hok : f.ok <;> cases h1 : inB a 0 6000 <;> cases h2 : inB b a 6000
    all_goals
      rw [hok] at HR HRD
      rw [h1, h2] at HRD
      have H1 := Lib.hid h1
      have H2 := Lib.hid h2
      clear hok h1 h2
      go_wp2_with (first | (go_at_call 22; (with_reducible refine (HR.out _ hR0).mono ?_); rintro e w1 ⟨rfl, hb1⟩; have kW1 := kW.below hb1 kW.lt; have y0 := kW1.cell 0; have y1 := kW1.cell 1; simp at y0 y1) | (go_at_call 20; (with_reducible refine (in_val H1.out _).mono ?_); rintro e wq ⟨rfl, rfl⟩) | (go_at_call 20; (with_reducible refine (in_val H2.out _).mono ?_); rintro e wq ⟨rfl, rfl⟩))
      go_meet
      exact ⟨by rw [HRD.out]; rfl, hb1⟩
  case rest =>
    obtain ⟨rfl, hX⟩ := hcut
    as_aux_lemma =>
      have kF1 := kF.below hX kF.lt
      have kW1 := kW.below hX kW.lt
      have hR1 := hR0.to hX
      have hS1 := hS0.to hX
      have HB1 := Lib.hid (HB0.out.trans (hX.mono HB0.out.size))
      clear kF kW hR0 hS0 HB0 HR
      go_upto_region 5 with fail
      refine name_world (motive := fun W => Code.wp _ _ _ _ W) _ ?_
      intro W0 hW
      have hWc := hW.cell
      have hWz := hW.size
      have hWb := hW.below (hX)
      have kF := hW.blk kF1
      have kW := hW.blk kW1
      have hR0 := hR1.to (hW.below (Below.refl _ _))
      have hS0 := hS1.to (hW.below (Below.refl _ _))
      have HB0 := Lib.hid (HB1.out.trans ((hW.below (Below.refl _ _)).mono HB1.out.size))
      clear kF1 kW1 hR1 hS1 HB1 hW hWc hWz hWb hX
      obtain ⟨R, hR⟩ : ∃ R, pvR f a b = R := ⟨_, rfl⟩
      have hRf : Hid (R = true → f.ok = true ∧ (0 ≤ a ∧ a ≤ 6000) ∧ a ≤ b ∧ b ≤ 6000) := fun h => pvR_iff.1 (by rw [hR]; exact h)
      have HR := Lib.hid hR
      rw [hR]
      clear hR HRD
      go_cut [56] (fun s56 wx => s56 = .bool (own && (R && decide (b - a ≤ 100))) ∧ wx = W0)
      case first =>
        have y0 := kW.cell 0; have y1 := kW.cell 1; simp at y0 y1
        cases own <;> cases R
        · go_wp2_with fail
          go_meet
          exact ⟨rfl, rfl⟩
        · go_wp2_with fail
          go_meet
          exact ⟨rfl, rfl⟩
        · go_wp2_with fail
          go_meet
          exact ⟨rfl, rfl⟩
        · obtain ⟨_, ⟨a1, a2⟩, ab, b2⟩ := hRf.out rfl
          go_wp2_with fail
          go_meet
          exact ⟨by simp, rfl⟩
      case rest =>
        obtain ⟨rfl, hwc⟩ := hcut
        subst hwc
        obtain ⟨W0, hW0⟩ : ∃ x, x = wc := ⟨_, rfl⟩
        subst hW0
        go_upto_if 56 with fail
        go_cut [13] (fun s13 wx => ∃ (l : List Int) (Al : Option Addr) (cl : Nat), s13 = .slice Al l.length cl ∧ RS encI 1 wx wx.heap.size Al l ∧ l.length ≤ 400 ∧ Below W0.heap.size W0 wx)
        case first =>
          cases hC : (own && (R && decide (b - a ≤ 100)))
          · go_wp2_with fail
            go_meet
            exact ⟨cs, Al, cl, rfl, hS0, hcl, Below.refl _ _⟩
          · simp only [Bool.and_eq_true, decide_eq_true_eq] at hC
            obtain ⟨rfl, rfl, hwide⟩ := hC
            obtain ⟨hok, ⟨a1, a2⟩, ab, b2⟩ := hRf.out rfl
            as_aux_lemma =>
              obtain ⟨p, rfl⟩ : ∃ p : Nat, a = p := ⟨a.toNat, by omega⟩
              obtain ⟨q, rfl⟩ : ∃ q : Nat, b = q := ⟨b.toNat, by omega⟩
              have HCO := Lib.hid hok
              clear hok HR hRf HPW HSA HFL
              have y0 := kW.cell 0; have y1 := kW.cell 1; simp at y0 y1
              go_wp2
              obtain ⟨Wo, hWo⟩ : ∃ x, x = W0 := ⟨_, rfl⟩
              subst hWo
              go_loopw [13, 15] (fun s r wr => ∃ (n : Nat) (v : Value) (l : List Int), p ≤ n ∧ n ≤ q + 1 ∧ r = .int .i64 n ∧ v = s ∧ wr.ownsRow Wo.heap.size 3 1 v l.length (l.flatMap encI) ∧ l.length ≤ n - p ∧ (∀ x ∈ l, 0 ≤ x ∧ x ≤ 10000) ∧ Below Wo.heap.size Wo wr) (fun _ r _ => q + 1 - (intOf r).toNat)
              case atStart => exact ⟨p, _, [], Nat.le_refl _, by omega, rfl, rfl, World.ownsRow_nil _ _ _ _, Nat.zero_le _, by simp, Below.refl _ _⟩
              case round =>
                obtain ⟨n, v, l, hn1, hn2, rfl, rfl, hown, hll, hlx, hB⟩ := hrel
                have HLX := Lib.hid hlx
                clear hlx
                have kFr := kF.below hB kF.lt
                have kWr := kW.below hB kW.lt
                have z0 := kWr.cell 0; have z1 := kWr.cell 1; simp at z0 z1
                by_cases hnq : n ≤ q
                case pos =>
                  have x0 := kFr.cell 0; have x1 := kFr.cell 1; have x2 := kFr.cell 2; have x3 := kFr.cell 3; have x4 := kFr.cell 4; have x5 := kFr.cell 5; have x6 := kFr.cell 6; have x7 := kFr.cell 7; have x8 := kFr.cell 8; have x9 := kFr.cell 9; have x10 := kFr.cell 10; have x11 := kFr.cell 11; have x12 := kFr.cell 12; have x13 := kFr.cell 13; have x14 := kFr.cell 14; simp at x0 x1 x2 x3 x4 x5 x6 x7 x8 x9 x10 x11 x12 x13 x14
                  have HCn : Hid (∀ W : World, RS encB 4 W W.heap.size A f.cycle → Calls Try.prog 39 #[.agg #[.int .i64 f.fly.pos.x.lo, .int .i64 f.fly.pos.x.hi, .int .i64 f.fly.pos.z.lo, .int .i64 f.fly.pos.z.hi, .int .i64 f.fly.speed.x.lo, .int .i64 f.fly.speed.x.hi, .int .i64 f.fly.speed.z.lo, .int .i64 f.fly.speed.z.hi, .int .i64 f.fly.mass, .slice A f.cycle.length c, .int .i64 f.reach, .int .i64 f.soft, .int .i64 f.bears, .int .i64 f.least, .int .i64 f.most], .int .i64 (n : Int)] W fun e w' => ∃ A' c', e = .returned (.slice A' (sureL f n).length c') ∧ RS encI 1 w' w'.heap.size A' (ints (sureL f n)) ∧ Below W.heap.size W w') := fun W h => HCA.out n W HCO.out (by omega) h
                  have hRr := hR0.to hB
                  have hsx : Hid (∀ x ∈ sureL f n, x ≤ n + 300) := fun x h => sure_mem h
                  have hll2 := sureL_len (f := f) (r := n) (Flt.ok_iff.1 HCO.out).2.2.2.2.2.2.2.1.2
                  obtain ⟨la, hla⟩ : ∃ la, sureL f n = la := ⟨_, rfl⟩
                  rw [hla] at HCn hsx hll2
                  clear hla
                  go_upto_region 11 with (go_at_call 39; (with_reducible refine (HCn.out _ hRr).mono ?_); rintro e w1 ⟨A1, c1, rfl, hs1, hb1⟩)
                  have hown1 := own_below hown hb1
                  have hB1 := sh_next hB hb1
                  clear x0 x1 x2 x3 x4 x5 x6 x7 x8 x9 x10 x11 x12 x13 x14
                  by_cases hz : la.length = 0
                  · have hz1 : (la.length : Int) = 0 := by omega
                    go_wp2
                    go_roundw
                    case rel => exact ⟨n + 1, v, l, by omega, by omega, by go_num, rfl, hown1, by omega, HLX.out, hB1⟩
                    case measure => simp [intOf]; omega
                  · obtain ⟨m, hm⟩ : ∃ m, la.length = m + 1 := ⟨la.length - 1, by omega⟩
                    obtain ⟨x, hx⟩ := getElem?_lt (l := la) (k := m) (by omega)
                    have hxb := hsx.out x (List.mem_of_getElem? hx)
                    obtain ⟨q1, o1, rfl, hq1, hc1⟩ := hs1.at_ (ints_get hx)
                    have e1 := hc1 0 _ rfl
                    simp only [Nat.add_zero, Nat.mul_one] at e1
                    have hI1 : (0 : Int) < (la.length : Int) := by omega
                    have hI2 : (la.length : Int) - 1 = (m : Int) := by omega
                    have hI3 : (m : Int) < (la.length : Int) := by omega
                    have hI4 : (0 : Int) ≤ (m : Int) := by omega
                    have hws := hB1.size
                    clear hc1 hs1 hx hm hz
                    go_wp2_with (at_builtin; refine wpList_append_own _ rfl _ _ 78 rfl Wo.heap.size 3 i0 (.int .i64 0) 1 8 Try.underlying78 hi0 hz0 hz1 hz2 rfl (by decide) _ _ _ rfl (hown1.alloc _) ⟨w1.heap.size, 0, none⟩ 1 1 [.int .i64 (x : Int)] rfl rfl ?c1 ?c2 ?c3 ?c4 ?c5 ?_)
                    case c1 => exact cell_one_new _ _ _
                    case c2 => simp [Value.oneCell']
                    case c3 => unfold maxLen; omega
                    case c4 => omega
                    case c5 => simp; omega
                    intro v3 w3 hown3 hgrow3 _
                    have hB3 := app_below (hB1.alloc hB1.size (.cells #[.int .i64 (x : Int)] 3)) (by simp; omega) (hown1.alloc _) hgrow3
                    go_wp2
                    go_roundw
                    case rel =>
                      refine ⟨n + 1, v3, l ++ [(x : Int)], by omega, by omega, by go_num, rfl, ?_, by simp; omega, ?_, hB3⟩
                      · rw [List.length_append, List.flatMap_append]; exact hown3
                      · intro y hy
                        rcases List.mem_append.1 hy with h | h
                        · exact HLX.out y h
                        · simp at h; omega
                    case measure => simp [intOf]; omega
                case neg =>
                  obtain rfl : n = q + 1 := by omega
                  obtain ⟨A3, c3, rfl, _⟩ := own_slice hown
                  have hS3 := RS.of_own (enc := encI) (sz := 1) (fun _ => rfl) hown rfl
                  have hl4 : l.length ≤ 400 := by omega
                  by_cases hz : l.length = 0
                  · have hz1 : (l.length : Int) = 0 := by omega
                    go_wp2_with fail
                    go_meet
                    exact ⟨l, A3, c3, rfl, hS3, hl4, hB⟩
                  · have hI1 : (0 : Int) < (l.length : Int) := by omega
                    cases hby : inB by_ (-500) 500
                    · have HBY := Lib.hid hby
                      clear hby
                      go_wp2_with (go_at_call 20; (with_reducible refine (in_val HBY.out _).mono ?_); rintro e wq ⟨rfl, rfl⟩)
                      go_meet
                      exact ⟨l, A3, c3, rfl, hS3, hl4, hB⟩
                    · obtain ⟨by1, by2⟩ := inB_true.1 hby
                      have HBY := Lib.hid hby
                      obtain ⟨g, cur, rfl, hg, hG, hcur⟩ := own_block hown rfl (by omega)
                      obtain ⟨i, hi⟩ : ∃ i : Nat, at_.tmod (l.length : Int) = i := ⟨(at_.tmod (l.length : Int)).toNat, by
                        rw [Int.tmod_eq_emod_of_nonneg hat.1]
                        have := Int.emod_nonneg at_ (show (l.length : Int) ≠ 0 by omega)
                        omega⟩
                      have hil : i < l.length := by
                        rw [Int.tmod_eq_emod_of_nonneg hat.1] at hi
                        have := Int.emod_lt_of_pos at_ hI1
                        omega
                      obtain ⟨x, hx⟩ := getElem?_lt hil
                      have hxb := HLX.out x (List.mem_of_getElem? hx)
                      have g0 : wr.cell? ⟨g, i, none⟩ = some (.int .i64 x) := (hG.cell i).trans (hcur i x hx)
                      have gf := hG.frozen i
                      have gl := hG.lt
                      have hSt := own_stored hG hcur i (x + by_)
                      have hz1 : ¬ (l.length : Int) = 0 := by omega
                      have hz2 : ((l.length : Int) == 0) = false := by rw [beq_eq_false_iff_ne]; omega
                      have hI3 : (i : Int) < (l.length : Int) := by omega
                      have hI4 : (0 : Int) ≤ (i : Int) := by omega
                      have HCUR := Lib.hid hcur
                      have HST := Lib.hid hSt
                      clear hby hcur hx hSt hS3
                      go_wp2_with (go_at_call 20; (with_reducible refine (in_val HBY.out _).mono ?_); rintro e wq ⟨rfl, rfl⟩)
                      go_meet
                      refine ⟨l.set i (x + by_), some ⟨g, 0, none⟩, c3, by rw [List.length_set], HST.out, by rw [List.length_set]; exact hl4, hB.setCell (p := ⟨g, i, none⟩) hg _⟩
        case rest =>
          obtain ⟨l, Am, cm, rfl, hS1, hl4, hX⟩ := hcut
          as_aux_lemma =>
            have kF1 := kF.below hX kF.lt
            have kW1 := kW.below hX kW.lt
            have hR1 := hR0.to hX
            have HB1 := Lib.hid (HB0.out.trans (hX.mono HB0.out.size))
            clear kF kW hR0 hS0 HB0 HCA
            go_upto_region 15 with fail
            refine name_world (motive := fun W => Code.wp _ _ _ _ W) _ ?_
            intro W0 hW
            have hWc := hW.cell
            have hWz := hW.size
            have hWb := hW.below (hX)
            have kF := hW.blk kF1
            have kW := hW.blk kW1
            have hR0 := hR1.to (hW.below (Below.refl _ _))
            have hS0 := hS1.to (hW.below (Below.refl _ _))
            have HB0 := Lib.hid (HB1.out.trans ((hW.below (Below.refl _ _)).mono HB1.out.size))
            clear kF1 kW1 hR1 hS1 HB1 hW hWc hWz hWb hX
            obtain ⟨P, hP⟩ : ∃ P, pvW f a b l = P := ⟨_, rfl⟩
            have HPD : Hid (P = ((R && decide ((l.length : Int) = b - a + 1)) && pvTo f a l l.length)) := by show _ = _; rw [← hP, ← HR.out]; rfl
            have HPL : Hid (∀ (A Al : Option Addr) (c cl : Nat) (W : World), RS encB 4 W W.heap.size A f.cycle → RS encI 1 W W.heap.size Al l → Calls Try.prog 41 #[.agg #[.int .i64 f.fly.pos.x.lo, .int .i64 f.fly.pos.x.hi, .int .i64 f.fly.pos.z.lo, .int .i64 f.fly.pos.z.hi, .int .i64 f.fly.speed.x.lo, .int .i64 f.fly.speed.x.hi, .int .i64 f.fly.speed.z.lo, .int .i64 f.fly.speed.z.hi, .int .i64 f.fly.mass, .slice A f.cycle.length c, .int .i64 f.reach, .int .i64 f.soft, .int .i64 f.bears, .int .i64 f.least, .int .i64 f.most], .agg #[.int .i64 a, .int .i64 b], .slice Al l.length cl] W fun e w' => e = .returned (.bool P) ∧ Below W.heap.size W w') := fun A Al c cl W h1 h2 => by rw [← hP]; exact HPW.out A Al c cl l W h1 h2
            clear hP HPW
            go_cut [17] (fun s17 wx => s17 = .bool (R && decide ((l.length : Int) = b - a + 1)) ∧ wx = W0)
            case first =>
              have y0 := kW.cell 0; have y1 := kW.cell 1; simp at y0 y1
              cases R
              · go_wp2_with fail
                go_meet
                exact ⟨rfl, rfl⟩
              · obtain ⟨_, ⟨a1, a2⟩, ab, b2⟩ := hRf.out rfl
                go_wp2_with fail
                go_meet
                exact ⟨by first | rfl | simp, rfl⟩
            case rest =>
              obtain ⟨rfl, hwc⟩ := hcut
              subst hwc
              obtain ⟨Wo, hWo⟩ : ∃ x, x = wc := ⟨_, rfl⟩
              subst hWo
              obtain ⟨wt, hwt⟩ : ∃ wt, (R && decide ((l.length : Int) = b - a + 1)) = wt := ⟨_, rfl⟩
              have HWT : Hid (wt = true → R = true) := fun h => by rw [← hwt] at h; exact (Bool.and_eq_true_iff.1 h).1
              have HLW : Hid (wt = true → (l.length : Int) = b - a + 1) := fun h => by rw [← hwt] at h; exact of_decide_eq_true (Bool.and_eq_true_iff.1 h).2
              rw [hwt] at HPD
              rw [hwt]
              clear hwt
              go_wp2
              go_loopw [17, 18] (fun s i wr => ∃ k : Nat, k ≤ l.length ∧ i = .int .i64 k ∧ s = .bool (wt && pvTo f a l k) ∧ Below Wo.heap.size Wo wr) (fun _ i _ => l.length - (intOf i).toNat)
              case atStart => exact ⟨0, Nat.zero_le _, rfl, by simp [pvTo], Below.refl _ _⟩
              case round =>
                obtain ⟨k, hk, rfl, rfl, hB⟩ := hrel
                have kFr := kF.below hB kF.lt
                have kWr := kW.below hB kW.lt
                have hRr := hR0.to hB
                have hSr := hS0.to hB
                obtain ⟨V, hV⟩ : ∃ V, (wt && pvTo f a l k) = V := ⟨_, rfl⟩
                rw [hV]
                by_cases hex : k < l.length ∧ V = true
                case neg =>
                  have hVP : V = P := by
                    rw [HPD.out]
                    by_cases hlt : k < l.length
                    · have hvf : V = false := by cases V; rfl; exact absurd ⟨hlt, rfl⟩ hex
                      rw [hvf] at hV ⊢
                      cases wt
                      · rfl
                      · rw [Bool.true_and] at hV ⊢
                        exact (pvTo_false (by omega) hV).symm
                    · obtain rfl : k = l.length := by omega
                      exact hV.symm
                  subst hVP
                  have hPP : (V == V) = true := by simp
                  clear hV HPD HWT HR hRf HSA
                  by_cases hlt : k < l.length
                  case' pos =>
                    have hvf : V = false := by cases V; rfl; exact absurd ⟨hlt, rfl⟩ hex
                    subst hvf
                    have hkI : (k : Int) < (l.length : Int) := by omega
                    clear hex
                    go_upto_region 20 with fail
                  case' neg =>
                    obtain rfl : k = l.length := by omega
                    clear hex
                    go_upto_region 20 with fail
                  all_goals
                    refine name_world (motive := fun W => Code.wp _ _ _ _ W) _ ?_
                    intro W0 hW
                    have hWc := hW.cell
                    have hWz := hW.size
                    have hWb := hW.below (hB)
                    have kF2 := hW.blk kFr
                    have kW2 := hW.blk kWr
                    have hR2 := hRr.to (hW.below (Below.refl _ _))
                    have hS2 := hSr.to (hW.below (Below.refl _ _))
                    have HB2 := Lib.hid (HB0.out.trans (hWb.mono HB0.out.size))
                    clear kFr kWr hRr hSr hW hWc hWz hWb kF kW hR0 hS0 HB0
                    refine (wpIn_wide (n := 9)).1 ?_
                    have hLast := trivial
                    refine region_rest (S := (fun w' => Blk w' (w.heap.size) 32 #[.int .i64 f.fly.pos.x.lo, .int .i64 f.fly.pos.x.hi, .int .i64 f.fly.pos.z.lo, .int .i64 f.fly.pos.z.hi, .int .i64 f.fly.speed.x.lo, .int .i64 f.fly.speed.x.hi, .int .i64 f.fly.speed.z.lo, .int .i64 f.fly.speed.z.hi, .int .i64 f.fly.mass, .slice A f.cycle.length c, .int .i64 f.reach, .int .i64 f.soft, .int .i64 f.bears, .int .i64 f.least, .int .i64 f.most] ∧ Blk w' (w.heap.size + 1) 88 #[.int .i64 a, .int .i64 b] ∧ Below W0.heap.size W0 w')) hmx ?_ (fun hHeld => ?_)
                    · exact ⟨kF2.drew, kW2.drew, (Below.refl W0.heap.size W0).drew⟩
                    change RestIn _ _ _ _ _ _ _ 17 #[false, false, false, false, false, false, false, false, false, false, false, false, false, false, false, false, false] _ (World.drew _)
                    refine rest_take (i := 0) (v := _) all_wide (noDefers_of (by kernel_rfl)) rfl (by kernel_rfl) (by kernel_rfl) (by kernel_rfl) (fun _ _ _ h => h) (Or.inl ⟨by rfl, by intro w hSw; (obtain ⟨q0, q1, _⟩ := hSw; have q0x0 := q0.cell 0; have q0x1 := q0.cell 1; have q0x2 := q0.cell 2; have q0x3 := q0.cell 3; have q0x4 := q0.cell 4; have q0x5 := q0.cell 5; have q0x6 := q0.cell 6; have q0x7 := q0.cell 7; have q0x8 := q0.cell 8; have q0x9 := q0.cell 9; have q0x10 := q0.cell 10; have q0x11 := q0.cell 11; have q0x12 := q0.cell 12; have q0x13 := q0.cell 13; have q0x14 := q0.cell 14; have q1x0 := q1.cell 0; have q1x1 := q1.cell 1; simp at q0x0 q0x1 q0x2 q0x3 q0x4 q0x5 q0x6 q0x7 q0x8 q0x9 q0x10 q0x11 q0x12 q0x13 q0x14 q1x0 q1x1); go_simp; first | done | with_reducible rfl⟩) hHeld ?_
                    change RestIn _ _ _ _ _ _ _ 16 #[true, false, false, false, false, false, false, false, false, false, false, false, false, false, false, false, false] _ _
                    try simp only [Act.put, List.setIfInBounds_toArray, List.set_cons_zero, List.set_cons_succ, List.getElem_toArray, List.getElem_cons_zero, List.getElem_cons_succ]
                    refine rest_take (i := 2) (v := _) all_wide (noDefers_of (by kernel_rfl)) rfl (by kernel_rfl) (by kernel_rfl) (by kernel_rfl) (fun _ _ _ h => h) (Or.inl ⟨by rfl, by intro w hSw; clear hSw; go_simp; first | done | with_reducible rfl⟩) hHeld ?_
                    change RestIn _ _ _ _ _ _ _ 15 #[true, false, true, false, false, false, false, false, false, false, false, false, false, false, false, false, false] _ _
                    try simp only [Act.put, List.setIfInBounds_toArray, List.set_cons_zero, List.set_cons_succ, List.getElem_toArray, List.getElem_cons_zero, List.getElem_cons_succ]
                    refine rest_take (i := 3) (v := _) all_wide (noDefers_of (by kernel_rfl)) rfl (by kernel_rfl) (by kernel_rfl) (by kernel_rfl) (fun _ _ _ h => h) (Or.inl ⟨by rfl, by intro w hSw; (obtain ⟨q0, q1, _⟩ := hSw; have q0x0 := q0.cell 0; have q0x1 := q0.cell 1; have q0x2 := q0.cell 2; have q0x3 := q0.cell 3; have q0x4 := q0.cell 4; have q0x5 := q0.cell 5; have q0x6 := q0.cell 6; have q0x7 := q0.cell 7; have q0x8 := q0.cell 8; have q0x9 := q0.cell 9; have q0x10 := q0.cell 10; have q0x11 := q0.cell 11; have q0x12 := q0.cell 12; have q0x13 := q0.cell 13; have q0x14 := q0.cell 14; have q1x0 := q1.cell 0; have q1x1 := q1.cell 1; simp at q0x0 q0x1 q0x2 q0x3 q0x4 q0x5 q0x6 q0x7 q0x8 q0x9 q0x10 q0x11 q0x12 q0x13 q0x14 q1x0 q1x1); go_simp; first | done | with_reducible rfl⟩) hHeld ?_
                    change RestIn _ _ _ _ _ _ _ 14 #[true, false, true, true, false, false, false, false, false, false, false, false, false, false, false, false, false] _ _
                    try simp only [Act.put, List.setIfInBounds_toArray, List.set_cons_zero, List.set_cons_succ, List.getElem_toArray, List.getElem_cons_zero, List.getElem_cons_succ]
                    refine rest_take (i := 4) (v := _) all_wide (noDefers_of (by kernel_rfl)) rfl (by kernel_rfl) (by kernel_rfl) (by kernel_rfl) (fun _ _ _ h => h) (Or.inl ⟨by rfl, by intro w hSw; clear hSw; go_simp; first | done | with_reducible rfl⟩) hHeld ?_
                    change RestIn _ _ _ _ _ _ _ 13 #[true, false, true, true, true, false, false, false, false, false, false, false, false, false, false, false, false] _ _
                    try simp only [Act.put, List.setIfInBounds_toArray, List.set_cons_zero, List.set_cons_succ, List.getElem_toArray, List.getElem_cons_zero, List.getElem_cons_succ]
                    refine rest_take (i := 5) (v := _) all_wide (noDefers_of (by kernel_rfl)) rfl (by kernel_rfl) (by kernel_rfl) (by kernel_rfl) (fun _ _ _ h => h) (Or.inl ⟨by rfl, by intro w hSw; (obtain ⟨q0, q1, _⟩ := hSw; have q0x0 := q0.cell 0; have q0x1 := q0.cell 1; have q0x2 := q0.cell 2; have q0x3 := q0.cell 3; have q0x4 := q0.cell 4; have q0x5 := q0.cell 5; have q0x6 := q0.cell 6; have q0x7 := q0.cell 7; have q0x8 := q0.cell 8; have q0x9 := q0.cell 9; have q0x10 := q0.cell 10; have q0x11 := q0.cell 11; have q0x12 := q0.cell 12; have q0x13 := q0.cell 13; have q0x14 := q0.cell 14; have q1x0 := q1.cell 0; have q1x1 := q1.cell 1; simp at q0x0 q0x1 q0x2 q0x3 q0x4 q0x5 q0x6 q0x7 q0x8 q0x9 q0x10 q0x11 q0x12 q0x13 q0x14 q1x0 q1x1); go_simp; first | done | with_reducible rfl⟩) hHeld ?_
                    change RestIn _ _ _ _ _ _ _ 12 #[true, false, true, true, true, true, false, false, false, false, false, false, false, false, false, false, false] _ _
                    try simp only [Act.put, List.setIfInBounds_toArray, List.set_cons_zero, List.set_cons_succ, List.getElem_toArray, List.getElem_cons_zero, List.getElem_cons_succ]
                    refine rest_take (i := 6) (v := _) all_wide (noDefers_of (by kernel_rfl)) rfl (by kernel_rfl) (by kernel_rfl) (by kernel_rfl) (fun _ _ _ h => h) (Or.inl ⟨by rfl, by intro w hSw; clear hSw; go_simp; first | done | with_reducible rfl⟩) hHeld ?_
                    change RestIn _ _ _ _ _ _ _ 11 #[true, false, true, true, true, true, true, false, false, false, false, false, false, false, false, false, false] _ _
                    try simp only [Act.put, List.setIfInBounds_toArray, List.set_cons_zero, List.set_cons_succ, List.getElem_toArray, List.getElem_cons_zero, List.getElem_cons_succ]
                    refine rest_take (i := 8) (v := _) all_wide (noDefers_of (by kernel_rfl)) rfl (by kernel_rfl) (by kernel_rfl) (by kernel_rfl) (fun _ _ _ h => h) (Or.inl ⟨by rfl, by intro w hSw; clear hSw; go_simp; first | done | with_reducible rfl⟩) hHeld ?_
                    change RestIn _ _ _ _ _ _ _ 10 #[true, false, true, true, true, true, true, false, true, false, false, false, false, false, false, false, false] _ _
                    try simp only [Act.put, List.setIfInBounds_toArray, List.set_cons_zero, List.set_cons_succ, List.getElem_toArray, List.getElem_cons_zero, List.getElem_cons_succ]
                    refine rest_take (i := 11) (v := _) all_wide (noDefers_of (by kernel_rfl)) rfl (by kernel_rfl) (by kernel_rfl) (by kernel_rfl) (fun _ _ _ h => h) (Or.inl ⟨by rfl, by intro w hSw; clear hSw; go_simp; first | done | with_reducible rfl⟩) hHeld ?_
                    change RestIn _ _ _ _ _ _ _ 9 #[true, false, true, true, true, true, true, false, true, false, false, true, false, false, false, false, false] _ _
                    try simp only [Act.put, List.setIfInBounds_toArray, List.set_cons_zero, List.set_cons_succ, List.getElem_toArray, List.getElem_cons_zero, List.getElem_cons_succ]
                    refine rest_ready (rs := [1, 7]) (by kernel_rfl) (by simp) ?_
                    refine AllRest.cons rfl (fun K hK => ?_) ?_
                    · have hNow := (hHeld.2.2)
                      clear hLast
                      have hLast := hNow
                      go_simp
                      gi_wp2_with ((refine ⟨trivial, ?_⟩; gi_at_call 19; (with_reducible refine (callsIn_wide.2 (HFL.out _ (hR2.to hNow))).mono ?_); rintro e wn ⟨A2, c2, rfl, hs2, hb⟩))
                      refine hK.out _ _ ?_ (fun hHeld' => ?_)
                      · exact ⟨hHeld.1.below hb hHeld.1.lt, hHeld.2.1.below hb hHeld.2.1.lt, (hHeld.2.2).trans (hb.mono (hHeld.2.2).size)⟩
                      clear hK K
                      change RestIn _ _ _ _ _ _ _ 8 #[true, true, true, true, true, true, true, false, true, false, false, true, false, false, false, false, false] _ _
                      try simp only [Act.put, List.setIfInBounds_toArray, List.set_cons_zero, List.set_cons_succ, List.getElem_toArray, List.getElem_cons_zero, List.getElem_cons_succ]
                      clear hHeld
                      have hHeld := hHeld'
                      clear hHeld'
                      have hNow := (hHeld.2.2)
                      try have hE := own_below hE hb
                      try have kE := kE.below hb kE.lt
                      refine rest_ready (rs := [7]) (by kernel_rfl) (by simp) ?_
                      refine AllRest.cons rfl (fun K hK => ?_) AllRest.nil
                      have kEg := (hHeld.2.2).size
                      have kE := blk_new_of (hHeld.2.2) 3 #[]
                      have hOld := (hHeld.2.2)
                      go_simp
                      refine hK.out _ _ ?_ (fun hHeld' => ?_)
                      · exact (fun (hbel : Below W0.heap.size W0 _) => ⟨kF2.below hbel kF2.lt, kW2.below hbel kW2.lt, hbel⟩) ((hHeld.2.2).alloc (hHeld.2.2).size _)
                      clear hK K
                      change RestIn _ _ _ _ _ _ _ 7 #[true, true, true, true, true, true, true, true, true, false, false, true, false, false, false, false, false] _ _
                      try simp only [Act.put, List.setIfInBounds_toArray, List.set_cons_zero, List.set_cons_succ, List.getElem_toArray, List.getElem_cons_zero, List.getElem_cons_succ]
                      clear hHeld
                      have hHeld := hHeld'
                      clear hHeld'
                      have hNow := (hHeld.2.2)
                      try simp at kEg
                      have hE := own_new_of hOld 3 1
                      try have hs2 := RS.to hs2 (Below.alloc (Below.refl _ _) (Nat.le_refl _) (.cells #[] 3))
                      refine rest_ready (rs := [9]) (by kernel_rfl) (by simp) ?_
                      refine AllRest.cons rfl (fun K hK => ?_) AllRest.nil
                      have hNow := hHeld.2.2
                      try rw [if_pos (by rfl)]
                      refine append_step_any all_wide _ _ 78 rfl _ 3 i0 _ 1 8 Try.underlying78 hi0 hz0 hz1 hz2 rfl (by decide) _ 0 [] rfl hE Am l.length cm (l.flatMap encI) rfl (intsI_len l) (RS.fresh (sz := 1) (fun _ => rfl) (hS2.to hNow)).1 (RS.fresh (sz := 1) (fun _ => rfl) (hS2.to hNow)).2 (intsI_one l) (by unfold maxLen; omega) (by omega) (Nat.le_of_lt kE.lt) ?_
                      intro v3 w3 hown3 hgrow3
                      refine hK.out _ _ ?_ (fun hHeld' => ?_)
                      · exact (fun (hbel : Below W0.heap.size W0 _) => ⟨kF2.below hbel kF2.lt, kW2.below hbel kW2.lt, hbel⟩) (app_belowF hNow hOld.size hNow.size hE hgrow3)
                      clear hK K
                      change RestIn _ _ _ _ _ _ _ 6 #[true, true, true, true, true, true, true, true, true, true, false, true, false, false, false, false, false] _ _
                      try simp only [Act.put, List.setIfInBounds_toArray, List.set_cons_zero, List.set_cons_succ, List.getElem_toArray, List.getElem_cons_zero, List.getElem_cons_succ]
                      clear hHeld
                      have hHeld := hHeld'
                      clear hHeld'
                      have hNow := (hHeld.2.2)
                      have hs2 := RS.past_empty (enc := encB) (sz := 4) (fun _ => rfl) (by decide) hs2 (Nat.le_refl _) kE hgrow3
                      try rw [Nat.zero_add, List.nil_append] at hown3
                      obtain ⟨A5, c5, rfl, _⟩ := own_slice hown3
                      have hS5 := RS.of_own (enc := encI) (sz := 1) (fun _ => rfl) hown3 rfl
                      refine rest_ready (rs := [10]) (by kernel_rfl) (by simp) ?_
                      refine AllRest.cons rfl (fun K hK => ?_) AllRest.nil
                      have hNow := (hHeld.2.2)
                      clear hLast
                      have hLast := hNow
                      go_simp
                      gi_wp2_with ((refine ⟨trivial, ?_⟩; gi_at_call 41; (with_reducible refine (callsIn_wide.2 (HPL.out A2 A5 c2 c5 _ hs2 hS5)).mono ?_); rintro e wn ⟨rfl, hb⟩))
                      refine hK.out _ _ ?_ (fun hHeld' => ?_)
                      · exact ⟨hHeld.1.below hb hHeld.1.lt, hHeld.2.1.below hb hHeld.2.1.lt, (hHeld.2.2).trans (hb.mono (hHeld.2.2).size)⟩
                      clear hK K
                      change RestIn _ _ _ _ _ _ _ 5 #[true, true, true, true, true, true, true, true, true, true, true, true, false, false, false, false, false] _ _
                      try simp only [Act.put, List.setIfInBounds_toArray, List.set_cons_zero, List.set_cons_succ, List.getElem_toArray, List.getElem_cons_zero, List.getElem_cons_succ]
                      clear hHeld
                      have hHeld := hHeld'
                      clear hHeld'
                      have hNow := (hHeld.2.2)
                      try have kE := kE.below hb kE.lt
                      refine rest_take (i := 12) (v := _) all_wide (noDefers_of (by kernel_rfl)) rfl (by kernel_rfl) (by kernel_rfl) (by kernel_rfl) (fun _ _ _ h => h) (Or.inl ⟨by rfl, by intro w hSw; clear hSw; go_simp; first | done | with_reducible rfl⟩) hHeld ?_
                      change RestIn _ _ _ _ _ _ _ 4 #[true, true, true, true, true, true, true, true, true, true, true, true, true, false, false, false, false] _ _
                      try simp only [Act.put, List.setIfInBounds_toArray, List.set_cons_zero, List.set_cons_succ, List.getElem_toArray, List.getElem_cons_zero, List.getElem_cons_succ]
                      refine rest_take (i := 13) (v := _) all_wide (noDefers_of (by kernel_rfl)) rfl (by kernel_rfl) (by kernel_rfl) (by kernel_rfl) (fun _ _ _ h => h) (Or.inl ⟨by rfl, by intro w hSw; clear hSw; go_simp; first | done | with_reducible rfl⟩) hHeld ?_
                      change RestIn _ _ _ _ _ _ _ 3 #[true, true, true, true, true, true, true, true, true, true, true, true, true, true, false, false, false] _ _
                      try simp only [Act.put, List.setIfInBounds_toArray, List.set_cons_zero, List.set_cons_succ, List.getElem_toArray, List.getElem_cons_zero, List.getElem_cons_succ]
                      refine rest_ready (rs := [14]) (by kernel_rfl) (by simp) ?_
                      refine AllRest.cons rfl (fun K hK => ?_) AllRest.nil
                      have hNow := (hHeld.2.2)
                      clear hLast
                      have hLast := hNow
                      go_simp
                      gi_wp2_with ((refine ⟨trivial, ?_⟩; gi_at_call 15; (with_reducible refine (callsIn_wide.2 (wakes_any _)).mono ?_); rintro e wn ⟨rfl, hb⟩))
                      refine hK.out _ _ ?_ (fun hHeld' => ?_)
                      · exact ⟨hHeld.1.below hb hHeld.1.lt, hHeld.2.1.below hb hHeld.2.1.lt, (hHeld.2.2).trans (hb.mono (hHeld.2.2).size)⟩
                      clear hK K
                      change RestIn _ _ _ _ _ _ _ 2 #[true, true, true, true, true, true, true, true, true, true, true, true, true, true, true, false, false] _ _
                      try simp only [Act.put, List.setIfInBounds_toArray, List.set_cons_zero, List.set_cons_succ, List.getElem_toArray, List.getElem_cons_zero, List.getElem_cons_succ]
                      clear hHeld
                      have hHeld := hHeld'
                      clear hHeld'
                      have hNow := (hHeld.2.2)
                      try have kE := kE.below hb kE.lt
                      refine rest_take (i := 15) (v := _) all_wide (noDefers_of (by kernel_rfl)) rfl (by kernel_rfl) (by kernel_rfl) (by kernel_rfl) (fun _ _ _ h => h) (Or.inl ⟨by rfl, by intro w hSw; clear hSw; go_simp; first | done | with_reducible rfl⟩) hHeld ?_
                      change RestIn _ _ _ _ _ _ _ 1 #[true, true, true, true, true, true, true, true, true, true, true, true, true, true, true, true, false] _ _
                      try simp only [Act.put, List.setIfInBounds_toArray, List.set_cons_zero, List.set_cons_succ, List.getElem_toArray, List.getElem_cons_zero, List.getElem_cons_succ]
                      refine rest_take (i := 16) (v := _) all_wide (noDefers_of (by kernel_rfl)) rfl (by kernel_rfl) (by kernel_rfl) (by kernel_rfl) (fun _ _ _ h => h) (Or.inl ⟨by rfl, by intro w hSw; clear hSw; go_simp; first | done | with_reducible rfl⟩) hHeld ?_
                      change RestIn _ _ _ _ _ _ _ 0 #[true, true, true, true, true, true, true, true, true, true, true, true, true, true, true, true, true] _ _
                      try simp only [Act.put, List.setIfInBounds_toArray, List.set_cons_zero, List.set_cons_succ, List.getElem_toArray, List.getElem_cons_zero, List.getElem_cons_succ]
                      refine rest_done (by kernel_rfl) ?_
                      go_wp2
                      go_ret
                      exact ⟨rfl, HB2.out.trans (hNow.mono HB2.out.size)⟩
                    refine AllRest.cons rfl (fun K hK => ?_) ?_
                    · have kEg := (hHeld.2.2).size
                      have kE := blk_new_of (hHeld.2.2) 3 #[]
                      have hOld := (hHeld.2.2)
                      go_simp
                      refine hK.out _ _ ?_ (fun hHeld' => ?_)
                      · exact (fun (hbel : Below W0.heap.size W0 _) => ⟨kF2.below hbel kF2.lt, kW2.below hbel kW2.lt, hbel⟩) ((hHeld.2.2).alloc (hHeld.2.2).size _)
                      clear hK K
                      change RestIn _ _ _ _ _ _ _ 8 #[true, false, true, true, true, true, true, true, true, false, false, true, false, false, false, false, false] _ _
                      try simp only [Act.put, List.setIfInBounds_toArray, List.set_cons_zero, List.set_cons_succ, List.getElem_toArray, List.getElem_cons_zero, List.getElem_cons_succ]
                      clear hHeld
                      have hHeld := hHeld'
                      clear hHeld'
                      have hNow := (hHeld.2.2)
                      try simp at kEg
                      have hE := own_new_of hOld 3 1
                      try have hs2 := RS.to hs2 (Below.alloc (Below.refl _ _) (Nat.le_refl _) (.cells #[] 3))
                      refine rest_ready (rs := [1]) (by kernel_rfl) (by simp) ?_
                      refine AllRest.cons rfl (fun K hK => ?_) AllRest.nil
                      have hNow := (hHeld.2.2)
                      clear hLast
                      have hLast := hNow
                      go_simp
                      gi_wp2_with ((refine ⟨trivial, ?_⟩; gi_at_call 19; (with_reducible refine (callsIn_wide.2 (HFL.out _ (hR2.to hNow))).mono ?_); rintro e wn ⟨A2, c2, rfl, hs2, hb⟩))
                      refine hK.out _ _ ?_ (fun hHeld' => ?_)
                      · exact ⟨hHeld.1.below hb hHeld.1.lt, hHeld.2.1.below hb hHeld.2.1.lt, (hHeld.2.2).trans (hb.mono (hHeld.2.2).size)⟩
                      clear hK K
                      change RestIn _ _ _ _ _ _ _ 7 #[true, true, true, true, true, true, true, true, true, false, false, true, false, false, false, false, false] _ _
                      try simp only [Act.put, List.setIfInBounds_toArray, List.set_cons_zero, List.set_cons_succ, List.getElem_toArray, List.getElem_cons_zero, List.getElem_cons_succ]
                      clear hHeld
                      have hHeld := hHeld'
                      clear hHeld'
                      have hNow := (hHeld.2.2)
                      try have hE := own_below hE hb
                      try have kE := kE.below hb kE.lt
                      refine rest_ready (rs := [9]) (by kernel_rfl) (by simp) ?_
                      refine AllRest.cons rfl (fun K hK => ?_) AllRest.nil
                      have hNow := hHeld.2.2
                      try rw [if_pos (by rfl)]
                      refine append_step_any all_wide _ _ 78 rfl _ 3 i0 _ 1 8 Try.underlying78 hi0 hz0 hz1 hz2 rfl (by decide) _ 0 [] rfl hE Am l.length cm (l.flatMap encI) rfl (intsI_len l) (RS.fresh (sz := 1) (fun _ => rfl) (hS2.to hNow)).1 (RS.fresh (sz := 1) (fun _ => rfl) (hS2.to hNow)).2 (intsI_one l) (by unfold maxLen; omega) (by omega) (Nat.le_of_lt kE.lt) ?_
                      intro v3 w3 hown3 hgrow3
                      refine hK.out _ _ ?_ (fun hHeld' => ?_)
                      · exact (fun (hbel : Below W0.heap.size W0 _) => ⟨kF2.below hbel kF2.lt, kW2.below hbel kW2.lt, hbel⟩) (app_belowF hNow hOld.size hNow.size hE hgrow3)
                      clear hK K
                      change RestIn _ _ _ _ _ _ _ 6 #[true, true, true, true, true, true, true, true, true, true, false, true, false, false, false, false, false] _ _
                      try simp only [Act.put, List.setIfInBounds_toArray, List.set_cons_zero, List.set_cons_succ, List.getElem_toArray, List.getElem_cons_zero, List.getElem_cons_succ]
                      clear hHeld
                      have hHeld := hHeld'
                      clear hHeld'
                      have hNow := (hHeld.2.2)
                      have hs2 := RS.past_empty (enc := encB) (sz := 4) (fun _ => rfl) (by decide) hs2 (Nat.le_refl _) kE hgrow3
                      try rw [Nat.zero_add, List.nil_append] at hown3
                      obtain ⟨A5, c5, rfl, _⟩ := own_slice hown3
                      have hS5 := RS.of_own (enc := encI) (sz := 1) (fun _ => rfl) hown3 rfl
                      refine rest_ready (rs := [10]) (by kernel_rfl) (by simp) ?_
                      refine AllRest.cons rfl (fun K hK => ?_) AllRest.nil
                      have hNow := (hHeld.2.2)
                      clear hLast
                      have hLast := hNow
                      go_simp
                      gi_wp2_with ((refine ⟨trivial, ?_⟩; gi_at_call 41; (with_reducible refine (callsIn_wide.2 (HPL.out A2 A5 c2 c5 _ hs2 hS5)).mono ?_); rintro e wn ⟨rfl, hb⟩))
                      refine hK.out _ _ ?_ (fun hHeld' => ?_)
                      · exact ⟨hHeld.1.below hb hHeld.1.lt, hHeld.2.1.below hb hHeld.2.1.lt, (hHeld.2.2).trans (hb.mono (hHeld.2.2).size)⟩
                      clear hK K
                      change RestIn _ _ _ _ _ _ _ 5 #[true, true, true, true, true, true, true, true, true, true, true, true, false, false, false, false, false] _ _
                      try simp only [Act.put, List.setIfInBounds_toArray, List.set_cons_zero, List.set_cons_succ, List.getElem_toArray, List.getElem_cons_zero, List.getElem_cons_succ]
                      clear hHeld
                      have hHeld := hHeld'
                      clear hHeld'
                      have hNow := (hHeld.2.2)
                      try have kE := kE.below hb kE.lt
                      refine rest_take (i := 12) (v := _) all_wide (noDefers_of (by kernel_rfl)) rfl (by kernel_rfl) (by kernel_rfl) (by kernel_rfl) (fun _ _ _ h => h) (Or.inl ⟨by rfl, by intro w hSw; clear hSw; go_simp; first | done | with_reducible rfl⟩) hHeld ?_
                      change RestIn _ _ _ _ _ _ _ 4 #[true, true, true, true, true, true, true, true, true, true, true, true, true, false, false, false, false] _ _
                      try simp only [Act.put, List.setIfInBounds_toArray, List.set_cons_zero, List.set_cons_succ, List.getElem_toArray, List.getElem_cons_zero, List.getElem_cons_succ]
                      refine rest_take (i := 13) (v := _) all_wide (noDefers_of (by kernel_rfl)) rfl (by kernel_rfl) (by kernel_rfl) (by kernel_rfl) (fun _ _ _ h => h) (Or.inl ⟨by rfl, by intro w hSw; clear hSw; go_simp; first | done | with_reducible rfl⟩) hHeld ?_
                      change RestIn _ _ _ _ _ _ _ 3 #[true, true, true, true, true, true, true, true, true, true, true, true, true, true, false, false, false] _ _
                      try simp only [Act.put, List.setIfInBounds_toArray, List.set_cons_zero, List.set_cons_succ, List.getElem_toArray, List.getElem_cons_zero, List.getElem_cons_succ]
                      refine rest_ready (rs := [14]) (by kernel_rfl) (by simp) ?_
                      refine AllRest.cons rfl (fun K hK => ?_) AllRest.nil
                      have hNow := (hHeld.2.2)
                      clear hLast
                      have hLast := hNow
                      go_simp
                      gi_wp2_with ((refine ⟨trivial, ?_⟩; gi_at_call 15; (with_reducible refine (callsIn_wide.2 (wakes_any _)).mono ?_); rintro e wn ⟨rfl, hb⟩))
                      refine hK.out _ _ ?_ (fun hHeld' => ?_)
                      · exact ⟨hHeld.1.below hb hHeld.1.lt, hHeld.2.1.below hb hHeld.2.1.lt, (hHeld.2.2).trans (hb.mono (hHeld.2.2).size)⟩
                      clear hK K
                      change RestIn _ _ _ _ _ _ _ 2 #[true, true, true, true, true, true, true, true, true, true, true, true, true, true, true, false, false] _ _
                      try simp only [Act.put, List.setIfInBounds_toArray, List.set_cons_zero, List.set_cons_succ, List.getElem_toArray, List.getElem_cons_zero, List.getElem_cons_succ]
                      clear hHeld
                      have hHeld := hHeld'
                      clear hHeld'
                      have hNow := (hHeld.2.2)
                      try have kE := kE.below hb kE.lt
                      refine rest_take (i := 15) (v := _) all_wide (noDefers_of (by kernel_rfl)) rfl (by kernel_rfl) (by kernel_rfl) (by kernel_rfl) (fun _ _ _ h => h) (Or.inl ⟨by rfl, by intro w hSw; clear hSw; go_simp; first | done | with_reducible rfl⟩) hHeld ?_
                      change RestIn _ _ _ _ _ _ _ 1 #[true, true, true, true, true, true, true, true, true, true, true, true, true, true, true, true, false] _ _
                      try simp only [Act.put, List.setIfInBounds_toArray, List.set_cons_zero, List.set_cons_succ, List.getElem_toArray, List.getElem_cons_zero, List.getElem_cons_succ]
                      refine rest_take (i := 16) (v := _) all_wide (noDefers_of (by kernel_rfl)) rfl (by kernel_rfl) (by kernel_rfl) (by kernel_rfl) (fun _ _ _ h => h) (Or.inl ⟨by rfl, by intro w hSw; clear hSw; go_simp; first | done | with_reducible rfl⟩) hHeld ?_
                      change RestIn _ _ _ _ _ _ _ 0 #[true, true, true, true, true, true, true, true, true, true, true, true, true, true, true, true, true] _ _
                      try simp only [Act.put, List.setIfInBounds_toArray, List.set_cons_zero, List.set_cons_succ, List.getElem_toArray, List.getElem_cons_zero, List.getElem_cons_succ]
                      refine rest_done (by kernel_rfl) ?_
                      go_wp2
                      go_ret
                      exact ⟨rfl, HB2.out.trans (hNow.mono HB2.out.size)⟩
                    exact AllRest.nil
                case pos =>
                  obtain ⟨hlt, rfl⟩ := hex
                  obtain ⟨hw1, hw2⟩ := Bool.and_eq_true_iff.1 hV
                  subst hw1
                  obtain ⟨hok, ⟨a1, a2⟩, ab, b2⟩ := hRf.out (HWT.out rfl)
                  obtain ⟨x, hx⟩ := getElem?_lt hlt
                  have HS := Lib.hid (pvTo_succ (f := f) (a := a) hx)
                  rw [hw2] at HS
                  obtain ⟨q1, o1, rfl, hq1, hc1⟩ := hSr.at_ hx
                  have e1 := hc1 0 _ rfl
                  simp only [Nat.add_zero, Nat.mul_one] at e1
                  have hkI : (k : Int) < (l.length : Int) := by omega
                  obtain ⟨p, hp⟩ : ∃ p : Nat, a.toNat = p := ⟨_, rfl⟩
                  rw [hp] at HS
                  obtain ⟨d1, hd1⟩ : ∃ d, inB x 0 10000 = d := ⟨_, rfl⟩
                  obtain ⟨d2, hd2⟩ : ∃ d, decide (x ∈ ints (sureL f (p + k))) = d := ⟨_, rfl⟩
                  have HIN : Hid (∀ W : World, Calls Try.prog 20 #[.int .i64 x, .int .i64 0, .int .i64 10000] W fun e w' => e = .returned (.bool d1) ∧ Below W.heap.size W w') := fun W => (in_val hd1 W).mono fun _ _ ⟨h, hw⟩ => ⟨h, hw ▸ Below.refl _ _⟩
                  have ww : IntKind.i64.wrap (a + (k : Int)) = a + (k : Int) := IntWalk.i64_in _ (by omega)
                  clear hV HPD HPL HFL HR
                  have hpk : p + k ≤ 6400 := by omega
                  go_upto_region 19 with fail
                  refine name_world (motive := fun W => Code.wp _ _ _ _ W) _ ?_
                  intro W0 hW
                  have hWc := hW.cell
                  have hWz := hW.size
                  have hWb := hW.below (hB)
                  have kF2 := hW.blk kFr
                  have kW2 := hW.blk kWr
                  have hR2 := hRr.to (hW.below (Below.refl _ _))
                  have eL := cell_after (hW.below (Below.refl _ _)) e1
                  clear kFr kWr hRr hSr hW hWc hWz kF kW hR0 hS0 e1 hc1
                  rw [hd1, hd2] at HS
                  cases d1
                  · refine (wpIn_wide (n := 9)).1 ?_
                    have hLast := trivial
                    refine region_rest (S := (fun w' => Blk w' (w.heap.size) 32 #[.int .i64 f.fly.pos.x.lo, .int .i64 f.fly.pos.x.hi, .int .i64 f.fly.pos.z.lo, .int .i64 f.fly.pos.z.hi, .int .i64 f.fly.speed.x.lo, .int .i64 f.fly.speed.x.hi, .int .i64 f.fly.speed.z.lo, .int .i64 f.fly.speed.z.hi, .int .i64 f.fly.mass, .slice A f.cycle.length c, .int .i64 f.reach, .int .i64 f.soft, .int .i64 f.bears, .int .i64 f.least, .int .i64 f.most] ∧ Blk w' (w.heap.size + 1) 88 #[.int .i64 a, .int .i64 b] ∧ w'.cell? ⟨q1, o1 + k, none⟩ = some (.int .i64 x) ∧ Below W0.heap.size W0 w')) hmx ?_ (fun hHeld => ?_)
                    · exact ⟨kF2.drew, kW2.drew, eL, (Below.refl W0.heap.size W0).drew⟩
                    change RestIn _ _ _ _ _ _ _ 18 #[false, false, false, false, false, false, false, false, false, false, false, false, false, false, false, false, false, false] _ (World.drew _)
                    refine rest_take (i := 0) (v := _) all_wide (noDefers_of (by kernel_rfl)) rfl (by kernel_rfl) (by kernel_rfl) (by kernel_rfl) (fun _ _ _ h => h) (Or.inl ⟨by rfl, by intro w hSw; clear hSw; go_simp; first | done | with_reducible rfl⟩) hHeld ?_
                    change RestIn _ _ _ _ _ _ _ 17 #[true, false, false, false, false, false, false, false, false, false, false, false, false, false, false, false, false, false] _ _
                    try simp only [Act.put, List.setIfInBounds_toArray, List.set_cons_zero, List.set_cons_succ, List.getElem_toArray, List.getElem_cons_zero, List.getElem_cons_succ]
                    refine rest_take (i := 1) (v := _) all_wide (noDefers_of (by kernel_rfl)) rfl (by kernel_rfl) (by kernel_rfl) (by kernel_rfl) (fun _ _ _ h => h) (Or.inl ⟨by rfl, by intro w hSw; clear hSw; go_simp; first | done | with_reducible rfl⟩) hHeld ?_
                    change RestIn _ _ _ _ _ _ _ 16 #[true, true, false, false, false, false, false, false, false, false, false, false, false, false, false, false, false, false] _ _
                    try simp only [Act.put, List.setIfInBounds_toArray, List.set_cons_zero, List.set_cons_succ, List.getElem_toArray, List.getElem_cons_zero, List.getElem_cons_succ]
                    refine rest_take (i := 2) (v := _) all_wide (noDefers_of (by kernel_rfl)) rfl (by kernel_rfl) (by kernel_rfl) (by kernel_rfl) (fun _ _ _ h => h) (Or.inl ⟨by rfl, by intro w hSw; clear hSw; go_simp; first | done | with_reducible rfl⟩) hHeld ?_
                    change RestIn _ _ _ _ _ _ _ 15 #[true, true, true, false, false, false, false, false, false, false, false, false, false, false, false, false, false, false] _ _
                    try simp only [Act.put, List.setIfInBounds_toArray, List.set_cons_zero, List.set_cons_succ, List.getElem_toArray, List.getElem_cons_zero, List.getElem_cons_succ]
                    refine rest_take (i := 3) (v := _) all_wide (noDefers_of (by kernel_rfl)) rfl (by kernel_rfl) (by kernel_rfl) (by kernel_rfl) (fun _ _ _ h => h) (Or.inl ⟨by rfl, by intro w hSw; (obtain ⟨q0, q1, q2, _⟩ := hSw; have q0x0 := q0.cell 0; have q0x1 := q0.cell 1; have q0x2 := q0.cell 2; have q0x3 := q0.cell 3; have q0x4 := q0.cell 4; have q0x5 := q0.cell 5; have q0x6 := q0.cell 6; have q0x7 := q0.cell 7; have q0x8 := q0.cell 8; have q0x9 := q0.cell 9; have q0x10 := q0.cell 10; have q0x11 := q0.cell 11; have q0x12 := q0.cell 12; have q0x13 := q0.cell 13; have q0x14 := q0.cell 14; have q1x0 := q1.cell 0; have q1x1 := q1.cell 1; simp at q0x0 q0x1 q0x2 q0x3 q0x4 q0x5 q0x6 q0x7 q0x8 q0x9 q0x10 q0x11 q0x12 q0x13 q0x14 q1x0 q1x1); go_simp; first | done | with_reducible rfl⟩) hHeld ?_
                    change RestIn _ _ _ _ _ _ _ 14 #[true, true, true, true, false, false, false, false, false, false, false, false, false, false, false, false, false, false] _ _
                    try simp only [Act.put, List.setIfInBounds_toArray, List.set_cons_zero, List.set_cons_succ, List.getElem_toArray, List.getElem_cons_zero, List.getElem_cons_succ]
                    refine rest_ready (rs := [4]) (by kernel_rfl) (by simp) ?_
                    refine AllRest.cons rfl (fun K hK => ?_) AllRest.nil
                    have hNow := (hHeld.2.2.2)
                    clear hLast
                    have hLast := hNow
                    go_simp
                    gi_wp2_with ((refine ⟨trivial, ?_⟩; gi_at_call 20; (with_reducible refine (callsIn_wide.2 (HIN.out _)).mono ?_); rintro e wn ⟨rfl, hb⟩))
                    refine hK.out _ _ ?_ (fun hHeld' => ?_)
                    · exact ⟨hHeld.1.below hb hHeld.1.lt, hHeld.2.1.below hb hHeld.2.1.lt, cell_after hb hHeld.2.2.1, (hHeld.2.2.2).trans (hb.mono (hHeld.2.2.2).size)⟩
                    clear hK K
                    change RestIn _ _ _ _ _ _ _ 13 #[true, true, true, true, true, false, false, false, false, false, false, false, false, false, false, false, false, false] _ _
                    try simp only [Act.put, List.setIfInBounds_toArray, List.set_cons_zero, List.set_cons_succ, List.getElem_toArray, List.getElem_cons_zero, List.getElem_cons_succ]
                    clear hHeld
                    have hHeld := hHeld'
                    clear hHeld'
                    have hNow := (hHeld.2.2.2)
                    refine rest_take (i := 5) (v := _) all_wide (noDefers_of (by kernel_rfl)) rfl (by kernel_rfl) (by kernel_rfl) (by kernel_rfl) (fun _ _ _ h => h) (Or.inl ⟨by rfl, by intro w hSw; clear hSw; go_simp; first | done | with_reducible rfl⟩) hHeld ?_
                    change RestIn _ _ _ _ _ _ _ 12 #[true, true, true, true, true, true, false, false, false, false, false, false, false, false, false, false, false, false] _ _
                    try simp only [Act.put, List.setIfInBounds_toArray, List.set_cons_zero, List.set_cons_succ, List.getElem_toArray, List.getElem_cons_zero, List.getElem_cons_succ]
                    refine rest_take (i := 6) (v := undef) all_wide (noDefers_of (by kernel_rfl)) rfl (by kernel_rfl) (by kernel_rfl) (by kernel_rfl) (fun _ _ _ h => h) (Or.inr ⟨by rfl, rfl⟩) hHeld ?_
                    change RestIn _ _ _ _ _ _ _ 11 #[true, true, true, true, true, true, true, false, false, false, false, false, false, false, false, false, false, false] _ _
                    try simp only [Act.put, List.setIfInBounds_toArray, List.set_cons_zero, List.set_cons_succ, List.getElem_toArray, List.getElem_cons_zero, List.getElem_cons_succ]
                    refine rest_take (i := 7) (v := undef) all_wide (noDefers_of (by kernel_rfl)) rfl (by kernel_rfl) (by kernel_rfl) (by kernel_rfl) (fun _ _ _ h => h) (Or.inr ⟨by rfl, rfl⟩) hHeld ?_
                    change RestIn _ _ _ _ _ _ _ 10 #[true, true, true, true, true, true, true, true, false, false, false, false, false, false, false, false, false, false] _ _
                    try simp only [Act.put, List.setIfInBounds_toArray, List.set_cons_zero, List.set_cons_succ, List.getElem_toArray, List.getElem_cons_zero, List.getElem_cons_succ]
                    refine rest_take (i := 8) (v := undef) all_wide (noDefers_of (by kernel_rfl)) rfl (by kernel_rfl) (by kernel_rfl) (by kernel_rfl) (fun _ _ _ h => h) (Or.inr ⟨by rfl, rfl⟩) hHeld ?_
                    change RestIn _ _ _ _ _ _ _ 9 #[true, true, true, true, true, true, true, true, true, false, false, false, false, false, false, false, false, false] _ _
                    try simp only [Act.put, List.setIfInBounds_toArray, List.set_cons_zero, List.set_cons_succ, List.getElem_toArray, List.getElem_cons_zero, List.getElem_cons_succ]
                    refine rest_take (i := 9) (v := undef) all_wide (noDefers_of (by kernel_rfl)) rfl (by kernel_rfl) (by kernel_rfl) (by kernel_rfl) (fun _ _ _ h => h) (Or.inr ⟨by rfl, rfl⟩) hHeld ?_
                    change RestIn _ _ _ _ _ _ _ 8 #[true, true, true, true, true, true, true, true, true, true, false, false, false, false, false, false, false, false] _ _
                    try simp only [Act.put, List.setIfInBounds_toArray, List.set_cons_zero, List.set_cons_succ, List.getElem_toArray, List.getElem_cons_zero, List.getElem_cons_succ]
                    refine rest_take (i := 10) (v := undef) all_wide (noDefers_of (by kernel_rfl)) rfl (by kernel_rfl) (by kernel_rfl) (by kernel_rfl) (fun _ _ _ h => h) (Or.inr ⟨by rfl, rfl⟩) hHeld ?_
                    change RestIn _ _ _ _ _ _ _ 7 #[true, true, true, true, true, true, true, true, true, true, true, false, false, false, false, false, false, false] _ _
                    try simp only [Act.put, List.setIfInBounds_toArray, List.set_cons_zero, List.set_cons_succ, List.getElem_toArray, List.getElem_cons_zero, List.getElem_cons_succ]
                    refine rest_take (i := 11) (v := undef) all_wide (noDefers_of (by kernel_rfl)) rfl (by kernel_rfl) (by kernel_rfl) (by kernel_rfl) (fun _ _ _ h => h) (Or.inr ⟨by rfl, rfl⟩) hHeld ?_
                    change RestIn _ _ _ _ _ _ _ 6 #[true, true, true, true, true, true, true, true, true, true, true, true, false, false, false, false, false, false] _ _
                    try simp only [Act.put, List.setIfInBounds_toArray, List.set_cons_zero, List.set_cons_succ, List.getElem_toArray, List.getElem_cons_zero, List.getElem_cons_succ]
                    refine rest_take (i := 12) (v := undef) all_wide (noDefers_of (by kernel_rfl)) rfl (by kernel_rfl) (by kernel_rfl) (by kernel_rfl) (fun _ _ _ h => h) (Or.inr ⟨by rfl, rfl⟩) hHeld ?_
                    change RestIn _ _ _ _ _ _ _ 5 #[true, true, true, true, true, true, true, true, true, true, true, true, true, false, false, false, false, false] _ _
                    try simp only [Act.put, List.setIfInBounds_toArray, List.set_cons_zero, List.set_cons_succ, List.getElem_toArray, List.getElem_cons_zero, List.getElem_cons_succ]
                    refine rest_take (i := 13) (v := undef) all_wide (noDefers_of (by kernel_rfl)) rfl (by kernel_rfl) (by kernel_rfl) (by kernel_rfl) (fun _ _ _ h => h) (Or.inr ⟨by rfl, rfl⟩) hHeld ?_
                    change RestIn _ _ _ _ _ _ _ 4 #[true, true, true, true, true, true, true, true, true, true, true, true, true, true, false, false, false, false] _ _
                    try simp only [Act.put, List.setIfInBounds_toArray, List.set_cons_zero, List.set_cons_succ, List.getElem_toArray, List.getElem_cons_zero, List.getElem_cons_succ]
                    refine rest_take (i := 14) (v := undef) all_wide (noDefers_of (by kernel_rfl)) rfl (by kernel_rfl) (by kernel_rfl) (by kernel_rfl) (fun _ _ _ h => h) (Or.inr ⟨by rfl, rfl⟩) hHeld ?_
                    change RestIn _ _ _ _ _ _ _ 3 #[true, true, true, true, true, true, true, true, true, true, true, true, true, true, true, false, false, false] _ _
                    try simp only [Act.put, List.setIfInBounds_toArray, List.set_cons_zero, List.set_cons_succ, List.getElem_toArray, List.getElem_cons_zero, List.getElem_cons_succ]
                    refine rest_take (i := 15) (v := undef) all_wide (noDefers_of (by kernel_rfl)) rfl (by kernel_rfl) (by kernel_rfl) (by kernel_rfl) (fun _ _ _ h => h) (Or.inr ⟨by rfl, rfl⟩) hHeld ?_
                    change RestIn _ _ _ _ _ _ _ 2 #[true, true, true, true, true, true, true, true, true, true, true, true, true, true, true, true, false, false] _ _
                    try simp only [Act.put, List.setIfInBounds_toArray, List.set_cons_zero, List.set_cons_succ, List.getElem_toArray, List.getElem_cons_zero, List.getElem_cons_succ]
                    refine rest_take (i := 16) (v := _) all_wide (noDefers_of (by kernel_rfl)) rfl (by kernel_rfl) (by kernel_rfl) (by kernel_rfl) (fun _ _ _ h => h) (Or.inl ⟨by rfl, by intro w hSw; clear hSw; go_simp; first | done | with_reducible rfl⟩) hHeld ?_
                    change RestIn _ _ _ _ _ _ _ 1 #[true, true, true, true, true, true, true, true, true, true, true, true, true, true, true, true, true, false] _ _
                    try simp only [Act.put, List.setIfInBounds_toArray, List.set_cons_zero, List.set_cons_succ, List.getElem_toArray, List.getElem_cons_zero, List.getElem_cons_succ]
                    refine rest_take (i := 17) (v := _) all_wide (noDefers_of (by kernel_rfl)) rfl (by kernel_rfl) (by kernel_rfl) (by kernel_rfl) (fun _ _ _ h => h) (Or.inl ⟨by rfl, by intro w hSw; clear hSw; go_simp; first | done | with_reducible rfl⟩) hHeld ?_
                    change RestIn _ _ _ _ _ _ _ 0 #[true, true, true, true, true, true, true, true, true, true, true, true, true, true, true, true, true, true] _ _
                    try simp only [Act.put, List.setIfInBounds_toArray, List.set_cons_zero, List.set_cons_succ, List.getElem_toArray, List.getElem_cons_zero, List.getElem_cons_succ]
                    refine rest_done (by kernel_rfl) ?_
                    go_wp2
                    go_roundw
                    case rel => exact ⟨k + 1, by omega, by go_num, by rw [HS.out]; rfl, hWb.trans (hNow.mono hWb.size)⟩
                    case measure => simp [intOf]; omega
                  · obtain ⟨x1, x2⟩ := inB_true.1 hd1
                    have hpk2 : p + k ≤ 6000 ∨ 6000 < p + k := by omega
                    have HSu : Hid (∀ W : World, RS encB 4 W W.heap.size A f.cycle → Calls Try.prog 40 #[.agg #[.int .i64 f.fly.pos.x.lo, .int .i64 f.fly.pos.x.hi, .int .i64 f.fly.pos.z.lo, .int .i64 f.fly.pos.z.hi, .int .i64 f.fly.speed.x.lo, .int .i64 f.fly.speed.x.hi, .int .i64 f.fly.speed.z.lo, .int .i64 f.fly.speed.z.hi, .int .i64 f.fly.mass, .slice A f.cycle.length c, .int .i64 f.reach, .int .i64 f.soft, .int .i64 f.bears, .int .i64 f.least, .int .i64 f.most], .int .i64 (a + (k : Int)), .int .i64 x] W fun e w' => e = .returned (.bool d2) ∧ Below W.heap.size W w') := fun W h => by
                      have hlw := HLW.out rfl
                      have := HSA.out (p + k) x W hok (by omega) ⟨x1, x2⟩ h
                      rw [hd2, show ((p + k : Nat) : Int) = a + (k : Int) by omega] at this
                      exact this
                    clear HSA hpk2 hd1
                    refine (wpIn_wide (n := 9)).1 ?_
                    have hLast := trivial
                    refine region_rest (S := (fun w' => Blk w' (w.heap.size) 32 #[.int .i64 f.fly.pos.x.lo, .int .i64 f.fly.pos.x.hi, .int .i64 f.fly.pos.z.lo, .int .i64 f.fly.pos.z.hi, .int .i64 f.fly.speed.x.lo, .int .i64 f.fly.speed.x.hi, .int .i64 f.fly.speed.z.lo, .int .i64 f.fly.speed.z.hi, .int .i64 f.fly.mass, .slice A f.cycle.length c, .int .i64 f.reach, .int .i64 f.soft, .int .i64 f.bears, .int .i64 f.least, .int .i64 f.most] ∧ Blk w' (w.heap.size + 1) 88 #[.int .i64 a, .int .i64 b] ∧ w'.cell? ⟨q1, o1 + k, none⟩ = some (.int .i64 x) ∧ Below W0.heap.size W0 w')) hmx ?_ (fun hHeld => ?_)
                    · exact ⟨kF2.drew, kW2.drew, eL, (Below.refl W0.heap.size W0).drew⟩
                    change RestIn _ _ _ _ _ _ _ 18 #[false, false, false, false, false, false, false, false, false, false, false, false, false, false, false, false, false, false] _ (World.drew _)
                    refine rest_take (i := 0) (v := _) all_wide (noDefers_of (by kernel_rfl)) rfl (by kernel_rfl) (by kernel_rfl) (by kernel_rfl) (fun _ _ _ h => h) (Or.inl ⟨by rfl, by intro w hSw; clear hSw; go_simp; first | done | with_reducible rfl⟩) hHeld ?_
                    change RestIn _ _ _ _ _ _ _ 17 #[true, false, false, false, false, false, false, false, false, false, false, false, false, false, false, false, false, false] _ _
                    try simp only [Act.put, List.setIfInBounds_toArray, List.set_cons_zero, List.set_cons_succ, List.getElem_toArray, List.getElem_cons_zero, List.getElem_cons_succ]
                    refine rest_take (i := 1) (v := _) all_wide (noDefers_of (by kernel_rfl)) rfl (by kernel_rfl) (by kernel_rfl) (by kernel_rfl) (fun _ _ _ h => h) (Or.inl ⟨by rfl, by intro w hSw; clear hSw; go_simp; first | done | with_reducible rfl⟩) hHeld ?_
                    change RestIn _ _ _ _ _ _ _ 16 #[true, true, false, false, false, false, false, false, false, false, false, false, false, false, false, false, false, false] _ _
                    try simp only [Act.put, List.setIfInBounds_toArray, List.set_cons_zero, List.set_cons_succ, List.getElem_toArray, List.getElem_cons_zero, List.getElem_cons_succ]
                    refine rest_take (i := 2) (v := _) all_wide (noDefers_of (by kernel_rfl)) rfl (by kernel_rfl) (by kernel_rfl) (by kernel_rfl) (fun _ _ _ h => h) (Or.inl ⟨by rfl, by intro w hSw; clear hSw; go_simp; first | done | with_reducible rfl⟩) hHeld ?_
                    change RestIn _ _ _ _ _ _ _ 15 #[true, true, true, false, false, false, false, false, false, false, false, false, false, false, false, false, false, false] _ _
                    try simp only [Act.put, List.setIfInBounds_toArray, List.set_cons_zero, List.set_cons_succ, List.getElem_toArray, List.getElem_cons_zero, List.getElem_cons_succ]
                    refine rest_take (i := 3) (v := _) all_wide (noDefers_of (by kernel_rfl)) rfl (by kernel_rfl) (by kernel_rfl) (by kernel_rfl) (fun _ _ _ h => h) (Or.inl ⟨by rfl, by intro w hSw; (obtain ⟨q0, q1, q2, _⟩ := hSw; have q0x0 := q0.cell 0; have q0x1 := q0.cell 1; have q0x2 := q0.cell 2; have q0x3 := q0.cell 3; have q0x4 := q0.cell 4; have q0x5 := q0.cell 5; have q0x6 := q0.cell 6; have q0x7 := q0.cell 7; have q0x8 := q0.cell 8; have q0x9 := q0.cell 9; have q0x10 := q0.cell 10; have q0x11 := q0.cell 11; have q0x12 := q0.cell 12; have q0x13 := q0.cell 13; have q0x14 := q0.cell 14; have q1x0 := q1.cell 0; have q1x1 := q1.cell 1; simp at q0x0 q0x1 q0x2 q0x3 q0x4 q0x5 q0x6 q0x7 q0x8 q0x9 q0x10 q0x11 q0x12 q0x13 q0x14 q1x0 q1x1); go_simp; first | done | with_reducible rfl⟩) hHeld ?_
                    change RestIn _ _ _ _ _ _ _ 14 #[true, true, true, true, false, false, false, false, false, false, false, false, false, false, false, false, false, false] _ _
                    try simp only [Act.put, List.setIfInBounds_toArray, List.set_cons_zero, List.set_cons_succ, List.getElem_toArray, List.getElem_cons_zero, List.getElem_cons_succ]
                    refine rest_ready (rs := [4]) (by kernel_rfl) (by simp) ?_
                    refine AllRest.cons rfl (fun K hK => ?_) AllRest.nil
                    have hNow := (hHeld.2.2.2)
                    clear hLast
                    have hLast := hNow
                    go_simp
                    gi_wp2_with ((refine ⟨trivial, ?_⟩; gi_at_call 20; (with_reducible refine (callsIn_wide.2 (HIN.out _)).mono ?_); rintro e wn ⟨rfl, hb⟩))
                    refine hK.out _ _ ?_ (fun hHeld' => ?_)
                    · exact ⟨hHeld.1.below hb hHeld.1.lt, hHeld.2.1.below hb hHeld.2.1.lt, cell_after hb hHeld.2.2.1, (hHeld.2.2.2).trans (hb.mono (hHeld.2.2.2).size)⟩
                    clear hK K
                    change RestIn _ _ _ _ _ _ _ 13 #[true, true, true, true, true, false, false, false, false, false, false, false, false, false, false, false, false, false] _ _
                    try simp only [Act.put, List.setIfInBounds_toArray, List.set_cons_zero, List.set_cons_succ, List.getElem_toArray, List.getElem_cons_zero, List.getElem_cons_succ]
                    clear hHeld
                    have hHeld := hHeld'
                    clear hHeld'
                    have hNow := (hHeld.2.2.2)
                    refine rest_take (i := 5) (v := _) all_wide (noDefers_of (by kernel_rfl)) rfl (by kernel_rfl) (by kernel_rfl) (by kernel_rfl) (fun _ _ _ h => h) (Or.inl ⟨by rfl, by intro w hSw; clear hSw; go_simp; first | done | with_reducible rfl⟩) hHeld ?_
                    change RestIn _ _ _ _ _ _ _ 12 #[true, true, true, true, true, true, false, false, false, false, false, false, false, false, false, false, false, false] _ _
                    try simp only [Act.put, List.setIfInBounds_toArray, List.set_cons_zero, List.set_cons_succ, List.getElem_toArray, List.getElem_cons_zero, List.getElem_cons_succ]
                    refine rest_take (i := 6) (v := _) all_wide (noDefers_of (by kernel_rfl)) rfl (by kernel_rfl) (by kernel_rfl) (by kernel_rfl) (fun _ _ _ h => h) (Or.inl ⟨by rfl, by intro w hSw; (obtain ⟨q0, q1, q2, _⟩ := hSw; have q0x0 := q0.cell 0; have q0x1 := q0.cell 1; have q0x2 := q0.cell 2; have q0x3 := q0.cell 3; have q0x4 := q0.cell 4; have q0x5 := q0.cell 5; have q0x6 := q0.cell 6; have q0x7 := q0.cell 7; have q0x8 := q0.cell 8; have q0x9 := q0.cell 9; have q0x10 := q0.cell 10; have q0x11 := q0.cell 11; have q0x12 := q0.cell 12; have q0x13 := q0.cell 13; have q0x14 := q0.cell 14; have q1x0 := q1.cell 0; have q1x1 := q1.cell 1; simp at q0x0 q0x1 q0x2 q0x3 q0x4 q0x5 q0x6 q0x7 q0x8 q0x9 q0x10 q0x11 q0x12 q0x13 q0x14 q1x0 q1x1); go_simp; first | done | with_reducible rfl⟩) hHeld ?_
                    change RestIn _ _ _ _ _ _ _ 11 #[true, true, true, true, true, true, true, false, false, false, false, false, false, false, false, false, false, false] _ _
                    try simp only [Act.put, List.setIfInBounds_toArray, List.set_cons_zero, List.set_cons_succ, List.getElem_toArray, List.getElem_cons_zero, List.getElem_cons_succ]
                    refine rest_take (i := 7) (v := _) all_wide (noDefers_of (by kernel_rfl)) rfl (by kernel_rfl) (by kernel_rfl) (by kernel_rfl) (fun _ _ _ h => h) (Or.inl ⟨by rfl, by intro w hSw; clear hSw; go_simp; first | done | with_reducible rfl⟩) hHeld ?_
                    change RestIn _ _ _ _ _ _ _ 10 #[true, true, true, true, true, true, true, true, false, false, false, false, false, false, false, false, false, false] _ _
                    try simp only [Act.put, List.setIfInBounds_toArray, List.set_cons_zero, List.set_cons_succ, List.getElem_toArray, List.getElem_cons_zero, List.getElem_cons_succ]
                    refine rest_take (i := 8) (v := _) all_wide (noDefers_of (by kernel_rfl)) rfl (by kernel_rfl) (by kernel_rfl) (by kernel_rfl) (fun _ _ _ h => h) (Or.inl ⟨by rfl, by intro w hSw; (obtain ⟨q0, q1, q2, _⟩ := hSw; have q0x0 := q0.cell 0; have q0x1 := q0.cell 1; have q0x2 := q0.cell 2; have q0x3 := q0.cell 3; have q0x4 := q0.cell 4; have q0x5 := q0.cell 5; have q0x6 := q0.cell 6; have q0x7 := q0.cell 7; have q0x8 := q0.cell 8; have q0x9 := q0.cell 9; have q0x10 := q0.cell 10; have q0x11 := q0.cell 11; have q0x12 := q0.cell 12; have q0x13 := q0.cell 13; have q0x14 := q0.cell 14; have q1x0 := q1.cell 0; have q1x1 := q1.cell 1; simp at q0x0 q0x1 q0x2 q0x3 q0x4 q0x5 q0x6 q0x7 q0x8 q0x9 q0x10 q0x11 q0x12 q0x13 q0x14 q1x0 q1x1); go_simp; first | done | with_reducible rfl⟩) hHeld ?_
                    change RestIn _ _ _ _ _ _ _ 9 #[true, true, true, true, true, true, true, true, true, false, false, false, false, false, false, false, false, false] _ _
                    try simp only [Act.put, List.setIfInBounds_toArray, List.set_cons_zero, List.set_cons_succ, List.getElem_toArray, List.getElem_cons_zero, List.getElem_cons_succ]
                    refine rest_take (i := 9) (v := _) all_wide (noDefers_of (by kernel_rfl)) rfl (by kernel_rfl) (by kernel_rfl) (by kernel_rfl) (fun _ _ _ h => h) (Or.inl ⟨by rfl, by intro w hSw; clear hSw; go_simp; first | done | with_reducible rfl⟩) hHeld ?_
                    change RestIn _ _ _ _ _ _ _ 8 #[true, true, true, true, true, true, true, true, true, true, false, false, false, false, false, false, false, false] _ _
                    try simp only [Act.put, List.setIfInBounds_toArray, List.set_cons_zero, List.set_cons_succ, List.getElem_toArray, List.getElem_cons_zero, List.getElem_cons_succ]
                    refine rest_take (i := 10) (v := _) all_wide (noDefers_of (by kernel_rfl)) rfl (by kernel_rfl) (by kernel_rfl) (by kernel_rfl) (fun _ _ _ h => h) (Or.inl ⟨by rfl, by intro w hSw; clear hSw; go_simp; first | done | with_reducible rfl⟩) hHeld ?_
                    change RestIn _ _ _ _ _ _ _ 7 #[true, true, true, true, true, true, true, true, true, true, true, false, false, false, false, false, false, false] _ _
                    try simp only [Act.put, List.setIfInBounds_toArray, List.set_cons_zero, List.set_cons_succ, List.getElem_toArray, List.getElem_cons_zero, List.getElem_cons_succ]
                    refine rest_take (i := 11) (v := _) all_wide (noDefers_of (by kernel_rfl)) rfl (by kernel_rfl) (by kernel_rfl) (by kernel_rfl) (fun _ _ _ h => h) (Or.inl ⟨by rfl, by intro w hSw; clear hSw; go_simp; first | done | with_reducible rfl⟩) hHeld ?_
                    change RestIn _ _ _ _ _ _ _ 6 #[true, true, true, true, true, true, true, true, true, true, true, true, false, false, false, false, false, false] _ _
                    try simp only [Act.put, List.setIfInBounds_toArray, List.set_cons_zero, List.set_cons_succ, List.getElem_toArray, List.getElem_cons_zero, List.getElem_cons_succ]
                    refine rest_take (i := 12) (v := _) all_wide (noDefers_of (by kernel_rfl)) rfl (by kernel_rfl) (by kernel_rfl) (by kernel_rfl) (fun _ _ _ h => h) (Or.inl ⟨by rfl, by intro w hSw; clear hSw; go_simp; first | done | with_reducible rfl⟩) hHeld ?_
                    change RestIn _ _ _ _ _ _ _ 5 #[true, true, true, true, true, true, true, true, true, true, true, true, true, false, false, false, false, false] _ _
                    try simp only [Act.put, List.setIfInBounds_toArray, List.set_cons_zero, List.set_cons_succ, List.getElem_toArray, List.getElem_cons_zero, List.getElem_cons_succ]
                    refine rest_take (i := 13) (v := _) all_wide (noDefers_of (by kernel_rfl)) rfl (by kernel_rfl) (by kernel_rfl) (by kernel_rfl) (fun _ _ _ h => h) (Or.inl ⟨by rfl, by intro w hSw; clear hSw; go_simp; first | done | with_reducible rfl⟩) hHeld ?_
                    change RestIn _ _ _ _ _ _ _ 4 #[true, true, true, true, true, true, true, true, true, true, true, true, true, true, false, false, false, false] _ _
                    try simp only [Act.put, List.setIfInBounds_toArray, List.set_cons_zero, List.set_cons_succ, List.getElem_toArray, List.getElem_cons_zero, List.getElem_cons_succ]
                    refine rest_take (i := 14) (v := _) all_wide (noDefers_of (by kernel_rfl)) rfl (by kernel_rfl) (by kernel_rfl) (by kernel_rfl) (fun _ _ _ h => h) (Or.inl ⟨by rfl, by intro w hSw; (obtain ⟨q0, q1, q2, _⟩ := hSw; have q0x0 := q0.cell 0; have q0x1 := q0.cell 1; have q0x2 := q0.cell 2; have q0x3 := q0.cell 3; have q0x4 := q0.cell 4; have q0x5 := q0.cell 5; have q0x6 := q0.cell 6; have q0x7 := q0.cell 7; have q0x8 := q0.cell 8; have q0x9 := q0.cell 9; have q0x10 := q0.cell 10; have q0x11 := q0.cell 11; have q0x12 := q0.cell 12; have q0x13 := q0.cell 13; have q0x14 := q0.cell 14; have q1x0 := q1.cell 0; have q1x1 := q1.cell 1; simp at q0x0 q0x1 q0x2 q0x3 q0x4 q0x5 q0x6 q0x7 q0x8 q0x9 q0x10 q0x11 q0x12 q0x13 q0x14 q1x0 q1x1); go_simp; first | done | with_reducible rfl⟩) hHeld ?_
                    change RestIn _ _ _ _ _ _ _ 3 #[true, true, true, true, true, true, true, true, true, true, true, true, true, true, true, false, false, false] _ _
                    try simp only [Act.put, List.setIfInBounds_toArray, List.set_cons_zero, List.set_cons_succ, List.getElem_toArray, List.getElem_cons_zero, List.getElem_cons_succ]
                    refine rest_ready (rs := [15]) (by kernel_rfl) (by simp) ?_
                    refine AllRest.cons rfl (fun K hK => ?_) AllRest.nil
                    have hNow := (hHeld.2.2.2)
                    clear hLast
                    have hLast := hNow
                    go_simp
                    gi_wp2_with ((refine ⟨trivial, ?_⟩; gi_at_call 40; (with_reducible refine (callsIn_wide.2 (HSu.out _ (hR2.to hNow))).mono ?_); rintro e wn ⟨rfl, hb⟩))
                    refine hK.out _ _ ?_ (fun hHeld' => ?_)
                    · exact ⟨hHeld.1.below hb hHeld.1.lt, hHeld.2.1.below hb hHeld.2.1.lt, cell_after hb hHeld.2.2.1, (hHeld.2.2.2).trans (hb.mono (hHeld.2.2.2).size)⟩
                    clear hK K
                    change RestIn _ _ _ _ _ _ _ 2 #[true, true, true, true, true, true, true, true, true, true, true, true, true, true, true, true, false, false] _ _
                    try simp only [Act.put, List.setIfInBounds_toArray, List.set_cons_zero, List.set_cons_succ, List.getElem_toArray, List.getElem_cons_zero, List.getElem_cons_succ]
                    clear hHeld
                    have hHeld := hHeld'
                    clear hHeld'
                    have hNow := (hHeld.2.2.2)
                    refine rest_take (i := 16) (v := _) all_wide (noDefers_of (by kernel_rfl)) rfl (by kernel_rfl) (by kernel_rfl) (by kernel_rfl) (fun _ _ _ h => h) (Or.inl ⟨by rfl, by intro w hSw; clear hSw; go_simp; first | done | with_reducible rfl⟩) hHeld ?_
                    change RestIn _ _ _ _ _ _ _ 1 #[true, true, true, true, true, true, true, true, true, true, true, true, true, true, true, true, true, false] _ _
                    try simp only [Act.put, List.setIfInBounds_toArray, List.set_cons_zero, List.set_cons_succ, List.getElem_toArray, List.getElem_cons_zero, List.getElem_cons_succ]
                    refine rest_take (i := 17) (v := _) all_wide (noDefers_of (by kernel_rfl)) rfl (by kernel_rfl) (by kernel_rfl) (by kernel_rfl) (fun _ _ _ h => h) (Or.inl ⟨by rfl, by intro w hSw; clear hSw; go_simp; first | done | with_reducible rfl⟩) hHeld ?_
                    change RestIn _ _ _ _ _ _ _ 0 #[true, true, true, true, true, true, true, true, true, true, true, true, true, true, true, true, true, true] _ _
                    try simp only [Act.put, List.setIfInBounds_toArray, List.set_cons_zero, List.set_cons_succ, List.getElem_toArray, List.getElem_cons_zero, List.getElem_cons_succ]
                    refine rest_done (by kernel_rfl) ?_
                    go_wp2
                    go_roundw
                    case rel => exact ⟨k + 1, by omega, by go_num, by rw [HS.out]; rfl, hWb.trans (hNow.mono hWb.size)⟩
                    case measure => simp [intOf]; omega
end Go.Proofs.Ytbagfapalkmikaa
