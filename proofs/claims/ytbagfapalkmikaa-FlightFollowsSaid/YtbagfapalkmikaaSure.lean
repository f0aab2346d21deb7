import Derived.Test.YtbagfapalkmikaaBear
import Derived.Test.YtbagfapalkmikaaFlE

/- The ticks at which a catch is sure: the iterator. -/
namespace Go.Proofs.Ytbagfapalkmikaa
open Go.RowKit Go.Shelf

theorem cut_at {T G : Prop} (h : T → G) (t : T) : G := h t
/-- A moment in memory: the box, and its tick. -/
def encM (f : Fly) (t : Tick) : List Value := [.int .i64 (f.after t.1).x.lo, .int .i64 (f.after t.1).x.hi, .int .i64 (f.after t.1).z.lo, .int .i64 (f.after t.1).z.hi, .int .i64 t.1]
def nearL (f : Flt) : List Bx := f.cycle.map fun b => b.near f.reach
/-- A flight that is followed, in memory: block g. -/
def FolW (f : Flt) (A : Option Addr) (c : Nat) (W : World) (B g : Nat) (Ab An : Option Addr) (cb cn : Nat) : Prop :=
  Blk W g 155 #[.int .i64 f.fly.pos.x.lo, .int .i64 f.fly.pos.x.hi, .int .i64 f.fly.pos.z.lo, .int .i64 f.fly.pos.z.hi, .int .i64 f.fly.speed.x.lo, .int .i64 f.fly.speed.x.hi, .int .i64 f.fly.speed.z.lo, .int .i64 f.fly.speed.z.hi, .int .i64 f.fly.mass, .slice A f.cycle.length c, .int .i64 f.reach, .int .i64 f.soft, .int .i64 f.bears, .int .i64 f.least, .int .i64 f.most, .slice Ab (borneL f).length cb, .slice An f.cycle.length cn] ∧ RS (encM f.fly) 5 W B Ab (borneL f) ∧ RS encB 4 W B An (nearL f) ∧ g < B
theorem FolW.below {f : Flt} {A : Option Addr} {c : Nat} {W W' : World} {B B' g : Nat} {Ab An : Option Addr} {cb cn : Nat} (h : FolW f A c W B g Ab An cb cn) (hb : Below B' W W') (hB : B ≤ B') : FolW f A c W' B g Ab An cb cn :=
  ⟨h.1.below hb (by have := h.2.2.2; omega), h.2.1.below hb hB, h.2.2.1.below hb hB, h.2.2.2⟩
def Flt.hitB (f : Flt) (r t : Nat) : Bool := ((f.hands (r + t)).near f.reach).hasB (f.fly.after t)
/-- The first i ticks that are borne, those among them at which a catch is sure. -/
def sureTo (f : Flt) (r i : Nat) : List Nat := (((borneL f).take i).filter fun t => f.hitB r t.1).map fun t => r + t.1
def sureL (f : Flt) (r : Nat) : List Nat := sureTo f r (borneL f).length
theorem sureTo_hit {f : Flt} {r i : Nat} {t : Tick} (h : (borneL f)[i]? = some t) (hb : f.hitB r t.1 = true) : sureTo f r (i + 1) = sureTo f r i ++ [r + t.1] := by
  unfold sureTo; rw [take_snoc' h, List.filter_append, List.map_append]; simp [hb]
theorem sureTo_miss {f : Flt} {r i : Nat} {t : Tick} (h : (borneL f)[i]? = some t) (hb : f.hitB r t.1 = false) : sureTo f r (i + 1) = sureTo f r i := by
  unfold sureTo; rw [take_snoc' h, List.filter_append, List.map_append]; simp [hb]
theorem sureTo_prefix {f : Flt} {r a b : Nat} (h : a ≤ b) : sureTo f r a <+: sureTo f r b := by
  unfold sureTo
  obtain ⟨t, ht⟩ := List.take_prefix_take_left (l := borneL f) h
  exact ⟨(t.filter fun t => f.hitB r t.1).map fun t => r + t.1, by rw [← ht, List.filter_append, List.map_append]⟩
theorem sureTo_len {f : Flt} {r i : Nat} : (sureTo f r i).length ≤ i := by
  unfold sureTo; rw [List.length_map]
  exact Nat.le_trans (List.length_filter_le _ _) (by simp; omega)
theorem borneL_len {f : Flt} (hm : f.most ≤ 300) : (borneL f).length ≤ 301 := by
  have := borneTo_len (f := f) (k := f.most.toNat + 1); unfold borneL; omega

attribute [local go_sem] Oper.semAt_some
set_option maxRecDepth 100000 in
set_option maxHeartbeats 8000000 in
theorem sure1_in (n : Nat) (hn : 1 ≤ n) (l g gP gR : Nat) (f : Flt) (A Ab An : Option Addr) (c cb cn r : Nat) (hc1 : 1 ≤ f.cycle.length) (hc2 : f.cycle.length ≤ 600) (hm : f.most ≤ 300) (hr : r ≤ 6000) (J Jx : List Nat → World → Prop) (B n₀ : Nat)
    (hJ : AbidesFrom B J)
    (hY : ∀ pre x W, J pre W → pre.length < 301 → YieldAt Fence.wide (n - 1) Try.prog l #[.int .i64 (x : Nat)] W fun e W' =>
      (e = .returned (.bool true) ∧ J (pre ++ [x]) W' ∧ Below n₀ W W') ∨ (e = .returned (.bool false) ∧ Jx (pre ++ [x]) W'))
    (W : World) (hn0 : n₀ ≤ W.heap.size) (hF : FolW f A c W n₀ g Ab An cb cn) (hP : Blk W gP 124 #[.pointer (some ⟨g, 0, none⟩)]) (hR : Blk W gR 3 #[.int .i64 r]) (hPn : gP < n₀) (hRn : gR < n₀) (h0 : J [] W) :
    CallsIn Fence.wide n Try.prog 100 #[.func (.yield l) #[] #[], .pointer (some ⟨gP, 0, none⟩), .pointer (some ⟨gR, 0, none⟩)] W fun e W' => (∃ v, e = .returned v) ∧
      ((∃ ys, ys = sureL f r ∧ J ys W') ∨ (∃ pre, pre <+: sureL f r ∧ Jx pre W')) := by
  have hbl := borneL_len hm
  have HF := Lib.hid hF
  have p0 := hP.cell 0
  have hpl := hP.lt
  have x15 := hF.1.cell 15
  have hxl := hF.1.lt
  simp at p0 x15
  have HJ := Lib.hid hJ
  have HY := Lib.hid hY
  have H0 := Lib.hid h0
  clear hF hJ hY h0
  refine callsIn_of_wp Try.func100 rfl trivial ?_ rfl
  simp only [Try.ntmps100, List.size_toArray, List.length_cons, List.length_nil, Nat.reduceAdd, Nat.reduceSub, Array.replicate_succ, Array.replicate_zero, List.push_toArray, List.append_toArray, List.nil_append, List.cons_append]
  gi_wp2
  gi_loopw [12] (fun i wr => ∃ k : Nat, k ≤ (borneL f).length ∧ i = .int .i64 k ∧ J (sureTo f r k) wr ∧ Below n₀ W wr) (fun i _ => (borneL f).length - (intOf i).toNat)
  case atStart => exact ⟨0, Nat.zero_le _, rfl, H0.out, Below.refl _ _⟩
  case round =>
    obtain ⟨k, hk, rfl, hJk, hB⟩ := hrel
    by_cases hlt : k < (borneL f).length
    · obtain ⟨t, ht⟩ := getElem?_lt hlt
      have ht3 := t.2
      obtain ⟨b, off, rfl, hb, hcm⟩ := (HF.out.below hB (Nat.le_refl _)).2.1.at_ ht
      have m0 := hcm 0 _ rfl
      have m1 := hcm 1 _ rfl
      have m2 := hcm 2 _ rfl
      have m3 := hcm 3 _ rfl
      have m4 := hcm 4 _ rfl
      simp only [Nat.add_zero] at m0
      have hPr := hP.below hB hPn
      have hRr := hR.below hB hRn
      have hFr := HF.out.below hB (Nat.le_refl _)
      have hn0r : n₀ ≤ wr.heap.size := Nat.le_trans hn0 hB.size
      have r0 := hRr.cell 0
      have rl := hRr.lt
      have pr0 := hPr.cell 0
      have prl := hPr.lt
      simp at r0 pr0
      obtain ⟨idx, hidx⟩ : ∃ x, (r + t.1) % f.cycle.length = x := ⟨_, rfl⟩
      have hil : idx < f.cycle.length := by rw [← hidx]; exact Nat.mod_lt _ (by omega)
      obtain ⟨cb0, hcb⟩ : ∃ x, f.cycle[idx]? = some x := getElem?_lt hil
      have hnb : (nearL f)[idx]? = some (cb0.near f.reach) := by unfold nearL; rw [List.getElem?_map, hcb]; rfl
      have HH : Hid (f.hitB r t.1 = (cb0.near f.reach).hasB (f.fly.after t.1)) := by
        show _ = _
        unfold Flt.hitB Flt.hands
        rw [hidx, hcb]; rfl
      have hme : ((r : Int) + (t.1 : Int)) % (f.cycle.length : Int) = (idx : Int) := by rw [← hidx]; norm_cast
      have hrem : ((r : Int) + (t.1 : Int)).tmod (f.cycle.length : Int) = (idx : Int) := by
        rw [Int.tmod_eq_emod_of_nonneg (by omega), hme]
      have hcy : ¬ f.cycle = [] := by intro h; rw [h] at hc1; simp at hc1
      clear hme
      have hz0 : ((f.cycle.length : Int) == 0) = false := by simp; omega
      have hz1 : ¬ (f.cycle.length : Int) = 0 := by omega
      have hi0 : (0 : Int) ≤ (idx : Int) := by omega
      have hi1 : (idx : Int) < (f.cycle.length : Int) := by omega
      have HI := Lib.hid hidx
      have HT := Lib.hid ht
      have HJK := Lib.hid hJk
      obtain ⟨bx, hbx⟩ : ∃ bx, f.fly.after (t.1 : Int) = bx := ⟨_, rfl⟩
      rw [hbx] at m0 m1 m2 m3 HH
      clear hidx hcb ht hJk hbx
      gi_wp2
      have hA1 := (Below.refl wr.heap.size wr).alloc (Nat.le_refl _) (.cells #[.int .i64 bx.x.lo, .int .i64 bx.x.hi, .int .i64 bx.z.lo, .int .i64 bx.z.hi, .int .i64 t.1] 158)
      have kM := Blk.new wr 158 #[.int .i64 bx.x.lo, .int .i64 bx.x.hi, .int .i64 bx.z.lo, .int .i64 bx.z.hi, .int .i64 t.1]
      have hF1 := hFr.below hA1 hn0r
      have hP1 := hPr.alloc (.cells #[.int .i64 bx.x.lo, .int .i64 bx.x.hi, .int .i64 bx.z.lo, .int .i64 bx.z.hi, .int .i64 t.1] 158)
      refine name_world (motive := fun W => Code.wpIn _ _ _ _ _ _ W) _ ?_
      intro W0 hW0
      have hA := hW0.below hA1
      have kM := hW0.blk kM
      have hP1 := hW0.blk hP1
      have hx16 := hW0.blk hF1.1
      obtain ⟨bn, on, rfl, hbn, hcn⟩ := hF1.2.2.1.at_ hnb
      have e0 := (hW0.cell _ _).trans (hcn 0 _ rfl)
      have e1 := (hW0.cell _ _).trans (hcn 1 _ rfl)
      have e2 := (hW0.cell _ _).trans (hcn 2 _ rfl)
      have e3 := (hW0.cell _ _).trans (hcn 3 _ rfl)
      simp only [Nat.add_zero] at e0
      have q0 := kM.cell 0
      have q1 := kM.cell 1
      have q2 := kM.cell 2
      have q3 := kM.cell 3
      have ql := kM.lt
      have z0 := hP1.cell 0
      have z16 := hx16.cell 16
      simp at q0 q1 q2 q3 z0 z16
      have HB := Lib.hid hB
      clear hW0 hF1 kM hP1 hx16 hcn hFr hPr hRr m0 m1 m2 m3 m4 r0 pr0 hcm hB hA1
      have hmx : Try.prog.follows .mixedOrders = true := by kernel_rfl
      refine wpIn_region_any hmx ?_
      change wpAnyIn _ _ _ _ _ _ 22 #[false, false, false, false, false, false, false, false, false, false, false, false, false, false, false, false, false, false, false, false, false, false] _ (World.drew _)
      refine wpAnyIn_take (i := 4) (v := _) rfl rfl (by kernel_rfl) (by kernel_rfl) (by kernel_rfl) (fun _ _ _ h => h) ⟨Or.inl ⟨by rfl, by intro w; go_simp; first | done | with_reducible rfl⟩, fun _ => by first | rfl | simp [Oper.about, resolve, Target.leads, Sem.run_pure]⟩ ?_
      change wpAnyIn _ _ _ _ _ _ 21 #[false, false, false, false, true, false, false, false, false, false, false, false, false, false, false, false, false, false, false, false, false, false] _ _
      try simp only [Act.put, List.setIfInBounds_toArray, List.set_cons_zero, List.set_cons_succ, List.getElem_toArray, List.getElem_cons_zero, List.getElem_cons_succ]
      refine wpAnyIn_take (i := 13) (v := _) rfl rfl (by kernel_rfl) (by kernel_rfl) (by kernel_rfl) (fun _ _ _ h => h) ⟨Or.inl ⟨by rfl, by intro w; go_simp; first | done | with_reducible rfl⟩, fun _ => by first | rfl | simp [Oper.about, resolve, Target.leads, Sem.run_pure]⟩ ?_
      change wpAnyIn _ _ _ _ _ _ 20 #[false, false, false, false, true, false, false, false, false, false, false, false, false, true, false, false, false, false, false, false, false, false] _ _
      try simp only [Act.put, List.setIfInBounds_toArray, List.set_cons_zero, List.set_cons_succ, List.getElem_toArray, List.getElem_cons_zero, List.getElem_cons_succ]
      refine cut_at (T := ?Ts0) (fun Ks0 => ?_) ?ps0
      rotate_left 1
      refine cut_at (T := ?Ts1) (fun Ks1 => ?_) ?ps1
      rotate_left 1
      refine cut_at (T := ?Ts2) (fun Ks2 => ?_) ?ps2
      rotate_left 1
      refine cut_at (T := ?Ts3) (fun Ks3 => ?_) ?ps3
      rotate_left 1
      refine cut_at (T := ?Ts4) (fun Ks4 => ?_) ?ps4
      rotate_left 1
      refine cut_at (T := ?Ts5) (fun Ks5 => ?_) ?ps5
      rotate_left 1
      refine cut_at (T := ?Ts6) (fun Ks6 => ?_) ?ps6
      rotate_left 1
      refine cut_at (T := ?Ts7) (fun Ks7 => ?_) ?ps7
      rotate_left 1
      refine cut_at (T := ?Ts8) (fun Ks8 => ?_) ?ps8
      rotate_left 1
      refine cut_at (T := ?Ts9) (fun Ks9 => ?_) ?ps9
      rotate_left 1
      refine cut_at (T := ?Ts10) (fun Ks10 => ?_) ?ps10
      rotate_left 1
      refine cut_at (T := ?Ts11) (fun Ks11 => ?_) ?ps11
      rotate_left 1
      refine cut_at (T := ?Ts12) (fun Ks12 => ?_) ?ps12
      rotate_left 1
      refine cut_at (T := ?Ts13) (fun Ks13 => ?_) ?ps13
      rotate_left 1
      refine cut_at (T := ?Ts14) (fun Ks14 => ?_) ?ps14
      rotate_left 1
      refine cut_at (T := ?Ts15) (fun Ks15 => ?_) ?ps15
      rotate_left 1
      refine cut_at (T := ?Ts16) (fun Ks16 => ?_) ?ps16
      rotate_left 1
      refine cut_at (T := ?Ts17) (fun Ks17 => ?_) ?ps17
      rotate_left 1
      refine cut_at (T := ?Ts18) (fun Ks18 => ?_) ?ps18
      rotate_left 1
      · refine wpAnyIn_ready (rs := [0, 5, 14]) (by kernel_rfl) (by simp) ?_
        refine AllReadyIn.cons rfl (fun K hK => ?_) ?_
        · go_simp
          refine hK _ _ ?_
          clear hK K
          change wpAnyIn _ _ _ _ _ _ 19 #[true, false, false, false, true, false, false, false, false, false, false, false, false, true, false, false, false, false, false, false, false, false] _ _
          try simp only [Act.put, List.setIfInBounds_toArray, List.set_cons_zero, List.set_cons_succ, List.getElem_toArray, List.getElem_cons_zero, List.getElem_cons_succ]
          refine wpAnyIn_take (i := 1) (v := _) rfl rfl (by kernel_rfl) (by kernel_rfl) (by kernel_rfl) (fun _ _ _ h => h) ⟨Or.inl ⟨by rfl, by intro w; go_simp; first | done | with_reducible rfl⟩, fun _ => by first | rfl | simp [Oper.about, resolve, Target.leads, Sem.run_pure]⟩ ?_
          change wpAnyIn _ _ _ _ _ _ 18 #[true, true, false, false, true, false, false, false, false, false, false, false, false, true, false, false, false, false, false, false, false, false] _ _
          try simp only [Act.put, List.setIfInBounds_toArray, List.set_cons_zero, List.set_cons_succ, List.getElem_toArray, List.getElem_cons_zero, List.getElem_cons_succ]
          refine wpAnyIn_take (i := 2) (v := _) rfl rfl (by kernel_rfl) (by kernel_rfl) (by kernel_rfl) (fun _ _ _ h => h) ⟨Or.inl ⟨by rfl, by intro w; go_simp; first | done | with_reducible rfl⟩, fun _ => by first | rfl | simp [Oper.about, resolve, Target.leads, Sem.run_pure]⟩ ?_
          change wpAnyIn _ _ _ _ _ _ 17 #[true, true, true, false, true, false, false, false, false, false, false, false, false, true, false, false, false, false, false, false, false, false] _ _
          try simp only [Act.put, List.setIfInBounds_toArray, List.set_cons_zero, List.set_cons_succ, List.getElem_toArray, List.getElem_cons_zero, List.getElem_cons_succ]
          exact Ks13
        refine AllReadyIn.cons rfl (fun K hK => ?_) ?_
        · go_simp
          refine hK _ _ ?_
          clear hK K
          change wpAnyIn _ _ _ _ _ _ 19 #[false, false, false, false, true, true, false, false, false, false, false, false, false, true, false, false, false, false, false, false, false, false] _ _
          try simp only [Act.put, List.setIfInBounds_toArray, List.set_cons_zero, List.set_cons_succ, List.getElem_toArray, List.getElem_cons_zero, List.getElem_cons_succ]
          refine wpAnyIn_take (i := 6) (v := _) rfl rfl (by kernel_rfl) (by kernel_rfl) (by kernel_rfl) (fun _ _ _ h => h) ⟨Or.inl ⟨by rfl, by intro w; go_simp; first | done | with_reducible rfl⟩, fun _ => by first | rfl | simp [Oper.about, resolve, Target.leads, Sem.run_pure]⟩ ?_
          change wpAnyIn _ _ _ _ _ _ 18 #[false, false, false, false, true, true, true, false, false, false, false, false, false, true, false, false, false, false, false, false, false, false] _ _
          try simp only [Act.put, List.setIfInBounds_toArray, List.set_cons_zero, List.set_cons_succ, List.getElem_toArray, List.getElem_cons_zero, List.getElem_cons_succ]
          refine wpAnyIn_take (i := 7) (v := _) rfl rfl (by kernel_rfl) (by kernel_rfl) (by kernel_rfl) (fun _ _ _ h => h) ⟨Or.inl ⟨by rfl, by intro w; go_simp; first | done | with_reducible rfl⟩, fun _ => by first | rfl | simp [Oper.about, resolve, Target.leads, Sem.run_pure]⟩ ?_
          change wpAnyIn _ _ _ _ _ _ 17 #[false, false, false, false, true, true, true, true, false, false, false, false, false, true, false, false, false, false, false, false, false, false] _ _
          try simp only [Act.put, List.setIfInBounds_toArray, List.set_cons_zero, List.set_cons_succ, List.getElem_toArray, List.getElem_cons_zero, List.getElem_cons_succ]
          exact Ks17
        refine AllReadyIn.cons rfl (fun K hK => ?_) ?_
        · go_simp
          refine hK _ _ ?_
          clear hK K
          change wpAnyIn _ _ _ _ _ _ 19 #[false, false, false, false, true, false, false, false, false, false, false, false, false, true, true, false, false, false, false, false, false, false] _ _
          try simp only [Act.put, List.setIfInBounds_toArray, List.set_cons_zero, List.set_cons_succ, List.getElem_toArray, List.getElem_cons_zero, List.getElem_cons_succ]
          exact Ks18
        exact AllReadyIn.nil
      case ps18 =>
        refine wpAnyIn_ready (rs := [0, 5]) (by kernel_rfl) (by simp) ?_
        refine AllReadyIn.cons rfl (fun K hK => ?_) ?_
        · go_simp
          refine hK _ _ ?_
          clear hK K
          change wpAnyIn _ _ _ _ _ _ 18 #[true, false, false, false, true, false, false, false, false, false, false, false, false, true, true, false, false, false, false, false, false, false] _ _
          try simp only [Act.put, List.setIfInBounds_toArray, List.set_cons_zero, List.set_cons_succ, List.getElem_toArray, List.getElem_cons_zero, List.getElem_cons_succ]
          refine wpAnyIn_take (i := 1) (v := _) rfl rfl (by kernel_rfl) (by kernel_rfl) (by kernel_rfl) (fun _ _ _ h => h) ⟨Or.inl ⟨by rfl, by intro w; go_simp; first | done | with_reducible rfl⟩, fun _ => by first | rfl | simp [Oper.about, resolve, Target.leads, Sem.run_pure]⟩ ?_
          change wpAnyIn _ _ _ _ _ _ 17 #[true, true, false, false, true, false, false, false, false, false, false, false, false, true, true, false, false, false, false, false, false, false] _ _
          try simp only [Act.put, List.setIfInBounds_toArray, List.set_cons_zero, List.set_cons_succ, List.getElem_toArray, List.getElem_cons_zero, List.getElem_cons_succ]
          refine wpAnyIn_take (i := 2) (v := _) rfl rfl (by kernel_rfl) (by kernel_rfl) (by kernel_rfl) (fun _ _ _ h => h) ⟨Or.inl ⟨by rfl, by intro w; go_simp; first | done | with_reducible rfl⟩, fun _ => by first | rfl | simp [Oper.about, resolve, Target.leads, Sem.run_pure]⟩ ?_
          change wpAnyIn _ _ _ _ _ _ 16 #[true, true, true, false, true, false, false, false, false, false, false, false, false, true, true, false, false, false, false, false, false, false] _ _
          try simp only [Act.put, List.setIfInBounds_toArray, List.set_cons_zero, List.set_cons_succ, List.getElem_toArray, List.getElem_cons_zero, List.getElem_cons_succ]
          exact Ks12
        refine AllReadyIn.cons rfl (fun K hK => ?_) ?_
        · go_simp
          refine hK _ _ ?_
          clear hK K
          change wpAnyIn _ _ _ _ _ _ 18 #[false, false, false, false, true, true, false, false, false, false, false, false, false, true, true, false, false, false, false, false, false, false] _ _
          try simp only [Act.put, List.setIfInBounds_toArray, List.set_cons_zero, List.set_cons_succ, List.getElem_toArray, List.getElem_cons_zero, List.getElem_cons_succ]
          refine wpAnyIn_take (i := 6) (v := _) rfl rfl (by kernel_rfl) (by kernel_rfl) (by kernel_rfl) (fun _ _ _ h => h) ⟨Or.inl ⟨by rfl, by intro w; go_simp; first | done | with_reducible rfl⟩, fun _ => by first | rfl | simp [Oper.about, resolve, Target.leads, Sem.run_pure]⟩ ?_
          change wpAnyIn _ _ _ _ _ _ 17 #[false, false, false, false, true, true, true, false, false, false, false, false, false, true, true, false, false, false, false, false, false, false] _ _
          try simp only [Act.put, List.setIfInBounds_toArray, List.set_cons_zero, List.set_cons_succ, List.getElem_toArray, List.getElem_cons_zero, List.getElem_cons_succ]
          refine wpAnyIn_take (i := 7) (v := _) rfl rfl (by kernel_rfl) (by kernel_rfl) (by kernel_rfl) (fun _ _ _ h => h) ⟨Or.inl ⟨by rfl, by intro w; go_simp; first | done | with_reducible rfl⟩, fun _ => by first | rfl | simp [Oper.about, resolve, Target.leads, Sem.run_pure]⟩ ?_
          change wpAnyIn _ _ _ _ _ _ 16 #[false, false, false, false, true, true, true, true, false, false, false, false, false, true, true, false, false, false, false, false, false, false] _ _
          try simp only [Act.put, List.setIfInBounds_toArray, List.set_cons_zero, List.set_cons_succ, List.getElem_toArray, List.getElem_cons_zero, List.getElem_cons_succ]
          exact Ks16
        exact AllReadyIn.nil
      case ps17 =>
        refine wpAnyIn_ready (rs := [0, 8, 14]) (by kernel_rfl) (by simp) ?_
        refine AllReadyIn.cons rfl (fun K hK => ?_) ?_
        · go_simp
          refine hK _ _ ?_
          clear hK K
          change wpAnyIn _ _ _ _ _ _ 16 #[true, false, false, false, true, true, true, true, false, false, false, false, false, true, false, false, false, false, false, false, false, false] _ _
          try simp only [Act.put, List.setIfInBounds_toArray, List.set_cons_zero, List.set_cons_succ, List.getElem_toArray, List.getElem_cons_zero, List.getElem_cons_succ]
          refine wpAnyIn_take (i := 1) (v := _) rfl rfl (by kernel_rfl) (by kernel_rfl) (by kernel_rfl) (fun _ _ _ h => h) ⟨Or.inl ⟨by rfl, by intro w; go_simp; first | done | with_reducible rfl⟩, fun _ => by first | rfl | simp [Oper.about, resolve, Target.leads, Sem.run_pure]⟩ ?_
          change wpAnyIn _ _ _ _ _ _ 15 #[true, true, false, false, true, true, true, true, false, false, false, false, false, true, false, false, false, false, false, false, false, false] _ _
          try simp only [Act.put, List.setIfInBounds_toArray, List.set_cons_zero, List.set_cons_succ, List.getElem_toArray, List.getElem_cons_zero, List.getElem_cons_succ]
          refine wpAnyIn_take (i := 2) (v := _) rfl rfl (by kernel_rfl) (by kernel_rfl) (by kernel_rfl) (fun _ _ _ h => h) ⟨Or.inl ⟨by rfl, by intro w; go_simp; first | done | with_reducible rfl⟩, fun _ => by first | rfl | simp [Oper.about, resolve, Target.leads, Sem.run_pure]⟩ ?_
          change wpAnyIn _ _ _ _ _ _ 14 #[true, true, true, false, true, true, true, true, false, false, false, false, false, true, false, false, false, false, false, false, false, false] _ _
          try simp only [Act.put, List.setIfInBounds_toArray, List.set_cons_zero, List.set_cons_succ, List.getElem_toArray, List.getElem_cons_zero, List.getElem_cons_succ]
          exact Ks11
        refine AllReadyIn.cons rfl (fun K hK => ?_) ?_
        · go_simp
          refine hK _ _ ?_
          clear hK K
          change wpAnyIn _ _ _ _ _ _ 16 #[false, false, false, false, true, true, true, true, true, false, false, false, false, true, false, false, false, false, false, false, false, false] _ _
          try simp only [Act.put, List.setIfInBounds_toArray, List.set_cons_zero, List.set_cons_succ, List.getElem_toArray, List.getElem_cons_zero, List.getElem_cons_succ]
          refine wpAnyIn_take (i := 9) (v := _) rfl rfl (by kernel_rfl) (by kernel_rfl) (by kernel_rfl) (fun _ _ _ h => h) ⟨Or.inl ⟨by rfl, by intro w; go_simp; first | done | with_reducible rfl⟩, fun _ => by first | rfl | simp [Oper.about, resolve, Target.leads, Sem.run_pure]⟩ ?_
          change wpAnyIn _ _ _ _ _ _ 15 #[false, false, false, false, true, true, true, true, true, true, false, false, false, true, false, false, false, false, false, false, false, false] _ _
          try simp only [Act.put, List.setIfInBounds_toArray, List.set_cons_zero, List.set_cons_succ, List.getElem_toArray, List.getElem_cons_zero, List.getElem_cons_succ]
          refine wpAnyIn_take (i := 10) (v := _) rfl rfl (by kernel_rfl) (by kernel_rfl) (by kernel_rfl) (fun _ _ _ h => h) ⟨Or.inl ⟨by rfl, by intro w; go_simp; first | done | with_reducible rfl⟩, fun _ => by first | rfl | simp [Oper.about, resolve, Target.leads, Sem.run_pure]⟩ ?_
          change wpAnyIn _ _ _ _ _ _ 14 #[false, false, false, false, true, true, true, true, true, true, true, false, false, true, false, false, false, false, false, false, false, false] _ _
          try simp only [Act.put, List.setIfInBounds_toArray, List.set_cons_zero, List.set_cons_succ, List.getElem_toArray, List.getElem_cons_zero, List.getElem_cons_succ]
          exact Ks15
        refine AllReadyIn.cons rfl (fun K hK => ?_) ?_
        · go_simp
          refine hK _ _ ?_
          clear hK K
          change wpAnyIn _ _ _ _ _ _ 16 #[false, false, false, false, true, true, true, true, false, false, false, false, false, true, true, false, false, false, false, false, false, false] _ _
          try simp only [Act.put, List.setIfInBounds_toArray, List.set_cons_zero, List.set_cons_succ, List.getElem_toArray, List.getElem_cons_zero, List.getElem_cons_succ]
          exact Ks16
        exact AllReadyIn.nil
      case ps16 =>
        refine wpAnyIn_ready (rs := [0, 8]) (by kernel_rfl) (by simp) ?_
        refine AllReadyIn.cons rfl (fun K hK => ?_) ?_
        · go_simp
          refine hK _ _ ?_
          clear hK K
          change wpAnyIn _ _ _ _ _ _ 15 #[true, false, false, false, true, true, true, true, false, false, false, false, false, true, true, false, false, false, false, false, false, false] _ _
          try simp only [Act.put, List.setIfInBounds_toArray, List.set_cons_zero, List.set_cons_succ, List.getElem_toArray, List.getElem_cons_zero, List.getElem_cons_succ]
          refine wpAnyIn_take (i := 1) (v := _) rfl rfl (by kernel_rfl) (by kernel_rfl) (by kernel_rfl) (fun _ _ _ h => h) ⟨Or.inl ⟨by rfl, by intro w; go_simp; first | done | with_reducible rfl⟩, fun _ => by first | rfl | simp [Oper.about, resolve, Target.leads, Sem.run_pure]⟩ ?_
          change wpAnyIn _ _ _ _ _ _ 14 #[true, true, false, false, true, true, true, true, false, false, false, false, false, true, true, false, false, false, false, false, false, false] _ _
          try simp only [Act.put, List.setIfInBounds_toArray, List.set_cons_zero, List.set_cons_succ, List.getElem_toArray, List.getElem_cons_zero, List.getElem_cons_succ]
          refine wpAnyIn_take (i := 2) (v := _) rfl rfl (by kernel_rfl) (by kernel_rfl) (by kernel_rfl) (fun _ _ _ h => h) ⟨Or.inl ⟨by rfl, by intro w; go_simp; first | done | with_reducible rfl⟩, fun _ => by first | rfl | simp [Oper.about, resolve, Target.leads, Sem.run_pure]⟩ ?_
          change wpAnyIn _ _ _ _ _ _ 13 #[true, true, true, false, true, true, true, true, false, false, false, false, false, true, true, false, false, false, false, false, false, false] _ _
          try simp only [Act.put, List.setIfInBounds_toArray, List.set_cons_zero, List.set_cons_succ, List.getElem_toArray, List.getElem_cons_zero, List.getElem_cons_succ]
          exact Ks10
        refine AllReadyIn.cons rfl (fun K hK => ?_) ?_
        · go_simp
          refine hK _ _ ?_
          clear hK K
          change wpAnyIn _ _ _ _ _ _ 15 #[false, false, false, false, true, true, true, true, true, false, false, false, false, true, true, false, false, false, false, false, false, false] _ _
          try simp only [Act.put, List.setIfInBounds_toArray, List.set_cons_zero, List.set_cons_succ, List.getElem_toArray, List.getElem_cons_zero, List.getElem_cons_succ]
          refine wpAnyIn_take (i := 9) (v := _) rfl rfl (by kernel_rfl) (by kernel_rfl) (by kernel_rfl) (fun _ _ _ h => h) ⟨Or.inl ⟨by rfl, by intro w; go_simp; first | done | with_reducible rfl⟩, fun _ => by first | rfl | simp [Oper.about, resolve, Target.leads, Sem.run_pure]⟩ ?_
          change wpAnyIn _ _ _ _ _ _ 14 #[false, false, false, false, true, true, true, true, true, true, false, false, false, true, true, false, false, false, false, false, false, false] _ _
          try simp only [Act.put, List.setIfInBounds_toArray, List.set_cons_zero, List.set_cons_succ, List.getElem_toArray, List.getElem_cons_zero, List.getElem_cons_succ]
          refine wpAnyIn_take (i := 10) (v := _) rfl rfl (by kernel_rfl) (by kernel_rfl) (by kernel_rfl) (fun _ _ _ h => h) ⟨Or.inl ⟨by rfl, by intro w; go_simp; first | done | with_reducible rfl⟩, fun _ => by first | rfl | simp [Oper.about, resolve, Target.leads, Sem.run_pure]⟩ ?_
          change wpAnyIn _ _ _ _ _ _ 13 #[false, false, false, false, true, true, true, true, true, true, true, false, false, true, true, false, false, false, false, false, false, false] _ _
          try simp only [Act.put, List.setIfInBounds_toArray, List.set_cons_zero, List.set_cons_succ, List.getElem_toArray, List.getElem_cons_zero, List.getElem_cons_succ]
          exact Ks14
        exact AllReadyIn.nil
      case ps15 =>
        refine wpAnyIn_ready (rs := [0, 14]) (by kernel_rfl) (by simp) ?_
        refine AllReadyIn.cons rfl (fun K hK => ?_) ?_
        · go_simp
          refine hK _ _ ?_
          clear hK K
          change wpAnyIn _ _ _ _ _ _ 13 #[true, false, false, false, true, true, true, true, true, true, true, false, false, true, false, false, false, false, false, false, false, false] _ _
          try simp only [Act.put, List.setIfInBounds_toArray, List.set_cons_zero, List.set_cons_succ, List.getElem_toArray, List.getElem_cons_zero, List.getElem_cons_succ]
          refine wpAnyIn_take (i := 1) (v := _) rfl rfl (by kernel_rfl) (by kernel_rfl) (by kernel_rfl) (fun _ _ _ h => h) ⟨Or.inl ⟨by rfl, by intro w; go_simp; first | done | with_reducible rfl⟩, fun _ => by first | rfl | simp [Oper.about, resolve, Target.leads, Sem.run_pure]⟩ ?_
          change wpAnyIn _ _ _ _ _ _ 12 #[true, true, false, false, true, true, true, true, true, true, true, false, false, true, false, false, false, false, false, false, false, false] _ _
          try simp only [Act.put, List.setIfInBounds_toArray, List.set_cons_zero, List.set_cons_succ, List.getElem_toArray, List.getElem_cons_zero, List.getElem_cons_succ]
          refine wpAnyIn_take (i := 2) (v := _) rfl rfl (by kernel_rfl) (by kernel_rfl) (by kernel_rfl) (fun _ _ _ h => h) ⟨Or.inl ⟨by rfl, by intro w; go_simp; first | done | with_reducible rfl⟩, fun _ => by first | rfl | simp [Oper.about, resolve, Target.leads, Sem.run_pure]⟩ ?_
          change wpAnyIn _ _ _ _ _ _ 11 #[true, true, true, false, true, true, true, true, true, true, true, false, false, true, false, false, false, false, false, false, false, false] _ _
          try simp only [Act.put, List.setIfInBounds_toArray, List.set_cons_zero, List.set_cons_succ, List.getElem_toArray, List.getElem_cons_zero, List.getElem_cons_succ]
          exact Ks9
        refine AllReadyIn.cons rfl (fun K hK => ?_) ?_
        · go_simp
          refine hK _ _ ?_
          clear hK K
          change wpAnyIn _ _ _ _ _ _ 13 #[false, false, false, false, true, true, true, true, true, true, true, false, false, true, true, false, false, false, false, false, false, false] _ _
          try simp only [Act.put, List.setIfInBounds_toArray, List.set_cons_zero, List.set_cons_succ, List.getElem_toArray, List.getElem_cons_zero, List.getElem_cons_succ]
          exact Ks14
        exact AllReadyIn.nil
      case ps14 =>
        refine wpAnyIn_ready (rs := [0]) (by kernel_rfl) (by simp) ?_
        refine AllReadyIn.cons rfl (fun K hK => ?_) ?_
        · go_simp
          refine hK _ _ ?_
          clear hK K
          change wpAnyIn _ _ _ _ _ _ 12 #[true, false, false, false, true, true, true, true, true, true, true, false, false, true, true, false, false, false, false, false, false, false] _ _
          try simp only [Act.put, List.setIfInBounds_toArray, List.set_cons_zero, List.set_cons_succ, List.getElem_toArray, List.getElem_cons_zero, List.getElem_cons_succ]
          refine wpAnyIn_take (i := 1) (v := _) rfl rfl (by kernel_rfl) (by kernel_rfl) (by kernel_rfl) (fun _ _ _ h => h) ⟨Or.inl ⟨by rfl, by intro w; go_simp; first | done | with_reducible rfl⟩, fun _ => by first | rfl | simp [Oper.about, resolve, Target.leads, Sem.run_pure]⟩ ?_
          change wpAnyIn _ _ _ _ _ _ 11 #[true, true, false, false, true, true, true, true, true, true, true, false, false, true, true, false, false, false, false, false, false, false] _ _
          try simp only [Act.put, List.setIfInBounds_toArray, List.set_cons_zero, List.set_cons_succ, List.getElem_toArray, List.getElem_cons_zero, List.getElem_cons_succ]
          refine wpAnyIn_take (i := 2) (v := _) rfl rfl (by kernel_rfl) (by kernel_rfl) (by kernel_rfl) (fun _ _ _ h => h) ⟨Or.inl ⟨by rfl, by intro w; go_simp; first | done | with_reducible rfl⟩, fun _ => by first | rfl | simp [Oper.about, resolve, Target.leads, Sem.run_pure]⟩ ?_
          change wpAnyIn _ _ _ _ _ _ 10 #[true, true, true, false, true, true, true, true, true, true, true, false, false, true, true, false, false, false, false, false, false, false] _ _
          try simp only [Act.put, List.setIfInBounds_toArray, List.set_cons_zero, List.set_cons_succ, List.getElem_toArray, List.getElem_cons_zero, List.getElem_cons_succ]
          exact Ks8
        exact AllReadyIn.nil
      case ps13 =>
        refine wpAnyIn_ready (rs := [3, 5, 14]) (by kernel_rfl) (by simp) ?_
        refine AllReadyIn.cons rfl (fun K hK => ?_) ?_
        · go_simp
          refine hK _ _ ?_
          clear hK K
          change wpAnyIn _ _ _ _ _ _ 16 #[true, true, true, true, true, false, false, false, false, false, false, false, false, true, false, false, false, false, false, false, false, false] _ _
          try simp only [Act.put, List.setIfInBounds_toArray, List.set_cons_zero, List.set_cons_succ, List.getElem_toArray, List.getElem_cons_zero, List.getElem_cons_succ]
          exact Ks7
        refine AllReadyIn.cons rfl (fun K hK => ?_) ?_
        · go_simp
          refine hK _ _ ?_
          clear hK K
          change wpAnyIn _ _ _ _ _ _ 16 #[true, true, true, false, true, true, false, false, false, false, false, false, false, true, false, false, false, false, false, false, false, false] _ _
          try simp only [Act.put, List.setIfInBounds_toArray, List.set_cons_zero, List.set_cons_succ, List.getElem_toArray, List.getElem_cons_zero, List.getElem_cons_succ]
          refine wpAnyIn_take (i := 6) (v := _) rfl rfl (by kernel_rfl) (by kernel_rfl) (by kernel_rfl) (fun _ _ _ h => h) ⟨Or.inl ⟨by rfl, by intro w; go_simp; first | done | with_reducible rfl⟩, fun _ => by first | rfl | simp [Oper.about, resolve, Target.leads, Sem.run_pure]⟩ ?_
          change wpAnyIn _ _ _ _ _ _ 15 #[true, true, true, false, true, true, true, false, false, false, false, false, false, true, false, false, false, false, false, false, false, false] _ _
          try simp only [Act.put, List.setIfInBounds_toArray, List.set_cons_zero, List.set_cons_succ, List.getElem_toArray, List.getElem_cons_zero, List.getElem_cons_succ]
          refine wpAnyIn_take (i := 7) (v := _) rfl rfl (by kernel_rfl) (by kernel_rfl) (by kernel_rfl) (fun _ _ _ h => h) ⟨Or.inl ⟨by rfl, by intro w; go_simp; first | done | with_reducible rfl⟩, fun _ => by first | rfl | simp [Oper.about, resolve, Target.leads, Sem.run_pure]⟩ ?_
          change wpAnyIn _ _ _ _ _ _ 14 #[true, true, true, false, true, true, true, true, false, false, false, false, false, true, false, false, false, false, false, false, false, false] _ _
          try simp only [Act.put, List.setIfInBounds_toArray, List.set_cons_zero, List.set_cons_succ, List.getElem_toArray, List.getElem_cons_zero, List.getElem_cons_succ]
          exact Ks11
        refine AllReadyIn.cons rfl (fun K hK => ?_) ?_
        · go_simp
          refine hK _ _ ?_
          clear hK K
          change wpAnyIn _ _ _ _ _ _ 16 #[true, true, true, false, true, false, false, false, false, false, false, false, false, true, true, false, false, false, false, false, false, false] _ _
          try simp only [Act.put, List.setIfInBounds_toArray, List.set_cons_zero, List.set_cons_succ, List.getElem_toArray, List.getElem_cons_zero, List.getElem_cons_succ]
          exact Ks12
        exact AllReadyIn.nil
      case ps12 =>
        refine wpAnyIn_ready (rs := [3, 5]) (by kernel_rfl) (by simp) ?_
        refine AllReadyIn.cons rfl (fun K hK => ?_) ?_
        · go_simp
          refine hK _ _ ?_
          clear hK K
          change wpAnyIn _ _ _ _ _ _ 15 #[true, true, true, true, true, false, false, false, false, false, false, false, false, true, true, false, false, false, false, false, false, false] _ _
          try simp only [Act.put, List.setIfInBounds_toArray, List.set_cons_zero, List.set_cons_succ, List.getElem_toArray, List.getElem_cons_zero, List.getElem_cons_succ]
          exact Ks6
        refine AllReadyIn.cons rfl (fun K hK => ?_) ?_
        · go_simp
          refine hK _ _ ?_
          clear hK K
          change wpAnyIn _ _ _ _ _ _ 15 #[true, true, true, false, true, true, false, false, false, false, false, false, false, true, true, false, false, false, false, false, false, false] _ _
          try simp only [Act.put, List.setIfInBounds_toArray, List.set_cons_zero, List.set_cons_succ, List.getElem_toArray, List.getElem_cons_zero, List.getElem_cons_succ]
          refine wpAnyIn_take (i := 6) (v := _) rfl rfl (by kernel_rfl) (by kernel_rfl) (by kernel_rfl) (fun _ _ _ h => h) ⟨Or.inl ⟨by rfl, by intro w; go_simp; first | done | with_reducible rfl⟩, fun _ => by first | rfl | simp [Oper.about, resolve, Target.leads, Sem.run_pure]⟩ ?_
          change wpAnyIn _ _ _ _ _ _ 14 #[true, true, true, false, true, true, true, false, false, false, false, false, false, true, true, false, false, false, false, false, false, false] _ _
          try simp only [Act.put, List.setIfInBounds_toArray, List.set_cons_zero, List.set_cons_succ, List.getElem_toArray, List.getElem_cons_zero, List.getElem_cons_succ]
          refine wpAnyIn_take (i := 7) (v := _) rfl rfl (by kernel_rfl) (by kernel_rfl) (by kernel_rfl) (fun _ _ _ h => h) ⟨Or.inl ⟨by rfl, by intro w; go_simp; first | done | with_reducible rfl⟩, fun _ => by first | rfl | simp [Oper.about, resolve, Target.leads, Sem.run_pure]⟩ ?_
          change wpAnyIn _ _ _ _ _ _ 13 #[true, true, true, false, true, true, true, true, false, false, false, false, false, true, true, false, false, false, false, false, false, false] _ _
          try simp only [Act.put, List.setIfInBounds_toArray, List.set_cons_zero, List.set_cons_succ, List.getElem_toArray, List.getElem_cons_zero, List.getElem_cons_succ]
          exact Ks10
        exact AllReadyIn.nil
      case ps11 =>
        refine wpAnyIn_ready (rs := [3, 8, 14]) (by kernel_rfl) (by simp) ?_
        refine AllReadyIn.cons rfl (fun K hK => ?_) ?_
        · go_simp
          refine hK _ _ ?_
          clear hK K
          change wpAnyIn _ _ _ _ _ _ 13 #[true, true, true, true, true, true, true, true, false, false, false, false, false, true, false, false, false, false, false, false, false, false] _ _
          try simp only [Act.put, List.setIfInBounds_toArray, List.set_cons_zero, List.set_cons_succ, List.getElem_toArray, List.getElem_cons_zero, List.getElem_cons_succ]
          exact Ks5
        refine AllReadyIn.cons rfl (fun K hK => ?_) ?_
        · go_simp
          refine hK _ _ ?_
          clear hK K
          change wpAnyIn _ _ _ _ _ _ 13 #[true, true, true, false, true, true, true, true, true, false, false, false, false, true, false, false, false, false, false, false, false, false] _ _
          try simp only [Act.put, List.setIfInBounds_toArray, List.set_cons_zero, List.set_cons_succ, List.getElem_toArray, List.getElem_cons_zero, List.getElem_cons_succ]
          refine wpAnyIn_take (i := 9) (v := _) rfl rfl (by kernel_rfl) (by kernel_rfl) (by kernel_rfl) (fun _ _ _ h => h) ⟨Or.inl ⟨by rfl, by intro w; go_simp; first | done | with_reducible rfl⟩, fun _ => by first | rfl | simp [Oper.about, resolve, Target.leads, Sem.run_pure]⟩ ?_
          change wpAnyIn _ _ _ _ _ _ 12 #[true, true, true, false, true, true, true, true, true, true, false, false, false, true, false, false, false, false, false, false, false, false] _ _
          try simp only [Act.put, List.setIfInBounds_toArray, List.set_cons_zero, List.set_cons_succ, List.getElem_toArray, List.getElem_cons_zero, List.getElem_cons_succ]
          refine wpAnyIn_take (i := 10) (v := _) rfl rfl (by kernel_rfl) (by kernel_rfl) (by kernel_rfl) (fun _ _ _ h => h) ⟨Or.inl ⟨by rfl, by intro w; go_simp; first | done | with_reducible rfl⟩, fun _ => by first | rfl | simp [Oper.about, resolve, Target.leads, Sem.run_pure]⟩ ?_
          change wpAnyIn _ _ _ _ _ _ 11 #[true, true, true, false, true, true, true, true, true, true, true, false, false, true, false, false, false, false, false, false, false, false] _ _
          try simp only [Act.put, List.setIfInBounds_toArray, List.set_cons_zero, List.set_cons_succ, List.getElem_toArray, List.getElem_cons_zero, List.getElem_cons_succ]
          exact Ks9
        refine AllReadyIn.cons rfl (fun K hK => ?_) ?_
        · go_simp
          refine hK _ _ ?_
          clear hK K
          change wpAnyIn _ _ _ _ _ _ 13 #[true, true, true, false, true, true, true, true, false, false, false, false, false, true, true, false, false, false, false, false, false, false] _ _
          try simp only [Act.put, List.setIfInBounds_toArray, List.set_cons_zero, List.set_cons_succ, List.getElem_toArray, List.getElem_cons_zero, List.getElem_cons_succ]
          exact Ks10
        exact AllReadyIn.nil
      case ps10 =>
        refine wpAnyIn_ready (rs := [3, 8]) (by kernel_rfl) (by simp) ?_
        refine AllReadyIn.cons rfl (fun K hK => ?_) ?_
        · go_simp
          refine hK _ _ ?_
          clear hK K
          change wpAnyIn _ _ _ _ _ _ 12 #[true, true, true, true, true, true, true, true, false, false, false, false, false, true, true, false, false, false, false, false, false, false] _ _
          try simp only [Act.put, List.setIfInBounds_toArray, List.set_cons_zero, List.set_cons_succ, List.getElem_toArray, List.getElem_cons_zero, List.getElem_cons_succ]
          exact Ks4
        refine AllReadyIn.cons rfl (fun K hK => ?_) ?_
        · go_simp
          refine hK _ _ ?_
          clear hK K
          change wpAnyIn _ _ _ _ _ _ 12 #[true, true, true, false, true, true, true, true, true, false, false, false, false, true, true, false, false, false, false, false, false, false] _ _
          try simp only [Act.put, List.setIfInBounds_toArray, List.set_cons_zero, List.set_cons_succ, List.getElem_toArray, List.getElem_cons_zero, List.getElem_cons_succ]
          refine wpAnyIn_take (i := 9) (v := _) rfl rfl (by kernel_rfl) (by kernel_rfl) (by kernel_rfl) (fun _ _ _ h => h) ⟨Or.inl ⟨by rfl, by intro w; go_simp; first | done | with_reducible rfl⟩, fun _ => by first | rfl | simp [Oper.about, resolve, Target.leads, Sem.run_pure]⟩ ?_
          change wpAnyIn _ _ _ _ _ _ 11 #[true, true, true, false, true, true, true, true, true, true, false, false, false, true, true, false, false, false, false, false, false, false] _ _
          try simp only [Act.put, List.setIfInBounds_toArray, List.set_cons_zero, List.set_cons_succ, List.getElem_toArray, List.getElem_cons_zero, List.getElem_cons_succ]
          refine wpAnyIn_take (i := 10) (v := _) rfl rfl (by kernel_rfl) (by kernel_rfl) (by kernel_rfl) (fun _ _ _ h => h) ⟨Or.inl ⟨by rfl, by intro w; go_simp; first | done | with_reducible rfl⟩, fun _ => by first | rfl | simp [Oper.about, resolve, Target.leads, Sem.run_pure]⟩ ?_
          change wpAnyIn _ _ _ _ _ _ 10 #[true, true, true, false, true, true, true, true, true, true, true, false, false, true, true, false, false, false, false, false, false, false] _ _
          try simp only [Act.put, List.setIfInBounds_toArray, List.set_cons_zero, List.set_cons_succ, List.getElem_toArray, List.getElem_cons_zero, List.getElem_cons_succ]
          exact Ks8
        exact AllReadyIn.nil
      case ps9 =>
        refine wpAnyIn_ready (rs := [3, 14]) (by kernel_rfl) (by simp) ?_
        refine AllReadyIn.cons rfl (fun K hK => ?_) ?_
        · go_simp
          refine hK _ _ ?_
          clear hK K
          change wpAnyIn _ _ _ _ _ _ 10 #[true, true, true, true, true, true, true, true, true, true, true, false, false, true, false, false, false, false, false, false, false, false] _ _
          try simp only [Act.put, List.setIfInBounds_toArray, List.set_cons_zero, List.set_cons_succ, List.getElem_toArray, List.getElem_cons_zero, List.getElem_cons_succ]
          refine wpAnyIn_take (i := 11) (v := _) rfl rfl (by kernel_rfl) (by kernel_rfl) (by kernel_rfl) (fun _ _ _ h => h) ⟨Or.inl ⟨by rfl, by intro w; go_simp; first | done | with_reducible rfl⟩, fun _ => by first | rfl | simp [Oper.about, resolve, Target.leads, Sem.run_pure]⟩ ?_
          change wpAnyIn _ _ _ _ _ _ 9 #[true, true, true, true, true, true, true, true, true, true, true, true, false, true, false, false, false, false, false, false, false, false] _ _
          try simp only [Act.put, List.setIfInBounds_toArray, List.set_cons_zero, List.set_cons_succ, List.getElem_toArray, List.getElem_cons_zero, List.getElem_cons_succ]
          exact Ks3
        refine AllReadyIn.cons rfl (fun K hK => ?_) ?_
        · go_simp
          refine hK _ _ ?_
          clear hK K
          change wpAnyIn _ _ _ _ _ _ 10 #[true, true, true, false, true, true, true, true, true, true, true, false, false, true, true, false, false, false, false, false, false, false] _ _
          try simp only [Act.put, List.setIfInBounds_toArray, List.set_cons_zero, List.set_cons_succ, List.getElem_toArray, List.getElem_cons_zero, List.getElem_cons_succ]
          exact Ks8
        exact AllReadyIn.nil
      case ps8 =>
        refine wpAnyIn_ready (rs := [3]) (by kernel_rfl) (by simp) ?_
        refine AllReadyIn.cons rfl (fun K hK => ?_) ?_
        · go_simp
          refine hK _ _ ?_
          clear hK K
          change wpAnyIn _ _ _ _ _ _ 9 #[true, true, true, true, true, true, true, true, true, true, true, false, false, true, true, false, false, false, false, false, false, false] _ _
          try simp only [Act.put, List.setIfInBounds_toArray, List.set_cons_zero, List.set_cons_succ, List.getElem_toArray, List.getElem_cons_zero, List.getElem_cons_succ]
          refine wpAnyIn_take (i := 11) (v := _) rfl rfl (by kernel_rfl) (by kernel_rfl) (by kernel_rfl) (fun _ _ _ h => h) ⟨Or.inl ⟨by rfl, by intro w; go_simp; first | done | with_reducible rfl⟩, fun _ => by first | rfl | simp [Oper.about, resolve, Target.leads, Sem.run_pure]⟩ ?_
          change wpAnyIn _ _ _ _ _ _ 8 #[true, true, true, true, true, true, true, true, true, true, true, true, false, true, true, false, false, false, false, false, false, false] _ _
          try simp only [Act.put, List.setIfInBounds_toArray, List.set_cons_zero, List.set_cons_succ, List.getElem_toArray, List.getElem_cons_zero, List.getElem_cons_succ]
          exact Ks2
        exact AllReadyIn.nil
      case ps7 =>
        refine wpAnyIn_ready (rs := [5, 14]) (by kernel_rfl) (by simp) ?_
        refine AllReadyIn.cons rfl (fun K hK => ?_) ?_
        · go_simp
          refine hK _ _ ?_
          clear hK K
          change wpAnyIn _ _ _ _ _ _ 15 #[true, true, true, true, true, true, false, false, false, false, false, false, false, true, false, false, false, false, false, false, false, false] _ _
          try simp only [Act.put, List.setIfInBounds_toArray, List.set_cons_zero, List.set_cons_succ, List.getElem_toArray, List.getElem_cons_zero, List.getElem_cons_succ]
          refine wpAnyIn_take (i := 6) (v := _) rfl rfl (by kernel_rfl) (by kernel_rfl) (by kernel_rfl) (fun _ _ _ h => h) ⟨Or.inl ⟨by rfl, by intro w; go_simp; first | done | with_reducible rfl⟩, fun _ => by first | rfl | simp [Oper.about, resolve, Target.leads, Sem.run_pure]⟩ ?_
          change wpAnyIn _ _ _ _ _ _ 14 #[true, true, true, true, true, true, true, false, false, false, false, false, false, true, false, false, false, false, false, false, false, false] _ _
          try simp only [Act.put, List.setIfInBounds_toArray, List.set_cons_zero, List.set_cons_succ, List.getElem_toArray, List.getElem_cons_zero, List.getElem_cons_succ]
          refine wpAnyIn_take (i := 7) (v := _) rfl rfl (by kernel_rfl) (by kernel_rfl) (by kernel_rfl) (fun _ _ _ h => h) ⟨Or.inl ⟨by rfl, by intro w; go_simp; first | done | with_reducible rfl⟩, fun _ => by first | rfl | simp [Oper.about, resolve, Target.leads, Sem.run_pure]⟩ ?_
          change wpAnyIn _ _ _ _ _ _ 13 #[true, true, true, true, true, true, true, true, false, false, false, false, false, true, false, false, false, false, false, false, false, false] _ _
          try simp only [Act.put, List.setIfInBounds_toArray, List.set_cons_zero, List.set_cons_succ, List.getElem_toArray, List.getElem_cons_zero, List.getElem_cons_succ]
          exact Ks5
        refine AllReadyIn.cons rfl (fun K hK => ?_) ?_
        · go_simp
          refine hK _ _ ?_
          clear hK K
          change wpAnyIn _ _ _ _ _ _ 15 #[true, true, true, true, true, false, false, false, false, false, false, false, false, true, true, false, false, false, false, false, false, false] _ _
          try simp only [Act.put, List.setIfInBounds_toArray, List.set_cons_zero, List.set_cons_succ, List.getElem_toArray, List.getElem_cons_zero, List.getElem_cons_succ]
          exact Ks6
        exact AllReadyIn.nil
      case ps6 =>
        refine wpAnyIn_ready (rs := [5]) (by kernel_rfl) (by simp) ?_
        refine AllReadyIn.cons rfl (fun K hK => ?_) ?_
        · go_simp
          refine hK _ _ ?_
          clear hK K
          change wpAnyIn _ _ _ _ _ _ 14 #[true, true, true, true, true, true, false, false, false, false, false, false, false, true, true, false, false, false, false, false, false, false] _ _
          try simp only [Act.put, List.setIfInBounds_toArray, List.set_cons_zero, List.set_cons_succ, List.getElem_toArray, List.getElem_cons_zero, List.getElem_cons_succ]
          refine wpAnyIn_take (i := 6) (v := _) rfl rfl (by kernel_rfl) (by kernel_rfl) (by kernel_rfl) (fun _ _ _ h => h) ⟨Or.inl ⟨by rfl, by intro w; go_simp; first | done | with_reducible rfl⟩, fun _ => by first | rfl | simp [Oper.about, resolve, Target.leads, Sem.run_pure]⟩ ?_
          change wpAnyIn _ _ _ _ _ _ 13 #[true, true, true, true, true, true, true, false, false, false, false, false, false, true, true, false, false, false, false, false, false, false] _ _
          try simp only [Act.put, List.setIfInBounds_toArray, List.set_cons_zero, List.set_cons_succ, List.getElem_toArray, List.getElem_cons_zero, List.getElem_cons_succ]
          refine wpAnyIn_take (i := 7) (v := _) rfl rfl (by kernel_rfl) (by kernel_rfl) (by kernel_rfl) (fun _ _ _ h => h) ⟨Or.inl ⟨by rfl, by intro w; go_simp; first | done | with_reducible rfl⟩, fun _ => by first | rfl | simp [Oper.about, resolve, Target.leads, Sem.run_pure]⟩ ?_
          change wpAnyIn _ _ _ _ _ _ 12 #[true, true, true, true, true, true, true, true, false, false, false, false, false, true, true, false, false, false, false, false, false, false] _ _
          try simp only [Act.put, List.setIfInBounds_toArray, List.set_cons_zero, List.set_cons_succ, List.getElem_toArray, List.getElem_cons_zero, List.getElem_cons_succ]
          exact Ks4
        exact AllReadyIn.nil
      case ps5 =>
        refine wpAnyIn_ready (rs := [8, 14]) (by kernel_rfl) (by simp) ?_
        refine AllReadyIn.cons rfl (fun K hK => ?_) ?_
        · go_simp
          refine hK _ _ ?_
          clear hK K
          change wpAnyIn _ _ _ _ _ _ 12 #[true, true, true, true, true, true, true, true, true, false, false, false, false, true, false, false, false, false, false, false, false, false] _ _
          try simp only [Act.put, List.setIfInBounds_toArray, List.set_cons_zero, List.set_cons_succ, List.getElem_toArray, List.getElem_cons_zero, List.getElem_cons_succ]
          refine wpAnyIn_take (i := 9) (v := _) rfl rfl (by kernel_rfl) (by kernel_rfl) (by kernel_rfl) (fun _ _ _ h => h) ⟨Or.inl ⟨by rfl, by intro w; go_simp; first | done | with_reducible rfl⟩, fun _ => by first | rfl | simp [Oper.about, resolve, Target.leads, Sem.run_pure]⟩ ?_
          change wpAnyIn _ _ _ _ _ _ 11 #[true, true, true, true, true, true, true, true, true, true, false, false, false, true, false, false, false, false, false, false, false, false] _ _
          try simp only [Act.put, List.setIfInBounds_toArray, List.set_cons_zero, List.set_cons_succ, List.getElem_toArray, List.getElem_cons_zero, List.getElem_cons_succ]
          refine wpAnyIn_take (i := 10) (v := _) rfl rfl (by kernel_rfl) (by kernel_rfl) (by kernel_rfl) (fun _ _ _ h => h) ⟨Or.inl ⟨by rfl, by intro w; go_simp; first | done | with_reducible rfl⟩, fun _ => by first | rfl | simp [Oper.about, resolve, Target.leads, Sem.run_pure]⟩ ?_
          change wpAnyIn _ _ _ _ _ _ 10 #[true, true, true, true, true, true, true, true, true, true, true, false, false, true, false, false, false, false, false, false, false, false] _ _
          try simp only [Act.put, List.setIfInBounds_toArray, List.set_cons_zero, List.set_cons_succ, List.getElem_toArray, List.getElem_cons_zero, List.getElem_cons_succ]
          refine wpAnyIn_take (i := 11) (v := _) rfl rfl (by kernel_rfl) (by kernel_rfl) (by kernel_rfl) (fun _ _ _ h => h) ⟨Or.inl ⟨by rfl, by intro w; go_simp; first | done | with_reducible rfl⟩, fun _ => by first | rfl | simp [Oper.about, resolve, Target.leads, Sem.run_pure]⟩ ?_
          change wpAnyIn _ _ _ _ _ _ 9 #[true, true, true, true, true, true, true, true, true, true, true, true, false, true, false, false, false, false, false, false, false, false] _ _
          try simp only [Act.put, List.setIfInBounds_toArray, List.set_cons_zero, List.set_cons_succ, List.getElem_toArray, List.getElem_cons_zero, List.getElem_cons_succ]
          exact Ks3
        refine AllReadyIn.cons rfl (fun K hK => ?_) ?_
        · go_simp
          refine hK _ _ ?_
          clear hK K
          change wpAnyIn _ _ _ _ _ _ 12 #[true, true, true, true, true, true, true, true, false, false, false, false, false, true, true, false, false, false, false, false, false, false] _ _
          try simp only [Act.put, List.setIfInBounds_toArray, List.set_cons_zero, List.set_cons_succ, List.getElem_toArray, List.getElem_cons_zero, List.getElem_cons_succ]
          exact Ks4
        exact AllReadyIn.nil
      case ps4 =>
        refine wpAnyIn_ready (rs := [8]) (by kernel_rfl) (by simp) ?_
        refine AllReadyIn.cons rfl (fun K hK => ?_) ?_
        · go_simp
          refine hK _ _ ?_
          clear hK K
          change wpAnyIn _ _ _ _ _ _ 11 #[true, true, true, true, true, true, true, true, true, false, false, false, false, true, true, false, false, false, false, false, false, false] _ _
          try simp only [Act.put, List.setIfInBounds_toArray, List.set_cons_zero, List.set_cons_succ, List.getElem_toArray, List.getElem_cons_zero, List.getElem_cons_succ]
          refine wpAnyIn_take (i := 9) (v := _) rfl rfl (by kernel_rfl) (by kernel_rfl) (by kernel_rfl) (fun _ _ _ h => h) ⟨Or.inl ⟨by rfl, by intro w; go_simp; first | done | with_reducible rfl⟩, fun _ => by first | rfl | simp [Oper.about, resolve, Target.leads, Sem.run_pure]⟩ ?_
          change wpAnyIn _ _ _ _ _ _ 10 #[true, true, true, true, true, true, true, true, true, true, false, false, false, true, true, false, false, false, false, false, false, false] _ _
          try simp only [Act.put, List.setIfInBounds_toArray, List.set_cons_zero, List.set_cons_succ, List.getElem_toArray, List.getElem_cons_zero, List.getElem_cons_succ]
          refine wpAnyIn_take (i := 10) (v := _) rfl rfl (by kernel_rfl) (by kernel_rfl) (by kernel_rfl) (fun _ _ _ h => h) ⟨Or.inl ⟨by rfl, by intro w; go_simp; first | done | with_reducible rfl⟩, fun _ => by first | rfl | simp [Oper.about, resolve, Target.leads, Sem.run_pure]⟩ ?_
          change wpAnyIn _ _ _ _ _ _ 9 #[true, true, true, true, true, true, true, true, true, true, true, false, false, true, true, false, false, false, false, false, false, false] _ _
          try simp only [Act.put, List.setIfInBounds_toArray, List.set_cons_zero, List.set_cons_succ, List.getElem_toArray, List.getElem_cons_zero, List.getElem_cons_succ]
          refine wpAnyIn_take (i := 11) (v := _) rfl rfl (by kernel_rfl) (by kernel_rfl) (by kernel_rfl) (fun _ _ _ h => h) ⟨Or.inl ⟨by rfl, by intro w; go_simp; first | done | with_reducible rfl⟩, fun _ => by first | rfl | simp [Oper.about, resolve, Target.leads, Sem.run_pure]⟩ ?_
          change wpAnyIn _ _ _ _ _ _ 8 #[true, true, true, true, true, true, true, true, true, true, true, true, false, true, true, false, false, false, false, false, false, false] _ _
          try simp only [Act.put, List.setIfInBounds_toArray, List.set_cons_zero, List.set_cons_succ, List.getElem_toArray, List.getElem_cons_zero, List.getElem_cons_succ]
          exact Ks2
        exact AllReadyIn.nil
      case ps3 =>
        refine wpAnyIn_ready (rs := [12, 14]) (by kernel_rfl) (by simp) ?_
        refine AllReadyIn.cons rfl (fun K hK => ?_) ?_
        · go_simp
          refine hK _ _ ?_
          clear hK K
          change wpAnyIn _ _ _ _ _ _ 8 #[true, true, true, true, true, true, true, true, true, true, true, true, true, true, false, false, false, false, false, false, false, false] _ _
          try simp only [Act.put, List.setIfInBounds_toArray, List.set_cons_zero, List.set_cons_succ, List.getElem_toArray, List.getElem_cons_zero, List.getElem_cons_succ]
          exact Ks1
        refine AllReadyIn.cons rfl (fun K hK => ?_) ?_
        · go_simp
          refine hK _ _ ?_
          clear hK K
          change wpAnyIn _ _ _ _ _ _ 8 #[true, true, true, true, true, true, true, true, true, true, true, true, false, true, true, false, false, false, false, false, false, false] _ _
          try simp only [Act.put, List.setIfInBounds_toArray, List.set_cons_zero, List.set_cons_succ, List.getElem_toArray, List.getElem_cons_zero, List.getElem_cons_succ]
          exact Ks2
        exact AllReadyIn.nil
      case ps2 =>
        refine wpAnyIn_ready (rs := [12]) (by kernel_rfl) (by simp) ?_
        refine AllReadyIn.cons rfl (fun K hK => ?_) ?_
        · go_simp
          refine hK _ _ ?_
          clear hK K
          change wpAnyIn _ _ _ _ _ _ 7 #[true, true, true, true, true, true, true, true, true, true, true, true, true, true, true, false, false, false, false, false, false, false] _ _
          try simp only [Act.put, List.setIfInBounds_toArray, List.set_cons_zero, List.set_cons_succ, List.getElem_toArray, List.getElem_cons_zero, List.getElem_cons_succ]
          exact Ks0
        exact AllReadyIn.nil
      case ps1 =>
        refine wpAnyIn_ready (rs := [14]) (by kernel_rfl) (by simp) ?_
        refine AllReadyIn.cons rfl (fun K hK => ?_) ?_
        · go_simp
          refine hK _ _ ?_
          clear hK K
          change wpAnyIn _ _ _ _ _ _ 7 #[true, true, true, true, true, true, true, true, true, true, true, true, true, true, true, false, false, false, false, false, false, false] _ _
          try simp only [Act.put, List.setIfInBounds_toArray, List.set_cons_zero, List.set_cons_succ, List.getElem_toArray, List.getElem_cons_zero, List.getElem_cons_succ]
          exact Ks0
        exact AllReadyIn.nil
      have hJ0 := Lib.hid (abides_drew HJ.out (abides_below HJ.out HJK.out hA))
      have hlen : (sureTo f r k).length < 301 := by have := sureTo_len (f := f) (r := r) (i := k); omega
      have HLEN := Lib.hid hlen
      have hcast : ((r + t.1 : Nat) : Int) = (r : Int) + (t.1 : Int) := by norm_cast
      have HCA := Lib.hid hcast
      have hW0n : n₀ ≤ W0.heap.size := Nat.le_trans hn0r hA.size
      have hBW : Hid (Below n₀ W W0.drew) := (HB.out.trans (hA.mono hn0r)).drew
      have HC : Hid (∀ W : World, Calls Try.prog 101 #[.agg #[.int .i64 (cb0.near f.reach).x.lo, .int .i64 (cb0.near f.reach).x.hi, .int .i64 (cb0.near f.reach).z.lo, .int .i64 (cb0.near f.reach).z.hi], .agg #[.int .i64 bx.x.lo, .int .i64 bx.x.hi, .int .i64 bx.z.lo, .int .i64 bx.z.hi]] W fun e w' => e = .returned (.bool (f.hitB r t.1)) ∧ Below W.heap.size W w') := by
        show ∀ W : World, _
        intro W
        rw [HH.out]
        exact bhas_any (cb0.near f.reach) bx W
      clear hlen hcast hA
      cases hhit : f.hitB r t.1
      · rw [hhit] at HC
        have HHIT := Lib.hid hhit
        clear hhit
        refine wpAnyIn_ready (rs := [15]) (by kernel_rfl) (by simp) ?_
        refine AllReadyIn.cons rfl (fun K hK => ?_) AllReadyIn.nil
        go_simp
        gi_wp2_with (first | (refine ⟨trivial, ?_⟩; gi_at_call 101; (with_reducible refine (callsIn_wide.2 (HC.out _)).mono ?_); rintro e w1 ⟨rfl, hb1⟩; have hJ1 := Lib.hid (abides_below HJ.out hJ0.out hb1)))
        try (refine hK _ _ ?_; clear hK K)
        change wpAnyIn _ _ _ _ _ _ 6 #[true, true, true, true, true, true, true, true, true, true, true, true, true, true, true, true, false, false, false, false, false, false] _ _
        try simp only [Act.put, List.setIfInBounds_toArray, List.set_cons_zero, List.set_cons_succ, List.getElem_toArray, List.getElem_cons_zero, List.getElem_cons_succ]
        refine wpAnyIn_take (i := 16) (v := _) rfl rfl (by kernel_rfl) (by kernel_rfl) (by kernel_rfl) (fun _ _ _ h => h) ⟨Or.inl ⟨by rfl, by intro w; go_simp; first | done | with_reducible rfl⟩, fun _ => by first | rfl | simp [Oper.about, resolve, Target.leads, Sem.run_pure]⟩ ?_
        change wpAnyIn _ _ _ _ _ _ 5 #[true, true, true, true, true, true, true, true, true, true, true, true, true, true, true, true, true, false, false, false, false, false] _ _
        try simp only [Act.put, List.setIfInBounds_toArray, List.set_cons_zero, List.set_cons_succ, List.getElem_toArray, List.getElem_cons_zero, List.getElem_cons_succ]
        refine wpAnyIn_take (i := 17) (v := undef) rfl rfl (by kernel_rfl) (by kernel_rfl) (by kernel_rfl) (fun _ _ _ h => h) ⟨Or.inr ⟨by rfl, rfl⟩, fun _ => by first | rfl | simp [Oper.about, resolve, Target.leads, Sem.run_pure]⟩ ?_
        change wpAnyIn _ _ _ _ _ _ 4 #[true, true, true, true, true, true, true, true, true, true, true, true, true, true, true, true, true, true, false, false, false, false] _ _
        try simp only [Act.put, List.setIfInBounds_toArray, List.set_cons_zero, List.set_cons_succ, List.getElem_toArray, List.getElem_cons_zero, List.getElem_cons_succ]
        refine wpAnyIn_take (i := 18) (v := undef) rfl rfl (by kernel_rfl) (by kernel_rfl) (by kernel_rfl) (fun _ _ _ h => h) ⟨Or.inr ⟨by rfl, rfl⟩, fun _ => by first | rfl | simp [Oper.about, resolve, Target.leads, Sem.run_pure]⟩ ?_
        change wpAnyIn _ _ _ _ _ _ 3 #[true, true, true, true, true, true, true, true, true, true, true, true, true, true, true, true, true, true, true, false, false, false] _ _
        try simp only [Act.put, List.setIfInBounds_toArray, List.set_cons_zero, List.set_cons_succ, List.getElem_toArray, List.getElem_cons_zero, List.getElem_cons_succ]
        refine wpAnyIn_take (i := 19) (v := undef) rfl rfl (by kernel_rfl) (by kernel_rfl) (by kernel_rfl) (fun _ _ _ h => h) ⟨Or.inr ⟨by rfl, rfl⟩, fun _ => by first | rfl | simp [Oper.about, resolve, Target.leads, Sem.run_pure]⟩ ?_
        change wpAnyIn _ _ _ _ _ _ 2 #[true, true, true, true, true, true, true, true, true, true, true, true, true, true, true, true, true, true, true, true, false, false] _ _
        try simp only [Act.put, List.setIfInBounds_toArray, List.set_cons_zero, List.set_cons_succ, List.getElem_toArray, List.getElem_cons_zero, List.getElem_cons_succ]
        refine wpAnyIn_take (i := 20) (v := undef) rfl rfl (by kernel_rfl) (by kernel_rfl) (by kernel_rfl) (fun _ _ _ h => h) ⟨Or.inr ⟨by rfl, rfl⟩, fun _ => by first | rfl | simp [Oper.about, resolve, Target.leads, Sem.run_pure]⟩ ?_
        change wpAnyIn _ _ _ _ _ _ 1 #[true, true, true, true, true, true, true, true, true, true, true, true, true, true, true, true, true, true, true, true, true, false] _ _
        try simp only [Act.put, List.setIfInBounds_toArray, List.set_cons_zero, List.set_cons_succ, List.getElem_toArray, List.getElem_cons_zero, List.getElem_cons_succ]
        refine wpAnyIn_take (i := 21) (v := _) rfl rfl (by kernel_rfl) (by kernel_rfl) (by kernel_rfl) (fun _ _ _ h => h) ⟨Or.inl ⟨by rfl, by intro w; go_simp; first | done | with_reducible rfl⟩, fun _ => by first | rfl | simp [Oper.about, resolve, Target.leads, Sem.run_pure]⟩ ?_
        change wpAnyIn _ _ _ _ _ _ 0 #[true, true, true, true, true, true, true, true, true, true, true, true, true, true, true, true, true, true, true, true, true, true] _ _
        try simp only [Act.put, List.setIfInBounds_toArray, List.set_cons_zero, List.set_cons_succ, List.getElem_toArray, List.getElem_cons_zero, List.getElem_cons_succ]
        refine wpAnyIn_done (by kernel_rfl) ?_ _
        gi_wp2
        have jx := hJ1.out
        rw [← sureTo_miss HT.out HHIT.out] at jx
        exact ⟨⟨k + 1, by omega, by go_num, jx, hBW.out.trans (hb1.mono hW0n)⟩, by simp [intOf]; omega⟩
      · rw [hhit] at HC
        have HHIT := Lib.hid hhit
        clear hhit
        refine wpAnyIn_ready (rs := [15]) (by kernel_rfl) (by simp) ?_
        refine AllReadyIn.cons rfl (fun K hK => ?_) AllReadyIn.nil
        go_simp
        gi_wp2_with (first | (refine ⟨trivial, ?_⟩; gi_at_call 101; (with_reducible refine (callsIn_wide.2 (HC.out _)).mono ?_); rintro e w1 ⟨rfl, hb1⟩; obtain ⟨fn, tmps, assign, body, hy, hR0⟩ := HY.out (sureTo f r k) (r + t.1) w1 (abides_below HJ.out hJ0.out hb1) HLEN.out; rw [HCA.out] at hy; have HR := Lib.hid hR0; clear hR0) | (refine HR.out.mono ?_; rintro e W3 h3; obtain ⟨b2, rfl, h4⟩ := round_bool h3; clear h3))
        try (refine hK _ _ ?_; clear hK K)
        change wpAnyIn _ _ _ _ _ _ 6 #[true, true, true, true, true, true, true, true, true, true, true, true, true, true, true, true, false, false, false, false, false, false] _ _
        try simp only [Act.put, List.setIfInBounds_toArray, List.set_cons_zero, List.set_cons_succ, List.getElem_toArray, List.getElem_cons_zero, List.getElem_cons_succ]
        refine wpAnyIn_take (i := 16) (v := _) rfl rfl (by kernel_rfl) (by kernel_rfl) (by kernel_rfl) (fun _ _ _ h => h) ⟨Or.inl ⟨by rfl, by intro w; go_simp; first | done | with_reducible rfl⟩, fun _ => by first | rfl | simp [Oper.about, resolve, Target.leads, Sem.run_pure]⟩ ?_
        change wpAnyIn _ _ _ _ _ _ 5 #[true, true, true, true, true, true, true, true, true, true, true, true, true, true, true, true, true, false, false, false, false, false] _ _
        try simp only [Act.put, List.setIfInBounds_toArray, List.set_cons_zero, List.set_cons_succ, List.getElem_toArray, List.getElem_cons_zero, List.getElem_cons_succ]
        refine wpAnyIn_take (i := 17) (v := _) rfl rfl (by kernel_rfl) (by kernel_rfl) (by kernel_rfl) (fun _ _ _ h => h) ⟨Or.inl ⟨by rfl, by intro w; go_simp; first | done | with_reducible rfl⟩, fun _ => by first | rfl | simp [Oper.about, resolve, Target.leads, Sem.run_pure]⟩ ?_
        change wpAnyIn _ _ _ _ _ _ 4 #[true, true, true, true, true, true, true, true, true, true, true, true, true, true, true, true, true, true, false, false, false, false] _ _
        try simp only [Act.put, List.setIfInBounds_toArray, List.set_cons_zero, List.set_cons_succ, List.getElem_toArray, List.getElem_cons_zero, List.getElem_cons_succ]
        refine wpAnyIn_take (i := 18) (v := _) rfl rfl (by kernel_rfl) (by kernel_rfl) (by kernel_rfl) (fun _ _ _ h => h) ⟨Or.inl ⟨by rfl, by intro w; go_simp; first | done | with_reducible rfl⟩, fun _ => by first | rfl | simp [Oper.about, resolve, Target.leads, Sem.run_pure]⟩ ?_
        change wpAnyIn _ _ _ _ _ _ 3 #[true, true, true, true, true, true, true, true, true, true, true, true, true, true, true, true, true, true, true, false, false, false] _ _
        try simp only [Act.put, List.setIfInBounds_toArray, List.set_cons_zero, List.set_cons_succ, List.getElem_toArray, List.getElem_cons_zero, List.getElem_cons_succ]
        refine wpAnyIn_ready (rs := [19]) (by kernel_rfl) (by simp) ?_
        refine AllReadyIn.cons rfl (fun K hK => ?_) AllReadyIn.nil
        go_simp
        gi_wp2_with (first | (refine ⟨trivial, ?_⟩; gi_at_call 101; (with_reducible refine (callsIn_wide.2 (HC.out _)).mono ?_); rintro e w1 ⟨rfl, hb1⟩; obtain ⟨fn, tmps, assign, body, hy, hR0⟩ := HY.out (sureTo f r k) (r + t.1) w1 (abides_below HJ.out hJ0.out hb1) HLEN.out; rw [HCA.out] at hy; have HR := Lib.hid hR0; clear hR0) | (refine HR.out.mono ?_; rintro e W3 h3; obtain ⟨b2, rfl, h4⟩ := round_bool h3; clear h3))
        try (refine hK _ _ ?_; clear hK K)
        change wpAnyIn _ _ _ _ _ _ 2 #[true, true, true, true, true, true, true, true, true, true, true, true, true, true, true, true, true, true, true, true, false, false] _ _
        try simp only [Act.put, List.setIfInBounds_toArray, List.set_cons_zero, List.set_cons_succ, List.getElem_toArray, List.getElem_cons_zero, List.getElem_cons_succ]
        refine wpAnyIn_take (i := 20) (v := _) rfl rfl (by kernel_rfl) (by kernel_rfl) (by kernel_rfl) (fun _ _ _ h => h) ⟨Or.inl ⟨by rfl, by intro w; go_simp; first | done | with_reducible rfl⟩, fun _ => by first | rfl | simp [Oper.about, resolve, Target.leads, Sem.run_pure]⟩ ?_
        change wpAnyIn _ _ _ _ _ _ 1 #[true, true, true, true, true, true, true, true, true, true, true, true, true, true, true, true, true, true, true, true, true, false] _ _
        try simp only [Act.put, List.setIfInBounds_toArray, List.set_cons_zero, List.set_cons_succ, List.getElem_toArray, List.getElem_cons_zero, List.getElem_cons_succ]
        refine wpAnyIn_take (i := 21) (v := _) rfl rfl (by kernel_rfl) (by kernel_rfl) (by kernel_rfl) (fun _ _ _ h => h) ⟨Or.inl ⟨by rfl, by intro w; go_simp; first | done | with_reducible rfl⟩, fun _ => by first | rfl | simp [Oper.about, resolve, Target.leads, Sem.run_pure]⟩ ?_
        change wpAnyIn _ _ _ _ _ _ 0 #[true, true, true, true, true, true, true, true, true, true, true, true, true, true, true, true, true, true, true, true, true, true] _ _
        try simp only [Act.put, List.setIfInBounds_toArray, List.set_cons_zero, List.set_cons_succ, List.getElem_toArray, List.getElem_cons_zero, List.getElem_cons_succ]
        refine wpAnyIn_done (by kernel_rfl) ?_ _
        gi_wp2
        all_goals first
          | (have hb' : (!b2) = true := by assumption
             have hb2 : b2 = false := by simpa using hb'
             have jx := h4.out.2 hb2
             rw [← sureTo_hit HT.out HHIT.out] at jx
             refine bodyPost_ret (results_none rfl _ _ _) rfl ?_
             exact ⟨⟨_, rfl⟩, .inr ⟨_, sureTo_prefix (by omega), jx⟩⟩)
          | (have hb' : (!b2) = false := by assumption
             have hb2 : b2 = true := by simpa using hb'
             obtain ⟨jx, hkp⟩ := h4.out.1 hb2
             rw [← sureTo_hit HT.out HHIT.out] at jx
             exact ⟨⟨k + 1, by omega, by go_num, jx, (hBW.out.trans (hb1.mono hW0n)).trans hkp⟩, by simp [intOf]; omega⟩)
    · obtain rfl : k = (borneL f).length := by omega
      gi_wp2
      go_end0
      first | exact ⟨⟨_, rfl⟩, .inl hJk⟩ | exact ⟨⟨_, rfl⟩, .inl ⟨_, rfl, hJk⟩⟩
end Go.Proofs.Ytbagfapalkmikaa
