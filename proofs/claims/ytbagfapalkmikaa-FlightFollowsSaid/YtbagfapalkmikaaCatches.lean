import Derived.Test.YtbagfapalkmikaaFollow

/- The ticks at which a catch is sure, as a slice. -/
namespace Go.Proofs.Ytbagfapalkmikaa
open Go.RowKit Go.Shelf
attribute [local go_sem] Oper.semAt_some

theorem sure_stops (n : Nat) (hn : 1 ≤ n) (g gP gR : Nat) (f : Flt) (A Ab An : Option Addr) (c cb cn r : Nat) (hc1 : 1 ≤ f.cycle.length) (hc2 : f.cycle.length ≤ 600) (hm : f.most ≤ 300) (hr : r ≤ 6000) (n₀ : Nat) (w : World) (hn0 : n₀ ≤ w.heap.size) (hF : FolW f A c w n₀ g Ab An cb cn) (hP : Blk w gP 124 #[.pointer (some ⟨g, 0, none⟩)]) (hR : Blk w gR 3 #[.int .i64 r]) (hPn : gP < n₀) (hRn : gR < n₀) :
    SeqStopsK Fence.wide n Try.prog 100 #[.pointer (some ⟨gP, 0, none⟩), .pointer (some ⟨gR, 0, none⟩)] (fun x : Nat => #[Value.int .i64 x]) (Below n₀) (fun ys => ys = sureL f r) (fun pre => pre <+: sureL f r) 301 w := fun l J Jx W hW hJ _ hY h0 =>
  sure1_in n hn l g gP gR f A Ab An c cb cn r hc1 hc2 hm hr J Jx W.heap.size n₀ hJ hY W (Nat.le_trans hn0 hW.size) (hF.below hW hn0) (hP.below hW (by omega)) (hR.below hW (by omega)) hPn hRn h0

theorem sure_any (p : Option Addr) (r : Int) (w : World) :
    Calls Try.prog 67 #[.pointer p, .int .i64 r] w fun e w' => e = .returned (.func (.func 100) #[] #[.pointer (some ⟨w.heap.size, 0, none⟩), .pointer (some ⟨w.heap.size + 1, 0, none⟩)]) ∧ w' = (w.alloc (.cells #[.pointer p] 124)).alloc (.cells #[.int .i64 r] 3) := by
  go_enter Try.func67, Try.ntmps67
  go_wp2
  go_ret
  exact ⟨rfl, rfl⟩

theorem FolW.more' {f : Flt} {A : Option Addr} {c : Nat} {W : World} {B B' g : Nat} {Ab An : Option Addr} {cb cn : Nat} (h : FolW f A c W B g Ab An cb cn) (hB : B ≤ B') : FolW f A c W B' g Ab An cb cn :=
  ⟨h.1, h.2.1.more hB, h.2.2.1.more hB, Nat.lt_of_lt_of_le h.2.2.2 hB⟩
theorem infoI : (Try.prog.info? 3).map (fun i => (i.zero, i.size, i.bytes)) = some (some (.int .i64 0), 1, 8) := by kernel_rfl

def nats (l : List Nat) : List Value := l.map fun x => .int .i64 (x : Nat)

set_option maxRecDepth 100000 in
set_option maxHeartbeats 8000000 in
theorem appendSeq_in (n : Nat) (hn : 3 ≤ n) (g gP gR : Nat) (f : Flt) (A Ab An : Option Addr) (c cb cn r : Nat) (hc1 : 1 ≤ f.cycle.length) (hc2 : f.cycle.length ≤ 600) (hm : f.most ≤ 300) (hr : r ≤ 6000) (w : World) (hF : FolW f A c w w.heap.size g Ab An cb cn) (hP : Blk w gP 124 #[.pointer (some ⟨g, 0, none⟩)]) (hR : Blk w gR 3 #[.int .i64 r]) :
    CallsIn Fence.wide n Try.prog 97 #[.slice none 0 0, .func (.func 100) #[] #[.pointer (some ⟨gP, 0, none⟩), .pointer (some ⟨gR, 0, none⟩)]] w fun e w' => ∃ v, e = .returned v ∧ w'.ownsRow w.heap.size 3 1 v (sureL f r).length (nats (sureL f r)) ∧ Below w.heap.size w w' := by
  have hbl := borneL_len hm
  have hpl := hP.lt
  have hrl := hR.lt
  obtain ⟨i0, hi, hz0, hz1, hz2⟩ := info_parts infoI
  refine callsIn_of_wp_marks Try.func97 rfl trivial ?_ rfl
  simp only [Try.ntmps97, List.size_toArray, List.length_cons, List.length_nil, Nat.reduceAdd, Nat.reduceSub, Array.replicate_succ, Array.replicate_zero, List.push_toArray, List.append_toArray, List.nil_append, List.cons_append]
  gi_wp2
  have bO := Boxed.new w 78 (.slice none 0 0)
  have hB0 : Below w.heap.size w (w.alloc (.cells #[.slice none 0 0] 78)) := (Below.refl _ w).alloc (Nat.le_refl _) _
  refine wpIn_rangeFunc_ownF (F := Fence.wide) rfl (by omega) (gf := 100) (lb := #[.pointer (some ⟨gP, 0, none⟩), .pointer (some ⟨gR, 0, none⟩)]) rfl trivial (enters_of Try.func100 (by kernel_rfl) rfl)
    (sure_stops (n - 1) (by omega) g gP gR f A Ab An c cb cn r hc1 hc2 hm hr w.heap.size _ (by simp) (hF.below hB0 (Nat.le_refl _)) (hP.alloc _) (hR.alloc _) hpl hrl) belowK_t (belowK_b (by simp)) (Below.refl _ _) (fun _ => by rfl)
    (fun pre W => (∃ v, Boxed W w.heap.size 78 v ∧ W.ownsRow w.heap.size 3 1 v pre.length (nats pre) ∧ True) ∧ Below w.heap.size w W)
    (fun _ _ _ => False)
    (OwnFrom.and (Own.from (holdsRow_own w.heap.size w.heap.size 78 3 1 (fun pre : List Nat => pre.length) (fun pre => nats pre) (fun _ _ => True)) _) (ownFrom_below (Nat.le_refl _) (by simp)))
    (fun _ _ _ _ _ hs _ _ => hs)
    ⟨⟨_, bO, World.ownsRow_nil _ _ _ _, trivial⟩, hB0⟩
    (fun x => { tmps := #[.slice none 0 0, .func (.func 100) #[] #[.pointer (some ⟨gP, 0, none⟩), .pointer (some ⟨gR, 0, none⟩)], .pointer (some ⟨w.heap.size, 0, none⟩), undef, .slice none 0 0, .int .i64 x, .func (.func 100) #[] #[.pointer (some ⟨gP, 0, none⟩), .pointer (some ⟨gR, 0, none⟩)], .int .i64 x, undef, undef, undef, undef, undef], defers := [] }) ?assign ?body ?done ?stop
  case assign =>
    intro l x W K hK
    gi_wp2
    exact hK
  case body =>
    rintro l pre x W ⟨⟨v, hv, hrow, _⟩, hB⟩ hlt
    have hc := hv.cell
    have hml : (302 : Nat) ≤ maxLen := by unfold maxLen; omega
    gi_wp2_with (gi_at_builtin; refine wpListIn_append_own _ rfl _ _ 78 rfl w.heap.size 3 i0 (.int .i64 0) 1 8 rfl hi hz0 hz1 hz2 rfl (by decide) _ _ _ rfl (hrow.alloc _) ⟨W.heap.size, 0, none⟩ 1 1 [.int .i64 x] rfl rfl (cell_one_new _ _ _) (by simp [Value.oneCell']) (by omega) (by omega) (by have := hB.size; simp; omega) ?_; intro v' w1 hown' hgrow _; obtain ⟨g', cap', rfl⟩ := ownsRow_succ hown'; obtain ⟨hv1, hv2, hr2, hk2, hb2⟩ := hv.appended (by decide) hrow hB.size (Nat.le_refl _) hown' hgrow; have hc1 := hv1.cell; have hf1 := hv1.frozen)
    exact ⟨hk2, hb2, ⟨_, hv2, by simpa [nats] using hr2, trivial⟩, hB.trans hb2⟩
  case done =>
    rintro D ys W hD rfl ⟨⟨v, hv, hrow, _⟩, hB⟩ hK
    have hc := hv.cell
    gi_wp2
    refine ⟨by simp, .inl ⟨_, _, rfl, run_takeDeferred hK, ?_⟩⟩
    exact ⟨_, results_tmp rfl _ _ _, v, rfl, ownsRow_putObj hrow _ hK rfl, hB.trans (belowK_b (w := w) (Nat.le_refl _) W D _ _ (by simp at hD; omega) hK rfl rfl)⟩
  case stop =>
    rintro D c pre W _ _ h _
    exact h.elim
set_option maxHeartbeats 2000000 in
theorem collect_any (g gP gR : Nat) (f : Flt) (A Ab An : Option Addr) (c cb cn r : Nat) (hc1 : 1 ≤ f.cycle.length) (hc2 : f.cycle.length ≤ 600) (hm : f.most ≤ 300) (hr : r ≤ 6000) (w : World) (hF : FolW f A c w w.heap.size g Ab An cb cn) (hP : Blk w gP 124 #[.pointer (some ⟨g, 0, none⟩)]) (hR : Blk w gR 3 #[.int .i64 r]) :
    Calls Try.prog 65 #[.func (.func 100) #[] #[.pointer (some ⟨gP, 0, none⟩), .pointer (some ⟨gR, 0, none⟩)]] w fun e w' => ∃ v, e = .returned v ∧ w'.ownsRow w.heap.size 3 1 v (sureL f r).length (nats (sureL f r)) ∧ Below w.heap.size w w' := by
  have HA : Hid (Calls Try.prog 97 #[.slice none 0 0, .func (.func 100) #[] #[.pointer (some ⟨gP, 0, none⟩), .pointer (some ⟨gR, 0, none⟩)]] w fun e w' => ∃ v, e = .returned v ∧ w'.ownsRow w.heap.size 3 1 v (sureL f r).length (nats (sureL f r)) ∧ Below w.heap.size w w') := (callsIn_wide (n := 9)).1 (appendSeq_in 9 (by omega) g gP gR f A Ab An c cb cn r hc1 hc2 hm hr w hF hP hR)
  clear hF hP hR
  go_enter Try.func65, Try.ntmps65
  go_wp2_with (go_at_call 97; refine HA.out.mono ?_; rintro e w' ⟨v, rfl, hrow, hb⟩)
  go_ret
  exact ⟨_, rfl, hrow, hb⟩

def ints (l : List Nat) : List Int := l.map fun (x : Nat) => (x : Int)
theorem nats_ints (l : List Nat) : nats l = (ints l).flatMap encI := by
  induction l with
  | nil => rfl
  | cons x l ih => show _ :: nats l = _; rw [ih]; rfl
theorem ints_len (l : List Nat) : (ints l).length = l.length := by simp [ints]

set_option maxRecDepth 100000 in
set_option maxHeartbeats 8000000 in
theorem Catches_ok (f : Flt) (A : Option Addr) (c : Nat) (r : Nat) (w : World) (hf : f.ok = true) (hA : RS encB 4 w w.heap.size A f.cycle) (hr : inB (r : Int) 0 6000 = true) :
    Calls Try.prog 35 #[.agg #[.int .i64 f.fly.pos.x.lo, .int .i64 f.fly.pos.x.hi, .int .i64 f.fly.pos.z.lo, .int .i64 f.fly.pos.z.hi, .int .i64 f.fly.speed.x.lo, .int .i64 f.fly.speed.x.hi, .int .i64 f.fly.speed.z.lo, .int .i64 f.fly.speed.z.hi, .int .i64 f.fly.mass, .slice A f.cycle.length c, .int .i64 f.reach, .int .i64 f.soft, .int .i64 f.bears, .int .i64 f.least, .int .i64 f.most], .int .i64 r] w fun e w' => ∃ A' c', e = .returned (.tuple #[.slice A' (sureL f r).length c', .int .i64 0]) ∧ RS encI 1 w' w'.heap.size A' (ints (sureL f r)) ∧ Below w.heap.size w w' := by
  obtain ⟨_, ⟨hc1, hc2⟩, _, _, _, _, _, hmo, _⟩ := Flt.ok_iff.1 hf
  have hr6 : r ≤ 6000 := by have := (inB_true.1 hr).2; omega
  have hB0 := (Below.refl w.heap.size w).alloc (Nat.le_refl _) (.cells #[.int .i64 f.fly.pos.x.lo, .int .i64 f.fly.pos.x.hi, .int .i64 f.fly.pos.z.lo, .int .i64 f.fly.pos.z.hi, .int .i64 f.fly.speed.x.lo, .int .i64 f.fly.speed.x.hi, .int .i64 f.fly.speed.z.lo, .int .i64 f.fly.speed.z.hi, .int .i64 f.fly.mass, .slice A f.cycle.length c, .int .i64 f.reach, .int .i64 f.soft, .int .i64 f.bears, .int .i64 f.least, .int .i64 f.most] 50)
  have kF := Blk.new w 50 #[.int .i64 f.fly.pos.x.lo, .int .i64 f.fly.pos.x.hi, .int .i64 f.fly.pos.z.lo, .int .i64 f.fly.pos.z.hi, .int .i64 f.fly.speed.x.lo, .int .i64 f.fly.speed.x.hi, .int .i64 f.fly.speed.z.lo, .int .i64 f.fly.speed.z.hi, .int .i64 f.fly.mass, .slice A f.cycle.length c, .int .i64 f.reach, .int .i64 f.soft, .int .i64 f.bears, .int .i64 f.least, .int .i64 f.most]
  have HA : Hid (∀ w1 : World, Below (w.alloc (.cells #[.int .i64 f.fly.pos.x.lo, .int .i64 f.fly.pos.x.hi, .int .i64 f.fly.pos.z.lo, .int .i64 f.fly.pos.z.hi, .int .i64 f.fly.speed.x.lo, .int .i64 f.fly.speed.x.hi, .int .i64 f.fly.speed.z.lo, .int .i64 f.fly.speed.z.hi, .int .i64 f.fly.mass, .slice A f.cycle.length c, .int .i64 f.reach, .int .i64 f.soft, .int .i64 f.bears, .int .i64 f.least, .int .i64 f.most] 50)).heap.size (w.alloc (.cells #[.int .i64 f.fly.pos.x.lo, .int .i64 f.fly.pos.x.hi, .int .i64 f.fly.pos.z.lo, .int .i64 f.fly.pos.z.hi, .int .i64 f.fly.speed.x.lo, .int .i64 f.fly.speed.x.hi, .int .i64 f.fly.speed.z.lo, .int .i64 f.fly.speed.z.hi, .int .i64 f.fly.mass, .slice A f.cycle.length c, .int .i64 f.reach, .int .i64 f.soft, .int .i64 f.bears, .int .i64 f.least, .int .i64 f.most] 50)) w1 → RS encB 4 w1 w1.heap.size A f.cycle) := fun w1 h => (hA.to hB0).to h
  have HV : Hid (∀ W : World, RS encB 4 W W.heap.size A f.cycle → Calls Try.prog 56 #[.agg #[.int .i64 f.fly.pos.x.lo, .int .i64 f.fly.pos.x.hi, .int .i64 f.fly.pos.z.lo, .int .i64 f.fly.pos.z.hi, .int .i64 f.fly.speed.x.lo, .int .i64 f.fly.speed.x.hi, .int .i64 f.fly.speed.z.lo, .int .i64 f.fly.speed.z.hi, .int .i64 f.fly.mass, .slice A f.cycle.length c, .int .i64 f.reach, .int .i64 f.soft, .int .i64 f.bears, .int .i64 f.least, .int .i64 f.most]] W fun e w' => e = .returned (.bool true) ∧ Below W.heap.size W w') := fun W h => by rw [← hf]; exact flight_any f A c W h (by have : (600 : Nat) ≤ maxLen := (by unfold maxLen; omega); omega)
  have HF : Hid (∀ W : World, RS encB 4 W W.heap.size A f.cycle → Calls Try.prog 66 #[.agg #[.int .i64 f.fly.pos.x.lo, .int .i64 f.fly.pos.x.hi, .int .i64 f.fly.pos.z.lo, .int .i64 f.fly.pos.z.hi, .int .i64 f.fly.speed.x.lo, .int .i64 f.fly.speed.x.hi, .int .i64 f.fly.speed.z.lo, .int .i64 f.fly.speed.z.hi, .int .i64 f.fly.mass, .slice A f.cycle.length c, .int .i64 f.reach, .int .i64 f.soft, .int .i64 f.bears, .int .i64 f.least, .int .i64 f.most]] W fun e w' => ∃ g Ab An cb cn, e = .returned (.pointer (some ⟨g, 0, none⟩)) ∧ W.heap.size ≤ g ∧ FolW f A c w' w'.heap.size g Ab An cb cn ∧ Below W.heap.size W w') := fun W h => follow_any f A c W hf h
  have HT : Hid (∀ W : World, Calls Try.prog 64 #[.int .i64 r] W fun e w' => e = .returned (.bool true) ∧ W = w') := fun W => by rw [← hr]; exact isTick_any _ W
  have HCO : Hid (∀ (g gP gR : Nat) (Ab An : Option Addr) (cb cn : Nat) (w : World), FolW f A c w w.heap.size g Ab An cb cn → Blk w gP 124 #[.pointer (some ⟨g, 0, none⟩)] → Blk w gR 3 #[.int .i64 r] →
    Calls Try.prog 65 #[.func (.func 100) #[] #[.pointer (some ⟨gP, 0, none⟩), .pointer (some ⟨gR, 0, none⟩)]] w fun e w' => ∃ v, e = .returned v ∧ w'.ownsRow w.heap.size 3 1 v (sureL f r).length (nats (sureL f r)) ∧ Below w.heap.size w w') := fun g gP gR Ab An cb cn w h1 h2 h3 => collect_any g gP gR f A Ab An c cb cn r hc1 hc2 hmo.2 hr6 w h1 h2 h3
  clear hf hA hr hc1 hc2 hmo hr6
  have HB0 := Lib.hid hB0
  clear hB0
  go_enter Try.func35, Try.ntmps35
  go_wp2_with (first | (go_at_call 56; (with_reducible refine (HV.out _ (HA.out _ (Below.refl _ _))).mono ?_); rintro e w1 ⟨rfl, hb1⟩; have kF1 := kF.below hb1 kF.lt; have x0 := kF1.cell 0; have x1 := kF1.cell 1; have x2 := kF1.cell 2; have x3 := kF1.cell 3; have x4 := kF1.cell 4; have x5 := kF1.cell 5; have x6 := kF1.cell 6; have x7 := kF1.cell 7; have x8 := kF1.cell 8; have x9 := kF1.cell 9; have x10 := kF1.cell 10; have x11 := kF1.cell 11; have x12 := kF1.cell 12; have x13 := kF1.cell 13; have x14 := kF1.cell 14; simp at x0 x1 x2 x3 x4 x5 x6 x7 x8 x9 x10 x11 x12 x13 x14) | (go_at_call 64; (with_reducible refine (HT.out _).mono ?_); rintro e w2 ⟨rfl, rfl⟩) | (go_at_call 66; (with_reducible refine (HF.out _ (HA.out _ hb1)).mono ?_); rintro e w3 ⟨g, Ab, An, cb, cn, rfl, hg, hFW, hb3⟩) | (go_at_call 67; refine (sure_any _ _ _).mono ?_; rintro e w4 ⟨rfl, rfl⟩) | (go_at_call 65; (refine (HCO.out g w3.heap.size (w3.heap.size + 1) Ab An cb cn _ ?_ ?_ ?_).mono ?_); rotate_left 3; rintro e w5 ⟨v, rfl, hrow, hb5⟩))
  · have hrow' := hrow
    rw [nats_ints] at hrow'
    obtain ⟨A', c', rfl, _⟩ := own_slice hrow'
    go_ret2
    refine ⟨A', c', rfl, RS.of_own (enc := encI) (sz := 1) (fun _ => rfl) hrow' (ints_len _).symm, ?_⟩
    have hz1 := hb1.size
    have hz3 := hb3.size
    exact HB0.out.trans ((hb1.mono (by simp)).trans ((hb3.mono (by simp at hz1; omega)).trans (((Below.refl _ w3).alloc (by simp at hz1; omega) _).alloc (by simp at hz1; simp; omega) _ |>.trans (hb5.mono (by simp at hz1; simp; omega)))))
  · exact hFW.below (((Below.refl w3.heap.size w3).alloc (Nat.le_refl _) _).alloc (by simp) _) (Nat.le_refl _) |>.more' (by simp <;> omega)
  · exact (Blk.new w3 124 #[.pointer (some ⟨g, 0, none⟩)]).alloc _
  · have := Blk.new (w3.alloc (.cells #[.pointer (some ⟨g, 0, none⟩)] 124)) 3 #[.int .i64 r]
    simpa using this

def tickE (ok : Bool) (t : Int) : Int := if ok then (if inB t 0 6000 then 0 else 2) else 1
set_option maxRecDepth 100000 in
set_option maxHeartbeats 8000000 in
theorem Catches_bad (f : Flt) (A : Option Addr) (c : Nat) (r : Int) (w : World) (hl : f.cycle.length ≤ maxLen) (hA : RS encB 4 w w.heap.size A f.cycle) (h : tickE f.ok r ≠ 0) :
    Calls Try.prog 35 #[.agg #[.int .i64 f.fly.pos.x.lo, .int .i64 f.fly.pos.x.hi, .int .i64 f.fly.pos.z.lo, .int .i64 f.fly.pos.z.hi, .int .i64 f.fly.speed.x.lo, .int .i64 f.fly.speed.x.hi, .int .i64 f.fly.speed.z.lo, .int .i64 f.fly.speed.z.hi, .int .i64 f.fly.mass, .slice A f.cycle.length c, .int .i64 f.reach, .int .i64 f.soft, .int .i64 f.bears, .int .i64 f.least, .int .i64 f.most], .int .i64 r] w fun e w' => e = .returned (.tuple #[.slice none 0 0, .int .i64 (tickE f.ok r)]) ∧ Below w.heap.size w w' := by
  have hB0 := (Below.refl w.heap.size w).alloc (Nat.le_refl _) (.cells #[.int .i64 f.fly.pos.x.lo, .int .i64 f.fly.pos.x.hi, .int .i64 f.fly.pos.z.lo, .int .i64 f.fly.pos.z.hi, .int .i64 f.fly.speed.x.lo, .int .i64 f.fly.speed.x.hi, .int .i64 f.fly.speed.z.lo, .int .i64 f.fly.speed.z.hi, .int .i64 f.fly.mass, .slice A f.cycle.length c, .int .i64 f.reach, .int .i64 f.soft, .int .i64 f.bears, .int .i64 f.least, .int .i64 f.most] 50)
  have HV : Hid (Calls Try.prog 56 #[.agg #[.int .i64 f.fly.pos.x.lo, .int .i64 f.fly.pos.x.hi, .int .i64 f.fly.pos.z.lo, .int .i64 f.fly.pos.z.hi, .int .i64 f.fly.speed.x.lo, .int .i64 f.fly.speed.x.hi, .int .i64 f.fly.speed.z.lo, .int .i64 f.fly.speed.z.hi, .int .i64 f.fly.mass, .slice A f.cycle.length c, .int .i64 f.reach, .int .i64 f.soft, .int .i64 f.bears, .int .i64 f.least, .int .i64 f.most]] (w.alloc (.cells #[.int .i64 f.fly.pos.x.lo, .int .i64 f.fly.pos.x.hi, .int .i64 f.fly.pos.z.lo, .int .i64 f.fly.pos.z.hi, .int .i64 f.fly.speed.x.lo, .int .i64 f.fly.speed.x.hi, .int .i64 f.fly.speed.z.lo, .int .i64 f.fly.speed.z.hi, .int .i64 f.fly.mass, .slice A f.cycle.length c, .int .i64 f.reach, .int .i64 f.soft, .int .i64 f.bears, .int .i64 f.least, .int .i64 f.most] 50)) fun e w' => e = .returned (.bool f.ok) ∧ Below (w.alloc (.cells #[.int .i64 f.fly.pos.x.lo, .int .i64 f.fly.pos.x.hi, .int .i64 f.fly.pos.z.lo, .int .i64 f.fly.pos.z.hi, .int .i64 f.fly.speed.x.lo, .int .i64 f.fly.speed.x.hi, .int .i64 f.fly.speed.z.lo, .int .i64 f.fly.speed.z.hi, .int .i64 f.fly.mass, .slice A f.cycle.length c, .int .i64 f.reach, .int .i64 f.soft, .int .i64 f.bears, .int .i64 f.least, .int .i64 f.most] 50)).heap.size (w.alloc (.cells #[.int .i64 f.fly.pos.x.lo, .int .i64 f.fly.pos.x.hi, .int .i64 f.fly.pos.z.lo, .int .i64 f.fly.pos.z.hi, .int .i64 f.fly.speed.x.lo, .int .i64 f.fly.speed.x.hi, .int .i64 f.fly.speed.z.lo, .int .i64 f.fly.speed.z.hi, .int .i64 f.fly.mass, .slice A f.cycle.length c, .int .i64 f.reach, .int .i64 f.soft, .int .i64 f.bears, .int .i64 f.least, .int .i64 f.most] 50)) w') := flight_any f A c _ (hA.to hB0) hl
  have HB0 := Lib.hid hB0
  clear hA hl hB0
  cases h1 : f.ok <;> cases h2 : inB r 0 6000
  all_goals try (exfalso; apply h; rw [h1]; unfold tickE; rw [h2]; rfl)
  all_goals
    have HEf : Hid (tickE false r = 1) := rfl
    have HEt : Hid (inB r 0 6000 = false → tickE true r = 2) := (fun h => by unfold tickE; rw [h]; rfl : _ → _)
    have HT : Hid (∀ W : World, Calls Try.prog 64 #[.int .i64 r] W fun e w' => e = .returned (.bool (inB r 0 6000)) ∧ W = w') := fun W => isTick_any _ W
    rw [h1] at HV
    have H1 := Lib.hid h1
    have H2 := Lib.hid h2
    have HH := Lib.hid h
    rw [h2] at HT
    clear h1 h
    go_enter Try.func35, Try.ntmps35
    go_wp2_with (first | (go_at_call 56; (with_reducible refine HV.out.mono ?_); rintro e w1 ⟨rfl, hb1⟩) | (go_at_call 64; (with_reducible refine (HT.out _).mono ?_); rintro e w2 ⟨rfl, rfl⟩))
    first
    | rw [HEt.out H2.out]
    | rw [HEf.out]
    go_ret2
    exact ⟨rfl, HB0.out.trans (hb1.mono (by simp))⟩

end Go.Proofs.Ytbagfapalkmikaa
