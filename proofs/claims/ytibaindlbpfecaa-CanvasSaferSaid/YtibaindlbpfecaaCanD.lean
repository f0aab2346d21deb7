import Derived.Test.YtibaindlbpfecaaCanC
import Derived.WalkMore
namespace Go.Proofs.Ytibaindlbpfecaa
open Go.RowKit Go.Shelf

/-- What the search hands back: the balance it came to, and whether it came to one. -/
def FoundPost (p : Vec) (f : List Vec) (w : World) (e : Ending) (w' : World) : Prop :=
  ∃ A c, e = .returned (.tuple #[.agg #[.int .i64 ((findBal p f).getD (0, [])).1, .slice A ((findBal p f).getD (0, [])).2.length c], .bool (findBal p f).isSome]) ∧ RSF w' w'.heap.size A ((findBal p f).getD (0, [])).2 ∧ ((findBal p f).getD (0, [])).2.length ≤ c ∧ c ≤ maxLen ∧ (∀ ad, A = some ad → w.heap.size ≤ ad.block) ∧ Below w.heap.size w w'

theorem allowed_r (s : Shr) (a b x y r : Bool) (ha : a = x) (hb : b = y) (h : s.ok x y = r) (w : World) : Calls Try.prog 96 #[.agg #[.int .i64 s.first, .int .i64 s.second, .int .i64 s.whole], .bool a, .bool b] w fun e w' => e = .returned (.bool r) ∧ Below w.heap.size w w' := by
  subst ha hb h
  exact allowed_any _ _ _ _

theorem undef_ne (b : Bool) : ¬ (some undef = some (Value.bool b)) := by
  intro h
  simp [undef] at h

theorem wpIn_scope_wide {n : Nat} {P : Program} {c : Code} {Q : Exit → Act → World → Prop} {a : Act} {w : World} (h : c.wpIn Fence.wide n P (Exit.noGoto Q) a w) : (Code.scope c).wpIn Fence.wide n P Q a w :=
  wpIn_wide.2 (wp_scope_straight (wpIn_wide.1 h))

attribute [local go_sem] Oper.semAt_some
set_option maxRecDepth 100000 in
set_option maxHeartbeats 20000000 in
theorem mbalance_any (h : Head) (A1 A2 : Option Addr) (c1 c2 : Nat) (f : List Vec) (push : Vec) (w : World) (hr : RS encV 2 w w.heap.size A1 f) (hl : f.length ≤ 8) (hf : ∀ v ∈ f, VB v 500000) (ha : 0 ≤ h.area ∧ h.area ≤ 1000) (hp : VB push 10000) :
    Calls Try.prog 64 #[.agg #[.int .i64 h.area, .int .i64 h.bears, .slice A2 h.guys.length c2, .slice A1 f.length c1], .agg #[.int .i64 push.x, .int .i64 push.y]] w (FoundPost (push.times h.area) f w) := by
  obtain ⟨i0, hi0, hz0, hz1, hz2⟩ := info_parts infoCV
  have Hf := Lib.hid hf
  have HP : Hid (VB (push.times h.area) 10000000) := hp.times (n := h.area) (q := 1000) (by omega)
  have Hp := Lib.hid hp
  clear hf hp
  refine (callsIn_wide (n := 9)).1 ?_
  refine callsIn_of_wp_marks Try.func64 rfl trivial ?_ rfl
  simp only [Try.ntmps64, List.size_toArray, List.length_cons, List.length_nil, Nat.reduceAdd, Nat.reduceSub, Array.replicate_succ, Array.replicate_zero, List.push_toArray, List.append_toArray, List.nil_append, List.cons_append]
  gi_wp2
  refine wpIn_scope_wide ?_
  obtain ⟨hnone, hnews⟩ := RS.news (sz := 2) (fun _ => rfl) (hr.below (((((Below.refl w.heap.size w).alloc (Nat.le_refl _) (.cells #[.int .i64 h.area, .int .i64 h.bears, .slice A2 h.guys.length c2, .slice A1 f.length c1] 125)).alloc (by simp) (.cells #[.int .i64 push.x, .int .i64 push.y] 58)).alloc (by simp <;> omega) (.cells #[.int .i64 0, .slice none 0 0] 55)).alloc (by simp <;> omega) (.cells #[.bool false] 4) |>.alloc (by simp <;> omega) (.cells #[.int .i64 f.length] 3) |>.alloc (by simp <;> omega) (.cells #[.int .i64 1, .int .i64 0, .int .i64 0, .int .i64 1] 58)) (Nat.le_refl _))
  gi_wp2_with (gi_at_builtin; go_loud (refine wpListIn_append_any rfl _ _ 38 rfl (w.heap.size + 1 + 1 + 1 + 1 + 1) 58 i0 _ 2 16 Try.underlying38 hi0 hz0 hz1 hz2 rfl (by decide) _ 2 [.int .i64 1, .int .i64 0, .int .i64 0, .int .i64 1] rfl ?c0 A1 f.length c1 (f.flatMap encV) rfl ?c1 hnone hnews ?c2 ?c3 ?c4 ?c5 ?_))
  case c0 => exact ⟨by simp, .inr ⟨w.heap.size + 1 + 1 + 1 + 1 + 1, 2, _, rfl, Nat.le_refl _, by simpa using heap_alloc_new (((((w.alloc (.cells #[.int .i64 h.area, .int .i64 h.bears, .slice A2 h.guys.length c2, .slice A1 f.length c1] 125)).alloc (.cells #[.int .i64 push.x, .int .i64 push.y] 58)).alloc (.cells #[.int .i64 0, .slice none 0 0] 55)).alloc (.cells #[.bool false] 4)).alloc (.cells #[.int .i64 f.length] 3)) _, by omega, by unfold maxLen; omega, rfl, rfl⟩⟩
  case c1 => exact flat_len2 f
  case c2 => exact fun u hu => by simp only [List.mem_flatMap, encV, List.mem_cons, List.not_mem_nil, or_false] at hu; obtain ⟨v, _, rfl | rfl⟩ := hu <;> simp [Value.oneCell']
  case c3 => unfold maxLen; omega
  case c4 => omega
  case c5 => simp <;> omega
  intro vs w1 hown1 hgrow1
  obtain ⟨Af, cf, rfl, hcf1, hcf2⟩ := own_slice hown1
  have hB1 : Below (w.heap.size + 1 + 1 + 1 + 1 + 1) _ w1 := (Below.refl _ _).grown hgrow1 (by simp <;> omega) (fun k e => by simp [Value.ownBlock] at e; omega)
  have hz1 := hgrow1.size
  simp only [World.size_alloc] at hz1
  have hw0 : Below w.heap.size w w1 := (((((Below.refl w.heap.size w).alloc (Nat.le_refl _) (.cells #[.int .i64 h.area, .int .i64 h.bears, .slice A2 h.guys.length c2, .slice A1 f.length c1] 125)).alloc (by simp) (.cells #[.int .i64 push.x, .int .i64 push.y] 58)).alloc (by simp <;> omega) (.cells #[.int .i64 0, .slice none 0 0] 55)).alloc (by simp <;> omega) (.cells #[.bool false] 4) |>.alloc (by simp <;> omega) (.cells #[.int .i64 f.length] 3) |>.alloc (by simp <;> omega) (.cells #[.int .i64 1, .int .i64 0, .int .i64 0, .int .i64 1] 58)).trans (hB1.mono (by omega))
  have b0 : Blk w1 w.heap.size 125 #[.int .i64 h.area, .int .i64 h.bears, .slice A2 h.guys.length c2, .slice A1 f.length c1] := Blk.below (by repeat (first | exact Blk_new (by simp <;> omega) | refine Blk.alloc ?_ _)) hB1 (by omega)
  have b1 : Blk w1 (w.heap.size + 1) 58 #[.int .i64 push.x, .int .i64 push.y] := Blk.below (by repeat (first | exact Blk_new (by simp <;> omega) | refine Blk.alloc ?_ _)) hB1 (by omega)
  have b2 : Blk w1 (w.heap.size + 1 + 1) 55 #[.int .i64 0, .slice none 0 0] := Blk.below (by repeat (first | exact Blk_new (by simp <;> omega) | refine Blk.alloc ?_ _)) hB1 (by omega)
  have b3 : Blk w1 (w.heap.size + 1 + 1 + 1) 4 #[.bool false] := Blk.below (by repeat (first | exact Blk_new (by simp <;> omega) | refine Blk.alloc ?_ _)) hB1 (by omega)
  have b4 : Blk w1 (w.heap.size + 1 + 1 + 1 + 1) 3 #[.int .i64 f.length] := Blk.below (by repeat (first | exact Blk_new (by simp <;> omega) | refine Blk.alloc ?_ _)) hB1 (by omega)
  have rs : RS encV 2 w1 w1.heap.size Af (⟨1, 0⟩ :: ⟨0, 1⟩ :: f) := RS.of_own (enc := encV) (sz := 2) (fun _ => rfl) hown1 (by simp; omega)
  have g0 := b0.cell 3
  have g4 := b4.cell 0
  have g0z := b0.lt
  have g4z := b4.lt
  simp at g0 g4
  clear hown1 hgrow1 hB1 hnews hnone hi0 hz0 hz1 hz2
  gi_wp2
  apply wpIn_label
  gi_wp2_with (refine ⟨trivial, ?_⟩; gi_at_call 92; refine (callsIn_wide.2 (sets_any _ _)).mono ?_; rintro e w2 ⟨rfl, rfl⟩)
  have hWS : ((w1.alloc (.cells #[.slice Af (2 + f.length) cf] 38)).alloc (.cells #[.int .i64 f.length] 3)).heap.size = w1.heap.size + 1 + 1 := by simp
  have hw2 := (hw0.alloc (by omega) (.cells #[.slice Af (2 + f.length) cf] 38)).alloc (by simp <;> omega) (.cells #[.int .i64 f.length] 3)
  have b7 := (Blk.new w1 38 #[.slice Af (2 + f.length) cf]).alloc (.cells #[.int .i64 f.length] 3)
  have bg : ((w1.alloc (.cells #[.slice Af (2 + f.length) cf] 38)).alloc (.cells #[.int .i64 f.length] 3)).cell? ⟨w1.heap.size + 1, 0, none⟩ = some (.int .i64 f.length) := by simp
  have b0' := (b0.alloc (.cells #[.slice Af (2 + f.length) cf] 38)).alloc (.cells #[.int .i64 f.length] 3)
  have b1' := (b1.alloc (.cells #[.slice Af (2 + f.length) cf] 38)).alloc (.cells #[.int .i64 f.length] 3)
  have b2' := (b2.alloc (.cells #[.slice Af (2 + f.length) cf] 38)).alloc (.cells #[.int .i64 f.length] 3)
  have b3' := (b3.alloc (.cells #[.slice Af (2 + f.length) cf] 38)).alloc (.cells #[.int .i64 f.length] 3)
  have b4' := (b4.alloc (.cells #[.slice Af (2 + f.length) cf] 38)).alloc (.cells #[.int .i64 f.length] 3)
  have rs' := rs.below ((Below.refl w1.heap.size w1).alloc (Nat.le_refl _) (.cells #[.slice Af (2 + f.length) cf] 38) |>.alloc (by simp) (.cells #[.int .i64 f.length] 3)) (Nat.le_refl _)
  clear b0 b1 b2 b3 b4 rs hw0 g0 g4
  generalize hWL : (w1.alloc (.cells #[.slice Af (2 + f.length) cf] 38)).alloc (.cells #[.int .i64 f.length] 3) = WL at *
  refine wpIn_rangeFunc_ownF (F := Fence.wide) rfl (by omega) (gf := 119) (lb := #[.pointer (some ⟨w1.heap.size + 1, 0, none⟩)]) rfl trivial (enters_of Try.func119 (by kernel_rfl) rfl)
    (sets_stops Fence.wide (9 - 1) trivial rfl (by omega) (w1.heap.size + 1) f.length (by omega) (Below w.heap.size) WL bg (by omega)) belowK_t (belowK_b (by omega)) (Below.refl _ _) (fun _ => by rfl)
    (fun pre W => (pre.findSome? (fun x => trySet (push.times h.area) f x.1) = none ∧ Blk W w.heap.size 125 #[.int .i64 h.area, .int .i64 h.bears, .slice A2 h.guys.length c2, .slice A1 f.length c1] ∧ Blk W (w.heap.size + 1) 58 #[.int .i64 push.x, .int .i64 push.y] ∧ Blk W (w.heap.size + 1 + 1) 55 #[.int .i64 0, .slice none 0 0] ∧ Blk W (w.heap.size + 1 + 1 + 1) 4 #[.bool false] ∧ Blk W (w.heap.size + 1 + 1 + 1 + 1) 3 #[.int .i64 f.length] ∧ Blk W w1.heap.size 38 #[.slice Af (2 + f.length) cf] ∧ RS encV 2 W w1.heap.size Af (⟨1, 0⟩ :: ⟨0, 1⟩ :: f)) ∧ Below w.heap.size w W)
    (fun c pre W => (c = .exit 0 ∧ ∃ (whole : Int) (parts : List Int) (A' : Option Addr) (cc B : Nat), pre.findSome? (fun x => trySet (push.times h.area) f x.1) = some (whole, parts) ∧ Blk W (w.heap.size + 1 + 1) 55 #[.int .i64 whole, .slice A' parts.length cc] ∧ Blk W (w.heap.size + 1 + 1 + 1) 4 #[.bool true] ∧ RSF W B A' parts ∧ B ≤ W.heap.size ∧ parts.length ≤ cc ∧ cc ≤ maxLen ∧ (∀ ad, A' = some ad → w.heap.size + 4 ≤ ad.block)) ∧ Below w.heap.size w W)
    (OwnFrom.and (Own.from (fun s A B row hs hg hr => ⟨hs.1, hs.2.1.kept hg hr, hs.2.2.1.kept hg hr, hs.2.2.2.1.kept hg hr, hs.2.2.2.2.1.kept hg hr, hs.2.2.2.2.2.1.kept hg hr, hs.2.2.2.2.2.2.1.kept hg hr, hs.2.2.2.2.2.2.2.kept hg hr⟩) _) (ownFrom_below (Nat.le_refl _) (by omega)))
    (fun c => OwnFrom.and (Own.from (fun s A B row hs hg hr => by obtain ⟨hc, wh, ps, A', cc, B', q1, q2, q3, q4, q5, q6, q7⟩ := hs; exact ⟨hc, wh, ps, A', cc, B', q1, q2.kept hg hr, q3.kept hg hr, q4.kept hg hr, Nat.le_trans q5 hg.size, q6, q7⟩) _) (ownFrom_below (Nat.le_refl _) (by omega)))
    ⟨⟨rfl, b0', b1', b2', b3', b4', b7, rs'⟩, hw2⟩
    (fun x => { tmps := #[.agg #[.int .i64 h.area, .int .i64 h.bears, .slice A2 h.guys.length c2, .slice A1 f.length c1], .agg #[.int .i64 push.x, .int .i64 push.y], .pointer (some ⟨w.heap.size, 0, none⟩), .pointer (some ⟨w.heap.size + 1, 0, none⟩), .pointer (some ⟨w.heap.size + 1 + 1, 0, none⟩), .pointer (some ⟨w.heap.size + 1 + 1 + 1, 0, none⟩), .pointer (some ⟨w.heap.size + 1 + 1 + 1 + 1, 0, none⟩), .pointer (some ⟨w1.heap.size, 0, none⟩), .int .i64 x.1, undef, undef, undef, undef, undef, undef, undef, undef, .pointer (some ⟨w.heap.size, 3, none⟩), .slice A1 f.length c1, .int .i64 f.length, .agg #[.int .i64 1, .int .i64 0], .agg #[.int .i64 0, .int .i64 1], .slice (some ⟨w.heap.size + 1 + 1 + 1 + 1 + 1, 0, none⟩) 2 2, .pointer (some ⟨w.heap.size, 3, none⟩), .slice A1 f.length c1, .slice Af (2 + f.length) cf, .int .i64 f.length, .func (.func 119) #[] #[.pointer (some ⟨w1.heap.size + 1, 0, none⟩)], .int .i64 x.1, undef, undef, undef, undef, undef, undef, undef, undef, undef, undef, undef, undef, undef, undef, undef, undef, undef, undef, undef, undef, undef, undef, undef, undef, undef, undef, undef, undef, undef, undef, undef, undef, undef, undef, undef, undef, undef, undef, undef, undef, undef, undef, undef, undef, undef, undef, undef, undef, undef, undef, undef, undef, undef, undef, undef, undef, undef, undef, undef, undef], defers := [] }) ?assign ?body ?done ?stop
  case assign =>
    intro l x W K hK
    gi_wp2
    exact hK
  case body =>
    rintro l pre x W ⟨⟨hnone, b0, b1, b2, b3, b4, b7, rs⟩, hB⟩ _
    have hxs := x.2
    have hrf : RS encV 2 W W.heap.size A1 f := (hr.below hB (Nat.le_refl _)).more hB.size
    have m0 := b0.cell 0
    have m1 := b0.cell 1
    have m2 := b0.cell 2
    have m3 := b0.cell 3
    have p0 := b1.cell 0
    have p1 := b1.cell 1
    have q7 := b7.cell 0
    simp at m0 m1 m2 m3 p0 p1 q7
    have z7 := b7.lt
    have z0 := b0.lt
    gi_wp2_with (refine ⟨trivial, ?_⟩; gi_at_call 93; refine (CallsIn.inRound l (callsIn_wide.2 (rest_any h A1 A2 c1 c2 f push x.1 _ hrf hl Hf.out ha Hp.out hxs))).mono ?_; rintro e W1 ⟨rfl, hb1⟩; obtain ⟨hc1, hf1⟩ := bcell hb1; have b71 := b7.below hb1 z7; have q71 := b71.cell 0; have z71 := b71.lt; simp at q71)
    have hz11 := hb1.size
    have hB11 := (hb1.alloc hz11 (.cells #[.int .i64 (restM x.1 (push.times h.area) f).x, .int .i64 (restM x.1 (push.times h.area) f).y] 58))
    have hRV := restM_vb (s := x.1) HP.out Hf.out hl
    obtain ⟨rest, hrest⟩ : ∃ r, restM x.1 (push.times h.area) f = r := ⟨_, rfl⟩
    rw [hrest] at hB11 hRV ⊢
    have HT : Hid (trySet (push.times h.area) f x.1 = (List.range (f.length + 2)).findSome? (tryRow (⟨1, 0⟩ :: ⟨0, 1⟩ :: f) f.length x.1 rest)) := by show _ = _; rw [← hrest]; rfl
    obtain ⟨fs, hfs⟩ : ∃ fs : List Vec, fs = ⟨1, 0⟩ :: ⟨0, 1⟩ :: f := ⟨_, rfl⟩
    have hfl : fs.length = f.length + 2 := by rw [hfs]; rfl
    have hfv : ∀ v ∈ fs, VB v 500000 := by
      rw [hfs]
      intro v hv
      simp only [List.mem_cons] at hv
      rcases hv with rfl | rfl | hv
      · unfold VB; simp
      · unfold VB; simp
      · exact Hf.out v hv
    have Hfv := Lib.hid hfv
    have Hfs := Lib.hid hfs
    rw [← hfs] at HT
    have rs2 : RS encV 2 W w1.heap.size Af fs := by rw [hfs]; exact rs
    have bR : Blk (W1.alloc (.cells #[.int .i64 rest.x, .int .i64 rest.y] 58)) W1.heap.size 58 #[.int .i64 rest.x, .int .i64 rest.y] := Blk.new _ _ _
    have hz1W : w1.heap.size < W.heap.size := z7
    clear hrest hfs hfv rs hc1 hf1 m0 m1 m2 m3 p0 p1 q7 hr hrf
    generalize hWR : W1.alloc (.cells #[.int .i64 rest.x, .int .i64 rest.y] 58) = WR at *
    have hWRz : WR.heap.size = W1.heap.size + 1 := by rw [← hWR]; simp
    clear hWR
    gi_wp2
    gi_loopw [35] (fun i wr => ∃ k : Nat, k ≤ f.length + 2 ∧ i = .int .i64 k ∧ (List.range k).findSome? (tryRow fs f.length x.1 rest) = none ∧ Below WR.heap.size WR wr) (fun i _ => f.length + 2 - (intOf i).toNat)
    case atStart => exact ⟨0, Nat.zero_le _, rfl, rfl, Below.refl _ _⟩
    case round =>
      obtain ⟨k, hk, rfl, hrow, hBr⟩ := hrel
      have hrz := hBr.size
      have hBr2 : Below W.heap.size W wr := hB11.trans (hBr.mono hB11.size)
      have b7r := b7.below hBr2 z7
      have q7r := b7r.cell 0
      have z7r := b7r.lt
      simp at q7r
      have Hrow := Lib.hid hrow
      clear hrow
      by_cases hlt : k < f.length + 2
      · obtain ⟨u, hu⟩ := getElem?_lt (l := fs) (k := k) (by omega)
        have uvb := Hfv.out u (List.mem_of_getElem? hu)
        obtain ⟨b, off, rfl, hbz, hc⟩ := (rs2.below hBr2 (by omega)).at_ hu
        have cu0 := hc 0 _ rfl
        have cu1 := hc 1 _ rfl
        simp only [Nat.add_zero] at cu0
        have hkcap : k ≤ cf := by omega
        have Hu := Lib.hid hu
        have bU : Blk (wr.alloc (.cells #[.int .i64 u.x, .int .i64 u.y] 58)) wr.heap.size 58 #[.int .i64 u.x, .int .i64 u.y] := Blk.new _ _ _
        have q7u := (b7r.alloc (.cells #[.int .i64 u.x, .int .i64 u.y] 58)).cell 0
        simp at q7u
        clear hu hc
        gi_wp2
        have hU0 := (Below.refl wr.heap.size wr).alloc (Nat.le_refl _) (.cells #[.int .i64 u.x, .int .i64 u.y] 58)
        have hUz : (wr.alloc (.cells #[.int .i64 u.x, .int .i64 u.y] 58)).heap.size = wr.heap.size + 1 := by simp
        generalize hWU : wr.alloc (.cells #[.int .i64 u.x, .int .i64 u.y] 58) = WU at *
        have hBU : Below WR.heap.size WR WU := hBr.trans (hU0.mono hBr.size)
        have hWU2 : Below W.heap.size W WU := hBr2.trans (hU0.mono hBr2.size)
        have bRu := (bR.below hBr bR.lt).below hU0 (by have := bR.lt; omega)
        have rsu := rs2.below hWU2 (by omega)
        have b2u := b2.below hWU2 b2.lt
        have b3u := b3.below hWU2 b3.lt
        have b4u := b4.below hWU2 b4.lt
        have b2z := b2.lt
        have b3z := b3.lt
        have b4z := b4.lt
        have bRz := bR.lt
        clear hWU bR rs2 b0 b1 b7 b7r b71 hU0 cu0 cu1 q71
        rw [show decide ((k : Int) < 2 + (f.length : Int)) = true from decide_eq_true (by omega)]
        gi_loopw [44] (fun i wi => ∃ j : Nat, j ≤ k ∧ i = .int .i64 j ∧ (List.range j).findSome? (tryAt fs f.length x.1 rest k) = none ∧ Below WU.heap.size WU wi) (fun i _ => k - (intOf i).toNat)
        case atStart => exact ⟨0, Nat.zero_le _, rfl, rfl, Below.refl _ _⟩
        case round =>
          obtain ⟨j, hj, rfl, htry, hBi⟩ := hrel
          have Htry := Lib.hid htry
          clear htry
          have hiz := hBi.size
          by_cases hjt : j < k
          · obtain ⟨g, hg⟩ := getElem?_lt (l := fs) (k := j) (by omega)
            have gvb := Hfv.out g (List.mem_of_getElem? hg)
            obtain ⟨b', off', hA', hbz', hc'⟩ := (rsu.below hBi (by omega)).at_ hg
            cases hA'
            have cg0 := hc' 0 _ rfl
            have cg1 := hc' 1 _ rfl
            simp only [Nat.add_zero] at cg0
            have Hg := Lib.hid hg
            have bUi := bU.below hBi bU.lt
            have bRi := bRu.below hBi (by omega)
            have b2i := b2u.below hBi (by omega)
            have b3i := b3u.below hBi (by omega)
            have b4i := b4u.below hBi (by omega)
            have i0' := bUi.cell 0
            have i1' := bUi.cell 1
            have i2' := bRi.cell 0
            have i3' := bRi.cell 1
            have zU := bUi.lt
            have zR := bRi.lt
            simp at i0' i1' i2' i3'
            have n1 : IntKind.i64.wrap ((k : Int) - 2) = (k : Int) - 2 := IntWalk.i64_in _ (by omega)
            have n2 : IntKind.i64.wrap ((j : Int) - 2) = (j : Int) - 2 := IntWalk.i64_in _ (by omega)
            clear hg hc' rsu b2u b3u b4u bRu bU
            have hfn : Fence.fn Fence.wide 94 := trivial
            by_cases h1 : 0 ≤ (k : Int) - 2
            · have hd1 : decide (0 ≤ (k : Int) - 2) = true := decide_eq_true h1
              cases hb1' : busy x.1 ((k : Int) - 2) with
              | true =>
                have HTry : Hid (tryAt fs f.length x.1 rest k j = none) := by show _ = _; unfold tryAt; rw [Hu.out, Hg.out]; simp only [hb1']; simp
                have h1n : (2 : Int) ≤ (k : Int) := by omega
                have hd1n : decide ((2 : Int) ≤ (k : Int)) = true := decide_eq_true h1n
                have tok : True := trivial
                gi_wp2_with (first | (have := tok; clear this tok; (first | gi_at_call 94 | (refine ⟨trivial, ?_⟩; gi_at_call 94)); refine (CallsIn.inRound l (callsIn_wide.2 (hasZ_any x.1 ((k : Int) - 2) _ hxs h1 (by omega)))).mono ?_; rintro e w' ⟨rfl, rfl⟩) | (with_reducible refine And.intro hfn ?_; fail_if_success gi_at_call 94))
                all_goals first | exact absurd ‹some undef = some (Value.bool _)› (undef_ne _) | skip
                go_roundw
                case rel => exact ⟨j + 1, by omega, by go_num, some_range_succ Htry.out HTry.out, hBi.alloc hiz (.cells #[.int .i64 g.x, .int .i64 g.y] 58)⟩
                case measure => simp [intOf]; omega
              | false =>
                by_cases h2 : 0 ≤ (j : Int) - 2
                · have hd2 : decide (0 ≤ (j : Int) - 2) = true := decide_eq_true h2
                  cases hb2' : busy x.1 ((j : Int) - 2) with
                  | true =>
                    have HTry : Hid (tryAt fs f.length x.1 rest k j = none) := by show _ = _; unfold tryAt; rw [Hu.out, Hg.out]; simp only [hb1', hb2']; simp
                    gi_wp2_with (((first | gi_at_call 94 | (refine ⟨trivial, ?_⟩; gi_at_call 94)); refine (CallsIn.inRound l (callsIn_wide.2 (hasZ_any x.1 _ _ hxs (by omega) (by omega)))).mono ?_; rintro e w' ⟨rfl, rfl⟩))
                    go_roundw
                    case rel => exact ⟨j + 1, by omega, by go_num, some_range_succ Htry.out HTry.out, hBi.alloc hiz (.cells #[.int .i64 g.x, .int .i64 g.y] 58)⟩
                    case measure => simp [intOf]; omega
                  | false =>
                    have tok1 : True := trivial
                    have tok2 : True := trivial
                    cases hok : (splitM rest u g).ok true true with
                    | false =>
                      have HTry : Hid (tryAt fs f.length x.1 rest k j = none) := by show _ = _; unfold tryAt; rw [Hu.out, Hg.out]; simp only [hb1', hb2', hd1, hd2, hok]; simp
                      have hok2 : (splitM rest u g).ok (decide (0 ≤ (k : Int) - 2)) (decide (0 ≤ (j : Int) - 2)) = false := by rw [hd1, hd2]; exact hok
                      gi_wp2_with (first | (have := tok1; clear this tok1; (first | gi_at_call 94 | (refine ⟨trivial, ?_⟩; gi_at_call 94)); refine (CallsIn.inRound l (callsIn_wide.2 (hasZ_any x.1 ((k : Int) - 2) _ hxs h1 (by omega)))).mono ?_; rintro e w' ⟨rfl, rfl⟩) | (have := tok2; clear this tok2; (first | gi_at_call 94 | (refine ⟨trivial, ?_⟩; gi_at_call 94)); refine (CallsIn.inRound l (callsIn_wide.2 (hasZ_any x.1 ((j : Int) - 2) _ hxs h2 (by omega)))).mono ?_; rintro e w' ⟨rfl, rfl⟩) | (refine ⟨trivial, ?_⟩; gi_at_call 95; refine (CallsIn.inRound l (callsIn_wide.2 (split_any rest u g _ hRV uvb gvb))).mono ?_; rintro e W2 ⟨rfl, hb2⟩) | (refine ⟨trivial, ?_⟩; gi_at_call 96; refine (CallsIn.inRound l (callsIn_wide.2 (allowed_r (splitM rest u g) _ _ true true false (by first | rfl | exact hd1 | exact hd2 | (first | refine decide_eq_true ?_ | refine decide_eq_false ?_) <;> omega) (by first | rfl | exact hd1 | exact hd2 | (first | refine decide_eq_true ?_ | refine decide_eq_false ?_) <;> omega) hok _))).mono ?_; rintro e W3 ⟨rfl, hb3⟩) | (with_reducible refine And.intro hfn ?_; fail_if_success gi_at_call 94))
                      have hx2 := hb2.size
                      have hx3 := hb3.size
                      simp only [World.size_alloc] at hx2 hx3
                      go_roundw
                      case rel => exact ⟨j + 1, by omega, by go_num, some_range_succ Htry.out HTry.out, (((hBi.alloc hiz (.cells #[.int .i64 g.x, .int .i64 g.y] 58)).trans (hb2.mono (by simp <;> omega))).alloc (by omega) (.cells #[.int .i64 (splitM rest u g).first, .int .i64 (splitM rest u g).second, .int .i64 (splitM rest u g).whole] 161)).trans (hb3.mono (by simp <;> omega))⟩
                      case measure => simp [intOf]; omega
                    | true =>
                      have HTry : Hid (tryAt fs f.length x.1 rest k j = some ((splitM rest u g).whole, (splitM rest u g).parts f.length x.1 ((k : Int) - 2) ((j : Int) - 2))) := by show _ = _; unfold tryAt; rw [Hu.out, Hg.out]; simp only [hb1', hb2', hd1, hd2, hok]; simp
                      have hok2 : (splitM rest u g).ok (decide (0 ≤ (k : Int) - 2)) (decide (0 ≤ (j : Int) - 2)) = true := by rw [hd1, hd2]; exact hok
                      have hfl60 : f.length ≤ 60 := by omega
                      gi_wp2_with (first | (have := tok1; clear this tok1; (first | gi_at_call 94 | (refine ⟨trivial, ?_⟩; gi_at_call 94)); refine (CallsIn.inRound l (callsIn_wide.2 (hasZ_any x.1 ((k : Int) - 2) _ hxs h1 (by omega)))).mono ?_; rintro e w' ⟨rfl, rfl⟩) | (have := tok2; clear this tok2; (first | gi_at_call 94 | (refine ⟨trivial, ?_⟩; gi_at_call 94)); refine (CallsIn.inRound l (callsIn_wide.2 (hasZ_any x.1 ((j : Int) - 2) _ hxs h2 (by omega)))).mono ?_; rintro e w' ⟨rfl, rfl⟩) | (refine ⟨trivial, ?_⟩; gi_at_call 95; refine (CallsIn.inRound l (callsIn_wide.2 (split_any rest u g _ hRV uvb gvb))).mono ?_; rintro e W2 ⟨rfl, hb2⟩; have b22 := (b2i.alloc (.cells #[.int .i64 g.x, .int .i64 g.y] 58)).below hb2 (by simp <;> omega); have b32 := (b3i.alloc (.cells #[.int .i64 g.x, .int .i64 g.y] 58)).below hb2 (by simp <;> omega); have b42 := (b4i.alloc (.cells #[.int .i64 g.x, .int .i64 g.y] 58)).below hb2 (by simp <;> omega)) | (refine ⟨trivial, ?_⟩; gi_at_call 96; refine (CallsIn.inRound l (callsIn_wide.2 (allowed_r (splitM rest u g) _ _ true true true (by first | rfl | exact hd1 | exact hd2 | (first | refine decide_eq_true ?_ | refine decide_eq_false ?_) <;> omega) (by first | rfl | exact hd1 | exact hd2 | (first | refine decide_eq_true ?_ | refine decide_eq_false ?_) <;> omega) hok _))).mono ?_; rintro e W3 ⟨rfl, hb3⟩; have bS3 := Blk.below (Blk.new W2 161 #[.int .i64 (splitM rest u g).first, .int .i64 (splitM rest u g).second, .int .i64 (splitM rest u g).whole]) hb3 (by simp); have b43 := (b42.alloc (.cells #[.int .i64 (splitM rest u g).first, .int .i64 (splitM rest u g).second, .int .i64 (splitM rest u g).whole] 161)).below hb3 (by have := b42.lt; simp <;> omega); have b23 := (b22.alloc (.cells #[.int .i64 (splitM rest u g).first, .int .i64 (splitM rest u g).second, .int .i64 (splitM rest u g).whole] 161)).below hb3 (by have := b22.lt; simp <;> omega); have b33 := (b32.alloc (.cells #[.int .i64 (splitM rest u g).first, .int .i64 (splitM rest u g).second, .int .i64 (splitM rest u g).whole] 161)).below hb3 (by have := b32.lt; simp <;> omega); have s30 := bS3.cell 0; have s31 := bS3.cell 1; have s32 := bS3.cell 2; have s33 := b43.cell 0; have z3a := bS3.lt; have z3b := b43.lt; simp at s30 s31 s32 s33) | (refine ⟨trivial, ?_⟩; gi_at_call 97; refine (CallsIn.inRound l (callsIn_wide.2 (shareBalance_any (splitM rest u g) f.length x.1 ((k : Int) - 2) ((j : Int) - 2) _ hfl60 hxs))).mono ?_; rintro e W4 ⟨A', cc, rfl, hrs4, hfr4, hcc1, hcc2, hb4⟩; have b24 := b23.below hb4 b23.lt; have b34 := b33.below hb4 b33.lt; have s40 := b24.cell 0; have s41 := b24.cell 1; have s42 := b34.cell 0; have f40 := b24.frozen 0; have f41 := b24.frozen 1; have f42 := b34.frozen 0; have z4a := b24.lt; have z4b := b34.lt; simp at s40 s41 s42) | (with_reducible refine And.intro hfn ?_; fail_if_success gi_at_call 94))
                      have hx2 := hb2.size
                      have hx3 := hb3.size
                      have hx4 := hb4.size
                      simp only [World.size_alloc] at hx2 hx3
                      have hBt : Below W.heap.size W W4 := hWU2.trans ((((((hBi.alloc hiz (.cells #[.int .i64 g.x, .int .i64 g.y] 58)).trans (hb2.mono (by simp <;> omega))).alloc (by omega) (.cells #[.int .i64 (splitM rest u g).first, .int .i64 (splitM rest u g).second, .int .i64 (splitM rest u g).whole] 161)).trans (hb3.mono (by simp <;> omega))).trans (hb4.mono (by omega))).mono hWU2.size)
                      have hRes : Hid (trySet (push.times h.area) f x.1 = some ((splitM rest u g).whole, (splitM rest u g).parts f.length x.1 ((k : Int) - 2) ((j : Int) - 2))) := HT.out.trans (some_range Hrow.out hlt (some_range Htry.out hjt HTry.out))
                      refine ⟨(Below.others hBt).trans (((KeepsOthers.setCell _ _ _).trans (KeepsOthers.setCell _ _ _)).trans (KeepsOthers.setCell _ _ _)), ⟨rfl, _, _, A', cc, W4.heap.size, by rw [some_snoc hnone]; exact hRes.out, by simpa using ((b24.set_ 0 _).set_ 1 _).far (p := ⟨w.heap.size + 1 + 1 + 1, 0, none⟩) (by simp) (.bool true), by simpa using ((b34.far (p := ⟨w.heap.size + 1 + 1, 0, none⟩) (by simp) _).far (p := ⟨w.heap.size + 1 + 1, 1, none⟩) (by simp) _).set_ 0 (.bool true), ((hrs4.far (p := ⟨w.heap.size + 1 + 1, 0, none⟩) (fun ad e => by have := hfr4 ad e; simp; omega) _).far (p := ⟨w.heap.size + 1 + 1, 1, none⟩) (fun ad e => by have := hfr4 ad e; simp; omega) _).far (p := ⟨w.heap.size + 1 + 1 + 1, 0, none⟩) (fun ad e => by have := hfr4 ad e; simp; omega) _, by simp, hcc1, hcc2, fun ad e => by have := hfr4 ad e; omega⟩, ?_⟩
                      exact (((hB.trans (hBt.mono hB.size)).setCell (p := ⟨w.heap.size + 1 + 1, 0, none⟩) (by simp <;> omega) _).setCell (p := ⟨w.heap.size + 1 + 1, 1, none⟩) (by simp <;> omega) _).setCell (p := ⟨w.heap.size + 1 + 1 + 1, 0, none⟩) (by simp <;> omega) _
                · have hd2 : decide (0 ≤ (j : Int) - 2) = false := decide_eq_false h2
                  have hb2' : busy x.1 ((j : Int) - 2) = false := by unfold busy; rw [hd2]; rfl
                  have tok1 : True := trivial
                  cases hok : (splitM rest u g).ok true false with
                  | false =>
                    have HTry : Hid (tryAt fs f.length x.1 rest k j = none) := by show _ = _; unfold tryAt; rw [Hu.out, Hg.out]; simp only [hb1', hb2', hd1, hd2, hok]; simp
                    have hok2 : (splitM rest u g).ok (decide (0 ≤ (k : Int) - 2)) (decide (0 ≤ (j : Int) - 2)) = false := by rw [hd1, hd2]; exact hok
                    gi_wp2_with (first | (have := tok1; clear this tok1; (first | gi_at_call 94 | (refine ⟨trivial, ?_⟩; gi_at_call 94)); refine (CallsIn.inRound l (callsIn_wide.2 (hasZ_any x.1 ((k : Int) - 2) _ hxs h1 (by omega)))).mono ?_; rintro e w' ⟨rfl, rfl⟩) | (refine ⟨trivial, ?_⟩; gi_at_call 95; refine (CallsIn.inRound l (callsIn_wide.2 (split_any rest u g _ hRV uvb gvb))).mono ?_; rintro e W2 ⟨rfl, hb2⟩) | (refine ⟨trivial, ?_⟩; gi_at_call 96; refine (CallsIn.inRound l (callsIn_wide.2 (allowed_r (splitM rest u g) _ _ true false false (by first | rfl | exact hd1 | exact hd2 | (first | refine decide_eq_true ?_ | refine decide_eq_false ?_) <;> omega) (by first | rfl | exact hd1 | exact hd2 | (first | refine decide_eq_true ?_ | refine decide_eq_false ?_) <;> omega) hok _))).mono ?_; rintro e W3 ⟨rfl, hb3⟩) | (with_reducible refine And.intro hfn ?_; fail_if_success gi_at_call 94))
                    have hx2 := hb2.size
                    have hx3 := hb3.size
                    simp only [World.size_alloc] at hx2 hx3
                    go_roundw
                    case rel => exact ⟨j + 1, by omega, by go_num, some_range_succ Htry.out HTry.out, (((hBi.alloc hiz (.cells #[.int .i64 g.x, .int .i64 g.y] 58)).trans (hb2.mono (by simp <;> omega))).alloc (by omega) (.cells #[.int .i64 (splitM rest u g).first, .int .i64 (splitM rest u g).second, .int .i64 (splitM rest u g).whole] 161)).trans (hb3.mono (by simp <;> omega))⟩
                    case measure => simp [intOf]; omega
                  | true =>
                    have HTry : Hid (tryAt fs f.length x.1 rest k j = some ((splitM rest u g).whole, (splitM rest u g).parts f.length x.1 ((k : Int) - 2) ((j : Int) - 2))) := by show _ = _; unfold tryAt; rw [Hu.out, Hg.out]; simp only [hb1', hb2', hd1, hd2, hok]; simp
                    have hok2 : (splitM rest u g).ok (decide (0 ≤ (k : Int) - 2)) (decide (0 ≤ (j : Int) - 2)) = true := by rw [hd1, hd2]; exact hok
                    have hfl60 : f.length ≤ 60 := by omega
                    gi_wp2_with (first | (have := tok1; clear this tok1; (first | gi_at_call 94 | (refine ⟨trivial, ?_⟩; gi_at_call 94)); refine (CallsIn.inRound l (callsIn_wide.2 (hasZ_any x.1 ((k : Int) - 2) _ hxs h1 (by omega)))).mono ?_; rintro e w' ⟨rfl, rfl⟩) | (refine ⟨trivial, ?_⟩; gi_at_call 95; refine (CallsIn.inRound l (callsIn_wide.2 (split_any rest u g _ hRV uvb gvb))).mono ?_; rintro e W2 ⟨rfl, hb2⟩; have b22 := (b2i.alloc (.cells #[.int .i64 g.x, .int .i64 g.y] 58)).below hb2 (by simp <;> omega); have b32 := (b3i.alloc (.cells #[.int .i64 g.x, .int .i64 g.y] 58)).below hb2 (by simp <;> omega); have b42 := (b4i.alloc (.cells #[.int .i64 g.x, .int .i64 g.y] 58)).below hb2 (by simp <;> omega)) | (refine ⟨trivial, ?_⟩; gi_at_call 96; refine (CallsIn.inRound l (callsIn_wide.2 (allowed_r (splitM rest u g) _ _ true false true (by first | rfl | exact hd1 | exact hd2 | (first | refine decide_eq_true ?_ | refine decide_eq_false ?_) <;> omega) (by first | rfl | exact hd1 | exact hd2 | (first | refine decide_eq_true ?_ | refine decide_eq_false ?_) <;> omega) hok _))).mono ?_; rintro e W3 ⟨rfl, hb3⟩; have bS3 := Blk.below (Blk.new W2 161 #[.int .i64 (splitM rest u g).first, .int .i64 (splitM rest u g).second, .int .i64 (splitM rest u g).whole]) hb3 (by simp); have b43 := (b42.alloc (.cells #[.int .i64 (splitM rest u g).first, .int .i64 (splitM rest u g).second, .int .i64 (splitM rest u g).whole] 161)).below hb3 (by have := b42.lt; simp <;> omega); have b23 := (b22.alloc (.cells #[.int .i64 (splitM rest u g).first, .int .i64 (splitM rest u g).second, .int .i64 (splitM rest u g).whole] 161)).below hb3 (by have := b22.lt; simp <;> omega); have b33 := (b32.alloc (.cells #[.int .i64 (splitM rest u g).first, .int .i64 (splitM rest u g).second, .int .i64 (splitM rest u g).whole] 161)).below hb3 (by have := b32.lt; simp <;> omega); have s30 := bS3.cell 0; have s31 := bS3.cell 1; have s32 := bS3.cell 2; have s33 := b43.cell 0; have z3a := bS3.lt; have z3b := b43.lt; simp at s30 s31 s32 s33) | (refine ⟨trivial, ?_⟩; gi_at_call 97; refine (CallsIn.inRound l (callsIn_wide.2 (shareBalance_any (splitM rest u g) f.length x.1 ((k : Int) - 2) ((j : Int) - 2) _ hfl60 hxs))).mono ?_; rintro e W4 ⟨A', cc, rfl, hrs4, hfr4, hcc1, hcc2, hb4⟩; have b24 := b23.below hb4 b23.lt; have b34 := b33.below hb4 b33.lt; have s40 := b24.cell 0; have s41 := b24.cell 1; have s42 := b34.cell 0; have f40 := b24.frozen 0; have f41 := b24.frozen 1; have f42 := b34.frozen 0; have z4a := b24.lt; have z4b := b34.lt; simp at s40 s41 s42) | (with_reducible refine And.intro hfn ?_; fail_if_success gi_at_call 94))
                    have hx2 := hb2.size
                    have hx3 := hb3.size
                    have hx4 := hb4.size
                    simp only [World.size_alloc] at hx2 hx3
                    have hBt : Below W.heap.size W W4 := hWU2.trans ((((((hBi.alloc hiz (.cells #[.int .i64 g.x, .int .i64 g.y] 58)).trans (hb2.mono (by simp <;> omega))).alloc (by omega) (.cells #[.int .i64 (splitM rest u g).first, .int .i64 (splitM rest u g).second, .int .i64 (splitM rest u g).whole] 161)).trans (hb3.mono (by simp <;> omega))).trans (hb4.mono (by omega))).mono hWU2.size)
                    have hRes : Hid (trySet (push.times h.area) f x.1 = some ((splitM rest u g).whole, (splitM rest u g).parts f.length x.1 ((k : Int) - 2) ((j : Int) - 2))) := HT.out.trans (some_range Hrow.out hlt (some_range Htry.out hjt HTry.out))
                    refine ⟨(Below.others hBt).trans (((KeepsOthers.setCell _ _ _).trans (KeepsOthers.setCell _ _ _)).trans (KeepsOthers.setCell _ _ _)), ⟨rfl, _, _, A', cc, W4.heap.size, by rw [some_snoc hnone]; exact hRes.out, by simpa using ((b24.set_ 0 _).set_ 1 _).far (p := ⟨w.heap.size + 1 + 1 + 1, 0, none⟩) (by simp) (.bool true), by simpa using ((b34.far (p := ⟨w.heap.size + 1 + 1, 0, none⟩) (by simp) _).far (p := ⟨w.heap.size + 1 + 1, 1, none⟩) (by simp) _).set_ 0 (.bool true), ((hrs4.far (p := ⟨w.heap.size + 1 + 1, 0, none⟩) (fun ad e => by have := hfr4 ad e; simp; omega) _).far (p := ⟨w.heap.size + 1 + 1, 1, none⟩) (fun ad e => by have := hfr4 ad e; simp; omega) _).far (p := ⟨w.heap.size + 1 + 1 + 1, 0, none⟩) (fun ad e => by have := hfr4 ad e; simp; omega) _, by simp, hcc1, hcc2, fun ad e => by have := hfr4 ad e; omega⟩, ?_⟩
                    exact (((hB.trans (hBt.mono hB.size)).setCell (p := ⟨w.heap.size + 1 + 1, 0, none⟩) (by simp <;> omega) _).setCell (p := ⟨w.heap.size + 1 + 1, 1, none⟩) (by simp <;> omega) _).setCell (p := ⟨w.heap.size + 1 + 1 + 1, 0, none⟩) (by simp <;> omega) _
            · have hd1 : decide (0 ≤ (k : Int) - 2) = false := decide_eq_false h1
              have hb1' : busy x.1 ((k : Int) - 2) = false := by unfold busy; rw [hd1]; rfl
              have h2 : ¬ 0 ≤ (j : Int) - 2 := by omega
              have hd2 : decide (0 ≤ (j : Int) - 2) = false := decide_eq_false h2
              have hb2' : busy x.1 ((j : Int) - 2) = false := by unfold busy; rw [hd2]; rfl
              cases hok : (splitM rest u g).ok false false with
              | false =>
                have HTry : Hid (tryAt fs f.length x.1 rest k j = none) := by show _ = _; unfold tryAt; rw [Hu.out, Hg.out]; simp only [hb1', hb2', hd1, hd2, hok]; simp
                have hok2 : (splitM rest u g).ok (decide (0 ≤ (k : Int) - 2)) (decide (0 ≤ (j : Int) - 2)) = false := by rw [hd1, hd2]; exact hok
                gi_wp2_with (first | (refine ⟨trivial, ?_⟩; gi_at_call 95; refine (CallsIn.inRound l (callsIn_wide.2 (split_any rest u g _ hRV uvb gvb))).mono ?_; rintro e W2 ⟨rfl, hb2⟩) | (refine ⟨trivial, ?_⟩; gi_at_call 96; refine (CallsIn.inRound l (callsIn_wide.2 (allowed_r (splitM rest u g) _ _ false false false (by first | rfl | exact hd1 | exact hd2 | (first | refine decide_eq_true ?_ | refine decide_eq_false ?_) <;> omega) (by first | rfl | exact hd1 | exact hd2 | (first | refine decide_eq_true ?_ | refine decide_eq_false ?_) <;> omega) hok _))).mono ?_; rintro e W3 ⟨rfl, hb3⟩) | (with_reducible refine And.intro hfn ?_; fail_if_success gi_at_call 94))
                have hx2 := hb2.size
                have hx3 := hb3.size
                simp only [World.size_alloc] at hx2 hx3
                go_roundw
                case rel => exact ⟨j + 1, by omega, by go_num, some_range_succ Htry.out HTry.out, (((hBi.alloc hiz (.cells #[.int .i64 g.x, .int .i64 g.y] 58)).trans (hb2.mono (by simp <;> omega))).alloc (by omega) (.cells #[.int .i64 (splitM rest u g).first, .int .i64 (splitM rest u g).second, .int .i64 (splitM rest u g).whole] 161)).trans (hb3.mono (by simp <;> omega))⟩
                case measure => simp [intOf]; omega
              | true =>
                have HTry : Hid (tryAt fs f.length x.1 rest k j = some ((splitM rest u g).whole, (splitM rest u g).parts f.length x.1 ((k : Int) - 2) ((j : Int) - 2))) := by show _ = _; unfold tryAt; rw [Hu.out, Hg.out]; simp only [hb1', hb2', hd1, hd2, hok]; simp
                have hok2 : (splitM rest u g).ok (decide (0 ≤ (k : Int) - 2)) (decide (0 ≤ (j : Int) - 2)) = true := by rw [hd1, hd2]; exact hok
                have hfl60 : f.length ≤ 60 := by omega
                gi_wp2_with (first | (refine ⟨trivial, ?_⟩; gi_at_call 95; refine (CallsIn.inRound l (callsIn_wide.2 (split_any rest u g _ hRV uvb gvb))).mono ?_; rintro e W2 ⟨rfl, hb2⟩; have b22 := (b2i.alloc (.cells #[.int .i64 g.x, .int .i64 g.y] 58)).below hb2 (by simp <;> omega); have b32 := (b3i.alloc (.cells #[.int .i64 g.x, .int .i64 g.y] 58)).below hb2 (by simp <;> omega); have b42 := (b4i.alloc (.cells #[.int .i64 g.x, .int .i64 g.y] 58)).below hb2 (by simp <;> omega)) | (refine ⟨trivial, ?_⟩; gi_at_call 96; refine (CallsIn.inRound l (callsIn_wide.2 (allowed_r (splitM rest u g) _ _ false false true (by first | rfl | exact hd1 | exact hd2 | (first | refine decide_eq_true ?_ | refine decide_eq_false ?_) <;> omega) (by first | rfl | exact hd1 | exact hd2 | (first | refine decide_eq_true ?_ | refine decide_eq_false ?_) <;> omega) hok _))).mono ?_; rintro e W3 ⟨rfl, hb3⟩; have bS3 := Blk.below (Blk.new W2 161 #[.int .i64 (splitM rest u g).first, .int .i64 (splitM rest u g).second, .int .i64 (splitM rest u g).whole]) hb3 (by simp); have b43 := (b42.alloc (.cells #[.int .i64 (splitM rest u g).first, .int .i64 (splitM rest u g).second, .int .i64 (splitM rest u g).whole] 161)).below hb3 (by have := b42.lt; simp <;> omega); have b23 := (b22.alloc (.cells #[.int .i64 (splitM rest u g).first, .int .i64 (splitM rest u g).second, .int .i64 (splitM rest u g).whole] 161)).below hb3 (by have := b22.lt; simp <;> omega); have b33 := (b32.alloc (.cells #[.int .i64 (splitM rest u g).first, .int .i64 (splitM rest u g).second, .int .i64 (splitM rest u g).whole] 161)).below hb3 (by have := b32.lt; simp <;> omega); have s30 := bS3.cell 0; have s31 := bS3.cell 1; have s32 := bS3.cell 2; have s33 := b43.cell 0; have z3a := bS3.lt; have z3b := b43.lt; simp at s30 s31 s32 s33) | (refine ⟨trivial, ?_⟩; gi_at_call 97; refine (CallsIn.inRound l (callsIn_wide.2 (shareBalance_any (splitM rest u g) f.length x.1 ((k : Int) - 2) ((j : Int) - 2) _ hfl60 hxs))).mono ?_; rintro e W4 ⟨A', cc, rfl, hrs4, hfr4, hcc1, hcc2, hb4⟩; have b24 := b23.below hb4 b23.lt; have b34 := b33.below hb4 b33.lt; have s40 := b24.cell 0; have s41 := b24.cell 1; have s42 := b34.cell 0; have f40 := b24.frozen 0; have f41 := b24.frozen 1; have f42 := b34.frozen 0; have z4a := b24.lt; have z4b := b34.lt; simp at s40 s41 s42) | (with_reducible refine And.intro hfn ?_; fail_if_success gi_at_call 94))
                have hx2 := hb2.size
                have hx3 := hb3.size
                have hx4 := hb4.size
                simp only [World.size_alloc] at hx2 hx3
                have hBt : Below W.heap.size W W4 := hWU2.trans ((((((hBi.alloc hiz (.cells #[.int .i64 g.x, .int .i64 g.y] 58)).trans (hb2.mono (by simp <;> omega))).alloc (by omega) (.cells #[.int .i64 (splitM rest u g).first, .int .i64 (splitM rest u g).second, .int .i64 (splitM rest u g).whole] 161)).trans (hb3.mono (by simp <;> omega))).trans (hb4.mono (by omega))).mono hWU2.size)
                have hRes : Hid (trySet (push.times h.area) f x.1 = some ((splitM rest u g).whole, (splitM rest u g).parts f.length x.1 ((k : Int) - 2) ((j : Int) - 2))) := HT.out.trans (some_range Hrow.out hlt (some_range Htry.out hjt HTry.out))
                refine ⟨(Below.others hBt).trans (((KeepsOthers.setCell _ _ _).trans (KeepsOthers.setCell _ _ _)).trans (KeepsOthers.setCell _ _ _)), ⟨rfl, _, _, A', cc, W4.heap.size, by rw [some_snoc hnone]; exact hRes.out, by simpa using ((b24.set_ 0 _).set_ 1 _).far (p := ⟨w.heap.size + 1 + 1 + 1, 0, none⟩) (by simp) (.bool true), by simpa using ((b34.far (p := ⟨w.heap.size + 1 + 1, 0, none⟩) (by simp) _).far (p := ⟨w.heap.size + 1 + 1, 1, none⟩) (by simp) _).set_ 0 (.bool true), ((hrs4.far (p := ⟨w.heap.size + 1 + 1, 0, none⟩) (fun ad e => by have := hfr4 ad e; simp; omega) _).far (p := ⟨w.heap.size + 1 + 1, 1, none⟩) (fun ad e => by have := hfr4 ad e; simp; omega) _).far (p := ⟨w.heap.size + 1 + 1 + 1, 0, none⟩) (fun ad e => by have := hfr4 ad e; simp; omega) _, by simp, hcc1, hcc2, fun ad e => by have := hfr4 ad e; omega⟩, ?_⟩
                exact (((hB.trans (hBt.mono hB.size)).setCell (p := ⟨w.heap.size + 1 + 1, 0, none⟩) (by simp <;> omega) _).setCell (p := ⟨w.heap.size + 1 + 1, 1, none⟩) (by simp <;> omega) _).setCell (p := ⟨w.heap.size + 1 + 1 + 1, 0, none⟩) (by simp <;> omega) _
          · obtain rfl : j = k := by omega
            have hTR : Hid (tryRow fs f.length x.1 rest j = none) := Htry.out
            gi_wp2
            go_roundw
            case rel => exact ⟨j + 1, by omega, by go_num, some_range_succ Hrow.out hTR.out, hBU.trans (hBi.mono hBU.size)⟩
            case measure => simp [intOf]; omega
      · obtain rfl : k = f.length + 2 := by omega
        gi_wp2
        refine ⟨Below.others hBr2, hBr2.mono hB.size, ⟨?_, b0.below hBr2 b0.lt, b1.below hBr2 b1.lt, b2.below hBr2 b2.lt, b3.below hBr2 b3.lt, b4.below hBr2 b4.lt, b7r, ?_⟩, hB.trans (hBr2.mono hB.size)⟩
        · rw [some_snoc hnone]; exact HT.out.trans Hrow.out
        · rw [← Hfs.out]; exact rs2.below hBr2 (by omega)
  case done =>
    rintro D ys W hD rfl ⟨⟨hnone, b0, b1, b2, b3, b4, b7, rs⟩, hB⟩ hK
    have hfb : findBal (push.times h.area) f = none := (setsUpto_some (Nat.le_trans (Nat.pow_le_pow_right (by omega) hl) (by decide))).symm.trans hnone
    have s0 := b2.cell 0
    have s1 := b2.cell 1
    have s2 := b3.cell 0
    have f0 := b2.frozen 0
    have f1 := b2.frozen 1
    have f2 := b3.frozen 0
    have z2 := b2.lt
    have z3 := b3.lt
    simp at s0 s1 s2
    clear hnone b0 b1 b4 b7 rs
    gi_wp2
    refine wpIn_wide.2 ?_
    go_region
    all_goals gi_wp2
    rw [Exit.noGoto_ret]
    have hK' : ((((W.setCell ⟨w.heap.size + 1 + 1, 0, none⟩ (.int .i64 0)).setCell ⟨w.heap.size + 1 + 1, 1, none⟩ (.slice none 0 0)).setCell ⟨w.heap.size + 1 + 1 + 1, 0, none⟩ (.bool false)).drew).heap[D]? = some (.deferred (some [])) :=
      (((KeepsOthers.setCell W ⟨w.heap.size + 1 + 1, 0, none⟩ (.int .i64 0)).trans (KeepsOthers.setCell _ ⟨w.heap.size + 1 + 1, 1, none⟩ (.slice none 0 0))).trans (KeepsOthers.setCell _ ⟨w.heap.size + 1 + 1 + 1, 0, none⟩ (.bool false))).same D _ hK rfl
    refine ⟨by simp, .inl ⟨_, _, rfl, run_takeDeferred hK', ?_⟩⟩
    have d2 := Blk.kept (((b2.set_ 0 (.int .i64 0)).set_ 1 (.slice none 0 0)).far (p := ⟨w.heap.size + 1 + 1 + 1, 0, none⟩) (by simp) (.bool false)).drew (grownBy_putObj' _ D (.deferred none)) (fun r e => by cases e; exact ⟨_, hK', rfl⟩)
    have d3 := Blk.kept (((b3.far (p := ⟨w.heap.size + 1 + 1, 0, none⟩) (by simp) (.int .i64 0)).far (p := ⟨w.heap.size + 1 + 1, 1, none⟩) (by simp) (.slice none 0 0)).set_ 0 (.bool false)).drew (grownBy_putObj' _ D (.deferred none)) (fun r e => by cases e; exact ⟨_, hK', rfl⟩)
    have v0 := d2.cell 0
    have v1 := d2.cell 1
    have v2 := d3.cell 0
    simp at v0 v1 v2
    refine ⟨.tuple #[.agg #[.int .i64 0, .slice none 0 0], .bool false], by simp [results, Try.results64, go_sem, v0, v1, v2], ?_⟩
    refine ⟨none, 0, by rw [hfb]; rfl, by rw [hfb]; exact RSF.nil, by rw [hfb]; exact Nat.le_refl _, Nat.zero_le _, (fun ad e => (by cases e)), ?_⟩
    exact ((((hB.setCell (p := ⟨w.heap.size + 1 + 1, 0, none⟩) (by simp <;> omega) _).setCell (p := ⟨w.heap.size + 1 + 1, 1, none⟩) (by simp <;> omega) _).setCell (p := ⟨w.heap.size + 1 + 1 + 1, 0, none⟩) (by simp <;> omega) _).drew).trans (belowK_b (w := w) (Nat.le_refl _) _ D _ _ (by omega) hK' rfl rfl)
  case stop =>
    rintro D c pre W hD hpre ⟨⟨rfl, wh, ps, A', cc, B', q1, b2, b3, hrs, hBz, hc1, hc2, hfr⟩, hB⟩ hK
    have hfb : findBal (push.times h.area) f = some (wh, ps) := (setsUpto_some (Nat.le_trans (Nat.pow_le_pow_right (by omega) hl) (by decide))).symm.trans (some_prefix hpre q1)
    have s0 := b2.cell 0
    have s1 := b2.cell 1
    have s2 := b3.cell 0
    have f0 := b2.frozen 0
    have f1 := b2.frozen 1
    have f2 := b3.frozen 0
    have z2 := b2.lt
    have z3 := b3.lt
    simp at s0 s1 s2
    clear q1
    gi_wp2
    refine wpIn_wide.2 ?_
    go_region
    all_goals gi_wp2
    rw [Exit.noGoto_ret]
    have hK' : ((((W.setCell ⟨w.heap.size + 1 + 1, 0, none⟩ (.int .i64 wh)).setCell ⟨w.heap.size + 1 + 1, 1, none⟩ (.slice A' ps.length cc)).setCell ⟨w.heap.size + 1 + 1 + 1, 0, none⟩ (.bool true)).drew).heap[D]? = some (.deferred (some [])) :=
      (((KeepsOthers.setCell W ⟨w.heap.size + 1 + 1, 0, none⟩ (.int .i64 wh)).trans (KeepsOthers.setCell _ ⟨w.heap.size + 1 + 1, 1, none⟩ (.slice A' ps.length cc))).trans (KeepsOthers.setCell _ ⟨w.heap.size + 1 + 1 + 1, 0, none⟩ (.bool true))).same D _ hK rfl
    refine ⟨by simp, .inl ⟨_, _, rfl, run_takeDeferred hK', ?_⟩⟩
    have d2 := Blk.kept (((b2.set_ 0 (.int .i64 wh)).set_ 1 (.slice A' ps.length cc)).far (p := ⟨w.heap.size + 1 + 1 + 1, 0, none⟩) (by simp) (.bool true)).drew (grownBy_putObj' _ D (.deferred none)) (fun r e => by cases e; exact ⟨_, hK', rfl⟩)
    have d3 := Blk.kept (((b3.far (p := ⟨w.heap.size + 1 + 1, 0, none⟩) (by simp) (.int .i64 wh)).far (p := ⟨w.heap.size + 1 + 1, 1, none⟩) (by simp) (.slice A' ps.length cc)).set_ 0 (.bool true)).drew (grownBy_putObj' _ D (.deferred none)) (fun r e => by cases e; exact ⟨_, hK', rfl⟩)
    have v0 := d2.cell 0
    have v1 := d2.cell 1
    have v2 := d3.cell 0
    simp at v0 v1 v2
    refine ⟨.tuple #[.agg #[.int .i64 wh, .slice A' ps.length cc], .bool true], by simp [results, Try.results64, go_sem, v0, v1, v2], ?_⟩
    refine ⟨A', cc, by rw [hfb]; rfl, ?_, by rw [hfb]; exact hc1, hc2, (fun ad e => (by have := hfr ad e; omega)), ?_⟩
    · rw [hfb]
      refine RSF.more (B := B') ?_ (by simp; omega)
      exact RSF.kept (row := some D) (((hrs.far (p := ⟨w.heap.size + 1 + 1, 0, none⟩) (fun ad e => by have := hfr ad e; simp; omega) (.int .i64 wh)).far (p := ⟨w.heap.size + 1 + 1, 1, none⟩) (fun ad e => by have := hfr ad e; simp; omega) (.slice A' ps.length cc)).far (p := ⟨w.heap.size + 1 + 1 + 1, 0, none⟩) (fun ad e => by have := hfr ad e; simp; omega) (.bool true)).drew' (grownBy_putObj' _ D (.deferred none)) (fun r e => by cases e; exact ⟨_, hK', rfl⟩)
    · exact ((((hB.setCell (p := ⟨w.heap.size + 1 + 1, 0, none⟩) (by simp <;> omega) _).setCell (p := ⟨w.heap.size + 1 + 1, 1, none⟩) (by simp <;> omega) _).setCell (p := ⟨w.heap.size + 1 + 1 + 1, 0, none⟩) (by simp <;> omega) _).drew).trans (belowK_b (w := w) (Nat.le_refl _) _ D _ _ (by omega) hK' rfl rfl)
end Go.Proofs.Ytibaindlbpfecaa
