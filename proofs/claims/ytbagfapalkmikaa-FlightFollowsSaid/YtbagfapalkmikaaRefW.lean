import Derived.Test.YtbagfapalkmikaaWidestE
import Derived.Test.YtbagfapalkmikaaSureM

/- The windows, by the document's words. -/
namespace Go.Proofs.Ytbagfapalkmikaa
open Go.RowKit Go.Shelf
def prevB (f : Flt) (a n : Nat) : Bool := decide (a < n) && goodB f (n - 1)
theorem prevB_succ {f : Flt} {a n : Nat} (h : a ≤ n) : prevB f a (n + 1) = goodB f n := by unfold prevB; rw [decide_eq_true (by omega), Nat.add_sub_cancel]; rfl
theorem prevB_start {f : Flt} {a : Nat} : prevB f a a = false := by unfold prevB; rw [decide_eq_false (by omega)]; rfl
theorem addW_ends {ws : List (Int × Int)} {r : Int} : ∃ l s, addW ws r = l ++ [(s, r)] := by
  rcases List.eq_nil_or_concat ws with rfl | ⟨l, q, rfl⟩
  · exact ⟨[], r, rfl⟩
  · obtain ⟨s, t⟩ := q
    rw [List.concat_eq_append]
    by_cases hb : t = r - 1
    · exact ⟨l, s, addW_hit hb⟩
    · exact ⟨l ++ [(s, t)], r, addW_miss hb⟩
theorem winsTo_prev {f : Flt} {a n : Nat} (hn : a ≤ n) (h : prevB f a n = true) : ∃ l s, winsTo f a n = l ++ [(s, (n : Int) - 1)] := by
  unfold prevB at h
  rw [Bool.and_eq_true, decide_eq_true_eq] at h
  obtain ⟨m, rfl⟩ : ∃ m, n = m + 1 := ⟨n - 1, by omega⟩
  rw [Nat.add_sub_cancel] at h
  obtain ⟨l, s, hl⟩ := addW_ends (ws := winsTo f a m) (r := (m : Int))
  refine ⟨l, s, ?_⟩
  rw [winsTo_succ (by omega), if_pos h.2, hl]
  simp
theorem addW_new {f : Flt} {a n : Nat} (hn : a ≤ n) (h : prevB f a n = false) : addW (winsTo f a n) n = winsTo f a n ++ [((n : Int), (n : Int))] := by
  rcases List.eq_nil_or_concat (winsTo f a n) with h0 | ⟨l, q, hq⟩
  · rw [h0]; rfl
  · obtain ⟨s, t⟩ := q
    rw [List.concat_eq_append] at hq
    rw [hq]
    refine addW_miss ?_
    have hlt : a < n := by
      refine Nat.lt_of_le_of_ne hn ?_
      rintro rfl
      rw [winsTo_start] at hq
      simp at hq
    obtain ⟨m, rfl⟩ : ∃ m, n = m + 1 := ⟨n - 1, by omega⟩
    rw [prevB_succ (by omega)] at h
    rw [winsTo_succ (by omega), h] at hq
    have := winsTo_in (f := f) (a := a) (n := m) (by omega) (s, t) (by simp at hq; rw [hq]; simp)
    simp at this
    omega
theorem infoRWin : (Try.prog.info? 88).map (fun i => (i.zero, i.size, i.bytes)) = some (some (.agg #[.int .i64 0, .int .i64 0]), 2, 16) := by kernel_rfl
theorem refGood_any (f : Flt) (A : Option Addr) (c r : Nat) (w : World) (hf : f.ok = true) (hr : r ≤ 6000) (hrs : RS encB 4 w w.heap.size A f.cycle) :
    Calls Try.prog 75 #[.agg #[.int .i64 f.fly.pos.x.lo, .int .i64 f.fly.pos.x.hi, .int .i64 f.fly.pos.z.lo, .int .i64 f.fly.pos.z.hi, .int .i64 f.fly.speed.x.lo, .int .i64 f.fly.speed.x.hi, .int .i64 f.fly.speed.z.lo, .int .i64 f.fly.speed.z.hi, .int .i64 f.fly.mass, .slice A f.cycle.length c, .int .i64 f.reach, .int .i64 f.soft, .int .i64 f.bears, .int .i64 f.least, .int .i64 f.most], .int .i64 r] w fun e w' => e = .returned (.bool (goodB f r)) ∧ Below w.heap.size w w' := by
  have hB0 := (Below.refl w.heap.size w).alloc (Nat.le_refl _) (.cells #[.int .i64 f.fly.pos.x.lo, .int .i64 f.fly.pos.x.hi, .int .i64 f.fly.pos.z.lo, .int .i64 f.fly.pos.z.hi, .int .i64 f.fly.speed.x.lo, .int .i64 f.fly.speed.x.hi, .int .i64 f.fly.speed.z.lo, .int .i64 f.fly.speed.z.hi, .int .i64 f.fly.mass, .slice A f.cycle.length c, .int .i64 f.reach, .int .i64 f.soft, .int .i64 f.bears, .int .i64 f.least, .int .i64 f.most] 32)
  have HC : Hid (Calls Try.prog 39 #[.agg #[.int .i64 f.fly.pos.x.lo, .int .i64 f.fly.pos.x.hi, .int .i64 f.fly.pos.z.lo, .int .i64 f.fly.pos.z.hi, .int .i64 f.fly.speed.x.lo, .int .i64 f.fly.speed.x.hi, .int .i64 f.fly.speed.z.lo, .int .i64 f.fly.speed.z.hi, .int .i64 f.fly.mass, .slice A f.cycle.length c, .int .i64 f.reach, .int .i64 f.soft, .int .i64 f.bears, .int .i64 f.least, .int .i64 f.most], .int .i64 r] (w.alloc (.cells #[.int .i64 f.fly.pos.x.lo, .int .i64 f.fly.pos.x.hi, .int .i64 f.fly.pos.z.lo, .int .i64 f.fly.pos.z.hi, .int .i64 f.fly.speed.x.lo, .int .i64 f.fly.speed.x.hi, .int .i64 f.fly.speed.z.lo, .int .i64 f.fly.speed.z.hi, .int .i64 f.fly.mass, .slice A f.cycle.length c, .int .i64 f.reach, .int .i64 f.soft, .int .i64 f.bears, .int .i64 f.least, .int .i64 f.most] 32)) fun e w' => ∃ A' c', e = .returned (.slice A' (sureL f r).length c') ∧ RS encI 1 w' w'.heap.size A' (ints (sureL f r)) ∧ Below (w.alloc (.cells #[.int .i64 f.fly.pos.x.lo, .int .i64 f.fly.pos.x.hi, .int .i64 f.fly.pos.z.lo, .int .i64 f.fly.pos.z.hi, .int .i64 f.fly.speed.x.lo, .int .i64 f.fly.speed.x.hi, .int .i64 f.fly.speed.z.lo, .int .i64 f.fly.speed.z.hi, .int .i64 f.fly.mass, .slice A f.cycle.length c, .int .i64 f.reach, .int .i64 f.soft, .int .i64 f.bears, .int .i64 f.least, .int .i64 f.most] 32)).heap.size (w.alloc (.cells #[.int .i64 f.fly.pos.x.lo, .int .i64 f.fly.pos.x.hi, .int .i64 f.fly.pos.z.lo, .int .i64 f.fly.pos.z.hi, .int .i64 f.fly.speed.x.lo, .int .i64 f.fly.speed.x.hi, .int .i64 f.fly.speed.z.lo, .int .i64 f.fly.speed.z.hi, .int .i64 f.fly.mass, .slice A f.cycle.length c, .int .i64 f.reach, .int .i64 f.soft, .int .i64 f.bears, .int .i64 f.least, .int .i64 f.most] 32)) w') := by
    have := refCatches_any f A c r _ hf hr (hrs.to hB0)
    rw [air_sure (Flt.ok_iff.1 hf).2.2.2.2.2.2.2.1.2] at this
    exact this
  have HG : Hid (goodB f r = decide (0 < (sureL f r).length)) := rfl
  obtain ⟨n, hn⟩ : ∃ n, (sureL f r).length = n := ⟨_, rfl⟩
  rw [hn] at HC HG
  have HB0 := Lib.hid hB0
  clear hf hrs hn hB0
  go_enter Try.func75, Try.ntmps75
  go_wp2_with (go_at_call 39; (with_reducible refine HC.out.mono ?_); rintro e w1 ⟨A1, c1, rfl, hs1, hb1⟩)
  go_ret
  exact ⟨ret_bool (by rw [HG.out] <;> simp), HB0.out.trans (hb1.mono (by simp))⟩

set_option linter.unusedSimpArgs false in
set_option maxRecDepth 100000 in
set_option maxHeartbeats 8000000 in
theorem refWindows_any (f : Flt) (A : Option Addr) (c a b : Nat) (w : World) (hf : f.ok = true) (hab : a ≤ b) (hb6 : b ≤ 6000) (hrs : RS encB 4 w w.heap.size A f.cycle) :
    Calls Try.prog 44 #[.agg #[.int .i64 f.fly.pos.x.lo, .int .i64 f.fly.pos.x.hi, .int .i64 f.fly.pos.z.lo, .int .i64 f.fly.pos.z.hi, .int .i64 f.fly.speed.x.lo, .int .i64 f.fly.speed.x.hi, .int .i64 f.fly.speed.z.lo, .int .i64 f.fly.speed.z.hi, .int .i64 f.fly.mass, .slice A f.cycle.length c, .int .i64 f.reach, .int .i64 f.soft, .int .i64 f.bears, .int .i64 f.least, .int .i64 f.most], .int .i64 a, .int .i64 b] w fun e w' => ∃ A' c', e = .returned (.slice A' (winsTo f a (b + 1)).length c') ∧ RS encW 2 w' w'.heap.size A' (winsTo f a (b + 1)) ∧ Below w.heap.size w w' := by
  obtain ⟨i0, hi0, hz0, hz1, hz2⟩ := info_parts infoRWin
  have hml : (8000 : Nat) ≤ maxLen := by unfold maxLen; omega
  have HGD : Hid (∀ (r : Nat) (W : World), r ≤ 6000 → RS encB 4 W W.heap.size A f.cycle → Calls Try.prog 75 #[.agg #[.int .i64 f.fly.pos.x.lo, .int .i64 f.fly.pos.x.hi, .int .i64 f.fly.pos.z.lo, .int .i64 f.fly.pos.z.hi, .int .i64 f.fly.speed.x.lo, .int .i64 f.fly.speed.x.hi, .int .i64 f.fly.speed.z.lo, .int .i64 f.fly.speed.z.hi, .int .i64 f.fly.mass, .slice A f.cycle.length c, .int .i64 f.reach, .int .i64 f.soft, .int .i64 f.bears, .int .i64 f.least, .int .i64 f.most], .int .i64 (r : Int)] W fun e w' => e = .returned (.bool (goodB f r)) ∧ Below W.heap.size W w') := fun r W h1 h2 => refGood_any f A c r W hf h1 h2
  have hB0 := (Below.refl w.heap.size w).alloc (Nat.le_refl _) (.cells #[.int .i64 f.fly.pos.x.lo, .int .i64 f.fly.pos.x.hi, .int .i64 f.fly.pos.z.lo, .int .i64 f.fly.pos.z.hi, .int .i64 f.fly.speed.x.lo, .int .i64 f.fly.speed.x.hi, .int .i64 f.fly.speed.z.lo, .int .i64 f.fly.speed.z.hi, .int .i64 f.fly.mass, .slice A f.cycle.length c, .int .i64 f.reach, .int .i64 f.soft, .int .i64 f.bears, .int .i64 f.least, .int .i64 f.most] 32)
  have kF0 := Blk.new w 32 #[.int .i64 f.fly.pos.x.lo, .int .i64 f.fly.pos.x.hi, .int .i64 f.fly.pos.z.lo, .int .i64 f.fly.pos.z.hi, .int .i64 f.fly.speed.x.lo, .int .i64 f.fly.speed.x.hi, .int .i64 f.fly.speed.z.lo, .int .i64 f.fly.speed.z.hi, .int .i64 f.fly.mass, .slice A f.cycle.length c, .int .i64 f.reach, .int .i64 f.soft, .int .i64 f.bears, .int .i64 f.least, .int .i64 f.most]
  have hR00 := hrs.to hB0
  clear hf hrs
  go_enter Try.func44, Try.ntmps44
  go_upto_region 1 with fail
  refine name_world (motive := fun W => Code.wp _ _ _ _ W) _ ?_
  intro W0 hW
  have hWc := hW.cell
  have hWz := hW.size
  have hWb := hW.below (hB0)
  have kF := hW.blk kF0
  have hR0 := hR00.to (hW.below (Below.refl _ _))
  have HB0 := Lib.hid hWb
  clear hB0 kF0 hR00 hW hWc hWz hWb
  go_wp2
  obtain ⟨Wo, hWo⟩ : ∃ x, x = W0 := ⟨_, rfl⟩
  subst hWo
  go_loopw [7, 8, 9] (fun s p i wr => ∃ (n : Nat) (v : Value), a ≤ n ∧ n ≤ b + 1 ∧ i = .int .i64 n ∧ v = s ∧ p = .bool (prevB f a n) ∧ wr.ownsRow Wo.heap.size 88 2 v (winsTo f a n).length ((winsTo f a n).flatMap encW) ∧ Below Wo.heap.size Wo wr) (fun _ _ i _ => b + 1 - (intOf i).toNat)
  case atStart => exact ⟨a, _, Nat.le_refl _, by omega, rfl, rfl, by rw [prevB_start], by rw [winsTo_start]; exact World.ownsRow_nil _ _ _ _, Below.refl _ _⟩
  case round =>
    obtain ⟨n, v, hn1, hn2, rfl, rfl, rfl, hown, hB⟩ := hrel
    by_cases hnb : n ≤ b
    case neg =>
      obtain rfl : n = b + 1 := by omega
      obtain ⟨A3, c3, rfl, _⟩ := own_slice hown
      have hS := RS.of_own (enc := encW) (sz := 2) encW_len hown rfl
      go_wp2
      go_ret
      exact ⟨A3, c3, rfl, hS, HB0.out.trans (hB.mono HB0.out.size)⟩
    case pos =>
      have kFr := kF.below hB kF.lt
      have hRr := hR0.to hB
      have x0 := kFr.cell 0; have x1 := kFr.cell 1; have x2 := kFr.cell 2; have x3 := kFr.cell 3; have x4 := kFr.cell 4; have x5 := kFr.cell 5; have x6 := kFr.cell 6; have x7 := kFr.cell 7; have x8 := kFr.cell 8; have x9 := kFr.cell 9; have x10 := kFr.cell 10; have x11 := kFr.cell 11; have x12 := kFr.cell 12; have x13 := kFr.cell 13; have x14 := kFr.cell 14; simp at x0 x1 x2 x3 x4 x5 x6 x7 x8 x9 x10 x11 x12 x13 x14
      have HGn : Hid (∀ W : World, RS encB 4 W W.heap.size A f.cycle → Calls Try.prog 75 #[.agg #[.int .i64 f.fly.pos.x.lo, .int .i64 f.fly.pos.x.hi, .int .i64 f.fly.pos.z.lo, .int .i64 f.fly.pos.z.hi, .int .i64 f.fly.speed.x.lo, .int .i64 f.fly.speed.x.hi, .int .i64 f.fly.speed.z.lo, .int .i64 f.fly.speed.z.hi, .int .i64 f.fly.mass, .slice A f.cycle.length c, .int .i64 f.reach, .int .i64 f.soft, .int .i64 f.bears, .int .i64 f.least, .int .i64 f.most], .int .i64 (n : Int)] W fun e w' => e = .returned (.bool (goodB f n)) ∧ Below W.heap.size W w') := fun W h => HGD.out n W (by omega) h
      have HS := Lib.hid (winsTo_succ (f := f) (a := a) (n := n) hn1)
      have HPS := Lib.hid (prevB_succ (f := f) (a := a) (n := n) hn1)
      have HPR := Lib.hid (winsTo_prev (f := f) (a := a) (n := n) hn1)
      have HNW := Lib.hid (addW_new (f := f) (a := a) (n := n) hn1)
      have hlen := winsTo_len (f := f) (a := a) (n := n) hn1
      obtain ⟨p, hp⟩ : ∃ p, prevB f a n = p := ⟨_, rfl⟩
      rw [hp] at HPR HNW
      rw [hp]
      obtain ⟨d, hd⟩ : ∃ d, goodB f n = d := ⟨_, rfl⟩
      rw [hd] at HGn HS HPS
      clear hp hd
      cases d
      · obtain ⟨ws, hws⟩ : ∃ ws, winsTo f a n = ws := ⟨_, rfl⟩
        rw [hws] at HS hown
        clear hws
        go_wp2_with (go_at_call 75; (with_reducible refine (HGn.out _ hRr).mono ?_); rintro e w1 ⟨rfl, hb1⟩)
        all_goals
          go_roundw
          case rel => exact ⟨n + 1, v, by omega, by omega, by go_num, rfl, by rw [HPS.out], by rw [HS.out]; exact own_below hown hb1, sh_next hB hb1⟩
          case measure => simp [intOf]; omega
      · cases p
        · have hnw := HNW.out rfl
          obtain ⟨ws, hws⟩ : ∃ ws, winsTo f a n = ws := ⟨_, rfl⟩
          rw [hws] at HS hown hnw hlen
          have HNW2 := Lib.hid hnw
          obtain ⟨k, hk⟩ : ∃ k, ws.length = k := ⟨_, rfl⟩
          rw [hk] at hown hlen
          have HK := Lib.hid hk
          clear hws hnw hk
          go_wp2_with (first | (go_at_call 75; (with_reducible refine (HGn.out _ hRr).mono ?_); rintro e w1 ⟨rfl, hb1⟩; have hown1 := own_below hown hb1; have hB1 := sh_next hB hb1; have hws1 := hB1.size) | (at_builtin; refine wpList_append_own _ rfl _ _ 99 rfl Wo.heap.size 88 i0 _ 2 16 Try.underlying99 hi0 hz0 hz1 hz2 rfl (by decide) _ k _ rfl (hown1.alloc _) ⟨w1.heap.size, 0, none⟩ 1 1 [.int .i64 (n : Int), .int .i64 (n : Int)] rfl rfl ?c1 ?c2 ?c3 ?c4 ?c5 ?_))
          case c1 => exact fun j u h => Blk.add (Blk.new w1 88 #[.int .i64 (n : Int), .int .i64 (n : Int)]) h
          case c2 => simp [Value.oneCell']
          case c3 => omega
          case c4 => omega
          case c5 => (try simp) <;> omega
          intro v3 w3 hown3 hgrow3 _
          have hB3 := app_belowF (hB1.alloc hws1 (.cells #[.int .i64 (n : Int), .int .i64 (n : Int)] 88)) (Nat.le_refl _) (by simp; omega) (hown1.alloc _) hgrow3
          have HOW3 := Lib.hid hown3
          clear hown3
          go_wp2
          go_roundw
          case rel =>
            refine ⟨n + 1, v3, by omega, by omega, by go_num, rfl, by rw [HPS.out], ?_, hB3⟩
            have hx : (ws ++ [((n : Int), (n : Int))]).flatMap encW = ws.flatMap encW ++ [.int .i64 (n : Int), .int .i64 (n : Int)] := by simp [encW]
            rw [HS.out, if_pos trivial, HNW2.out, List.length_append, hx, HK.out]
            exact HOW3.out
          case measure => simp [intOf]; omega
        · obtain ⟨l, s, hls⟩ := HPR.out rfl
          rw [hls] at HS hown hlen
          have hfl := winFlat_len (l ++ [(s, (n : Int) - 1)])
          obtain ⟨k, hk⟩ : ∃ k, (l ++ [(s, (n : Int) - 1)]).length = k := ⟨_, rfl⟩
          obtain ⟨m, hm⟩ : ∃ m, l.length = m := ⟨_, rfl⟩
          have hkm : k = m + 1 := by rw [← hk, ← hm]; simp
          rw [hk] at hown hfl hlen
          obtain ⟨g, c', cur, rfl, hg, hG, h1, h3, h4, h5⟩ := own_cells2 hown (by omega)
          have hI1 : (0 : Int) < (k : Int) := by omega
          have hI2 : (k : Int) - 1 = (m : Int) := by omega
          have hI3 : (m : Int) < (k : Int) := by omega
          have hI4 : (0 : Int) ≤ (m : Int) := by omega
          have HK := Lib.hid hk
          have HM := Lib.hid hm
          have HFL := Lib.hid hfl
          have H5 := Lib.hid h5
          have HKM := Lib.hid hkm
          have hc1 : cur[m * 2 + 1]?.isSome = true := by
            rw [Array.getElem?_eq_getElem (by rw [h4]; omega)]
            rfl
          obtain ⟨u0, hu0⟩ := Option.isSome_iff_exists.1 hc1
          clear hls hk hm hfl h5 hkm hc1
          go_wp2_with (go_at_call 75; (with_reducible refine (HGn.out _ hRr).mono ?_); rintro e w1 ⟨rfl, hb1⟩; have hG1 := hG.below hb1 hG.lt; have e1 := (hG1.cell (m * 2 + 1)).trans hu0; have gf := hG1.frozen (m * 2 + 1); have gl := hG1.lt; have hB1 := sh_next hB hb1)
          go_roundw
          case rel =>
            refine ⟨n + 1, _, by omega, by omega, by go_num, rfl, by rw [HPS.out], ?_, hB1.setCell (p := ⟨g, m * 2 + 1, none⟩) hg _⟩
            have hset := own_set (n := k) HFL.out hg hG1 h1 h3 h4 H5.out (m * 2 + 1) (.int .i64 (n : Int))
            have he : (l ++ [(s, (n : Int))]).flatMap encW = ((l ++ [(s, (n : Int) - 1)]).flatMap encW).set (m * 2 + 1) (.int .i64 (n : Int)) := by
              have hlf : (l.flatMap encW).length = m * 2 := by rw [winFlat_len, HM.out]
              rw [List.flatMap_append, List.flatMap_append, List.set_append, if_neg (by omega), hlf, Nat.add_sub_cancel_left]
              rfl
            have hl2 : (l ++ [(s, (n : Int))]).length = k := by rw [← HK.out]; simp
            rw [HS.out, if_pos trivial, addW_hit rfl, hl2, he]
            exact hset
          case measure => simp [intOf]; omega
end Go.Proofs.Ytbagfapalkmikaa
