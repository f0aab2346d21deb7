import Derived.Test.YtbagfapalkmikaaChainA

/- The document's First and Chain. -/
namespace Go.Proofs.Ytbagfapalkmikaa
open Go.RowKit Go.Shelf
def q1 (q : Option Nat) (need : Nat) : Int := match q with | some r => ((r + 1 - need : Nat) : Int) | none => 0
def q2 (q : Option Nat) : Int := match q with | some r => (r : Int) | none => 0
set_option linter.unusedSimpArgs false in
set_option maxRecDepth 100000 in
set_option maxHeartbeats 8000000 in
theorem refFirst_any (f : Flt) (A : Option Addr) (c b need : Nat) (w : World) (hf : f.ok = true) (hrs : RS encB 4 w w.heap.size A f.cycle) (hb : b ≤ 7300) (hn : 1 ≤ need ∧ need ≤ 100) :
    Calls Try.prog 79 #[.agg #[.int .i64 f.fly.pos.x.lo, .int .i64 f.fly.pos.x.hi, .int .i64 f.fly.pos.z.lo, .int .i64 f.fly.pos.z.hi, .int .i64 f.fly.speed.x.lo, .int .i64 f.fly.speed.x.hi, .int .i64 f.fly.speed.z.lo, .int .i64 f.fly.speed.z.hi, .int .i64 f.fly.mass, .slice A f.cycle.length c, .int .i64 f.reach, .int .i64 f.soft, .int .i64 f.bears, .int .i64 f.least, .int .i64 f.most], .int .i64 b, .int .i64 need] w fun e w' => e = .returned (.tuple #[.agg #[.int .i64 (q1 (firstW f b need) need), .int .i64 (q2 (firstW f b need))], .bool (firstW f b need).isSome]) ∧ Below w.heap.size w w' := by
  have HGD : Hid (∀ (r : Nat) (W : World), r ≤ 6000 → RS encB 4 W W.heap.size A f.cycle → Calls Try.prog 75 #[.agg #[.int .i64 f.fly.pos.x.lo, .int .i64 f.fly.pos.x.hi, .int .i64 f.fly.pos.z.lo, .int .i64 f.fly.pos.z.hi, .int .i64 f.fly.speed.x.lo, .int .i64 f.fly.speed.x.hi, .int .i64 f.fly.speed.z.lo, .int .i64 f.fly.speed.z.hi, .int .i64 f.fly.mass, .slice A f.cycle.length c, .int .i64 f.reach, .int .i64 f.soft, .int .i64 f.bears, .int .i64 f.least, .int .i64 f.most], .int .i64 (r : Int)] W fun e w' => e = .returned (.bool (goodB f r)) ∧ Below W.heap.size W w') := fun r W h1 h2 => refGood_any f A c r W hf h1 h2
  have hB0 := ((Below.refl w.heap.size w).alloc (Nat.le_refl _) (.cells #[.int .i64 f.fly.pos.x.lo, .int .i64 f.fly.pos.x.hi, .int .i64 f.fly.pos.z.lo, .int .i64 f.fly.pos.z.hi, .int .i64 f.fly.speed.x.lo, .int .i64 f.fly.speed.x.hi, .int .i64 f.fly.speed.z.lo, .int .i64 f.fly.speed.z.hi, .int .i64 f.fly.mass, .slice A f.cycle.length c, .int .i64 f.reach, .int .i64 f.soft, .int .i64 f.bears, .int .i64 f.least, .int .i64 f.most] 32)).alloc (by simp) (.cells #[.int .i64 0, .int .i64 0] 88)
  have kF0 := (Blk.new w 32 #[.int .i64 f.fly.pos.x.lo, .int .i64 f.fly.pos.x.hi, .int .i64 f.fly.pos.z.lo, .int .i64 f.fly.pos.z.hi, .int .i64 f.fly.speed.x.lo, .int .i64 f.fly.speed.x.hi, .int .i64 f.fly.speed.z.lo, .int .i64 f.fly.speed.z.hi, .int .i64 f.fly.mass, .slice A f.cycle.length c, .int .i64 f.reach, .int .i64 f.soft, .int .i64 f.bears, .int .i64 f.least, .int .i64 f.most]).alloc (.cells #[.int .i64 0, .int .i64 0] 88)
  have kR0 := Blk.new (w.alloc (.cells #[.int .i64 f.fly.pos.x.lo, .int .i64 f.fly.pos.x.hi, .int .i64 f.fly.pos.z.lo, .int .i64 f.fly.pos.z.hi, .int .i64 f.fly.speed.x.lo, .int .i64 f.fly.speed.x.hi, .int .i64 f.fly.speed.z.lo, .int .i64 f.fly.speed.z.hi, .int .i64 f.fly.mass, .slice A f.cycle.length c, .int .i64 f.reach, .int .i64 f.soft, .int .i64 f.bears, .int .i64 f.least, .int .i64 f.most] 32)) 88 #[.int .i64 0, .int .i64 0]
  simp only [World.size_alloc] at kR0
  have hR00 := hrs.to hB0
  obtain ⟨q, hq⟩ : ∃ q, firstW f b need = q := ⟨_, rfl⟩
  rw [hq]
  have HQ : Hid (findW f need (6001 - b) b 0 = q) := hq
  clear hf hrs hq
  go_enter Try.func79, Try.ntmps79
  go_upto_region 1 with fail
  refine name_world (motive := fun W => Code.wp _ _ _ _ W) _ ?_
  intro W0 hW
  have hWc := hW.cell
  have hWz := hW.size
  have hWb := hW.below (hB0)
  have kF := hW.blk kF0
  have kR := hW.blk kR0
  have hR0 := hR00.to (hW.below (Below.refl _ _))
  have HB0 := Lib.hid hWb
  clear hB0 kF0 kR0 hR00 hW hWc hWz hWb
  go_wp2
  obtain ⟨Wo, hWo⟩ : ∃ x, x = W0 := ⟨_, rfl⟩
  subst hWo
  go_loopw [8, 9] (fun ru i wr => ∃ (r run : Nat), b ≤ r ∧ r ≤ 7300 ∧ ru = .int .i64 run ∧ i = .int .i64 r ∧ run < need ∧ run ≤ r - b ∧ Hid (findW f need (6001 - r) r run = q) ∧ Below Wo.heap.size Wo wr) (fun _ i _ => 6001 - (intOf i).toNat)
  case atStart => exact ⟨b, 0, Nat.le_refl _, hb, rfl, rfl, by omega, by omega, HQ, Below.refl _ _⟩
  case round =>
    obtain ⟨r, run, hr1, hr2, rfl, rfl, hrn, hrb, HF, hB⟩ := hrel
    have kRr := kR.below hB kR.lt
    have y0 := kRr.cell 0
    have y1 := kRr.cell 1
    have z0 := kRr.frozen 0
    have z1 := kRr.frozen 1
    have yl := kRr.lt
    simp at y0 y1
    have HBZ := Lib.hid (HB0.out.trans (hB.mono HB0.out.size))
    by_cases hr6 : r ≤ 6000
    case neg =>
      have hrI : ¬ ((r : Int) ≤ 6000) := by omega
      have HE : Hid (q = none) := by show _ = _; rw [← HF.out]; exact findW_end (by omega)
      clear HF HQ
      go_wp2
      have kF := (kRr.set_ 0 (.int .i64 0)).set_ 1 (.int .i64 0)
      have r0 := kF.cell 0
      have r1 := kF.cell 1
      simp at r0 r1
      rw [HE.out]
      refine bodyPost_ret (v := .tuple #[.agg #[.int .i64 0, .int .i64 0], .bool false]) (by simp [results, Try.results79, go_sem, r0, r1]) rfl ⟨rfl, ?_⟩
      exact (HBZ.out.setCell (p := ⟨w.heap.size + 1, 0, none⟩) (by simp) _).setCell (p := ⟨w.heap.size + 1, 1, none⟩) (by simp) _
    case pos =>
      have hrI : (r : Int) ≤ 6000 := by omega
      have kFr := kF.below hB kF.lt
      have hRr := hR0.to hB
      have x0 := kFr.cell 0; have x1 := kFr.cell 1; have x2 := kFr.cell 2; have x3 := kFr.cell 3; have x4 := kFr.cell 4; have x5 := kFr.cell 5; have x6 := kFr.cell 6; have x7 := kFr.cell 7; have x8 := kFr.cell 8; have x9 := kFr.cell 9; have x10 := kFr.cell 10; have x11 := kFr.cell 11; have x12 := kFr.cell 12; have x13 := kFr.cell 13; have x14 := kFr.cell 14; simp at x0 x1 x2 x3 x4 x5 x6 x7 x8 x9 x10 x11 x12 x13 x14
      have HGn : Hid (∀ W : World, RS encB 4 W W.heap.size A f.cycle → Calls Try.prog 75 #[.agg #[.int .i64 f.fly.pos.x.lo, .int .i64 f.fly.pos.x.hi, .int .i64 f.fly.pos.z.lo, .int .i64 f.fly.pos.z.hi, .int .i64 f.fly.speed.x.lo, .int .i64 f.fly.speed.x.hi, .int .i64 f.fly.speed.z.lo, .int .i64 f.fly.speed.z.hi, .int .i64 f.fly.mass, .slice A f.cycle.length c, .int .i64 f.reach, .int .i64 f.soft, .int .i64 f.bears, .int .i64 f.least, .int .i64 f.most], .int .i64 (r : Int)] W fun e w' => e = .returned (.bool (goodB f r)) ∧ Below W.heap.size W w') := fun W h => HGD.out r W hr6 h
      cases hgd : goodB f r
      case false =>
        rw [hgd] at HGn
        have HF2 : Hid (findW f need (6001 - (r + 1)) (r + 1) 0 = q) := by show _ = _; rw [← HF.out]; exact (findW_bad hr6 hgd).symm
        have hn0 : ¬ (0 : Int) = (need : Int) := by omega
        clear hgd HF HQ y0 y1 z0 z1
        go_wp2_with (go_at_call 75; (with_reducible refine (HGn.out _ hRr).mono ?_); rintro e w1 ⟨rfl, hb1⟩)
        go_roundw
        case rel => exact ⟨r + 1, 0, by omega, by omega, rfl, by go_num, by omega, by omega, HF2, sh_next hB hb1⟩
        case measure => simp [intOf]; omega
      case true =>
        rw [hgd] at HGn
        by_cases hneed : run + 1 = need
        case neg =>
          have hn0 : ¬ ((run : Int) + 1 = (need : Int)) := by omega
          have HF2 : Hid (findW f need (6001 - (r + 1)) (r + 1) (run + 1) = q) := by show _ = _; rw [← HF.out]; exact (findW_more hr6 hgd hneed).symm
          clear hgd HF HQ y0 y1 z0 z1
          go_wp2_with (go_at_call 75; (with_reducible refine (HGn.out _ hRr).mono ?_); rintro e w1 ⟨rfl, hb1⟩)
          go_roundw
          case rel => exact ⟨r + 1, run + 1, by omega, by omega, by go_num, by go_num, by omega, by omega, HF2, sh_next hB hb1⟩
          case measure => simp [intOf]; omega
        case pos =>
          have hn0 : (run : Int) + 1 = (need : Int) := by omega
          have HE : Hid (q = some r) := by show _ = _; rw [← HF.out]; exact findW_hit hr6 hgd hneed
          have hs : (r : Int) - (need : Int) + 1 = ((r + 1 - need : Nat) : Int) := by omega
          clear hgd HF HQ y0 y1 z0 z1 x0 x1 x2 x3 x4 x5 x6 x7 x8 x9 x10 x11 x12 x13 x14
          have x0 := kFr.cell 0; have x1 := kFr.cell 1; have x2 := kFr.cell 2; have x3 := kFr.cell 3; have x4 := kFr.cell 4; have x5 := kFr.cell 5; have x6 := kFr.cell 6; have x7 := kFr.cell 7; have x8 := kFr.cell 8; have x9 := kFr.cell 9; have x10 := kFr.cell 10; have x11 := kFr.cell 11; have x12 := kFr.cell 12; have x13 := kFr.cell 13; have x14 := kFr.cell 14; simp at x0 x1 x2 x3 x4 x5 x6 x7 x8 x9 x10 x11 x12 x13 x14
          go_wp2_with (go_at_call 75; (with_reducible refine (HGn.out _ hRr).mono ?_); rintro e w1 ⟨rfl, hb1⟩; have kR1 := kRr.below hb1 yl; have y0 := kR1.cell 0; have y1 := kR1.cell 1; have z0 := kR1.frozen 0; have z1 := kR1.frozen 1; have yl1 := kR1.lt; simp at y0 y1)
          have kF := (kR1.set_ 0 (.int .i64 ((r + 1 - need : Nat) : Int))).set_ 1 (.int .i64 (r : Int))
          have r0 := kF.cell 0
          have r1 := kF.cell 1
          simp at r0 r1
          rw [HE.out]
          refine bodyPost_ret (v := .tuple #[.agg #[.int .i64 ((r + 1 - need : Nat) : Int), .int .i64 (r : Int)], .bool true]) (by simp [results, Try.results79, go_sem, r0, r1]) rfl ⟨rfl, ?_⟩
          exact ((HBZ.out.trans (hb1.mono HBZ.out.size)).setCell (p := ⟨w.heap.size + 1, 0, none⟩) (by simp) _).setCell (p := ⟨w.heap.size + 1, 1, none⟩) (by simp) _
set_option linter.unusedSimpArgs false in
set_option maxRecDepth 100000 in
set_option maxHeartbeats 16000000 in
/-- The index of the first flight that has no window; -1: all have one. -/
theorem refChain_any (Al : Option Addr) (cl : Nat) (l : List FltA) (need rest : Nat) (w : World) (hact : ActW w Al l) (hl : l.length ≤ 12) (hok : ∀ x ∈ l, x.f.ok = true) (hn : 1 ≤ need ∧ need ≤ 100) (hre : rest ≤ 1000) :
    Calls Try.prog 49 #[.slice Al l.length cl, .int .i64 need, .int .i64 rest] w fun e w' => ∃ A' c', e = .returned (.tuple #[.slice A' (chainOf (actF l) need rest).ws.length c', .int .i64 (if (chainOf (actF l) need rest).err = 0 then -1 else (chainOf (actF l) need rest).at_)]) ∧
      RS encW 2 w' w'.heap.size A' (chainOf (actF l) need rest).ws ∧ Below w.heap.size w w' := by
  obtain ⟨i0, hi0, hz0, hz1, hz2⟩ := info_parts infoRWin
  have hml : (8000 : Nat) ≤ maxLen := by unfold maxLen; omega
  obtain ⟨o, ho⟩ : ∃ o, chainOf (actF l) need rest = o := ⟨_, rfl⟩
  rw [ho]
  obtain ⟨nn, hnn⟩ : ∃ nn : Int, (if o.err = 0 then (-1 : Int) else (o.at_ : Int)) = nn := ⟨_, rfl⟩
  rw [hnn]
  have HNN := Lib.hid hnn
  have HO : Hid (chainGo need rest ((actF l).drop 0) 0 0 [] = o) := ho
  have HL := Lib.hid (actF_len l)
  have HACT := Lib.hid hact
  have HOK := Lib.hid hok
  clear hnn
  have HFI : Hid (∀ (f : Flt) (A : Option Addr) (c b : Nat) (W : World), f.ok = true → RS encB 4 W W.heap.size A f.cycle → b ≤ 7300 → Calls Try.prog 79 #[.agg #[.int .i64 f.fly.pos.x.lo, .int .i64 f.fly.pos.x.hi, .int .i64 f.fly.pos.z.lo, .int .i64 f.fly.pos.z.hi, .int .i64 f.fly.speed.x.lo, .int .i64 f.fly.speed.x.hi, .int .i64 f.fly.speed.z.lo, .int .i64 f.fly.speed.z.hi, .int .i64 f.fly.mass, .slice A f.cycle.length c, .int .i64 f.reach, .int .i64 f.soft, .int .i64 f.bears, .int .i64 f.least, .int .i64 f.most], .int .i64 (b : Int), .int .i64 (need : Int)] W fun e w' => e = .returned (.tuple #[.agg #[.int .i64 (q1 (firstW f b need) need), .int .i64 (q2 (firstW f b need))], .bool (firstW f b need).isSome]) ∧ Below W.heap.size W w') := fun f A c b W h1 h2 h3 => refFirst_any f A c b need W h1 h2 h3 hn
  clear hact hok ho
  go_enter Try.func49, Try.ntmps49
  go_wp2
  go_loopw [8, 9, 10] (fun s bb i wr => ∃ (k bg : Nat) (ws : List (Int × Int)), k ≤ l.length ∧ i = .int .i64 k ∧ bb = .int .i64 bg ∧ bg ≤ 7300 ∧ ws.length = k ∧ wr.ownsRow w.heap.size 88 2 s ws.length (ws.flatMap encW) ∧ Hid (chainGo need rest ((actF l).drop k) k bg ws = o) ∧ Below w.heap.size w wr) (fun _ _ i _ => l.length - (intOf i).toNat)
  case atStart => exact ⟨0, 0, [], Nat.zero_le _, rfl, rfl, by omega, rfl, World.ownsRow_nil _ _ _ _, HO, Below.refl _ _⟩
  case round =>
    obtain ⟨k, bg, ws, hk, rfl, rfl, hbg, hws, hown, HI, hB⟩ := hrel
    subst hws
    by_cases hlt : ws.length < l.length
    case neg =>
      have hkI : ¬ ((ws.length : Int) < (l.length : Int)) := by omega
      obtain ⟨A3, c3, rfl, _⟩ := own_slice hown
      have hS := RS.of_own (enc := encW) (sz := 2) encW_len hown rfl
      have HE : Hid (o = ⟨ws, 0, 0⟩) := by show _ = _; rw [← HI.out]; exact chainGo_end (by rw [HL.out]; omega)
      have HM : Hid (nn = -1) := by show _ = _; rw [← HNN.out, HE.out]; rfl
      clear hown HI HO
      go_wp2
      go_ret2
      rw [HE.out, HM.out]
      first | exact ⟨A3, c3, rfl, hS, hB⟩ | exact ⟨A3, ⟨c3, rfl⟩, hS, hB⟩
    case pos =>
      have hkI : (ws.length : Int) < (l.length : Int) := by omega
      obtain ⟨x, hx⟩ := getElem?_lt (l := l) (k := ws.length) hlt
      have hxr := (HACT.out.2 x (List.mem_of_getElem? hx)).to hB
      have hxok := HOK.out x (List.mem_of_getElem? hx)
      have Hx : Hid ((actF l)[ws.length]? = some x.f) := actF_get hx
      obtain ⟨b, off, rfl, hb, hc⟩ := HACT.out.1.at_ hx
      obtain ⟨f, A, c⟩ := x
      obtain ⟨_, _, _, _, _, _, ⟨hle, _⟩, ⟨hmo1, hmo2⟩, _⟩ := Flt.ok_iff.1 hxok
      obtain ⟨mo, hmo⟩ : ∃ mo : Nat, f.most = mo := ⟨f.most.toNat, by simp only at hmo1; omega⟩
      have hmo3 : mo ≤ 300 := by simp only at hmo2; omega
      have hmoN : f.most.toNat = mo := by omega
      have HC14 : Hid (w.cell? ⟨b, off + ws.length * 15 + 14, none⟩ = some (.int .i64 (mo : Int))) := by have := hc 14 _ rfl; rw [hmo] at this; exact this
      have c0 := cell_after hB (hc 0 _ rfl)
      have c1 := cell_after hB (hc 1 _ rfl)
      have c2 := cell_after hB (hc 2 _ rfl)
      have c3 := cell_after hB (hc 3 _ rfl)
      have c4 := cell_after hB (hc 4 _ rfl)
      have c5 := cell_after hB (hc 5 _ rfl)
      have c6 := cell_after hB (hc 6 _ rfl)
      have c7 := cell_after hB (hc 7 _ rfl)
      have c8 := cell_after hB (hc 8 _ rfl)
      have c9 := cell_after hB (hc 9 _ rfl)
      have c10 := cell_after hB (hc 10 _ rfl)
      have c11 := cell_after hB (hc 11 _ rfl)
      have c12 := cell_after hB (hc 12 _ rfl)
      have c13 := cell_after hB (hc 13 _ rfl)
      have c14 := cell_after hB (hc 14 _ rfl)
      simp only at hxr Hx hxok
      simp only [Nat.add_zero] at c0
      have HFx : Hid (∀ (W : World), RS encB 4 W W.heap.size A f.cycle → Calls Try.prog 79 #[.agg #[.int .i64 f.fly.pos.x.lo, .int .i64 f.fly.pos.x.hi, .int .i64 f.fly.pos.z.lo, .int .i64 f.fly.pos.z.hi, .int .i64 f.fly.speed.x.lo, .int .i64 f.fly.speed.x.hi, .int .i64 f.fly.speed.z.lo, .int .i64 f.fly.speed.z.hi, .int .i64 f.fly.mass, .slice A f.cycle.length c, .int .i64 f.reach, .int .i64 f.soft, .int .i64 f.bears, .int .i64 f.least, .int .i64 f.most], .int .i64 (bg : Int), .int .i64 (need : Int)] W fun e w' => e = .returned (.tuple #[.agg #[.int .i64 (q1 (firstW f bg need) need), .int .i64 (q2 (firstW f bg need))], .bool (firstW f bg need).isSome]) ∧ Below W.heap.size W w') := fun W h => HFI.out f A c bg W hxok h hbg
      have HMN := Lib.hid hmoN
      obtain ⟨q, hq⟩ : ∃ q, firstW f bg need = q := ⟨_, rfl⟩
      rw [hq] at HFx
      have HQ := Lib.hid hq
      have hbz := hB.size
      clear hx hc HFI HACT HOK HO hle hmo1 hmo2 hmo hmoN hxok hq
      cases q with
      | none =>
        have HE : Hid (o = ⟨[], ws.length, 7⟩) := by show _ = _; rw [← HI.out]; exact chainGo_none Hx.out HQ.out
        have HM : Hid (nn = (ws.length : Int)) := by show _ = _; rw [← HNN.out, HE.out]; rfl
        clear HI
        go_wp2_with (go_at_call 79; (with_reducible refine (HFx.out _ hxr).mono ?_); rintro e w1 ⟨rfl, hb1⟩)
        go_ret2
        rw [HE.out, HM.out]
        first | exact ⟨none, 0, rfl, .inl rfl, (hB.trans (hb1.mono hbz)).alloc (by have := hb1.size; omega) _⟩ | exact ⟨none, ⟨0, rfl⟩, .inl rfl, (hB.trans (hb1.mono hbz)).alloc (by have := hb1.size; omega) _⟩
      | some r =>
        have hr6 : r ≤ 6000 := findW_le HQ.out
        obtain ⟨s, hs⟩ : ∃ s : Nat, r + 1 - need = s := ⟨_, rfl⟩
        have HI2 : Hid (chainGo need rest ((actF l).drop (ws.length + 1)) (ws.length + 1) (r + mo + rest) (ws ++ [((s : Int), (r : Int))]) = o) := by
          show _ = _
          rw [← HI.out, chainGo_some Hx.out HQ.out, HMN.out, hs]
        have HFy : Hid (∀ (W : World), RS encB 4 W W.heap.size A f.cycle → Calls Try.prog 79 #[.agg #[.int .i64 f.fly.pos.x.lo, .int .i64 f.fly.pos.x.hi, .int .i64 f.fly.pos.z.lo, .int .i64 f.fly.pos.z.hi, .int .i64 f.fly.speed.x.lo, .int .i64 f.fly.speed.x.hi, .int .i64 f.fly.speed.z.lo, .int .i64 f.fly.speed.z.hi, .int .i64 f.fly.mass, .slice A f.cycle.length c, .int .i64 f.reach, .int .i64 f.soft, .int .i64 f.bears, .int .i64 f.least, .int .i64 f.most], .int .i64 (bg : Int), .int .i64 (need : Int)] W fun e w' => e = .returned (.tuple #[.agg #[.int .i64 (s : Int), .int .i64 (r : Int)], .bool true]) ∧ Below W.heap.size W w') := fun W h => by have := HFx.out W h; rw [← hs]; exact this
        have hs6 : s ≤ 6001 := by omega
        have hkw : ws.length ≤ 12 := by omega
        clear HI HFx hs HQ
        go_wp2_with (first | (go_at_call 79; (with_reducible refine (HFy.out _ hxr).mono ?_); rintro e w1 ⟨rfl, hb1⟩; have hown1 := (own_below hown hb1).alloc (.cells #[.int .i64 (s : Int), .int .i64 (r : Int)] 88); have hB1 := (hB.trans (hb1.mono hbz)).alloc (by have := hb1.size; omega) (.cells #[.int .i64 (s : Int), .int .i64 (r : Int)] 88); have kW1 := Blk.new w1 88 #[.int .i64 (s : Int), .int .i64 (r : Int)]; have m0 := kW1.cell 0; have m1 := kW1.cell 1; have ml := kW1.lt; simp at m0 m1; have hzw := hB1.size; simp at hzw) | (at_builtin; refine wpList_append_own _ rfl _ _ 99 rfl w.heap.size 88 i0 _ 2 16 Try.underlying99 hi0 hz0 hz1 hz2 rfl (by decide) _ ws.length _ rfl (hown1.alloc _) ⟨w1.heap.size + 1, 0, none⟩ 1 1 [.int .i64 (s : Int), .int .i64 (r : Int)] rfl rfl ?c1 ?c2 ?c3 ?c4 ?c5 ?_))
        case c1 => exact fun j u h => by have := Blk.add (Blk.new (w1.alloc (.cells #[.int .i64 (s : Int), .int .i64 (r : Int)] 88)) 88 #[.int .i64 (s : Int), .int .i64 (r : Int)]) h; simpa using this
        case c2 => simp [Value.oneCell']
        case c3 => omega
        case c4 => omega
        case c5 => (try simp) <;> omega
        intro v3 w3 hown3 hgrow3 _
        have hOL := own_lt hown
        have kW3 := (kW1.alloc (.cells #[.int .i64 (s : Int), .int .i64 (r : Int)] 88)).grown hgrow3 (fun e => by have := hOL _ e.symm; have := hb1.size; omega)
        have hB3 := app_belowF (hB1.alloc hB1.size (.cells #[.int .i64 (s : Int), .int .i64 (r : Int)] 88)) (Nat.le_refl _) (by simp; omega) (hown1.alloc _) hgrow3
        have e14 := cell_after hB3 HC14.out
        have e1 := kW3.cell 1
        simp at e1
        have HOW := Lib.hid hown3
        clear c0 c1 c2 c3 c4 c5 c6 c7 c8 c9 c10 c11 c12 c13 c14 m0 m1 ml hown hown1 hown3 hgrow3 hOL hxr kW1 hB hB1 hb1
        go_wp2
        go_region
        go_wp2
        go_roundw
        case rel =>
          refine ⟨ws.length + 1, r + mo + rest, ws ++ [((s : Int), (r : Int))], by omega, by go_num, by go_num, by omega, by simp, ?_, HI2, hB3.drew⟩
          have hx : (ws ++ [((s : Int), (r : Int))]).flatMap encW = ws.flatMap encW ++ [.int .i64 (s : Int), .int .i64 (r : Int)] := by simp [encW]
          rw [List.length_append, hx]
          exact HOW.out
        case measure => simp [intOf]; omega
end Go.Proofs.Ytbagfapalkmikaa
