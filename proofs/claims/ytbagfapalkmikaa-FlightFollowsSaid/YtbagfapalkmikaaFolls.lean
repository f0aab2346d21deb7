import Derived.Test.YtbagfapalkmikaaFollN
import Derived.Test.YtbagfapalkmikaaCycM

/- In a chain each window begins as early as can be, and holds good releases only. -/
namespace Go.Proofs.Ytbagfapalkmikaa
open Go.RowKit Go.Shelf
set_option linter.unusedSimpArgs false in
set_option maxRecDepth 100000 in
set_option maxHeartbeats 32000000 in
theorem follows_ok (Al : Option Addr) (cl : Nat) (l : List FltA) (need rest : Nat) (w : World) (hact : ActW w Al l) (hlm : l.length ≤ maxLen) (hli : lightB l = true) (hn : 1 ≤ l.length ∧ l.length ≤ 3) (hne : 1 ≤ need ∧ need ≤ 100) (hre : rest ≤ 1000) (hok : (actF l).all Flt.ok = true) (herr : (chainOf (actF l) need rest).err = 0) :
    Calls Try.prog 11 #[.slice Al l.length cl, .int .i64 need, .int .i64 rest] w fun e w' => e = .returned (.bool true) ∧ Below w.heap.size w w' := by
  obtain ⟨hl14, hx7⟩ := lightB_true hli
  have HLI : Hid (Calls Try.prog 46 #[.slice Al l.length cl] w fun e w' => e = .returned (.bool true) ∧ Below w.heap.size w w') := by have := light_any Al cl l w hact hlm; rw [hli] at this; exact this
  have HI1 : Hid (∀ W : World, Calls Try.prog 20 #[.int .i64 (need : Int), .int .i64 1, .int .i64 100] W fun e w' => e = .returned (.bool true) ∧ W = w') := fun W => by have := in_any (need : Int) 1 100 W; rw [inB_true.2 (by omega)] at this; exact this
  have HI2 : Hid (∀ W : World, Calls Try.prog 20 #[.int .i64 (rest : Int), .int .i64 0, .int .i64 1000] W fun e w' => e = .returned (.bool true) ∧ W = w') := fun W => by have := in_any (rest : Int) 0 1000 W; rw [inB_true.2 (by omega)] at this; exact this
  have h1 : ¬ (l.length : Int) < 1 := by omega
  have h2 : ¬ (3 : Int) < (l.length : Int) := by omega
  have HX7 := Lib.hid hx7
  have HACT := Lib.hid hact
  have HLN := Lib.hid (actF_len l)
  have HOK : Hid ((actF l).all Flt.ok = true) := hok
  have HNE := Lib.hid hne
  have HA : Hid (∀ W : World, Below w.heap.size w W → Calls Try.prog 48 #[.slice Al l.length cl] W fun e w' => ∃ A' c' l2, e = .returned (.slice A' l2.length c') ∧ ActW w' A' l2 ∧ actF l2 = actF l ∧ Below W.heap.size W w') := fun W hb => act_any Al cl l W (hact.to hb) hl14 hx7
  have HCB : Hid (∀ (A' : Option Addr) (c' : Nat) (l2 : List FltA) (W : World), actF l2 = actF l → ActW W A' l2 → Calls Try.prog 47 #[.slice A' l2.length c', .int .i64 (need : Int), .int .i64 (rest : Int)] W fun e w' => ∃ A3 c3, e = .returned (.tuple #[.slice A3 (chainOf (actF l) need rest).ws.length c3, .int .i64 (chainOf (actF l) need rest).at_, .int .i64 (chainOf (actF l) need rest).err]) ∧ RS encW 2 w' w'.heap.size A3 (chainOf (actF l) need rest).ws ∧ Below W.heap.size W w') := fun A' c' l2 W h1 h2 => by
    have h3 := acts_len h1
    have := Chain_ok A' c' l2 need rest W h2 (by rw [h3]; omega) (by rw [h1]; exact HOK.out) hne hre
    rw [h1] at this
    exact this
  have hout := chainOf_cases (l := actF l) (need := need) (rest := rest)
  have hspec := fun h => chainGo_spec (need := need) (rest := rest) (l := actF l) (k := 0) (b := 0) (ws0 := []) (o := chainOf (actF l) need rest) rfl h
  rw [actF_len] at hout
  obtain ⟨o, ho⟩ : ∃ o, chainOf (actF l) need rest = o := ⟨_, rfl⟩
  rw [ho] at hout HCB herr hspec
  obtain ⟨ws, at_, err⟩ := o
  simp only at hout HCB herr hspec
  subst herr
  rcases hout with ⟨_, rfl, hwl⟩ | ⟨h, _⟩
  case inr => exact absurd h (by decide)
  obtain ⟨ws1, hw1, hcs⟩ := hspec rfl
  rw [List.nil_append] at hw1
  subst hw1
  have HCS : Hid (ChainS need rest ((actF l).drop 0) 0 (ws.drop 0)) := hcs
  have hwI : ((ws.length : Int) != (l.length : Int)) = false := by rw [hwl]; simp
  have HFL : Hid (∀ (f : Flt) (A : Option Addr) (c : Nat) (W : World), f.cycle.length ≤ 700 → RS encB 4 W W.heap.size A f.cycle → Calls Try.prog 19 #[.agg #[.int .i64 f.fly.pos.x.lo, .int .i64 f.fly.pos.x.hi, .int .i64 f.fly.pos.z.lo, .int .i64 f.fly.pos.z.hi, .int .i64 f.fly.speed.x.lo, .int .i64 f.fly.speed.x.hi, .int .i64 f.fly.speed.z.lo, .int .i64 f.fly.speed.z.hi, .int .i64 f.fly.mass, .slice A f.cycle.length c, .int .i64 f.reach, .int .i64 f.soft, .int .i64 f.bears, .int .i64 f.least, .int .i64 f.most]] W fun e w' => ∃ (A : Option Addr) (c : Nat), e = .returned (.agg #[.int .i64 f.fly.pos.x.lo, .int .i64 f.fly.pos.x.hi, .int .i64 f.fly.pos.z.lo, .int .i64 f.fly.pos.z.hi, .int .i64 f.fly.speed.x.lo, .int .i64 f.fly.speed.x.hi, .int .i64 f.fly.speed.z.lo, .int .i64 f.fly.speed.z.hi, .int .i64 f.fly.mass, .slice A f.cycle.length c, .int .i64 f.reach, .int .i64 f.soft, .int .i64 f.bears, .int .i64 f.least, .int .i64 f.most]) ∧ RS encB 4 w' w'.heap.size A f.cycle ∧ Below W.heap.size W w') := fun f A c W h1 h2 => lawFlight_any f A c W h2 h1
  clear hact hlm hli hx7 hok ho hspec hcs
  go_enter Try.func11, Try.ntmps11
  go_wp2_with (first | (go_at_call 46; (with_reducible refine HLI.out.mono ?_); rintro e w1 ⟨rfl, hb1⟩) | (go_at_call 20; (with_reducible refine (HI1.out _).mono ?_); rintro e w5 ⟨rfl, rfl⟩) | (go_at_call 20; (with_reducible refine (HI2.out _).mono ?_); rintro e w5 ⟨rfl, rfl⟩))
  have HC : Hid (∀ (W : World), Below w1.heap.size w1 W → Below w.heap.size w W) := fun W h => sh_next hb1 h
  go_loopw [7] (fun i wr => ∃ k : Nat, k ≤ l.length ∧ i = .int .i64 k ∧ True ∧ Below w1.heap.size w1 wr) (fun i _ => l.length - (intOf i).toNat)
  case atStart => exact ⟨0, Nat.zero_le _, rfl, trivial, Below.refl _ _⟩
  case round =>
    obtain ⟨k, hk, rfl, -, hBr⟩ := hrel
    by_cases hlt : k < l.length
    case pos =>
      have hkI : (k : Int) < (l.length : Int) := by omega
      obtain ⟨x, hx⟩ := getElem?_lt (l := l) (k := k) hlt
      have hxm := List.mem_of_getElem? hx
      have Hx : Hid ((actF l)[k]? = some x.f) := actF_get hx
      have HRr : Hid (∀ W : World, Below w1.heap.size w1 W → Calls Try.prog 22 #[match x with | ⟨f, A, c⟩ => .agg #[.int .i64 f.fly.pos.x.lo, .int .i64 f.fly.pos.x.hi, .int .i64 f.fly.pos.z.lo, .int .i64 f.fly.pos.z.hi, .int .i64 f.fly.speed.x.lo, .int .i64 f.fly.speed.x.hi, .int .i64 f.fly.speed.z.lo, .int .i64 f.fly.speed.z.hi, .int .i64 f.fly.mass, .slice A f.cycle.length c, .int .i64 f.reach, .int .i64 f.soft, .int .i64 f.bears, .int .i64 f.least, .int .i64 f.most]] W fun e w' => e = .returned (.bool x.f.ok) ∧ Below W.heap.size W w') := fun W hW => right_any x.f x.A x.c W ((HACT.out.to (HC.out W hW)).2 x hxm) (HX7.out x hxm)
      obtain ⟨b, off, rfl, hb, hc⟩ := HACT.out.1.at_ hx
      have HCC := Lib.hid hc
      have hBw := HC.out _ hBr
      obtain ⟨f, A, c⟩ := x
      have c0 := cell_after hBw (HCC.out 0 _ rfl)
      have c1 := cell_after hBw (HCC.out 1 _ rfl)
      have c2 := cell_after hBw (HCC.out 2 _ rfl)
      have c3 := cell_after hBw (HCC.out 3 _ rfl)
      have c4 := cell_after hBw (HCC.out 4 _ rfl)
      have c5 := cell_after hBw (HCC.out 5 _ rfl)
      have c6 := cell_after hBw (HCC.out 6 _ rfl)
      have c7 := cell_after hBw (HCC.out 7 _ rfl)
      have c8 := cell_after hBw (HCC.out 8 _ rfl)
      have c9 := cell_after hBw (HCC.out 9 _ rfl)
      have c10 := cell_after hBw (HCC.out 10 _ rfl)
      have c11 := cell_after hBw (HCC.out 11 _ rfl)
      have c12 := cell_after hBw (HCC.out 12 _ rfl)
      have c13 := cell_after hBw (HCC.out 13 _ rfl)
      have c14 := cell_after hBw (HCC.out 14 _ rfl)
      simp only [Nat.add_zero] at c0
      simp only at HRr Hx
      clear hx hxm hc
      have hfo : f.ok = true := List.all_eq_true.1 HOK.out f (List.mem_of_getElem? Hx.out)
      rw [hfo] at HRr
      clear hfo
      go_wp2_with (go_at_call 22; (with_reducible refine (HRr.out _ hBr).mono ?_); rintro e w4 ⟨rfl, hb4⟩)
      go_roundw
      case rel => exact ⟨k + 1, by omega, by go_num, trivial, sh_next hBr hb4⟩
      case measure => simp [intOf]; omega
    case neg =>
      have hkI : ¬ (k : Int) < (l.length : Int) := by omega
      have hBE := HC.out _ hBr
      obtain ⟨Wr, hWr⟩ : ∃ x, x = wr := ⟨_, rfl⟩
      subst hWr
      go_upto_region 14 with (first | (go_at_call 48; (with_reducible refine (HA.out _ hBE).mono ?_); rintro e w2 ⟨A2, c2, l2, rfl, hs2, hl2, hb2⟩) | (go_at_call 47; (with_reducible refine (HCB.out _ _ _ _ hl2 hs2).mono ?_); rintro e w3 ⟨A3, c3, rfl, hs3, hb3⟩))
      have HB3 := Lib.hid (hBE.trans ((sh_next hb2 hb3).mono hBE.size))
      clear hs2 hl2 hb2 hb3 HA HCB hBE hBr hkI HC
      have hmx : Try.prog.follows .mixedOrders = true := by kernel_rfl
      go_wp2
      go_loopw [11, 12] (fun fi ii wr => ∃ (i fr : Nat), i ≤ l.length ∧ ii = .int .i64 i ∧ fi = .int .i64 fr ∧ fr ≤ 7300 ∧ Hid (ChainS need rest ((actF l).drop i) fr (ws.drop i)) ∧ Below w3.heap.size w3 wr) (fun _ ii _ => l.length - (intOf ii).toNat)
      case atStart => exact ⟨0, 0, Nat.zero_le _, rfl, rfl, by omega, HCS, Below.refl _ _⟩
      case round =>
        clear HCS
        obtain ⟨i, fr, hi, rfl, rfl, hfr, HS, hBr⟩ := hrel
        by_cases hlt : i < l.length
        case neg =>
          have hiI : ¬ (i : Int) < (ws.length : Int) := by omega
          go_wp2_with (go_at_call 15; refine (wakes_any _).mono ?_; rintro e wk ⟨rfl, hbk⟩)
          go_ret
          exact ⟨rfl, HB3.out.trans ((sh_next hBr hbk).mono HB3.out.size)⟩
        case pos =>
          have hkI : (i : Int) < (l.length : Int) := by omega
          obtain ⟨x, hx⟩ := getElem?_lt (l := l) (k := i) hlt
          have hxm := List.mem_of_getElem? hx
          have Hx : Hid ((actF l)[i]? = some x.f) := actF_get hx
          have hiw : (i : Int) < (ws.length : Int) := by omega
          have hxl := HX7.out x hxm
          have HXR : Hid (∀ W : World, Below w3.heap.size w3 W → RS encB 4 W W.heap.size x.A x.f.cycle) := fun W h => ((HACT.out.to HB3.out).2 x hxm).to h
          obtain ⟨b, off, rfl, hb, hc⟩ := HACT.out.1.at_ hx
          have HCC := Lib.hid hc
          obtain ⟨f, A, c⟩ := x
          simp only at HXR Hx hxl
          have hfo : f.ok = true := List.all_eq_true.1 HOK.out f (List.mem_of_getElem? Hx.out)
          obtain ⟨s, r, hsr, hfs, hrs, hr6, hgd, ⟨W1, hW1, hp1⟩, hnx, hnw⟩ := chainS_round HNE.out.1 HS.out Hx.out
          obtain ⟨_, _, _, _, _, _, _, ⟨hmo1, hmo2⟩, _⟩ := Flt.ok_iff.1 hfo
          obtain ⟨mo, hmo⟩ : ∃ mo : Nat, f.most = mo := ⟨f.most.toNat, by omega⟩
          have hmo3 : mo ≤ 300 := by omega
          rw [show f.most.toNat = mo by omega] at hnx hnw
          have HC14 : Hid (w.cell? ⟨b, off + i * 15 + 14, none⟩ = some (.int .i64 (mo : Int))) := by have := hc 14 _ rfl; rw [hmo] at this; exact this
          have HGD := Lib.hid hgd
          have HNX := Lib.hid hnx
          have HNW := Lib.hid hnw
          have HP1 := Lib.hid hp1
          have HIN := Lib.hid (winsTo_in (f := f) (a := fr) (n := r + 1) (by omega))
          have HMO := Lib.hid hmo
          have HFO := Lib.hid hfo
          obtain ⟨q, o, rfl, hq, he⟩ := hs3.at_ hsr
          have HE := Lib.hid he
          have HS3 : Hid (∀ (p : Int × Int), ws[i + 1]? = some p → w3.cell? ⟨q, o + (i + 1) * 2, none⟩ = some (.int .i64 p.1)) := by
            intro p hp
            obtain ⟨q', o', hq', _, h'⟩ := hs3.at_ hp
            cases hq'
            have := h' 0 _ rfl
            simpa using this
          have HWS : Hid (∀ (W : World) (A : Option Addr) (c : Nat), RS encB 4 W W.heap.size A f.cycle → Calls Try.prog 42 #[.agg #[.int .i64 f.fly.pos.x.lo, .int .i64 f.fly.pos.x.hi, .int .i64 f.fly.pos.z.lo, .int .i64 f.fly.pos.z.hi, .int .i64 f.fly.speed.x.lo, .int .i64 f.fly.speed.x.hi, .int .i64 f.fly.speed.z.lo, .int .i64 f.fly.speed.z.hi, .int .i64 f.fly.mass, .slice A f.cycle.length c, .int .i64 f.reach, .int .i64 f.soft, .int .i64 f.bears, .int .i64 f.least, .int .i64 f.most], .int .i64 (fr : Int), .int .i64 (r : Int)] W fun e w' => ∃ A' c', e = .returned (.tuple #[.slice A' (winsTo f fr (r + 1)).length c', .int .i64 0]) ∧ RS encW 2 w' w'.heap.size A' (winsTo f fr (r + 1)) ∧ Below W.heap.size W w') := fun W A c h => Windows_ok f A c fr r W hfo h (by omega) hr6
          have HCT : Hid (∀ (t : Nat) (W : World) (A : Option Addr) (c : Nat), t ≤ 6000 → RS encB 4 W W.heap.size A f.cycle → Calls Try.prog 35 #[.agg #[.int .i64 f.fly.pos.x.lo, .int .i64 f.fly.pos.x.hi, .int .i64 f.fly.pos.z.lo, .int .i64 f.fly.pos.z.hi, .int .i64 f.fly.speed.x.lo, .int .i64 f.fly.speed.x.hi, .int .i64 f.fly.speed.z.lo, .int .i64 f.fly.speed.z.hi, .int .i64 f.fly.mass, .slice A f.cycle.length c, .int .i64 f.reach, .int .i64 f.soft, .int .i64 f.bears, .int .i64 f.least, .int .i64 f.most], .int .i64 (t : Int)] W fun e w' => ∃ A' c', e = .returned (.tuple #[.slice A' (sureL f t).length c', .int .i64 0]) ∧ RS encI 1 w' w'.heap.size A' (ints (sureL f t)) ∧ Below W.heap.size W w') := fun t W A c hr h => Catches_ok f A c t W hfo h (inB_true.2 (by omega))
          have HFx : Hid (∀ (W : World), RS encB 4 W W.heap.size A f.cycle → Calls Try.prog 19 #[.agg #[.int .i64 f.fly.pos.x.lo, .int .i64 f.fly.pos.x.hi, .int .i64 f.fly.pos.z.lo, .int .i64 f.fly.pos.z.hi, .int .i64 f.fly.speed.x.lo, .int .i64 f.fly.speed.x.hi, .int .i64 f.fly.speed.z.lo, .int .i64 f.fly.speed.z.hi, .int .i64 f.fly.mass, .slice A f.cycle.length c, .int .i64 f.reach, .int .i64 f.soft, .int .i64 f.bears, .int .i64 f.least, .int .i64 f.most]] W fun e w' => ∃ (A : Option Addr) (c : Nat), e = .returned (.agg #[.int .i64 f.fly.pos.x.lo, .int .i64 f.fly.pos.x.hi, .int .i64 f.fly.pos.z.lo, .int .i64 f.fly.pos.z.hi, .int .i64 f.fly.speed.x.lo, .int .i64 f.fly.speed.x.hi, .int .i64 f.fly.speed.z.lo, .int .i64 f.fly.speed.z.hi, .int .i64 f.fly.mass, .slice A f.cycle.length c, .int .i64 f.reach, .int .i64 f.soft, .int .i64 f.bears, .int .i64 f.least, .int .i64 f.most]) ∧ RS encB 4 w' w'.heap.size A f.cycle ∧ Below W.heap.size W w') := fun W h => HFL.out f A c W hxl h
          have HWM := Lib.hid hW1
          obtain ⟨al, hal⟩ : ∃ al, winsTo f fr (r + 1) = al := ⟨_, rfl⟩
          rw [hal] at HWS HWM HIN
          have halm : al.length = W1.length + 1 := by rw [HWM.out]; simp
          obtain ⟨m, hm⟩ : ∃ m, W1.length = m := ⟨_, rfl⟩
          rw [hm] at halm
          rw [halm] at HWS
          have HM := Lib.hid hm
          have HALM := Lib.hid halm
          have haln : m ≤ 7000 := by
            have h1 := winsTo_len (f := f) (a := fr) (n := r + 1) (by omega)
            rw [hal, halm] at h1
            omega
          clear hx hxm hc hfo hsr hgd hW1 hp1 hnx hnw hmo1 hmo2 hmo he hal halm hm HS HACT HX7 hxl
          have d1 : decide ((s : Int) < (fr : Int)) = false := decide_eq_false (by omega)
          have d1' : decide (s < fr) = false := decide_eq_false (by omega)
          have d2' : decide (6000 < r) = false := decide_eq_false (by omega)
          have w1' : IntKind.i64.wrap ((s : Int) + (need : Int)) = (s : Int) + (need : Int) := IntWalk.i64_in _ (by omega)
          have w2' : IntKind.i64.wrap ((s : Int) + (need : Int) - 1) = (r : Int) := by rw [IntWalk.i64_in _ (by omega)]; omega
          have n1 : ((r : Int) != (r : Int)) = false := by simp
          have n2 : ((s : Int) != (s : Int)) = false := by simp
          have d2 : decide ((6000 : Int) < (r : Int)) = false := decide_eq_false (by omega)
          go_upto_region 17 with fail
          refine name_world (motive := fun W => Code.wp _ _ _ _ W) _ ?_
          intro W0 hW
          have hWc := hW.cell
          have hWz := hW.size
          have hWb := hW.below (hBr)
          have e0 := cell_after hWb (HE.out 0 _ rfl)
          have e1 := cell_after hWb (HE.out 1 _ rfl)
          simp only [Nat.add_zero] at e0
          clear hW hWc hWz hBr
          refine (wpIn_wide (n := 9)).1 ?_
          have hLast := trivial
          refine region_rest (S := (fun w' => w'.cell? ⟨q, o + i * 2, none⟩ = some (.int .i64 (s : Int)) ∧ w'.cell? ⟨q, o + i * 2 + 1, none⟩ = some (.int .i64 (r : Int)) ∧ Below W0.heap.size W0 w')) hmx ?_ (fun hHeld => ?_)
          · exact ⟨e0, e1, (Below.refl W0.heap.size W0).drew⟩
          change RestIn _ _ _ _ _ _ _ 31 #[false, false, false, false, false, false, false, false, false, false, false, false, false, false, false, false, false, false, false, false, false, false, false, false, false, false, false, false, false, false, false] _ (World.drew _)
          refine rest_take (i := 0) (v := _) all_wide (noDefers_of (by kernel_rfl)) rfl (by kernel_rfl) (by kernel_rfl) (by kernel_rfl) (fun _ _ _ h => h) (Or.inl ⟨by rfl, by intro w hSw; clear hSw; go_simp; first | done | with_reducible rfl⟩) hHeld ?_
          change RestIn _ _ _ _ _ _ _ 30 #[true, false, false, false, false, false, false, false, false, false, false, false, false, false, false, false, false, false, false, false, false, false, false, false, false, false, false, false, false, false, false] _ _
          try simp only [Act.put, List.setIfInBounds_toArray, List.set_cons_zero, List.set_cons_succ, List.getElem_toArray, List.getElem_cons_zero, List.getElem_cons_succ]
          refine rest_take (i := 1) (v := _) all_wide (noDefers_of (by kernel_rfl)) rfl (by kernel_rfl) (by kernel_rfl) (by kernel_rfl) (fun _ _ _ h => h) (Or.inl ⟨by rfl, by intro w hSw; clear hSw; go_simp; first | done | with_reducible rfl⟩) hHeld ?_
          change RestIn _ _ _ _ _ _ _ 29 #[true, true, false, false, false, false, false, false, false, false, false, false, false, false, false, false, false, false, false, false, false, false, false, false, false, false, false, false, false, false, false] _ _
          try simp only [Act.put, List.setIfInBounds_toArray, List.set_cons_zero, List.set_cons_succ, List.getElem_toArray, List.getElem_cons_zero, List.getElem_cons_succ]
          refine rest_take (i := 2) (v := _) all_wide (noDefers_of (by kernel_rfl)) rfl (by kernel_rfl) (by kernel_rfl) (by kernel_rfl) (fun _ _ _ h => h) (Or.inl ⟨by rfl, by intro w hSw; clear hSw; go_simp; first | done | with_reducible rfl⟩) hHeld ?_
          change RestIn _ _ _ _ _ _ _ 28 #[true, true, true, false, false, false, false, false, false, false, false, false, false, false, false, false, false, false, false, false, false, false, false, false, false, false, false, false, false, false, false] _ _
          try simp only [Act.put, List.setIfInBounds_toArray, List.set_cons_zero, List.set_cons_succ, List.getElem_toArray, List.getElem_cons_zero, List.getElem_cons_succ]
          refine rest_take (i := 3) (v := _) all_wide (noDefers_of (by kernel_rfl)) rfl (by kernel_rfl) (by kernel_rfl) (by kernel_rfl) (fun _ _ _ h => h) (Or.inl ⟨by rfl, by intro w hSw; clear hSw; go_simp; first | done | with_reducible rfl⟩) hHeld ?_
          change RestIn _ _ _ _ _ _ _ 27 #[true, true, true, true, false, false, false, false, false, false, false, false, false, false, false, false, false, false, false, false, false, false, false, false, false, false, false, false, false, false, false] _ _
          try simp only [Act.put, List.setIfInBounds_toArray, List.set_cons_zero, List.set_cons_succ, List.getElem_toArray, List.getElem_cons_zero, List.getElem_cons_succ]
          refine rest_take (i := 4) (v := _) all_wide (noDefers_of (by kernel_rfl)) rfl (by kernel_rfl) (by kernel_rfl) (by kernel_rfl) (fun _ _ _ h => h) (Or.inl ⟨by rfl, by intro w hSw; (obtain ⟨q0, q1, _⟩ := hSw); go_simp; first | done | with_reducible rfl⟩) hHeld ?_
          change RestIn _ _ _ _ _ _ _ 26 #[true, true, true, true, true, false, false, false, false, false, false, false, false, false, false, false, false, false, false, false, false, false, false, false, false, false, false, false, false, false, false] _ _
          try simp only [Act.put, List.setIfInBounds_toArray, List.set_cons_zero, List.set_cons_succ, List.getElem_toArray, List.getElem_cons_zero, List.getElem_cons_succ]
          refine rest_take (i := 5) (v := _) all_wide (noDefers_of (by kernel_rfl)) rfl (by kernel_rfl) (by kernel_rfl) (by kernel_rfl) (fun _ _ _ h => h) (Or.inl ⟨by rfl, by intro w hSw; clear hSw; go_simp; first | done | with_reducible rfl⟩) hHeld ?_
          change RestIn _ _ _ _ _ _ _ 25 #[true, true, true, true, true, true, false, false, false, false, false, false, false, false, false, false, false, false, false, false, false, false, false, false, false, false, false, false, false, false, false] _ _
          try simp only [Act.put, List.setIfInBounds_toArray, List.set_cons_zero, List.set_cons_succ, List.getElem_toArray, List.getElem_cons_zero, List.getElem_cons_succ]
          refine rest_take (i := 6) (v := _) all_wide (noDefers_of (by kernel_rfl)) rfl (by kernel_rfl) (by kernel_rfl) (by kernel_rfl) (fun _ _ _ h => h) (Or.inl ⟨by rfl, by intro w hSw; clear hSw; go_simp; first | done | with_reducible rfl⟩) hHeld ?_
          change RestIn _ _ _ _ _ _ _ 24 #[true, true, true, true, true, true, true, false, false, false, false, false, false, false, false, false, false, false, false, false, false, false, false, false, false, false, false, false, false, false, false] _ _
          try simp only [Act.put, List.setIfInBounds_toArray, List.set_cons_zero, List.set_cons_succ, List.getElem_toArray, List.getElem_cons_zero, List.getElem_cons_succ]
          refine rest_take (i := 7) (v := _) all_wide (noDefers_of (by kernel_rfl)) rfl (by kernel_rfl) (by kernel_rfl) (by kernel_rfl) (fun _ _ _ h => h) (Or.inl ⟨by rfl, by intro w hSw; clear hSw; go_simp; first | done | with_reducible rfl⟩) hHeld ?_
          change RestIn _ _ _ _ _ _ _ 23 #[true, true, true, true, true, true, true, true, false, false, false, false, false, false, false, false, false, false, false, false, false, false, false, false, false, false, false, false, false, false, false] _ _
          try simp only [Act.put, List.setIfInBounds_toArray, List.set_cons_zero, List.set_cons_succ, List.getElem_toArray, List.getElem_cons_zero, List.getElem_cons_succ]
          refine rest_take (i := 8) (v := _) all_wide (noDefers_of (by kernel_rfl)) rfl (by kernel_rfl) (by kernel_rfl) (by kernel_rfl) (fun _ _ _ h => h) (Or.inl ⟨by rfl, by intro w hSw; clear hSw; go_simp; first | done | with_reducible rfl⟩) hHeld ?_
          change RestIn _ _ _ _ _ _ _ 22 #[true, true, true, true, true, true, true, true, true, false, false, false, false, false, false, false, false, false, false, false, false, false, false, false, false, false, false, false, false, false, false] _ _
          try simp only [Act.put, List.setIfInBounds_toArray, List.set_cons_zero, List.set_cons_succ, List.getElem_toArray, List.getElem_cons_zero, List.getElem_cons_succ]
          refine rest_take (i := 9) (v := _) all_wide (noDefers_of (by kernel_rfl)) rfl (by kernel_rfl) (by kernel_rfl) (by kernel_rfl) (fun _ _ _ h => h) (Or.inl ⟨by rfl, by intro w hSw; clear hSw; go_simp; first | done | with_reducible rfl⟩) hHeld ?_
          change RestIn _ _ _ _ _ _ _ 21 #[true, true, true, true, true, true, true, true, true, true, false, false, false, false, false, false, false, false, false, false, false, false, false, false, false, false, false, false, false, false, false] _ _
          try simp only [Act.put, List.setIfInBounds_toArray, List.set_cons_zero, List.set_cons_succ, List.getElem_toArray, List.getElem_cons_zero, List.getElem_cons_succ]
          refine rest_take (i := 10) (v := _) all_wide (noDefers_of (by kernel_rfl)) rfl (by kernel_rfl) (by kernel_rfl) (by kernel_rfl) (fun _ _ _ h => h) (Or.inl ⟨by rfl, by intro w hSw; clear hSw; go_simp; first | done | with_reducible rfl⟩) hHeld ?_
          change RestIn _ _ _ _ _ _ _ 20 #[true, true, true, true, true, true, true, true, true, true, true, false, false, false, false, false, false, false, false, false, false, false, false, false, false, false, false, false, false, false, false] _ _
          try simp only [Act.put, List.setIfInBounds_toArray, List.set_cons_zero, List.set_cons_succ, List.getElem_toArray, List.getElem_cons_zero, List.getElem_cons_succ]
          refine rest_take (i := 11) (v := _) all_wide (noDefers_of (by kernel_rfl)) rfl (by kernel_rfl) (by kernel_rfl) (by kernel_rfl) (fun _ _ _ h => h) (Or.inl ⟨by rfl, by intro w hSw; clear hSw; go_simp; first | done | with_reducible rfl⟩) hHeld ?_
          change RestIn _ _ _ _ _ _ _ 19 #[true, true, true, true, true, true, true, true, true, true, true, true, false, false, false, false, false, false, false, false, false, false, false, false, false, false, false, false, false, false, false] _ _
          try simp only [Act.put, List.setIfInBounds_toArray, List.set_cons_zero, List.set_cons_succ, List.getElem_toArray, List.getElem_cons_zero, List.getElem_cons_succ]
          refine rest_take (i := 12) (v := _) all_wide (noDefers_of (by kernel_rfl)) rfl (by kernel_rfl) (by kernel_rfl) (by kernel_rfl) (fun _ _ _ h => h) (Or.inl ⟨by rfl, by intro w hSw; (obtain ⟨q0, q1, _⟩ := hSw); go_simp; first | done | with_reducible rfl⟩) hHeld ?_
          change RestIn _ _ _ _ _ _ _ 18 #[true, true, true, true, true, true, true, true, true, true, true, true, true, false, false, false, false, false, false, false, false, false, false, false, false, false, false, false, false, false, false] _ _
          try simp only [Act.put, List.setIfInBounds_toArray, List.set_cons_zero, List.set_cons_succ, List.getElem_toArray, List.getElem_cons_zero, List.getElem_cons_succ]
          refine rest_take (i := 13) (v := _) all_wide (noDefers_of (by kernel_rfl)) rfl (by kernel_rfl) (by kernel_rfl) (by kernel_rfl) (fun _ _ _ h => h) (Or.inl ⟨by rfl, by intro w hSw; clear hSw; go_simp; first | done | with_reducible rfl⟩) hHeld ?_
          change RestIn _ _ _ _ _ _ _ 17 #[true, true, true, true, true, true, true, true, true, true, true, true, true, true, false, false, false, false, false, false, false, false, false, false, false, false, false, false, false, false, false] _ _
          try simp only [Act.put, List.setIfInBounds_toArray, List.set_cons_zero, List.set_cons_succ, List.getElem_toArray, List.getElem_cons_zero, List.getElem_cons_succ]
          refine rest_take (i := 14) (v := _) all_wide (noDefers_of (by kernel_rfl)) rfl (by kernel_rfl) (by kernel_rfl) (by kernel_rfl) (fun _ _ _ h => h) (Or.inl ⟨by rfl, by intro w hSw; clear hSw; go_simp; first | done | with_reducible rfl⟩) hHeld ?_
          change RestIn _ _ _ _ _ _ _ 16 #[true, true, true, true, true, true, true, true, true, true, true, true, true, true, true, false, false, false, false, false, false, false, false, false, false, false, false, false, false, false, false] _ _
          try simp only [Act.put, List.setIfInBounds_toArray, List.set_cons_zero, List.set_cons_succ, List.getElem_toArray, List.getElem_cons_zero, List.getElem_cons_succ]
          refine rest_take (i := 15) (v := _) all_wide (noDefers_of (by kernel_rfl)) rfl (by kernel_rfl) (by kernel_rfl) (by kernel_rfl) (fun _ _ _ h => h) (Or.inl ⟨by rfl, by intro w hSw; clear hSw; go_simp; first | done | with_reducible rfl⟩) hHeld ?_
          change RestIn _ _ _ _ _ _ _ 15 #[true, true, true, true, true, true, true, true, true, true, true, true, true, true, true, true, false, false, false, false, false, false, false, false, false, false, false, false, false, false, false] _ _
          try simp only [Act.put, List.setIfInBounds_toArray, List.set_cons_zero, List.set_cons_succ, List.getElem_toArray, List.getElem_cons_zero, List.getElem_cons_succ]
          refine rest_take (i := 16) (v := _) all_wide (noDefers_of (by kernel_rfl)) rfl (by kernel_rfl) (by kernel_rfl) (by kernel_rfl) (fun _ _ _ h => h) (Or.inl ⟨by rfl, by intro w hSw; clear hSw; go_simp; first | done | with_reducible rfl⟩) hHeld ?_
          change RestIn _ _ _ _ _ _ _ 14 #[true, true, true, true, true, true, true, true, true, true, true, true, true, true, true, true, true, false, false, false, false, false, false, false, false, false, false, false, false, false, false] _ _
          try simp only [Act.put, List.setIfInBounds_toArray, List.set_cons_zero, List.set_cons_succ, List.getElem_toArray, List.getElem_cons_zero, List.getElem_cons_succ]
          refine rest_take (i := 17) (v := _) all_wide (noDefers_of (by kernel_rfl)) rfl (by kernel_rfl) (by kernel_rfl) (by kernel_rfl) (fun _ _ _ h => h) (Or.inl ⟨by rfl, by intro w hSw; (obtain ⟨q0, q1, _⟩ := hSw); go_simp; first | done | with_reducible rfl⟩) hHeld ?_
          change RestIn _ _ _ _ _ _ _ 13 #[true, true, true, true, true, true, true, true, true, true, true, true, true, true, true, true, true, true, false, false, false, false, false, false, false, false, false, false, false, false, false] _ _
          try simp only [Act.put, List.setIfInBounds_toArray, List.set_cons_zero, List.set_cons_succ, List.getElem_toArray, List.getElem_cons_zero, List.getElem_cons_succ]
          refine rest_take (i := 18) (v := _) all_wide (noDefers_of (by kernel_rfl)) rfl (by kernel_rfl) (by kernel_rfl) (by kernel_rfl) (fun _ _ _ h => h) (Or.inl ⟨by rfl, by intro w hSw; clear hSw; go_simp; first | done | with_reducible rfl⟩) hHeld ?_
          change RestIn _ _ _ _ _ _ _ 12 #[true, true, true, true, true, true, true, true, true, true, true, true, true, true, true, true, true, true, true, false, false, false, false, false, false, false, false, false, false, false, false] _ _
          try simp only [Act.put, List.setIfInBounds_toArray, List.set_cons_zero, List.set_cons_succ, List.getElem_toArray, List.getElem_cons_zero, List.getElem_cons_succ]
          refine rest_take (i := 19) (v := _) all_wide (noDefers_of (by kernel_rfl)) rfl (by kernel_rfl) (by kernel_rfl) (by kernel_rfl) (fun _ _ _ h => h) (Or.inl ⟨by rfl, by intro w hSw; clear hSw; go_simp; first | done | with_reducible rfl⟩) hHeld ?_
          change RestIn _ _ _ _ _ _ _ 11 #[true, true, true, true, true, true, true, true, true, true, true, true, true, true, true, true, true, true, true, true, false, false, false, false, false, false, false, false, false, false, false] _ _
          try simp only [Act.put, List.setIfInBounds_toArray, List.set_cons_zero, List.set_cons_succ, List.getElem_toArray, List.getElem_cons_zero, List.getElem_cons_succ]
          refine rest_take (i := 20) (v := _) all_wide (noDefers_of (by kernel_rfl)) rfl (by kernel_rfl) (by kernel_rfl) (by kernel_rfl) (fun _ _ _ h => h) (Or.inl ⟨by rfl, by intro w hSw; clear hSw; go_simp; first | done | with_reducible rfl⟩) hHeld ?_
          change RestIn _ _ _ _ _ _ _ 10 #[true, true, true, true, true, true, true, true, true, true, true, true, true, true, true, true, true, true, true, true, true, false, false, false, false, false, false, false, false, false, false] _ _
          try simp only [Act.put, List.setIfInBounds_toArray, List.set_cons_zero, List.set_cons_succ, List.getElem_toArray, List.getElem_cons_zero, List.getElem_cons_succ]
          refine rest_take (i := 21) (v := _) all_wide (noDefers_of (by kernel_rfl)) rfl (by kernel_rfl) (by kernel_rfl) (by kernel_rfl) (fun _ _ _ h => h) (Or.inl ⟨by rfl, by intro w hSw; clear hSw; go_simp; first | done | with_reducible rfl⟩) hHeld ?_
          change RestIn _ _ _ _ _ _ _ 9 #[true, true, true, true, true, true, true, true, true, true, true, true, true, true, true, true, true, true, true, true, true, true, false, false, false, false, false, false, false, false, false] _ _
          try simp only [Act.put, List.setIfInBounds_toArray, List.set_cons_zero, List.set_cons_succ, List.getElem_toArray, List.getElem_cons_zero, List.getElem_cons_succ]
          refine rest_take (i := 22) (v := _) all_wide (noDefers_of (by kernel_rfl)) rfl (by kernel_rfl) (by kernel_rfl) (by kernel_rfl) (fun _ _ _ h => h) (Or.inl ⟨by rfl, by intro w hSw; clear hSw; go_simp; first | done | with_reducible rfl⟩) hHeld ?_
          change RestIn _ _ _ _ _ _ _ 8 #[true, true, true, true, true, true, true, true, true, true, true, true, true, true, true, true, true, true, true, true, true, true, true, false, false, false, false, false, false, false, false] _ _
          try simp only [Act.put, List.setIfInBounds_toArray, List.set_cons_zero, List.set_cons_succ, List.getElem_toArray, List.getElem_cons_zero, List.getElem_cons_succ]
          refine rest_take (i := 23) (v := _) all_wide (noDefers_of (by kernel_rfl)) rfl (by kernel_rfl) (by kernel_rfl) (by kernel_rfl) (fun _ _ _ h => h) (Or.inl ⟨by rfl, by intro w hSw; clear hSw; go_simp; first | done | with_reducible rfl⟩) hHeld ?_
          change RestIn _ _ _ _ _ _ _ 7 #[true, true, true, true, true, true, true, true, true, true, true, true, true, true, true, true, true, true, true, true, true, true, true, true, false, false, false, false, false, false, false] _ _
          try simp only [Act.put, List.setIfInBounds_toArray, List.set_cons_zero, List.set_cons_succ, List.getElem_toArray, List.getElem_cons_zero, List.getElem_cons_succ]
          refine rest_take (i := 24) (v := _) all_wide (noDefers_of (by kernel_rfl)) rfl (by kernel_rfl) (by kernel_rfl) (by kernel_rfl) (fun _ _ _ h => h) (Or.inl ⟨by rfl, by intro w hSw; clear hSw; go_simp; first | done | with_reducible rfl⟩) hHeld ?_
          change RestIn _ _ _ _ _ _ _ 6 #[true, true, true, true, true, true, true, true, true, true, true, true, true, true, true, true, true, true, true, true, true, true, true, true, true, false, false, false, false, false, false] _ _
          try simp only [Act.put, List.setIfInBounds_toArray, List.set_cons_zero, List.set_cons_succ, List.getElem_toArray, List.getElem_cons_zero, List.getElem_cons_succ]
          refine rest_take (i := 25) (v := _) all_wide (noDefers_of (by kernel_rfl)) rfl (by kernel_rfl) (by kernel_rfl) (by kernel_rfl) (fun _ _ _ h => h) (Or.inl ⟨by rfl, by intro w hSw; clear hSw; go_simp; first | done | with_reducible rfl⟩) hHeld ?_
          change RestIn _ _ _ _ _ _ _ 5 #[true, true, true, true, true, true, true, true, true, true, true, true, true, true, true, true, true, true, true, true, true, true, true, true, true, true, false, false, false, false, false] _ _
          try simp only [Act.put, List.setIfInBounds_toArray, List.set_cons_zero, List.set_cons_succ, List.getElem_toArray, List.getElem_cons_zero, List.getElem_cons_succ]
          refine rest_take (i := 26) (v := _) all_wide (noDefers_of (by kernel_rfl)) rfl (by kernel_rfl) (by kernel_rfl) (by kernel_rfl) (fun _ _ _ h => h) (Or.inl ⟨by rfl, by intro w hSw; clear hSw; go_simp; first | done | with_reducible rfl⟩) hHeld ?_
          change RestIn _ _ _ _ _ _ _ 4 #[true, true, true, true, true, true, true, true, true, true, true, true, true, true, true, true, true, true, true, true, true, true, true, true, true, true, true, false, false, false, false] _ _
          try simp only [Act.put, List.setIfInBounds_toArray, List.set_cons_zero, List.set_cons_succ, List.getElem_toArray, List.getElem_cons_zero, List.getElem_cons_succ]
          refine rest_take (i := 27) (v := _) all_wide (noDefers_of (by kernel_rfl)) rfl (by kernel_rfl) (by kernel_rfl) (by kernel_rfl) (fun _ _ _ h => h) (Or.inl ⟨by rfl, by intro w hSw; clear hSw; go_simp; first | done | with_reducible rfl⟩) hHeld ?_
          change RestIn _ _ _ _ _ _ _ 3 #[true, true, true, true, true, true, true, true, true, true, true, true, true, true, true, true, true, true, true, true, true, true, true, true, true, true, true, true, false, false, false] _ _
          try simp only [Act.put, List.setIfInBounds_toArray, List.set_cons_zero, List.set_cons_succ, List.getElem_toArray, List.getElem_cons_zero, List.getElem_cons_succ]
          refine rest_take (i := 28) (v := _) all_wide (noDefers_of (by kernel_rfl)) rfl (by kernel_rfl) (by kernel_rfl) (by kernel_rfl) (fun _ _ _ h => h) (Or.inl ⟨by rfl, by intro w hSw; (obtain ⟨q0, q1, _⟩ := hSw); go_simp; first | done | with_reducible rfl⟩) hHeld ?_
          change RestIn _ _ _ _ _ _ _ 2 #[true, true, true, true, true, true, true, true, true, true, true, true, true, true, true, true, true, true, true, true, true, true, true, true, true, true, true, true, true, false, false] _ _
          try simp only [Act.put, List.setIfInBounds_toArray, List.set_cons_zero, List.set_cons_succ, List.getElem_toArray, List.getElem_cons_zero, List.getElem_cons_succ]
          refine rest_take (i := 29) (v := _) all_wide (noDefers_of (by kernel_rfl)) rfl (by kernel_rfl) (by kernel_rfl) (by kernel_rfl) (fun _ _ _ h => h) (Or.inl ⟨by rfl, by intro w hSw; clear hSw; go_simp; first | done | with_reducible rfl⟩) hHeld ?_
          change RestIn _ _ _ _ _ _ _ 1 #[true, true, true, true, true, true, true, true, true, true, true, true, true, true, true, true, true, true, true, true, true, true, true, true, true, true, true, true, true, true, false] _ _
          try simp only [Act.put, List.setIfInBounds_toArray, List.set_cons_zero, List.set_cons_succ, List.getElem_toArray, List.getElem_cons_zero, List.getElem_cons_succ]
          refine rest_take (i := 30) (v := _) all_wide (noDefers_of (by kernel_rfl)) rfl (by kernel_rfl) (by kernel_rfl) (by kernel_rfl) (fun _ _ _ h => h) (Or.inl ⟨by rfl, by intro w hSw; clear hSw; go_simp; first | done | with_reducible rfl⟩) hHeld ?_
          change RestIn _ _ _ _ _ _ _ 0 #[true, true, true, true, true, true, true, true, true, true, true, true, true, true, true, true, true, true, true, true, true, true, true, true, true, true, true, true, true, true, true] _ _
          try simp only [Act.put, List.setIfInBounds_toArray, List.set_cons_zero, List.set_cons_succ, List.getElem_toArray, List.getElem_cons_zero, List.getElem_cons_succ]
          refine rest_done (by kernel_rfl) ?_
          have hB1 := hWb.trans (hHeld.2.2.mono hWb.size)
          clear e0 e1 hHeld hWb hLast d1 d1' w1' w2' d2 d2'
          go_upto_region 19 with fail
          refine name_world (motive := fun W => Code.wp _ _ _ _ W) _ ?_
          intro W0 hW
          have hWc := hW.cell
          have hWz := hW.size
          have hWb := hW.below (hB1)
          have hBw := HB3.out.trans (hWb.mono HB3.out.size)
          have c0 := cell_after hBw (HCC.out 0 _ rfl)
          have c1 := cell_after hBw (HCC.out 1 _ rfl)
          have c2 := cell_after hBw (HCC.out 2 _ rfl)
          have c3 := cell_after hBw (HCC.out 3 _ rfl)
          have c4 := cell_after hBw (HCC.out 4 _ rfl)
          have c5 := cell_after hBw (HCC.out 5 _ rfl)
          have c6 := cell_after hBw (HCC.out 6 _ rfl)
          have c7 := cell_after hBw (HCC.out 7 _ rfl)
          have c8 := cell_after hBw (HCC.out 8 _ rfl)
          have c9 := cell_after hBw (HCC.out 9 _ rfl)
          have c10 := cell_after hBw (HCC.out 10 _ rfl)
          have c11 := cell_after hBw (HCC.out 11 _ rfl)
          have c12 := cell_after hBw (HCC.out 12 _ rfl)
          have c13 := cell_after hBw (HCC.out 13 _ rfl)
          have c14 := cell_after hBw (HCC.out 14 _ rfl)
          simp only [Nat.add_zero] at c0
          have e1 := cell_after hWb (HE.out 1 _ rfl)
          have hxr := HXR.out _ hWb
          clear hW hWc hWz hB1 hBw
          refine (wpIn_wide (n := 9)).1 ?_
          have hLast := trivial
          refine region_rest (S := (fun w' => w'.cell? ⟨b, off + i * 15, none⟩ = some (.int .i64 f.fly.pos.x.lo) ∧ w'.cell? ⟨b, off + i * 15 + 1, none⟩ = some (.int .i64 f.fly.pos.x.hi) ∧ w'.cell? ⟨b, off + i * 15 + 2, none⟩ = some (.int .i64 f.fly.pos.z.lo) ∧ w'.cell? ⟨b, off + i * 15 + 3, none⟩ = some (.int .i64 f.fly.pos.z.hi) ∧ w'.cell? ⟨b, off + i * 15 + 4, none⟩ = some (.int .i64 f.fly.speed.x.lo) ∧ w'.cell? ⟨b, off + i * 15 + 5, none⟩ = some (.int .i64 f.fly.speed.x.hi) ∧ w'.cell? ⟨b, off + i * 15 + 6, none⟩ = some (.int .i64 f.fly.speed.z.lo) ∧ w'.cell? ⟨b, off + i * 15 + 7, none⟩ = some (.int .i64 f.fly.speed.z.hi) ∧ w'.cell? ⟨b, off + i * 15 + 8, none⟩ = some (.int .i64 f.fly.mass) ∧ w'.cell? ⟨b, off + i * 15 + 9, none⟩ = some (.slice A f.cycle.length c) ∧ w'.cell? ⟨b, off + i * 15 + 10, none⟩ = some (.int .i64 f.reach) ∧ w'.cell? ⟨b, off + i * 15 + 11, none⟩ = some (.int .i64 f.soft) ∧ w'.cell? ⟨b, off + i * 15 + 12, none⟩ = some (.int .i64 f.bears) ∧ w'.cell? ⟨b, off + i * 15 + 13, none⟩ = some (.int .i64 f.least) ∧ w'.cell? ⟨b, off + i * 15 + 14, none⟩ = some (.int .i64 f.most) ∧ w'.cell? ⟨q, o + i * 2 + 1, none⟩ = some (.int .i64 (r : Int)) ∧ Below W0.heap.size W0 w')) hmx ?_ (fun hHeld => ?_)
          · exact ⟨c0, c1, c2, c3, c4, c5, c6, c7, c8, c9, c10, c11, c12, c13, c14, e1, (Below.refl W0.heap.size W0).drew⟩
          change RestIn _ _ _ _ _ _ _ 17 #[false, false, false, false, false, false, false, false, false, false, false, false, false, false, false, false, false] _ (World.drew _)
          refine rest_take (i := 0) (v := _) all_wide (noDefers_of (by kernel_rfl)) rfl (by kernel_rfl) (by kernel_rfl) (by kernel_rfl) (fun _ _ _ h => h) (Or.inl ⟨by rfl, by intro w hSw; clear hSw; go_simp; first | done | with_reducible rfl⟩) hHeld ?_
          change RestIn _ _ _ _ _ _ _ 16 #[true, false, false, false, false, false, false, false, false, false, false, false, false, false, false, false, false] _ _
          try simp only [Act.put, List.setIfInBounds_toArray, List.set_cons_zero, List.set_cons_succ, List.getElem_toArray, List.getElem_cons_zero, List.getElem_cons_succ]
          refine rest_take (i := 1) (v := _) all_wide (noDefers_of (by kernel_rfl)) rfl (by kernel_rfl) (by kernel_rfl) (by kernel_rfl) (fun _ _ _ h => h) (Or.inl ⟨by rfl, by intro w hSw; clear hSw; go_simp; first | done | with_reducible rfl⟩) hHeld ?_
          change RestIn _ _ _ _ _ _ _ 15 #[true, true, false, false, false, false, false, false, false, false, false, false, false, false, false, false, false] _ _
          try simp only [Act.put, List.setIfInBounds_toArray, List.set_cons_zero, List.set_cons_succ, List.getElem_toArray, List.getElem_cons_zero, List.getElem_cons_succ]
          refine rest_take (i := 2) (v := _) all_wide (noDefers_of (by kernel_rfl)) rfl (by kernel_rfl) (by kernel_rfl) (by kernel_rfl) (fun _ _ _ h => h) (Or.inl ⟨by rfl, by intro w hSw; clear hSw; go_simp; first | done | with_reducible rfl⟩) hHeld ?_
          change RestIn _ _ _ _ _ _ _ 14 #[true, true, true, false, false, false, false, false, false, false, false, false, false, false, false, false, false] _ _
          try simp only [Act.put, List.setIfInBounds_toArray, List.set_cons_zero, List.set_cons_succ, List.getElem_toArray, List.getElem_cons_zero, List.getElem_cons_succ]
          refine rest_take (i := 3) (v := _) all_wide (noDefers_of (by kernel_rfl)) rfl (by kernel_rfl) (by kernel_rfl) (by kernel_rfl) (fun _ _ _ h => h) (Or.inl ⟨by rfl, by intro w hSw; (obtain ⟨q0, q1, q2, q3, q4, q5, q6, q7, q8, q9, q10, q11, q12, q13, q14, q15, _⟩ := hSw); go_simp; first | done | with_reducible rfl⟩) hHeld ?_
          change RestIn _ _ _ _ _ _ _ 13 #[true, true, true, true, false, false, false, false, false, false, false, false, false, false, false, false, false] _ _
          try simp only [Act.put, List.setIfInBounds_toArray, List.set_cons_zero, List.set_cons_succ, List.getElem_toArray, List.getElem_cons_zero, List.getElem_cons_succ]
          refine rest_take (i := 5) (v := _) all_wide (noDefers_of (by kernel_rfl)) rfl (by kernel_rfl) (by kernel_rfl) (by kernel_rfl) (fun _ _ _ h => h) (Or.inl ⟨by rfl, by intro w hSw; clear hSw; go_simp; first | done | with_reducible rfl⟩) hHeld ?_
          change RestIn _ _ _ _ _ _ _ 12 #[true, true, true, true, false, true, false, false, false, false, false, false, false, false, false, false, false] _ _
          try simp only [Act.put, List.setIfInBounds_toArray, List.set_cons_zero, List.set_cons_succ, List.getElem_toArray, List.getElem_cons_zero, List.getElem_cons_succ]
          refine rest_take (i := 6) (v := _) all_wide (noDefers_of (by kernel_rfl)) rfl (by kernel_rfl) (by kernel_rfl) (by kernel_rfl) (fun _ _ _ h => h) (Or.inl ⟨by rfl, by intro w hSw; clear hSw; go_simp; first | done | with_reducible rfl⟩) hHeld ?_
          change RestIn _ _ _ _ _ _ _ 11 #[true, true, true, true, false, true, true, false, false, false, false, false, false, false, false, false, false] _ _
          try simp only [Act.put, List.setIfInBounds_toArray, List.set_cons_zero, List.set_cons_succ, List.getElem_toArray, List.getElem_cons_zero, List.getElem_cons_succ]
          refine rest_take (i := 7) (v := _) all_wide (noDefers_of (by kernel_rfl)) rfl (by kernel_rfl) (by kernel_rfl) (by kernel_rfl) (fun _ _ _ h => h) (Or.inl ⟨by rfl, by intro w hSw; clear hSw; go_simp; first | done | with_reducible rfl⟩) hHeld ?_
          change RestIn _ _ _ _ _ _ _ 10 #[true, true, true, true, false, true, true, true, false, false, false, false, false, false, false, false, false] _ _
          try simp only [Act.put, List.setIfInBounds_toArray, List.set_cons_zero, List.set_cons_succ, List.getElem_toArray, List.getElem_cons_zero, List.getElem_cons_succ]
          refine rest_take (i := 8) (v := _) all_wide (noDefers_of (by kernel_rfl)) rfl (by kernel_rfl) (by kernel_rfl) (by kernel_rfl) (fun _ _ _ h => h) (Or.inl ⟨by rfl, by intro w hSw; clear hSw; go_simp; first | done | with_reducible rfl⟩) hHeld ?_
          change RestIn _ _ _ _ _ _ _ 9 #[true, true, true, true, false, true, true, true, true, false, false, false, false, false, false, false, false] _ _
          try simp only [Act.put, List.setIfInBounds_toArray, List.set_cons_zero, List.set_cons_succ, List.getElem_toArray, List.getElem_cons_zero, List.getElem_cons_succ]
          refine rest_take (i := 9) (v := _) all_wide (noDefers_of (by kernel_rfl)) rfl (by kernel_rfl) (by kernel_rfl) (by kernel_rfl) (fun _ _ _ h => h) (Or.inl ⟨by rfl, by intro w hSw; clear hSw; go_simp; first | done | with_reducible rfl⟩) hHeld ?_
          change RestIn _ _ _ _ _ _ _ 8 #[true, true, true, true, false, true, true, true, true, true, false, false, false, false, false, false, false] _ _
          try simp only [Act.put, List.setIfInBounds_toArray, List.set_cons_zero, List.set_cons_succ, List.getElem_toArray, List.getElem_cons_zero, List.getElem_cons_succ]
          refine rest_take (i := 10) (v := _) all_wide (noDefers_of (by kernel_rfl)) rfl (by kernel_rfl) (by kernel_rfl) (by kernel_rfl) (fun _ _ _ h => h) (Or.inl ⟨by rfl, by intro w hSw; (obtain ⟨q0, q1, q2, q3, q4, q5, q6, q7, q8, q9, q10, q11, q12, q13, q14, q15, _⟩ := hSw); go_simp; first | done | with_reducible rfl⟩) hHeld ?_
          change RestIn _ _ _ _ _ _ _ 7 #[true, true, true, true, false, true, true, true, true, true, true, false, false, false, false, false, false] _ _
          try simp only [Act.put, List.setIfInBounds_toArray, List.set_cons_zero, List.set_cons_succ, List.getElem_toArray, List.getElem_cons_zero, List.getElem_cons_succ]
          refine rest_ready (rs := [4]) (by kernel_rfl) (by simp) ?_
          refine AllRest.cons rfl (fun K hK => ?_) AllRest.nil
          have hNow := (hHeld.2.2.2.2.2.2.2.2.2.2.2.2.2.2.2.2)
          clear hLast
          have hLast := hNow
          go_simp
          gi_wp2_with ((refine ⟨trivial, ?_⟩; gi_at_call 19; (with_reducible refine (callsIn_wide.2 (HFx.out _ (hxr.to hNow))).mono ?_); rintro e wn ⟨AF, cF, rfl, hs2, hb⟩))
          refine hK.out _ _ ?_ (fun hHeld' => ?_)
          · exact ⟨cell_after hb hHeld.1, cell_after hb hHeld.2.1, cell_after hb hHeld.2.2.1, cell_after hb hHeld.2.2.2.1, cell_after hb hHeld.2.2.2.2.1, cell_after hb hHeld.2.2.2.2.2.1, cell_after hb hHeld.2.2.2.2.2.2.1, cell_after hb hHeld.2.2.2.2.2.2.2.1, cell_after hb hHeld.2.2.2.2.2.2.2.2.1, cell_after hb hHeld.2.2.2.2.2.2.2.2.2.1, cell_after hb hHeld.2.2.2.2.2.2.2.2.2.2.1, cell_after hb hHeld.2.2.2.2.2.2.2.2.2.2.2.1, cell_after hb hHeld.2.2.2.2.2.2.2.2.2.2.2.2.1, cell_after hb hHeld.2.2.2.2.2.2.2.2.2.2.2.2.2.1, cell_after hb hHeld.2.2.2.2.2.2.2.2.2.2.2.2.2.2.1, cell_after hb hHeld.2.2.2.2.2.2.2.2.2.2.2.2.2.2.2.1, (hHeld.2.2.2.2.2.2.2.2.2.2.2.2.2.2.2.2).trans (hb.mono (hHeld.2.2.2.2.2.2.2.2.2.2.2.2.2.2.2.2).size)⟩
          clear hK K
          change RestIn _ _ _ _ _ _ _ 6 #[true, true, true, true, true, true, true, true, true, true, true, false, false, false, false, false, false] _ _
          try simp only [Act.put, List.setIfInBounds_toArray, List.set_cons_zero, List.set_cons_succ, List.getElem_toArray, List.getElem_cons_zero, List.getElem_cons_succ]
          clear hHeld
          have hHeld := hHeld'
          clear hHeld'
          have hNow := (hHeld.2.2.2.2.2.2.2.2.2.2.2.2.2.2.2.2)
          refine rest_ready (rs := [11]) (by kernel_rfl) (by simp) ?_
          refine AllRest.cons rfl (fun K hK => ?_) AllRest.nil
          have hNow := (hHeld.2.2.2.2.2.2.2.2.2.2.2.2.2.2.2.2)
          clear hLast
          have hLast := hNow
          go_simp
          gi_wp2_with ((refine ⟨trivial, ?_⟩; gi_at_call 42; (with_reducible refine (callsIn_wide.2 (HWS.out _ AF cF hs2)).mono ?_); rintro e wn ⟨AL, cL, rfl, hs4, hb⟩))
          refine hK.out _ _ ?_ (fun hHeld' => ?_)
          · exact ⟨cell_after hb hHeld.1, cell_after hb hHeld.2.1, cell_after hb hHeld.2.2.1, cell_after hb hHeld.2.2.2.1, cell_after hb hHeld.2.2.2.2.1, cell_after hb hHeld.2.2.2.2.2.1, cell_after hb hHeld.2.2.2.2.2.2.1, cell_after hb hHeld.2.2.2.2.2.2.2.1, cell_after hb hHeld.2.2.2.2.2.2.2.2.1, cell_after hb hHeld.2.2.2.2.2.2.2.2.2.1, cell_after hb hHeld.2.2.2.2.2.2.2.2.2.2.1, cell_after hb hHeld.2.2.2.2.2.2.2.2.2.2.2.1, cell_after hb hHeld.2.2.2.2.2.2.2.2.2.2.2.2.1, cell_after hb hHeld.2.2.2.2.2.2.2.2.2.2.2.2.2.1, cell_after hb hHeld.2.2.2.2.2.2.2.2.2.2.2.2.2.2.1, cell_after hb hHeld.2.2.2.2.2.2.2.2.2.2.2.2.2.2.2.1, (hHeld.2.2.2.2.2.2.2.2.2.2.2.2.2.2.2.2).trans (hb.mono (hHeld.2.2.2.2.2.2.2.2.2.2.2.2.2.2.2.2).size)⟩
          clear hK K
          change RestIn _ _ _ _ _ _ _ 5 #[true, true, true, true, true, true, true, true, true, true, true, true, false, false, false, false, false] _ _
          try simp only [Act.put, List.setIfInBounds_toArray, List.set_cons_zero, List.set_cons_succ, List.getElem_toArray, List.getElem_cons_zero, List.getElem_cons_succ]
          clear hHeld
          have hHeld := hHeld'
          clear hHeld'
          have hNow := (hHeld.2.2.2.2.2.2.2.2.2.2.2.2.2.2.2.2)
          refine rest_take (i := 12) (v := _) all_wide (noDefers_of (by kernel_rfl)) rfl (by kernel_rfl) (by kernel_rfl) (by kernel_rfl) (fun _ _ _ h => h) (Or.inl ⟨by rfl, by intro w hSw; clear hSw; go_simp; first | done | with_reducible rfl⟩) hHeld ?_
          change RestIn _ _ _ _ _ _ _ 4 #[true, true, true, true, true, true, true, true, true, true, true, true, true, false, false, false, false] _ _
          try simp only [Act.put, List.setIfInBounds_toArray, List.set_cons_zero, List.set_cons_succ, List.getElem_toArray, List.getElem_cons_zero, List.getElem_cons_succ]
          refine rest_take (i := 13) (v := _) all_wide (noDefers_of (by kernel_rfl)) rfl (by kernel_rfl) (by kernel_rfl) (by kernel_rfl) (fun _ _ _ h => h) (Or.inl ⟨by rfl, by intro w hSw; clear hSw; go_simp; first | done | with_reducible rfl⟩) hHeld ?_
          change RestIn _ _ _ _ _ _ _ 3 #[true, true, true, true, true, true, true, true, true, true, true, true, true, true, false, false, false] _ _
          try simp only [Act.put, List.setIfInBounds_toArray, List.set_cons_zero, List.set_cons_succ, List.getElem_toArray, List.getElem_cons_zero, List.getElem_cons_succ]
          refine rest_take (i := 14) (v := _) all_wide (noDefers_of (by kernel_rfl)) rfl (by kernel_rfl) (by kernel_rfl) (by kernel_rfl) (fun _ _ _ h => h) (Or.inl ⟨by rfl, by intro w hSw; clear hSw; go_simp; first | done | with_reducible rfl⟩) hHeld ?_
          change RestIn _ _ _ _ _ _ _ 2 #[true, true, true, true, true, true, true, true, true, true, true, true, true, true, true, false, false] _ _
          try simp only [Act.put, List.setIfInBounds_toArray, List.set_cons_zero, List.set_cons_succ, List.getElem_toArray, List.getElem_cons_zero, List.getElem_cons_succ]
          refine rest_take (i := 15) (v := _) all_wide (noDefers_of (by kernel_rfl)) rfl (by kernel_rfl) (by kernel_rfl) (by kernel_rfl) (fun _ _ _ h => h) (Or.inl ⟨by rfl, by intro w hSw; clear hSw; go_simp; first | done | with_reducible rfl⟩) hHeld ?_
          change RestIn _ _ _ _ _ _ _ 1 #[true, true, true, true, true, true, true, true, true, true, true, true, true, true, true, true, false] _ _
          try simp only [Act.put, List.setIfInBounds_toArray, List.set_cons_zero, List.set_cons_succ, List.getElem_toArray, List.getElem_cons_zero, List.getElem_cons_succ]
          refine rest_take (i := 16) (v := _) all_wide (noDefers_of (by kernel_rfl)) rfl (by kernel_rfl) (by kernel_rfl) (by kernel_rfl) (fun _ _ _ h => h) (Or.inl ⟨by rfl, by intro w hSw; clear hSw; go_simp; first | done | with_reducible rfl⟩) hHeld ?_
          change RestIn _ _ _ _ _ _ _ 0 #[true, true, true, true, true, true, true, true, true, true, true, true, true, true, true, true, true] _ _
          try simp only [Act.put, List.setIfInBounds_toArray, List.set_cons_zero, List.set_cons_succ, List.getElem_toArray, List.getElem_cons_zero, List.getElem_cons_succ]
          refine rest_done (by kernel_rfl) ?_
          have hB2 := hWb.trans (hNow.mono hWb.size)
          clear c0 c1 c2 c3 c4 c5 c6 c7 c8 c9 c10 c11 c12 c13 c14 e1 hHeld hNow hLast hWb hxr HWS hs2
          obtain ⟨Wn, hWn⟩ : ∃ x, x = wn := ⟨_, rfl⟩
          subst hWn
          have HB2 := Lib.hid hB2
          clear hB2
          go_wp2
          go_loopw [15] (fun kk wr => ∃ k : Nat, k ≤ m + 1 ∧ kk = .int .i64 k ∧ Below Wn.heap.size Wn wr) (fun kk _ => m + 1 - (intOf kk).toNat)
          case atStart => exact ⟨0, Nat.zero_le _, rfl, Below.refl _ _⟩
          case round =>
            obtain ⟨k, hk, rfl, hBk⟩ := hrel
            by_cases hkm : k < m + 1
            case pos =>
              have hkmI : (k : Int) < (m : Int) + 1 := by omega
              obtain ⟨⟨p1, p2⟩, hp⟩ := getElem?_lt (l := al) (k := k) (by rw [HALM.out]; exact hkm)
              have hpin := HIN.out _ (List.mem_of_getElem? hp)
              simp only at hpin
              obtain ⟨q5, o5, rfl, hq5, h5⟩ := (hs4.to hBk).at_ hp
              have f0 := h5 0 _ rfl
              have f1 := h5 1 _ rfl
              simp only [Nat.add_zero] at f0
              have HP := Lib.hid hp
              have hBq := HB2.out.trans (hBk.mono HB2.out.size)
              have e0 := cell_after hBq (HE.out 0 _ rfl)
              have e1 := cell_after hBq (HE.out 1 _ rfl)
              simp only [Nat.add_zero] at e0
              clear h5 hp hBq
              by_cases hkl : k = m
              case pos =>
                as_aux_lemma =>
                  subst hkl
                  have hpe : p1 = (s : Int) ∧ p2 = (r : Int) := by
                    have := HP.out
                    rw [HWM.out, ← HM.out, List.getElem?_append_right (Nat.le_refl _), Nat.sub_self] at this
                    simp at this
                    exact ⟨this.1.symm, this.2.symm⟩
                  obtain ⟨hpe1, hpe2⟩ := hpe
                  rw [hpe1] at f0
                  rw [hpe2] at f1
                  have hkmJ : (k : Int) + 1 - 1 = (k : Int) := by omega
                  have w0' : IntKind.i64.wrap ((k : Int) + 1 - 1) = (k : Int) := by rw [IntWalk.i64_in _ (by omega)]; omega
                  have d3 : decide ((s : Int) < (s : Int)) = false := decide_eq_false (by omega)
                  go_upto_region 26 with fail
                  refine name_world (motive := fun W => Code.wp _ _ _ _ W) _ ?_
                  intro W0 hW
                  have hWc := hW.cell
                  have hWz := hW.size
                  have hWb := hW.below (hBk)
                  have e0 := cell_after (hW.below (Below.refl _ _)) e0
                  have e1 := cell_after (hW.below (Below.refl _ _)) e1
                  have f0 := cell_after (hW.below (Below.refl _ _)) f0
                  have f1 := cell_after (hW.below (Below.refl _ _)) f1
                  clear hW hWc hWz hBk
                  refine (wpIn_wide (n := 9)).1 ?_
                  have hLast := trivial
                  refine region_rest (S := (fun w' => w'.cell? ⟨q, o + i * 2, none⟩ = some (.int .i64 (s : Int)) ∧ w'.cell? ⟨q, o + i * 2 + 1, none⟩ = some (.int .i64 (r : Int)) ∧ w'.cell? ⟨q5, o5 + k * 2, none⟩ = some (.int .i64 (s : Int)) ∧ w'.cell? ⟨q5, o5 + k * 2 + 1, none⟩ = some (.int .i64 (r : Int)) ∧ Below W0.heap.size W0 w')) hmx ?_ (fun hHeld => ?_)
                  · exact ⟨e0, e1, f0, f1, (Below.refl W0.heap.size W0).drew⟩
                  change RestIn _ _ _ _ _ _ _ 60 #[false, false, false, false, false, false, false, false, false, false, false, false, false, false, false, false, false, false, false, false, false, false, false, false, false, false, false, false, false, false, false, false, false, false, false, false, false, false, false, false, false, false, false, false, false, false, false, false, false, false, false, false, false, false, false, false, false, false, false, false] _ (World.drew _)
                  refine rest_take (i := 0) (v := _) all_wide (noDefers_of (by kernel_rfl)) rfl (by kernel_rfl) (by kernel_rfl) (by kernel_rfl) (fun _ _ _ h => h) (Or.inl ⟨by rfl, by intro w hSw; clear hSw; go_simp; first | done | with_reducible rfl⟩) hHeld ?_
                  change RestIn _ _ _ _ _ _ _ 59 #[true, false, false, false, false, false, false, false, false, false, false, false, false, false, false, false, false, false, false, false, false, false, false, false, false, false, false, false, false, false, false, false, false, false, false, false, false, false, false, false, false, false, false, false, false, false, false, false, false, false, false, false, false, false, false, false, false, false, false, false] _ _
                  try simp only [Act.put, List.setIfInBounds_toArray, List.set_cons_zero, List.set_cons_succ, List.getElem_toArray, List.getElem_cons_zero, List.getElem_cons_succ]
                  refine rest_take (i := 1) (v := _) all_wide (noDefers_of (by kernel_rfl)) rfl (by kernel_rfl) (by kernel_rfl) (by kernel_rfl) (fun _ _ _ h => h) (Or.inl ⟨by rfl, by intro w hSw; clear hSw; go_simp; first | done | with_reducible rfl⟩) hHeld ?_
                  change RestIn _ _ _ _ _ _ _ 58 #[true, true, false, false, false, false, false, false, false, false, false, false, false, false, false, false, false, false, false, false, false, false, false, false, false, false, false, false, false, false, false, false, false, false, false, false, false, false, false, false, false, false, false, false, false, false, false, false, false, false, false, false, false, false, false, false, false, false, false, false] _ _
                  try simp only [Act.put, List.setIfInBounds_toArray, List.set_cons_zero, List.set_cons_succ, List.getElem_toArray, List.getElem_cons_zero, List.getElem_cons_succ]
                  refine rest_take (i := 2) (v := _) all_wide (noDefers_of (by kernel_rfl)) rfl (by kernel_rfl) (by kernel_rfl) (by kernel_rfl) (fun _ _ _ h => h) (Or.inl ⟨by rfl, by intro w hSw; clear hSw; go_simp; first | done | with_reducible rfl⟩) hHeld ?_
                  change RestIn _ _ _ _ _ _ _ 57 #[true, true, true, false, false, false, false, false, false, false, false, false, false, false, false, false, false, false, false, false, false, false, false, false, false, false, false, false, false, false, false, false, false, false, false, false, false, false, false, false, false, false, false, false, false, false, false, false, false, false, false, false, false, false, false, false, false, false, false, false] _ _
                  try simp only [Act.put, List.setIfInBounds_toArray, List.set_cons_zero, List.set_cons_succ, List.getElem_toArray, List.getElem_cons_zero, List.getElem_cons_succ]
                  refine rest_take (i := 3) (v := _) all_wide (noDefers_of (by kernel_rfl)) rfl (by kernel_rfl) (by kernel_rfl) (by kernel_rfl) (fun _ _ _ h => h) (Or.inl ⟨by rfl, by intro w hSw; clear hSw; go_simp; first | done | with_reducible rfl⟩) hHeld ?_
                  change RestIn _ _ _ _ _ _ _ 56 #[true, true, true, true, false, false, false, false, false, false, false, false, false, false, false, false, false, false, false, false, false, false, false, false, false, false, false, false, false, false, false, false, false, false, false, false, false, false, false, false, false, false, false, false, false, false, false, false, false, false, false, false, false, false, false, false, false, false, false, false] _ _
                  try simp only [Act.put, List.setIfInBounds_toArray, List.set_cons_zero, List.set_cons_succ, List.getElem_toArray, List.getElem_cons_zero, List.getElem_cons_succ]
                  refine rest_take (i := 4) (v := _) all_wide (noDefers_of (by kernel_rfl)) rfl (by kernel_rfl) (by kernel_rfl) (by kernel_rfl) (fun _ _ _ h => h) (Or.inl ⟨by rfl, by intro w hSw; clear hSw; go_simp; first | done | with_reducible rfl⟩) hHeld ?_
                  change RestIn _ _ _ _ _ _ _ 55 #[true, true, true, true, true, false, false, false, false, false, false, false, false, false, false, false, false, false, false, false, false, false, false, false, false, false, false, false, false, false, false, false, false, false, false, false, false, false, false, false, false, false, false, false, false, false, false, false, false, false, false, false, false, false, false, false, false, false, false, false] _ _
                  try simp only [Act.put, List.setIfInBounds_toArray, List.set_cons_zero, List.set_cons_succ, List.getElem_toArray, List.getElem_cons_zero, List.getElem_cons_succ]
                  refine rest_take (i := 5) (v := _) all_wide (noDefers_of (by kernel_rfl)) rfl (by kernel_rfl) (by kernel_rfl) (by kernel_rfl) (fun _ _ _ h => h) (Or.inl ⟨by rfl, by intro w hSw; clear hSw; go_simp; first | done | with_reducible rfl⟩) hHeld ?_
                  change RestIn _ _ _ _ _ _ _ 54 #[true, true, true, true, true, true, false, false, false, false, false, false, false, false, false, false, false, false, false, false, false, false, false, false, false, false, false, false, false, false, false, false, false, false, false, false, false, false, false, false, false, false, false, false, false, false, false, false, false, false, false, false, false, false, false, false, false, false, false, false] _ _
                  try simp only [Act.put, List.setIfInBounds_toArray, List.set_cons_zero, List.set_cons_succ, List.getElem_toArray, List.getElem_cons_zero, List.getElem_cons_succ]
                  refine rest_take (i := 6) (v := _) all_wide (noDefers_of (by kernel_rfl)) rfl (by kernel_rfl) (by kernel_rfl) (by kernel_rfl) (fun _ _ _ h => h) (Or.inl ⟨by rfl, by intro w hSw; (obtain ⟨q0, q1, q2, q3, _⟩ := hSw); go_simp; first | done | with_reducible rfl⟩) hHeld ?_
                  change RestIn _ _ _ _ _ _ _ 53 #[true, true, true, true, true, true, true, false, false, false, false, false, false, false, false, false, false, false, false, false, false, false, false, false, false, false, false, false, false, false, false, false, false, false, false, false, false, false, false, false, false, false, false, false, false, false, false, false, false, false, false, false, false, false, false, false, false, false, false, false] _ _
                  try simp only [Act.put, List.setIfInBounds_toArray, List.set_cons_zero, List.set_cons_succ, List.getElem_toArray, List.getElem_cons_zero, List.getElem_cons_succ]
                  refine rest_take (i := 7) (v := _) all_wide (noDefers_of (by kernel_rfl)) rfl (by kernel_rfl) (by kernel_rfl) (by kernel_rfl) (fun _ _ _ h => h) (Or.inl ⟨by rfl, by intro w hSw; clear hSw; go_simp; first | done | with_reducible rfl⟩) hHeld ?_
                  change RestIn _ _ _ _ _ _ _ 52 #[true, true, true, true, true, true, true, true, false, false, false, false, false, false, false, false, false, false, false, false, false, false, false, false, false, false, false, false, false, false, false, false, false, false, false, false, false, false, false, false, false, false, false, false, false, false, false, false, false, false, false, false, false, false, false, false, false, false, false, false] _ _
                  try simp only [Act.put, List.setIfInBounds_toArray, List.set_cons_zero, List.set_cons_succ, List.getElem_toArray, List.getElem_cons_zero, List.getElem_cons_succ]
                  refine rest_take (i := 8) (v := _) all_wide (noDefers_of (by kernel_rfl)) rfl (by kernel_rfl) (by kernel_rfl) (by kernel_rfl) (fun _ _ _ h => h) (Or.inl ⟨by rfl, by intro w hSw; clear hSw; go_simp; first | done | with_reducible rfl⟩) hHeld ?_
                  change RestIn _ _ _ _ _ _ _ 51 #[true, true, true, true, true, true, true, true, true, false, false, false, false, false, false, false, false, false, false, false, false, false, false, false, false, false, false, false, false, false, false, false, false, false, false, false, false, false, false, false, false, false, false, false, false, false, false, false, false, false, false, false, false, false, false, false, false, false, false, false] _ _
                  try simp only [Act.put, List.setIfInBounds_toArray, List.set_cons_zero, List.set_cons_succ, List.getElem_toArray, List.getElem_cons_zero, List.getElem_cons_succ]
                  refine rest_take (i := 9) (v := _) all_wide (noDefers_of (by kernel_rfl)) rfl (by kernel_rfl) (by kernel_rfl) (by kernel_rfl) (fun _ _ _ h => h) (Or.inl ⟨by rfl, by intro w hSw; clear hSw; go_simp; first | done | with_reducible rfl⟩) hHeld ?_
                  change RestIn _ _ _ _ _ _ _ 50 #[true, true, true, true, true, true, true, true, true, true, false, false, false, false, false, false, false, false, false, false, false, false, false, false, false, false, false, false, false, false, false, false, false, false, false, false, false, false, false, false, false, false, false, false, false, false, false, false, false, false, false, false, false, false, false, false, false, false, false, false] _ _
                  try simp only [Act.put, List.setIfInBounds_toArray, List.set_cons_zero, List.set_cons_succ, List.getElem_toArray, List.getElem_cons_zero, List.getElem_cons_succ]
                  refine rest_take (i := 10) (v := _) all_wide (noDefers_of (by kernel_rfl)) rfl (by kernel_rfl) (by kernel_rfl) (by kernel_rfl) (fun _ _ _ h => h) (Or.inl ⟨by rfl, by intro w hSw; clear hSw; go_simp; first | done | with_reducible rfl⟩) hHeld ?_
                  change RestIn _ _ _ _ _ _ _ 49 #[true, true, true, true, true, true, true, true, true, true, true, false, false, false, false, false, false, false, false, false, false, false, false, false, false, false, false, false, false, false, false, false, false, false, false, false, false, false, false, false, false, false, false, false, false, false, false, false, false, false, false, false, false, false, false, false, false, false, false, false] _ _
                  try simp only [Act.put, List.setIfInBounds_toArray, List.set_cons_zero, List.set_cons_succ, List.getElem_toArray, List.getElem_cons_zero, List.getElem_cons_succ]
                  refine rest_take (i := 11) (v := _) all_wide (noDefers_of (by kernel_rfl)) rfl (by kernel_rfl) (by kernel_rfl) (by kernel_rfl) (fun _ _ _ h => h) (Or.inl ⟨by rfl, by intro w hSw; (obtain ⟨q0, q1, q2, q3, _⟩ := hSw); go_simp; first | done | with_reducible rfl⟩) hHeld ?_
                  change RestIn _ _ _ _ _ _ _ 48 #[true, true, true, true, true, true, true, true, true, true, true, true, false, false, false, false, false, false, false, false, false, false, false, false, false, false, false, false, false, false, false, false, false, false, false, false, false, false, false, false, false, false, false, false, false, false, false, false, false, false, false, false, false, false, false, false, false, false, false, false] _ _
                  try simp only [Act.put, List.setIfInBounds_toArray, List.set_cons_zero, List.set_cons_succ, List.getElem_toArray, List.getElem_cons_zero, List.getElem_cons_succ]
                  refine rest_take (i := 12) (v := _) all_wide (noDefers_of (by kernel_rfl)) rfl (by kernel_rfl) (by kernel_rfl) (by kernel_rfl) (fun _ _ _ h => h) (Or.inl ⟨by rfl, by intro w hSw; clear hSw; go_simp; first | done | with_reducible rfl⟩) hHeld ?_
                  change RestIn _ _ _ _ _ _ _ 47 #[true, true, true, true, true, true, true, true, true, true, true, true, true, false, false, false, false, false, false, false, false, false, false, false, false, false, false, false, false, false, false, false, false, false, false, false, false, false, false, false, false, false, false, false, false, false, false, false, false, false, false, false, false, false, false, false, false, false, false, false] _ _
                  try simp only [Act.put, List.setIfInBounds_toArray, List.set_cons_zero, List.set_cons_succ, List.getElem_toArray, List.getElem_cons_zero, List.getElem_cons_succ]
                  refine rest_take (i := 13) (v := _) all_wide (noDefers_of (by kernel_rfl)) rfl (by kernel_rfl) (by kernel_rfl) (by kernel_rfl) (fun _ _ _ h => h) (Or.inl ⟨by rfl, by intro w hSw; clear hSw; go_simp; first | done | with_reducible rfl⟩) hHeld ?_
                  change RestIn _ _ _ _ _ _ _ 46 #[true, true, true, true, true, true, true, true, true, true, true, true, true, true, false, false, false, false, false, false, false, false, false, false, false, false, false, false, false, false, false, false, false, false, false, false, false, false, false, false, false, false, false, false, false, false, false, false, false, false, false, false, false, false, false, false, false, false, false, false] _ _
                  try simp only [Act.put, List.setIfInBounds_toArray, List.set_cons_zero, List.set_cons_succ, List.getElem_toArray, List.getElem_cons_zero, List.getElem_cons_succ]
                  refine rest_take (i := 14) (v := _) all_wide (noDefers_of (by kernel_rfl)) rfl (by kernel_rfl) (by kernel_rfl) (by kernel_rfl) (fun _ _ _ h => h) (Or.inl ⟨by rfl, by intro w hSw; clear hSw; go_simp; first | done | with_reducible rfl⟩) hHeld ?_
                  change RestIn _ _ _ _ _ _ _ 45 #[true, true, true, true, true, true, true, true, true, true, true, true, true, true, true, false, false, false, false, false, false, false, false, false, false, false, false, false, false, false, false, false, false, false, false, false, false, false, false, false, false, false, false, false, false, false, false, false, false, false, false, false, false, false, false, false, false, false, false, false] _ _
                  try simp only [Act.put, List.setIfInBounds_toArray, List.set_cons_zero, List.set_cons_succ, List.getElem_toArray, List.getElem_cons_zero, List.getElem_cons_succ]
                  refine rest_take (i := 15) (v := _) all_wide (noDefers_of (by kernel_rfl)) rfl (by kernel_rfl) (by kernel_rfl) (by kernel_rfl) (fun _ _ _ h => h) (Or.inl ⟨by rfl, by intro w hSw; clear hSw; go_simp; first | done | with_reducible rfl⟩) hHeld ?_
                  change RestIn _ _ _ _ _ _ _ 44 #[true, true, true, true, true, true, true, true, true, true, true, true, true, true, true, true, false, false, false, false, false, false, false, false, false, false, false, false, false, false, false, false, false, false, false, false, false, false, false, false, false, false, false, false, false, false, false, false, false, false, false, false, false, false, false, false, false, false, false, false] _ _
                  try simp only [Act.put, List.setIfInBounds_toArray, List.set_cons_zero, List.set_cons_succ, List.getElem_toArray, List.getElem_cons_zero, List.getElem_cons_succ]
                  refine rest_take (i := 16) (v := _) all_wide (noDefers_of (by kernel_rfl)) rfl (by kernel_rfl) (by kernel_rfl) (by kernel_rfl) (fun _ _ _ h => h) (Or.inl ⟨by rfl, by intro w hSw; clear hSw; go_simp; first | done | with_reducible rfl⟩) hHeld ?_
                  change RestIn _ _ _ _ _ _ _ 43 #[true, true, true, true, true, true, true, true, true, true, true, true, true, true, true, true, true, false, false, false, false, false, false, false, false, false, false, false, false, false, false, false, false, false, false, false, false, false, false, false, false, false, false, false, false, false, false, false, false, false, false, false, false, false, false, false, false, false, false, false] _ _
                  try simp only [Act.put, List.setIfInBounds_toArray, List.set_cons_zero, List.set_cons_succ, List.getElem_toArray, List.getElem_cons_zero, List.getElem_cons_succ]
                  refine rest_take (i := 17) (v := _) all_wide (noDefers_of (by kernel_rfl)) rfl (by kernel_rfl) (by kernel_rfl) (by kernel_rfl) (fun _ _ _ h => h) (Or.inl ⟨by rfl, by intro w hSw; clear hSw; go_simp; first | done | with_reducible rfl⟩) hHeld ?_
                  change RestIn _ _ _ _ _ _ _ 42 #[true, true, true, true, true, true, true, true, true, true, true, true, true, true, true, true, true, true, false, false, false, false, false, false, false, false, false, false, false, false, false, false, false, false, false, false, false, false, false, false, false, false, false, false, false, false, false, false, false, false, false, false, false, false, false, false, false, false, false, false] _ _
                  try simp only [Act.put, List.setIfInBounds_toArray, List.set_cons_zero, List.set_cons_succ, List.getElem_toArray, List.getElem_cons_zero, List.getElem_cons_succ]
                  refine rest_take (i := 18) (v := _) all_wide (noDefers_of (by kernel_rfl)) rfl (by kernel_rfl) (by kernel_rfl) (by kernel_rfl) (fun _ _ _ h => h) (Or.inl ⟨by rfl, by intro w hSw; (obtain ⟨q0, q1, q2, q3, _⟩ := hSw); go_simp; first | done | with_reducible rfl⟩) hHeld ?_
                  change RestIn _ _ _ _ _ _ _ 41 #[true, true, true, true, true, true, true, true, true, true, true, true, true, true, true, true, true, true, true, false, false, false, false, false, false, false, false, false, false, false, false, false, false, false, false, false, false, false, false, false, false, false, false, false, false, false, false, false, false, false, false, false, false, false, false, false, false, false, false, false] _ _
                  try simp only [Act.put, List.setIfInBounds_toArray, List.set_cons_zero, List.set_cons_succ, List.getElem_toArray, List.getElem_cons_zero, List.getElem_cons_succ]
                  refine rest_take (i := 19) (v := _) all_wide (noDefers_of (by kernel_rfl)) rfl (by kernel_rfl) (by kernel_rfl) (by kernel_rfl) (fun _ _ _ h => h) (Or.inl ⟨by rfl, by intro w hSw; clear hSw; go_simp; first | done | with_reducible rfl⟩) hHeld ?_
                  change RestIn _ _ _ _ _ _ _ 40 #[true, true, true, true, true, true, true, true, true, true, true, true, true, true, true, true, true, true, true, true, false, false, false, false, false, false, false, false, false, false, false, false, false, false, false, false, false, false, false, false, false, false, false, false, false, false, false, false, false, false, false, false, false, false, false, false, false, false, false, false] _ _
                  try simp only [Act.put, List.setIfInBounds_toArray, List.set_cons_zero, List.set_cons_succ, List.getElem_toArray, List.getElem_cons_zero, List.getElem_cons_succ]
                  refine rest_take (i := 20) (v := _) all_wide (noDefers_of (by kernel_rfl)) rfl (by kernel_rfl) (by kernel_rfl) (by kernel_rfl) (fun _ _ _ h => h) (Or.inl ⟨by rfl, by intro w hSw; clear hSw; go_simp; first | done | with_reducible rfl⟩) hHeld ?_
                  change RestIn _ _ _ _ _ _ _ 39 #[true, true, true, true, true, true, true, true, true, true, true, true, true, true, true, true, true, true, true, true, true, false, false, false, false, false, false, false, false, false, false, false, false, false, false, false, false, false, false, false, false, false, false, false, false, false, false, false, false, false, false, false, false, false, false, false, false, false, false, false] _ _
                  try simp only [Act.put, List.setIfInBounds_toArray, List.set_cons_zero, List.set_cons_succ, List.getElem_toArray, List.getElem_cons_zero, List.getElem_cons_succ]
                  refine rest_take (i := 21) (v := _) all_wide (noDefers_of (by kernel_rfl)) rfl (by kernel_rfl) (by kernel_rfl) (by kernel_rfl) (fun _ _ _ h => h) (Or.inl ⟨by rfl, by intro w hSw; clear hSw; go_simp; first | done | with_reducible rfl⟩) hHeld ?_
                  change RestIn _ _ _ _ _ _ _ 38 #[true, true, true, true, true, true, true, true, true, true, true, true, true, true, true, true, true, true, true, true, true, true, false, false, false, false, false, false, false, false, false, false, false, false, false, false, false, false, false, false, false, false, false, false, false, false, false, false, false, false, false, false, false, false, false, false, false, false, false, false] _ _
                  try simp only [Act.put, List.setIfInBounds_toArray, List.set_cons_zero, List.set_cons_succ, List.getElem_toArray, List.getElem_cons_zero, List.getElem_cons_succ]
                  refine rest_take (i := 22) (v := _) all_wide (noDefers_of (by kernel_rfl)) rfl (by kernel_rfl) (by kernel_rfl) (by kernel_rfl) (fun _ _ _ h => h) (Or.inl ⟨by rfl, by intro w hSw; clear hSw; go_simp; first | done | with_reducible rfl⟩) hHeld ?_
                  change RestIn _ _ _ _ _ _ _ 37 #[true, true, true, true, true, true, true, true, true, true, true, true, true, true, true, true, true, true, true, true, true, true, true, false, false, false, false, false, false, false, false, false, false, false, false, false, false, false, false, false, false, false, false, false, false, false, false, false, false, false, false, false, false, false, false, false, false, false, false, false] _ _
                  try simp only [Act.put, List.setIfInBounds_toArray, List.set_cons_zero, List.set_cons_succ, List.getElem_toArray, List.getElem_cons_zero, List.getElem_cons_succ]
                  refine rest_take (i := 23) (v := _) all_wide (noDefers_of (by kernel_rfl)) rfl (by kernel_rfl) (by kernel_rfl) (by kernel_rfl) (fun _ _ _ h => h) (Or.inl ⟨by rfl, by intro w hSw; (obtain ⟨q0, q1, q2, q3, _⟩ := hSw); go_simp; first | done | with_reducible rfl⟩) hHeld ?_
                  change RestIn _ _ _ _ _ _ _ 36 #[true, true, true, true, true, true, true, true, true, true, true, true, true, true, true, true, true, true, true, true, true, true, true, true, false, false, false, false, false, false, false, false, false, false, false, false, false, false, false, false, false, false, false, false, false, false, false, false, false, false, false, false, false, false, false, false, false, false, false, false] _ _
                  try simp only [Act.put, List.setIfInBounds_toArray, List.set_cons_zero, List.set_cons_succ, List.getElem_toArray, List.getElem_cons_zero, List.getElem_cons_succ]
                  refine rest_take (i := 24) (v := _) all_wide (noDefers_of (by kernel_rfl)) rfl (by kernel_rfl) (by kernel_rfl) (by kernel_rfl) (fun _ _ _ h => h) (Or.inl ⟨by rfl, by intro w hSw; clear hSw; go_simp; first | done | with_reducible rfl⟩) hHeld ?_
                  change RestIn _ _ _ _ _ _ _ 35 #[true, true, true, true, true, true, true, true, true, true, true, true, true, true, true, true, true, true, true, true, true, true, true, true, true, false, false, false, false, false, false, false, false, false, false, false, false, false, false, false, false, false, false, false, false, false, false, false, false, false, false, false, false, false, false, false, false, false, false, false] _ _
                  try simp only [Act.put, List.setIfInBounds_toArray, List.set_cons_zero, List.set_cons_succ, List.getElem_toArray, List.getElem_cons_zero, List.getElem_cons_succ]
                  refine rest_take (i := 25) (v := _) all_wide (noDefers_of (by kernel_rfl)) rfl (by kernel_rfl) (by kernel_rfl) (by kernel_rfl) (fun _ _ _ h => h) (Or.inl ⟨by rfl, by intro w hSw; clear hSw; go_simp; first | done | with_reducible rfl⟩) hHeld ?_
                  change RestIn _ _ _ _ _ _ _ 34 #[true, true, true, true, true, true, true, true, true, true, true, true, true, true, true, true, true, true, true, true, true, true, true, true, true, true, false, false, false, false, false, false, false, false, false, false, false, false, false, false, false, false, false, false, false, false, false, false, false, false, false, false, false, false, false, false, false, false, false, false] _ _
                  try simp only [Act.put, List.setIfInBounds_toArray, List.set_cons_zero, List.set_cons_succ, List.getElem_toArray, List.getElem_cons_zero, List.getElem_cons_succ]
                  refine rest_take (i := 26) (v := _) all_wide (noDefers_of (by kernel_rfl)) rfl (by kernel_rfl) (by kernel_rfl) (by kernel_rfl) (fun _ _ _ h => h) (Or.inl ⟨by rfl, by intro w hSw; clear hSw; go_simp; first | done | with_reducible rfl⟩) hHeld ?_
                  change RestIn _ _ _ _ _ _ _ 33 #[true, true, true, true, true, true, true, true, true, true, true, true, true, true, true, true, true, true, true, true, true, true, true, true, true, true, true, false, false, false, false, false, false, false, false, false, false, false, false, false, false, false, false, false, false, false, false, false, false, false, false, false, false, false, false, false, false, false, false, false] _ _
                  try simp only [Act.put, List.setIfInBounds_toArray, List.set_cons_zero, List.set_cons_succ, List.getElem_toArray, List.getElem_cons_zero, List.getElem_cons_succ]
                  refine rest_take (i := 27) (v := _) all_wide (noDefers_of (by kernel_rfl)) rfl (by kernel_rfl) (by kernel_rfl) (by kernel_rfl) (fun _ _ _ h => h) (Or.inl ⟨by rfl, by intro w hSw; clear hSw; go_simp; first | done | with_reducible rfl⟩) hHeld ?_
                  change RestIn _ _ _ _ _ _ _ 32 #[true, true, true, true, true, true, true, true, true, true, true, true, true, true, true, true, true, true, true, true, true, true, true, true, true, true, true, true, false, false, false, false, false, false, false, false, false, false, false, false, false, false, false, false, false, false, false, false, false, false, false, false, false, false, false, false, false, false, false, false] _ _
                  try simp only [Act.put, List.setIfInBounds_toArray, List.set_cons_zero, List.set_cons_succ, List.getElem_toArray, List.getElem_cons_zero, List.getElem_cons_succ]
                  refine rest_take (i := 28) (v := _) all_wide (noDefers_of (by kernel_rfl)) rfl (by kernel_rfl) (by kernel_rfl) (by kernel_rfl) (fun _ _ _ h => h) (Or.inl ⟨by rfl, by intro w hSw; clear hSw; go_simp; first | done | with_reducible rfl⟩) hHeld ?_
                  change RestIn _ _ _ _ _ _ _ 31 #[true, true, true, true, true, true, true, true, true, true, true, true, true, true, true, true, true, true, true, true, true, true, true, true, true, true, true, true, true, false, false, false, false, false, false, false, false, false, false, false, false, false, false, false, false, false, false, false, false, false, false, false, false, false, false, false, false, false, false, false] _ _
                  try simp only [Act.put, List.setIfInBounds_toArray, List.set_cons_zero, List.set_cons_succ, List.getElem_toArray, List.getElem_cons_zero, List.getElem_cons_succ]
                  refine rest_take (i := 29) (v := _) all_wide (noDefers_of (by kernel_rfl)) rfl (by kernel_rfl) (by kernel_rfl) (by kernel_rfl) (fun _ _ _ h => h) (Or.inl ⟨by rfl, by intro w hSw; clear hSw; go_simp; first | done | with_reducible rfl⟩) hHeld ?_
                  change RestIn _ _ _ _ _ _ _ 30 #[true, true, true, true, true, true, true, true, true, true, true, true, true, true, true, true, true, true, true, true, true, true, true, true, true, true, true, true, true, true, false, false, false, false, false, false, false, false, false, false, false, false, false, false, false, false, false, false, false, false, false, false, false, false, false, false, false, false, false, false] _ _
                  try simp only [Act.put, List.setIfInBounds_toArray, List.set_cons_zero, List.set_cons_succ, List.getElem_toArray, List.getElem_cons_zero, List.getElem_cons_succ]
                  refine rest_take (i := 30) (v := _) all_wide (noDefers_of (by kernel_rfl)) rfl (by kernel_rfl) (by kernel_rfl) (by kernel_rfl) (fun _ _ _ h => h) (Or.inl ⟨by rfl, by intro w hSw; clear hSw; go_simp; first | done | with_reducible rfl⟩) hHeld ?_
                  change RestIn _ _ _ _ _ _ _ 29 #[true, true, true, true, true, true, true, true, true, true, true, true, true, true, true, true, true, true, true, true, true, true, true, true, true, true, true, true, true, true, true, false, false, false, false, false, false, false, false, false, false, false, false, false, false, false, false, false, false, false, false, false, false, false, false, false, false, false, false, false] _ _
                  try simp only [Act.put, List.setIfInBounds_toArray, List.set_cons_zero, List.set_cons_succ, List.getElem_toArray, List.getElem_cons_zero, List.getElem_cons_succ]
                  refine rest_take (i := 31) (v := _) all_wide (noDefers_of (by kernel_rfl)) rfl (by kernel_rfl) (by kernel_rfl) (by kernel_rfl) (fun _ _ _ h => h) (Or.inl ⟨by rfl, by intro w hSw; (obtain ⟨q0, q1, q2, q3, _⟩ := hSw); go_simp; first | done | with_reducible rfl⟩) hHeld ?_
                  change RestIn _ _ _ _ _ _ _ 28 #[true, true, true, true, true, true, true, true, true, true, true, true, true, true, true, true, true, true, true, true, true, true, true, true, true, true, true, true, true, true, true, true, false, false, false, false, false, false, false, false, false, false, false, false, false, false, false, false, false, false, false, false, false, false, false, false, false, false, false, false] _ _
                  try simp only [Act.put, List.setIfInBounds_toArray, List.set_cons_zero, List.set_cons_succ, List.getElem_toArray, List.getElem_cons_zero, List.getElem_cons_succ]
                  refine rest_take (i := 32) (v := _) all_wide (noDefers_of (by kernel_rfl)) rfl (by kernel_rfl) (by kernel_rfl) (by kernel_rfl) (fun _ _ _ h => h) (Or.inl ⟨by rfl, by intro w hSw; clear hSw; go_simp; first | done | with_reducible rfl⟩) hHeld ?_
                  change RestIn _ _ _ _ _ _ _ 27 #[true, true, true, true, true, true, true, true, true, true, true, true, true, true, true, true, true, true, true, true, true, true, true, true, true, true, true, true, true, true, true, true, true, false, false, false, false, false, false, false, false, false, false, false, false, false, false, false, false, false, false, false, false, false, false, false, false, false, false, false] _ _
                  try simp only [Act.put, List.setIfInBounds_toArray, List.set_cons_zero, List.set_cons_succ, List.getElem_toArray, List.getElem_cons_zero, List.getElem_cons_succ]
                  refine rest_take (i := 33) (v := _) all_wide (noDefers_of (by kernel_rfl)) rfl (by kernel_rfl) (by kernel_rfl) (by kernel_rfl) (fun _ _ _ h => h) (Or.inl ⟨by rfl, by intro w hSw; clear hSw; go_simp; first | done | with_reducible rfl⟩) hHeld ?_
                  change RestIn _ _ _ _ _ _ _ 26 #[true, true, true, true, true, true, true, true, true, true, true, true, true, true, true, true, true, true, true, true, true, true, true, true, true, true, true, true, true, true, true, true, true, true, false, false, false, false, false, false, false, false, false, false, false, false, false, false, false, false, false, false, false, false, false, false, false, false, false, false] _ _
                  try simp only [Act.put, List.setIfInBounds_toArray, List.set_cons_zero, List.set_cons_succ, List.getElem_toArray, List.getElem_cons_zero, List.getElem_cons_succ]
                  refine rest_take (i := 34) (v := _) all_wide (noDefers_of (by kernel_rfl)) rfl (by kernel_rfl) (by kernel_rfl) (by kernel_rfl) (fun _ _ _ h => h) (Or.inl ⟨by rfl, by intro w hSw; clear hSw; go_simp; first | done | with_reducible rfl⟩) hHeld ?_
                  change RestIn _ _ _ _ _ _ _ 25 #[true, true, true, true, true, true, true, true, true, true, true, true, true, true, true, true, true, true, true, true, true, true, true, true, true, true, true, true, true, true, true, true, true, true, true, false, false, false, false, false, false, false, false, false, false, false, false, false, false, false, false, false, false, false, false, false, false, false, false, false] _ _
                  try simp only [Act.put, List.setIfInBounds_toArray, List.set_cons_zero, List.set_cons_succ, List.getElem_toArray, List.getElem_cons_zero, List.getElem_cons_succ]
                  refine rest_take (i := 35) (v := _) all_wide (noDefers_of (by kernel_rfl)) rfl (by kernel_rfl) (by kernel_rfl) (by kernel_rfl) (fun _ _ _ h => h) (Or.inl ⟨by rfl, by intro w hSw; clear hSw; go_simp; first | done | with_reducible rfl⟩) hHeld ?_
                  change RestIn _ _ _ _ _ _ _ 24 #[true, true, true, true, true, true, true, true, true, true, true, true, true, true, true, true, true, true, true, true, true, true, true, true, true, true, true, true, true, true, true, true, true, true, true, true, false, false, false, false, false, false, false, false, false, false, false, false, false, false, false, false, false, false, false, false, false, false, false, false] _ _
                  try simp only [Act.put, List.setIfInBounds_toArray, List.set_cons_zero, List.set_cons_succ, List.getElem_toArray, List.getElem_cons_zero, List.getElem_cons_succ]
                  refine rest_take (i := 36) (v := _) all_wide (noDefers_of (by kernel_rfl)) rfl (by kernel_rfl) (by kernel_rfl) (by kernel_rfl) (fun _ _ _ h => h) (Or.inl ⟨by rfl, by intro w hSw; (obtain ⟨q0, q1, q2, q3, _⟩ := hSw); go_simp; first | done | with_reducible rfl⟩) hHeld ?_
                  change RestIn _ _ _ _ _ _ _ 23 #[true, true, true, true, true, true, true, true, true, true, true, true, true, true, true, true, true, true, true, true, true, true, true, true, true, true, true, true, true, true, true, true, true, true, true, true, true, false, false, false, false, false, false, false, false, false, false, false, false, false, false, false, false, false, false, false, false, false, false, false] _ _
                  try simp only [Act.put, List.setIfInBounds_toArray, List.set_cons_zero, List.set_cons_succ, List.getElem_toArray, List.getElem_cons_zero, List.getElem_cons_succ]
                  refine rest_take (i := 37) (v := _) all_wide (noDefers_of (by kernel_rfl)) rfl (by kernel_rfl) (by kernel_rfl) (by kernel_rfl) (fun _ _ _ h => h) (Or.inl ⟨by rfl, by intro w hSw; clear hSw; go_simp; first | done | with_reducible rfl⟩) hHeld ?_
                  change RestIn _ _ _ _ _ _ _ 22 #[true, true, true, true, true, true, true, true, true, true, true, true, true, true, true, true, true, true, true, true, true, true, true, true, true, true, true, true, true, true, true, true, true, true, true, true, true, true, false, false, false, false, false, false, false, false, false, false, false, false, false, false, false, false, false, false, false, false, false, false] _ _
                  try simp only [Act.put, List.setIfInBounds_toArray, List.set_cons_zero, List.set_cons_succ, List.getElem_toArray, List.getElem_cons_zero, List.getElem_cons_succ]
                  refine rest_take (i := 38) (v := _) all_wide (noDefers_of (by kernel_rfl)) rfl (by kernel_rfl) (by kernel_rfl) (by kernel_rfl) (fun _ _ _ h => h) (Or.inl ⟨by rfl, by intro w hSw; clear hSw; go_simp; first | done | with_reducible rfl⟩) hHeld ?_
                  change RestIn _ _ _ _ _ _ _ 21 #[true, true, true, true, true, true, true, true, true, true, true, true, true, true, true, true, true, true, true, true, true, true, true, true, true, true, true, true, true, true, true, true, true, true, true, true, true, true, true, false, false, false, false, false, false, false, false, false, false, false, false, false, false, false, false, false, false, false, false, false] _ _
                  try simp only [Act.put, List.setIfInBounds_toArray, List.set_cons_zero, List.set_cons_succ, List.getElem_toArray, List.getElem_cons_zero, List.getElem_cons_succ]
                  refine rest_take (i := 39) (v := _) all_wide (noDefers_of (by kernel_rfl)) rfl (by kernel_rfl) (by kernel_rfl) (by kernel_rfl) (fun _ _ _ h => h) (Or.inl ⟨by rfl, by intro w hSw; clear hSw; go_simp; first | done | with_reducible rfl⟩) hHeld ?_
                  change RestIn _ _ _ _ _ _ _ 20 #[true, true, true, true, true, true, true, true, true, true, true, true, true, true, true, true, true, true, true, true, true, true, true, true, true, true, true, true, true, true, true, true, true, true, true, true, true, true, true, true, false, false, false, false, false, false, false, false, false, false, false, false, false, false, false, false, false, false, false, false] _ _
                  try simp only [Act.put, List.setIfInBounds_toArray, List.set_cons_zero, List.set_cons_succ, List.getElem_toArray, List.getElem_cons_zero, List.getElem_cons_succ]
                  refine rest_take (i := 40) (v := _) all_wide (noDefers_of (by kernel_rfl)) rfl (by kernel_rfl) (by kernel_rfl) (by kernel_rfl) (fun _ _ _ h => h) (Or.inl ⟨by rfl, by intro w hSw; clear hSw; go_simp; first | done | with_reducible rfl⟩) hHeld ?_
                  change RestIn _ _ _ _ _ _ _ 19 #[true, true, true, true, true, true, true, true, true, true, true, true, true, true, true, true, true, true, true, true, true, true, true, true, true, true, true, true, true, true, true, true, true, true, true, true, true, true, true, true, true, false, false, false, false, false, false, false, false, false, false, false, false, false, false, false, false, false, false, false] _ _
                  try simp only [Act.put, List.setIfInBounds_toArray, List.set_cons_zero, List.set_cons_succ, List.getElem_toArray, List.getElem_cons_zero, List.getElem_cons_succ]
                  refine rest_take (i := 41) (v := _) all_wide (noDefers_of (by kernel_rfl)) rfl (by kernel_rfl) (by kernel_rfl) (by kernel_rfl) (fun _ _ _ h => h) (Or.inl ⟨by rfl, by intro w hSw; clear hSw; go_simp; first | done | with_reducible rfl⟩) hHeld ?_
                  change RestIn _ _ _ _ _ _ _ 18 #[true, true, true, true, true, true, true, true, true, true, true, true, true, true, true, true, true, true, true, true, true, true, true, true, true, true, true, true, true, true, true, true, true, true, true, true, true, true, true, true, true, true, false, false, false, false, false, false, false, false, false, false, false, false, false, false, false, false, false, false] _ _
                  try simp only [Act.put, List.setIfInBounds_toArray, List.set_cons_zero, List.set_cons_succ, List.getElem_toArray, List.getElem_cons_zero, List.getElem_cons_succ]
                  refine rest_take (i := 42) (v := _) all_wide (noDefers_of (by kernel_rfl)) rfl (by kernel_rfl) (by kernel_rfl) (by kernel_rfl) (fun _ _ _ h => h) (Or.inl ⟨by rfl, by intro w hSw; clear hSw; go_simp; first | done | with_reducible rfl⟩) hHeld ?_
                  change RestIn _ _ _ _ _ _ _ 17 #[true, true, true, true, true, true, true, true, true, true, true, true, true, true, true, true, true, true, true, true, true, true, true, true, true, true, true, true, true, true, true, true, true, true, true, true, true, true, true, true, true, true, true, false, false, false, false, false, false, false, false, false, false, false, false, false, false, false, false, false] _ _
                  try simp only [Act.put, List.setIfInBounds_toArray, List.set_cons_zero, List.set_cons_succ, List.getElem_toArray, List.getElem_cons_zero, List.getElem_cons_succ]
                  refine rest_take (i := 43) (v := _) all_wide (noDefers_of (by kernel_rfl)) rfl (by kernel_rfl) (by kernel_rfl) (by kernel_rfl) (fun _ _ _ h => h) (Or.inl ⟨by rfl, by intro w hSw; clear hSw; go_simp; first | done | with_reducible rfl⟩) hHeld ?_
                  change RestIn _ _ _ _ _ _ _ 16 #[true, true, true, true, true, true, true, true, true, true, true, true, true, true, true, true, true, true, true, true, true, true, true, true, true, true, true, true, true, true, true, true, true, true, true, true, true, true, true, true, true, true, true, true, false, false, false, false, false, false, false, false, false, false, false, false, false, false, false, false] _ _
                  try simp only [Act.put, List.setIfInBounds_toArray, List.set_cons_zero, List.set_cons_succ, List.getElem_toArray, List.getElem_cons_zero, List.getElem_cons_succ]
                  refine rest_take (i := 44) (v := undef) all_wide (noDefers_of (by kernel_rfl)) rfl (by kernel_rfl) (by kernel_rfl) (by kernel_rfl) (fun _ _ _ h => h) (Or.inr ⟨by rfl, rfl⟩) hHeld ?_
                  change RestIn _ _ _ _ _ _ _ 15 #[true, true, true, true, true, true, true, true, true, true, true, true, true, true, true, true, true, true, true, true, true, true, true, true, true, true, true, true, true, true, true, true, true, true, true, true, true, true, true, true, true, true, true, true, true, false, false, false, false, false, false, false, false, false, false, false, false, false, false, false] _ _
                  try simp only [Act.put, List.setIfInBounds_toArray, List.set_cons_zero, List.set_cons_succ, List.getElem_toArray, List.getElem_cons_zero, List.getElem_cons_succ]
                  refine rest_take (i := 45) (v := undef) all_wide (noDefers_of (by kernel_rfl)) rfl (by kernel_rfl) (by kernel_rfl) (by kernel_rfl) (fun _ _ _ h => h) (Or.inr ⟨by rfl, rfl⟩) hHeld ?_
                  change RestIn _ _ _ _ _ _ _ 14 #[true, true, true, true, true, true, true, true, true, true, true, true, true, true, true, true, true, true, true, true, true, true, true, true, true, true, true, true, true, true, true, true, true, true, true, true, true, true, true, true, true, true, true, true, true, true, false, false, false, false, false, false, false, false, false, false, false, false, false, false] _ _
                  try simp only [Act.put, List.setIfInBounds_toArray, List.set_cons_zero, List.set_cons_succ, List.getElem_toArray, List.getElem_cons_zero, List.getElem_cons_succ]
                  refine rest_take (i := 46) (v := undef) all_wide (noDefers_of (by kernel_rfl)) rfl (by kernel_rfl) (by kernel_rfl) (by kernel_rfl) (fun _ _ _ h => h) (Or.inr ⟨by rfl, rfl⟩) hHeld ?_
                  change RestIn _ _ _ _ _ _ _ 13 #[true, true, true, true, true, true, true, true, true, true, true, true, true, true, true, true, true, true, true, true, true, true, true, true, true, true, true, true, true, true, true, true, true, true, true, true, true, true, true, true, true, true, true, true, true, true, true, false, false, false, false, false, false, false, false, false, false, false, false, false] _ _
                  try simp only [Act.put, List.setIfInBounds_toArray, List.set_cons_zero, List.set_cons_succ, List.getElem_toArray, List.getElem_cons_zero, List.getElem_cons_succ]
                  refine rest_take (i := 47) (v := undef) all_wide (noDefers_of (by kernel_rfl)) rfl (by kernel_rfl) (by kernel_rfl) (by kernel_rfl) (fun _ _ _ h => h) (Or.inr ⟨by rfl, rfl⟩) hHeld ?_
                  change RestIn _ _ _ _ _ _ _ 12 #[true, true, true, true, true, true, true, true, true, true, true, true, true, true, true, true, true, true, true, true, true, true, true, true, true, true, true, true, true, true, true, true, true, true, true, true, true, true, true, true, true, true, true, true, true, true, true, true, false, false, false, false, false, false, false, false, false, false, false, false] _ _
                  try simp only [Act.put, List.setIfInBounds_toArray, List.set_cons_zero, List.set_cons_succ, List.getElem_toArray, List.getElem_cons_zero, List.getElem_cons_succ]
                  refine rest_take (i := 48) (v := undef) all_wide (noDefers_of (by kernel_rfl)) rfl (by kernel_rfl) (by kernel_rfl) (by kernel_rfl) (fun _ _ _ h => h) (Or.inr ⟨by rfl, rfl⟩) hHeld ?_
                  change RestIn _ _ _ _ _ _ _ 11 #[true, true, true, true, true, true, true, true, true, true, true, true, true, true, true, true, true, true, true, true, true, true, true, true, true, true, true, true, true, true, true, true, true, true, true, true, true, true, true, true, true, true, true, true, true, true, true, true, true, false, false, false, false, false, false, false, false, false, false, false] _ _
                  try simp only [Act.put, List.setIfInBounds_toArray, List.set_cons_zero, List.set_cons_succ, List.getElem_toArray, List.getElem_cons_zero, List.getElem_cons_succ]
                  refine rest_take (i := 49) (v := undef) all_wide (noDefers_of (by kernel_rfl)) rfl (by kernel_rfl) (by kernel_rfl) (by kernel_rfl) (fun _ _ _ h => h) (Or.inr ⟨by rfl, rfl⟩) hHeld ?_
                  change RestIn _ _ _ _ _ _ _ 10 #[true, true, true, true, true, true, true, true, true, true, true, true, true, true, true, true, true, true, true, true, true, true, true, true, true, true, true, true, true, true, true, true, true, true, true, true, true, true, true, true, true, true, true, true, true, true, true, true, true, true, false, false, false, false, false, false, false, false, false, false] _ _
                  try simp only [Act.put, List.setIfInBounds_toArray, List.set_cons_zero, List.set_cons_succ, List.getElem_toArray, List.getElem_cons_zero, List.getElem_cons_succ]
                  refine rest_take (i := 50) (v := undef) all_wide (noDefers_of (by kernel_rfl)) rfl (by kernel_rfl) (by kernel_rfl) (by kernel_rfl) (fun _ _ _ h => h) (Or.inr ⟨by rfl, rfl⟩) hHeld ?_
                  change RestIn _ _ _ _ _ _ _ 9 #[true, true, true, true, true, true, true, true, true, true, true, true, true, true, true, true, true, true, true, true, true, true, true, true, true, true, true, true, true, true, true, true, true, true, true, true, true, true, true, true, true, true, true, true, true, true, true, true, true, true, true, false, false, false, false, false, false, false, false, false] _ _
                  try simp only [Act.put, List.setIfInBounds_toArray, List.set_cons_zero, List.set_cons_succ, List.getElem_toArray, List.getElem_cons_zero, List.getElem_cons_succ]
                  refine rest_take (i := 51) (v := undef) all_wide (noDefers_of (by kernel_rfl)) rfl (by kernel_rfl) (by kernel_rfl) (by kernel_rfl) (fun _ _ _ h => h) (Or.inr ⟨by rfl, rfl⟩) hHeld ?_
                  change RestIn _ _ _ _ _ _ _ 8 #[true, true, true, true, true, true, true, true, true, true, true, true, true, true, true, true, true, true, true, true, true, true, true, true, true, true, true, true, true, true, true, true, true, true, true, true, true, true, true, true, true, true, true, true, true, true, true, true, true, true, true, true, false, false, false, false, false, false, false, false] _ _
                  try simp only [Act.put, List.setIfInBounds_toArray, List.set_cons_zero, List.set_cons_succ, List.getElem_toArray, List.getElem_cons_zero, List.getElem_cons_succ]
                  refine rest_take (i := 52) (v := undef) all_wide (noDefers_of (by kernel_rfl)) rfl (by kernel_rfl) (by kernel_rfl) (by kernel_rfl) (fun _ _ _ h => h) (Or.inr ⟨by rfl, rfl⟩) hHeld ?_
                  change RestIn _ _ _ _ _ _ _ 7 #[true, true, true, true, true, true, true, true, true, true, true, true, true, true, true, true, true, true, true, true, true, true, true, true, true, true, true, true, true, true, true, true, true, true, true, true, true, true, true, true, true, true, true, true, true, true, true, true, true, true, true, true, true, false, false, false, false, false, false, false] _ _
                  try simp only [Act.put, List.setIfInBounds_toArray, List.set_cons_zero, List.set_cons_succ, List.getElem_toArray, List.getElem_cons_zero, List.getElem_cons_succ]
                  refine rest_take (i := 53) (v := undef) all_wide (noDefers_of (by kernel_rfl)) rfl (by kernel_rfl) (by kernel_rfl) (by kernel_rfl) (fun _ _ _ h => h) (Or.inr ⟨by rfl, rfl⟩) hHeld ?_
                  change RestIn _ _ _ _ _ _ _ 6 #[true, true, true, true, true, true, true, true, true, true, true, true, true, true, true, true, true, true, true, true, true, true, true, true, true, true, true, true, true, true, true, true, true, true, true, true, true, true, true, true, true, true, true, true, true, true, true, true, true, true, true, true, true, true, false, false, false, false, false, false] _ _
                  try simp only [Act.put, List.setIfInBounds_toArray, List.set_cons_zero, List.set_cons_succ, List.getElem_toArray, List.getElem_cons_zero, List.getElem_cons_succ]
                  refine rest_take (i := 54) (v := undef) all_wide (noDefers_of (by kernel_rfl)) rfl (by kernel_rfl) (by kernel_rfl) (by kernel_rfl) (fun _ _ _ h => h) (Or.inr ⟨by rfl, rfl⟩) hHeld ?_
                  change RestIn _ _ _ _ _ _ _ 5 #[true, true, true, true, true, true, true, true, true, true, true, true, true, true, true, true, true, true, true, true, true, true, true, true, true, true, true, true, true, true, true, true, true, true, true, true, true, true, true, true, true, true, true, true, true, true, true, true, true, true, true, true, true, true, true, false, false, false, false, false] _ _
                  try simp only [Act.put, List.setIfInBounds_toArray, List.set_cons_zero, List.set_cons_succ, List.getElem_toArray, List.getElem_cons_zero, List.getElem_cons_succ]
                  refine rest_take (i := 55) (v := undef) all_wide (noDefers_of (by kernel_rfl)) rfl (by kernel_rfl) (by kernel_rfl) (by kernel_rfl) (fun _ _ _ h => h) (Or.inr ⟨by rfl, rfl⟩) hHeld ?_
                  change RestIn _ _ _ _ _ _ _ 4 #[true, true, true, true, true, true, true, true, true, true, true, true, true, true, true, true, true, true, true, true, true, true, true, true, true, true, true, true, true, true, true, true, true, true, true, true, true, true, true, true, true, true, true, true, true, true, true, true, true, true, true, true, true, true, true, true, false, false, false, false] _ _
                  try simp only [Act.put, List.setIfInBounds_toArray, List.set_cons_zero, List.set_cons_succ, List.getElem_toArray, List.getElem_cons_zero, List.getElem_cons_succ]
                  refine rest_take (i := 56) (v := undef) all_wide (noDefers_of (by kernel_rfl)) rfl (by kernel_rfl) (by kernel_rfl) (by kernel_rfl) (fun _ _ _ h => h) (Or.inr ⟨by rfl, rfl⟩) hHeld ?_
                  change RestIn _ _ _ _ _ _ _ 3 #[true, true, true, true, true, true, true, true, true, true, true, true, true, true, true, true, true, true, true, true, true, true, true, true, true, true, true, true, true, true, true, true, true, true, true, true, true, true, true, true, true, true, true, true, true, true, true, true, true, true, true, true, true, true, true, true, true, false, false, false] _ _
                  try simp only [Act.put, List.setIfInBounds_toArray, List.set_cons_zero, List.set_cons_succ, List.getElem_toArray, List.getElem_cons_zero, List.getElem_cons_succ]
                  refine rest_take (i := 57) (v := undef) all_wide (noDefers_of (by kernel_rfl)) rfl (by kernel_rfl) (by kernel_rfl) (by kernel_rfl) (fun _ _ _ h => h) (Or.inr ⟨by rfl, rfl⟩) hHeld ?_
                  change RestIn _ _ _ _ _ _ _ 2 #[true, true, true, true, true, true, true, true, true, true, true, true, true, true, true, true, true, true, true, true, true, true, true, true, true, true, true, true, true, true, true, true, true, true, true, true, true, true, true, true, true, true, true, true, true, true, true, true, true, true, true, true, true, true, true, true, true, true, false, false] _ _
                  try simp only [Act.put, List.setIfInBounds_toArray, List.set_cons_zero, List.set_cons_succ, List.getElem_toArray, List.getElem_cons_zero, List.getElem_cons_succ]
                  refine rest_take (i := 58) (v := _) all_wide (noDefers_of (by kernel_rfl)) rfl (by kernel_rfl) (by kernel_rfl) (by kernel_rfl) (fun _ _ _ h => h) (Or.inl ⟨by rfl, by intro w hSw; clear hSw; go_simp; first | done | with_reducible rfl⟩) hHeld ?_
                  change RestIn _ _ _ _ _ _ _ 1 #[true, true, true, true, true, true, true, true, true, true, true, true, true, true, true, true, true, true, true, true, true, true, true, true, true, true, true, true, true, true, true, true, true, true, true, true, true, true, true, true, true, true, true, true, true, true, true, true, true, true, true, true, true, true, true, true, true, true, true, false] _ _
                  try simp only [Act.put, List.setIfInBounds_toArray, List.set_cons_zero, List.set_cons_succ, List.getElem_toArray, List.getElem_cons_zero, List.getElem_cons_succ]
                  refine rest_take (i := 59) (v := _) all_wide (noDefers_of (by kernel_rfl)) rfl (by kernel_rfl) (by kernel_rfl) (by kernel_rfl) (fun _ _ _ h => h) (Or.inl ⟨by rfl, by intro w hSw; clear hSw; go_simp; first | done | with_reducible rfl⟩) hHeld ?_
                  change RestIn _ _ _ _ _ _ _ 0 #[true, true, true, true, true, true, true, true, true, true, true, true, true, true, true, true, true, true, true, true, true, true, true, true, true, true, true, true, true, true, true, true, true, true, true, true, true, true, true, true, true, true, true, true, true, true, true, true, true, true, true, true, true, true, true, true, true, true, true, true] _ _
                  try simp only [Act.put, List.setIfInBounds_toArray, List.set_cons_zero, List.set_cons_succ, List.getElem_toArray, List.getElem_cons_zero, List.getElem_cons_succ]
                  refine rest_done (by kernel_rfl) ?_
                  have hN := hHeld.2.2.2.2
                  clear hHeld e0 e1 f0 f1 hLast
                  go_wp2
                  go_roundw
                  case rel => exact ⟨k + 1, by omega, by go_num, hWb.trans (hN.mono hWb.size)⟩
                  case measure => simp [intOf] <;> omega
              case neg =>
                as_aux_lemma =>
                  have hkmJ : (m : Int) + 1 - 1 = (m : Int) := by omega
                  have hkmK : ((k : Int) == (m : Int)) = false := beq_eq_false_iff_ne.2 (by omega)
                  have hkmK' : (k == m) = false := beq_eq_false_iff_ne.2 hkl
                  have w0' : IntKind.i64.wrap ((m : Int) + 1 - 1) = (m : Int) := by rw [IntWalk.i64_in _ (by omega)]; omega
                  have hpw : p2 - p1 + 1 < need := by
                    have h1 := HP.out
                    rw [HWM.out, List.getElem?_append_left (by rw [HM.out]; omega)] at h1
                    exact HP1.out _ (List.mem_of_getElem? h1)
                  have w3' : IntKind.i64.wrap (p2 - p1) = p2 - p1 := IntWalk.i64_in _ (by omega)
                  have w4' : IntKind.i64.wrap (p2 - p1 + 1) = p2 - p1 + 1 := IntWalk.i64_in _ (by omega)
                  have d3 : decide ((need : Int) ≤ p2 - p1 + 1) = false := decide_eq_false (by omega)
                  go_upto_region 26 with fail
                  refine name_world (motive := fun W => Code.wp _ _ _ _ W) _ ?_
                  intro W0 hW
                  have hWc := hW.cell
                  have hWz := hW.size
                  have hWb := hW.below (hBk)
                  have e0 := cell_after (hW.below (Below.refl _ _)) e0
                  have e1 := cell_after (hW.below (Below.refl _ _)) e1
                  have f0 := cell_after (hW.below (Below.refl _ _)) f0
                  have f1 := cell_after (hW.below (Below.refl _ _)) f1
                  clear hW hWc hWz hBk
                  refine (wpIn_wide (n := 9)).1 ?_
                  have hLast := trivial
                  refine region_rest (S := (fun w' => w'.cell? ⟨q, o + i * 2, none⟩ = some (.int .i64 (s : Int)) ∧ w'.cell? ⟨q, o + i * 2 + 1, none⟩ = some (.int .i64 (r : Int)) ∧ w'.cell? ⟨q5, o5 + k * 2, none⟩ = some (.int .i64 p1) ∧ w'.cell? ⟨q5, o5 + k * 2 + 1, none⟩ = some (.int .i64 p2) ∧ Below W0.heap.size W0 w')) hmx ?_ (fun hHeld => ?_)
                  · exact ⟨e0, e1, f0, f1, (Below.refl W0.heap.size W0).drew⟩
                  change RestIn _ _ _ _ _ _ _ 60 #[false, false, false, false, false, false, false, false, false, false, false, false, false, false, false, false, false, false, false, false, false, false, false, false, false, false, false, false, false, false, false, false, false, false, false, false, false, false, false, false, false, false, false, false, false, false, false, false, false, false, false, false, false, false, false, false, false, false, false, false] _ (World.drew _)
                  refine rest_take (i := 0) (v := _) all_wide (noDefers_of (by kernel_rfl)) rfl (by kernel_rfl) (by kernel_rfl) (by kernel_rfl) (fun _ _ _ h => h) (Or.inl ⟨by rfl, by intro w hSw; clear hSw; go_simp; first | done | with_reducible rfl⟩) hHeld ?_
                  change RestIn _ _ _ _ _ _ _ 59 #[true, false, false, false, false, false, false, false, false, false, false, false, false, false, false, false, false, false, false, false, false, false, false, false, false, false, false, false, false, false, false, false, false, false, false, false, false, false, false, false, false, false, false, false, false, false, false, false, false, false, false, false, false, false, false, false, false, false, false, false] _ _
                  try simp only [Act.put, List.setIfInBounds_toArray, List.set_cons_zero, List.set_cons_succ, List.getElem_toArray, List.getElem_cons_zero, List.getElem_cons_succ]
                  refine rest_take (i := 1) (v := _) all_wide (noDefers_of (by kernel_rfl)) rfl (by kernel_rfl) (by kernel_rfl) (by kernel_rfl) (fun _ _ _ h => h) (Or.inl ⟨by rfl, by intro w hSw; clear hSw; go_simp; first | done | with_reducible rfl⟩) hHeld ?_
                  change RestIn _ _ _ _ _ _ _ 58 #[true, true, false, false, false, false, false, false, false, false, false, false, false, false, false, false, false, false, false, false, false, false, false, false, false, false, false, false, false, false, false, false, false, false, false, false, false, false, false, false, false, false, false, false, false, false, false, false, false, false, false, false, false, false, false, false, false, false, false, false] _ _
                  try simp only [Act.put, List.setIfInBounds_toArray, List.set_cons_zero, List.set_cons_succ, List.getElem_toArray, List.getElem_cons_zero, List.getElem_cons_succ]
                  refine rest_take (i := 2) (v := undef) all_wide (noDefers_of (by kernel_rfl)) rfl (by kernel_rfl) (by kernel_rfl) (by kernel_rfl) (fun _ _ _ h => h) (Or.inr ⟨by rfl, rfl⟩) hHeld ?_
                  change RestIn _ _ _ _ _ _ _ 57 #[true, true, true, false, false, false, false, false, false, false, false, false, false, false, false, false, false, false, false, false, false, false, false, false, false, false, false, false, false, false, false, false, false, false, false, false, false, false, false, false, false, false, false, false, false, false, false, false, false, false, false, false, false, false, false, false, false, false, false, false] _ _
                  try simp only [Act.put, List.setIfInBounds_toArray, List.set_cons_zero, List.set_cons_succ, List.getElem_toArray, List.getElem_cons_zero, List.getElem_cons_succ]
                  refine rest_take (i := 3) (v := undef) all_wide (noDefers_of (by kernel_rfl)) rfl (by kernel_rfl) (by kernel_rfl) (by kernel_rfl) (fun _ _ _ h => h) (Or.inr ⟨by rfl, rfl⟩) hHeld ?_
                  change RestIn _ _ _ _ _ _ _ 56 #[true, true, true, true, false, false, false, false, false, false, false, false, false, false, false, false, false, false, false, false, false, false, false, false, false, false, false, false, false, false, false, false, false, false, false, false, false, false, false, false, false, false, false, false, false, false, false, false, false, false, false, false, false, false, false, false, false, false, false, false] _ _
                  try simp only [Act.put, List.setIfInBounds_toArray, List.set_cons_zero, List.set_cons_succ, List.getElem_toArray, List.getElem_cons_zero, List.getElem_cons_succ]
                  refine rest_take (i := 4) (v := undef) all_wide (noDefers_of (by kernel_rfl)) rfl (by kernel_rfl) (by kernel_rfl) (by kernel_rfl) (fun _ _ _ h => h) (Or.inr ⟨by rfl, rfl⟩) hHeld ?_
                  change RestIn _ _ _ _ _ _ _ 55 #[true, true, true, true, true, false, false, false, false, false, false, false, false, false, false, false, false, false, false, false, false, false, false, false, false, false, false, false, false, false, false, false, false, false, false, false, false, false, false, false, false, false, false, false, false, false, false, false, false, false, false, false, false, false, false, false, false, false, false, false] _ _
                  try simp only [Act.put, List.setIfInBounds_toArray, List.set_cons_zero, List.set_cons_succ, List.getElem_toArray, List.getElem_cons_zero, List.getElem_cons_succ]
                  refine rest_take (i := 5) (v := undef) all_wide (noDefers_of (by kernel_rfl)) rfl (by kernel_rfl) (by kernel_rfl) (by kernel_rfl) (fun _ _ _ h => h) (Or.inr ⟨by rfl, rfl⟩) hHeld ?_
                  change RestIn _ _ _ _ _ _ _ 54 #[true, true, true, true, true, true, false, false, false, false, false, false, false, false, false, false, false, false, false, false, false, false, false, false, false, false, false, false, false, false, false, false, false, false, false, false, false, false, false, false, false, false, false, false, false, false, false, false, false, false, false, false, false, false, false, false, false, false, false, false] _ _
                  try simp only [Act.put, List.setIfInBounds_toArray, List.set_cons_zero, List.set_cons_succ, List.getElem_toArray, List.getElem_cons_zero, List.getElem_cons_succ]
                  refine rest_take (i := 6) (v := undef) all_wide (noDefers_of (by kernel_rfl)) rfl (by kernel_rfl) (by kernel_rfl) (by kernel_rfl) (fun _ _ _ h => h) (Or.inr ⟨by rfl, rfl⟩) hHeld ?_
                  change RestIn _ _ _ _ _ _ _ 53 #[true, true, true, true, true, true, true, false, false, false, false, false, false, false, false, false, false, false, false, false, false, false, false, false, false, false, false, false, false, false, false, false, false, false, false, false, false, false, false, false, false, false, false, false, false, false, false, false, false, false, false, false, false, false, false, false, false, false, false, false] _ _
                  try simp only [Act.put, List.setIfInBounds_toArray, List.set_cons_zero, List.set_cons_succ, List.getElem_toArray, List.getElem_cons_zero, List.getElem_cons_succ]
                  refine rest_take (i := 7) (v := undef) all_wide (noDefers_of (by kernel_rfl)) rfl (by kernel_rfl) (by kernel_rfl) (by kernel_rfl) (fun _ _ _ h => h) (Or.inr ⟨by rfl, rfl⟩) hHeld ?_
                  change RestIn _ _ _ _ _ _ _ 52 #[true, true, true, true, true, true, true, true, false, false, false, false, false, false, false, false, false, false, false, false, false, false, false, false, false, false, false, false, false, false, false, false, false, false, false, false, false, false, false, false, false, false, false, false, false, false, false, false, false, false, false, false, false, false, false, false, false, false, false, false] _ _
                  try simp only [Act.put, List.setIfInBounds_toArray, List.set_cons_zero, List.set_cons_succ, List.getElem_toArray, List.getElem_cons_zero, List.getElem_cons_succ]
                  refine rest_take (i := 8) (v := undef) all_wide (noDefers_of (by kernel_rfl)) rfl (by kernel_rfl) (by kernel_rfl) (by kernel_rfl) (fun _ _ _ h => h) (Or.inr ⟨by rfl, rfl⟩) hHeld ?_
                  change RestIn _ _ _ _ _ _ _ 51 #[true, true, true, true, true, true, true, true, true, false, false, false, false, false, false, false, false, false, false, false, false, false, false, false, false, false, false, false, false, false, false, false, false, false, false, false, false, false, false, false, false, false, false, false, false, false, false, false, false, false, false, false, false, false, false, false, false, false, false, false] _ _
                  try simp only [Act.put, List.setIfInBounds_toArray, List.set_cons_zero, List.set_cons_succ, List.getElem_toArray, List.getElem_cons_zero, List.getElem_cons_succ]
                  refine rest_take (i := 9) (v := undef) all_wide (noDefers_of (by kernel_rfl)) rfl (by kernel_rfl) (by kernel_rfl) (by kernel_rfl) (fun _ _ _ h => h) (Or.inr ⟨by rfl, rfl⟩) hHeld ?_
                  change RestIn _ _ _ _ _ _ _ 50 #[true, true, true, true, true, true, true, true, true, true, false, false, false, false, false, false, false, false, false, false, false, false, false, false, false, false, false, false, false, false, false, false, false, false, false, false, false, false, false, false, false, false, false, false, false, false, false, false, false, false, false, false, false, false, false, false, false, false, false, false] _ _
                  try simp only [Act.put, List.setIfInBounds_toArray, List.set_cons_zero, List.set_cons_succ, List.getElem_toArray, List.getElem_cons_zero, List.getElem_cons_succ]
                  refine rest_take (i := 10) (v := undef) all_wide (noDefers_of (by kernel_rfl)) rfl (by kernel_rfl) (by kernel_rfl) (by kernel_rfl) (fun _ _ _ h => h) (Or.inr ⟨by rfl, rfl⟩) hHeld ?_
                  change RestIn _ _ _ _ _ _ _ 49 #[true, true, true, true, true, true, true, true, true, true, true, false, false, false, false, false, false, false, false, false, false, false, false, false, false, false, false, false, false, false, false, false, false, false, false, false, false, false, false, false, false, false, false, false, false, false, false, false, false, false, false, false, false, false, false, false, false, false, false, false] _ _
                  try simp only [Act.put, List.setIfInBounds_toArray, List.set_cons_zero, List.set_cons_succ, List.getElem_toArray, List.getElem_cons_zero, List.getElem_cons_succ]
                  refine rest_take (i := 11) (v := undef) all_wide (noDefers_of (by kernel_rfl)) rfl (by kernel_rfl) (by kernel_rfl) (by kernel_rfl) (fun _ _ _ h => h) (Or.inr ⟨by rfl, rfl⟩) hHeld ?_
                  change RestIn _ _ _ _ _ _ _ 48 #[true, true, true, true, true, true, true, true, true, true, true, true, false, false, false, false, false, false, false, false, false, false, false, false, false, false, false, false, false, false, false, false, false, false, false, false, false, false, false, false, false, false, false, false, false, false, false, false, false, false, false, false, false, false, false, false, false, false, false, false] _ _
                  try simp only [Act.put, List.setIfInBounds_toArray, List.set_cons_zero, List.set_cons_succ, List.getElem_toArray, List.getElem_cons_zero, List.getElem_cons_succ]
                  refine rest_take (i := 12) (v := undef) all_wide (noDefers_of (by kernel_rfl)) rfl (by kernel_rfl) (by kernel_rfl) (by kernel_rfl) (fun _ _ _ h => h) (Or.inr ⟨by rfl, rfl⟩) hHeld ?_
                  change RestIn _ _ _ _ _ _ _ 47 #[true, true, true, true, true, true, true, true, true, true, true, true, true, false, false, false, false, false, false, false, false, false, false, false, false, false, false, false, false, false, false, false, false, false, false, false, false, false, false, false, false, false, false, false, false, false, false, false, false, false, false, false, false, false, false, false, false, false, false, false] _ _
                  try simp only [Act.put, List.setIfInBounds_toArray, List.set_cons_zero, List.set_cons_succ, List.getElem_toArray, List.getElem_cons_zero, List.getElem_cons_succ]
                  refine rest_take (i := 13) (v := undef) all_wide (noDefers_of (by kernel_rfl)) rfl (by kernel_rfl) (by kernel_rfl) (by kernel_rfl) (fun _ _ _ h => h) (Or.inr ⟨by rfl, rfl⟩) hHeld ?_
                  change RestIn _ _ _ _ _ _ _ 46 #[true, true, true, true, true, true, true, true, true, true, true, true, true, true, false, false, false, false, false, false, false, false, false, false, false, false, false, false, false, false, false, false, false, false, false, false, false, false, false, false, false, false, false, false, false, false, false, false, false, false, false, false, false, false, false, false, false, false, false, false] _ _
                  try simp only [Act.put, List.setIfInBounds_toArray, List.set_cons_zero, List.set_cons_succ, List.getElem_toArray, List.getElem_cons_zero, List.getElem_cons_succ]
                  refine rest_take (i := 14) (v := undef) all_wide (noDefers_of (by kernel_rfl)) rfl (by kernel_rfl) (by kernel_rfl) (by kernel_rfl) (fun _ _ _ h => h) (Or.inr ⟨by rfl, rfl⟩) hHeld ?_
                  change RestIn _ _ _ _ _ _ _ 45 #[true, true, true, true, true, true, true, true, true, true, true, true, true, true, true, false, false, false, false, false, false, false, false, false, false, false, false, false, false, false, false, false, false, false, false, false, false, false, false, false, false, false, false, false, false, false, false, false, false, false, false, false, false, false, false, false, false, false, false, false] _ _
                  try simp only [Act.put, List.setIfInBounds_toArray, List.set_cons_zero, List.set_cons_succ, List.getElem_toArray, List.getElem_cons_zero, List.getElem_cons_succ]
                  refine rest_take (i := 15) (v := undef) all_wide (noDefers_of (by kernel_rfl)) rfl (by kernel_rfl) (by kernel_rfl) (by kernel_rfl) (fun _ _ _ h => h) (Or.inr ⟨by rfl, rfl⟩) hHeld ?_
                  change RestIn _ _ _ _ _ _ _ 44 #[true, true, true, true, true, true, true, true, true, true, true, true, true, true, true, true, false, false, false, false, false, false, false, false, false, false, false, false, false, false, false, false, false, false, false, false, false, false, false, false, false, false, false, false, false, false, false, false, false, false, false, false, false, false, false, false, false, false, false, false] _ _
                  try simp only [Act.put, List.setIfInBounds_toArray, List.set_cons_zero, List.set_cons_succ, List.getElem_toArray, List.getElem_cons_zero, List.getElem_cons_succ]
                  refine rest_take (i := 16) (v := undef) all_wide (noDefers_of (by kernel_rfl)) rfl (by kernel_rfl) (by kernel_rfl) (by kernel_rfl) (fun _ _ _ h => h) (Or.inr ⟨by rfl, rfl⟩) hHeld ?_
                  change RestIn _ _ _ _ _ _ _ 43 #[true, true, true, true, true, true, true, true, true, true, true, true, true, true, true, true, true, false, false, false, false, false, false, false, false, false, false, false, false, false, false, false, false, false, false, false, false, false, false, false, false, false, false, false, false, false, false, false, false, false, false, false, false, false, false, false, false, false, false, false] _ _
                  try simp only [Act.put, List.setIfInBounds_toArray, List.set_cons_zero, List.set_cons_succ, List.getElem_toArray, List.getElem_cons_zero, List.getElem_cons_succ]
                  refine rest_take (i := 17) (v := undef) all_wide (noDefers_of (by kernel_rfl)) rfl (by kernel_rfl) (by kernel_rfl) (by kernel_rfl) (fun _ _ _ h => h) (Or.inr ⟨by rfl, rfl⟩) hHeld ?_
                  change RestIn _ _ _ _ _ _ _ 42 #[true, true, true, true, true, true, true, true, true, true, true, true, true, true, true, true, true, true, false, false, false, false, false, false, false, false, false, false, false, false, false, false, false, false, false, false, false, false, false, false, false, false, false, false, false, false, false, false, false, false, false, false, false, false, false, false, false, false, false, false] _ _
                  try simp only [Act.put, List.setIfInBounds_toArray, List.set_cons_zero, List.set_cons_succ, List.getElem_toArray, List.getElem_cons_zero, List.getElem_cons_succ]
                  refine rest_take (i := 18) (v := undef) all_wide (noDefers_of (by kernel_rfl)) rfl (by kernel_rfl) (by kernel_rfl) (by kernel_rfl) (fun _ _ _ h => h) (Or.inr ⟨by rfl, rfl⟩) hHeld ?_
                  change RestIn _ _ _ _ _ _ _ 41 #[true, true, true, true, true, true, true, true, true, true, true, true, true, true, true, true, true, true, true, false, false, false, false, false, false, false, false, false, false, false, false, false, false, false, false, false, false, false, false, false, false, false, false, false, false, false, false, false, false, false, false, false, false, false, false, false, false, false, false, false] _ _
                  try simp only [Act.put, List.setIfInBounds_toArray, List.set_cons_zero, List.set_cons_succ, List.getElem_toArray, List.getElem_cons_zero, List.getElem_cons_succ]
                  refine rest_take (i := 19) (v := undef) all_wide (noDefers_of (by kernel_rfl)) rfl (by kernel_rfl) (by kernel_rfl) (by kernel_rfl) (fun _ _ _ h => h) (Or.inr ⟨by rfl, rfl⟩) hHeld ?_
                  change RestIn _ _ _ _ _ _ _ 40 #[true, true, true, true, true, true, true, true, true, true, true, true, true, true, true, true, true, true, true, true, false, false, false, false, false, false, false, false, false, false, false, false, false, false, false, false, false, false, false, false, false, false, false, false, false, false, false, false, false, false, false, false, false, false, false, false, false, false, false, false] _ _
                  try simp only [Act.put, List.setIfInBounds_toArray, List.set_cons_zero, List.set_cons_succ, List.getElem_toArray, List.getElem_cons_zero, List.getElem_cons_succ]
                  refine rest_take (i := 20) (v := undef) all_wide (noDefers_of (by kernel_rfl)) rfl (by kernel_rfl) (by kernel_rfl) (by kernel_rfl) (fun _ _ _ h => h) (Or.inr ⟨by rfl, rfl⟩) hHeld ?_
                  change RestIn _ _ _ _ _ _ _ 39 #[true, true, true, true, true, true, true, true, true, true, true, true, true, true, true, true, true, true, true, true, true, false, false, false, false, false, false, false, false, false, false, false, false, false, false, false, false, false, false, false, false, false, false, false, false, false, false, false, false, false, false, false, false, false, false, false, false, false, false, false] _ _
                  try simp only [Act.put, List.setIfInBounds_toArray, List.set_cons_zero, List.set_cons_succ, List.getElem_toArray, List.getElem_cons_zero, List.getElem_cons_succ]
                  refine rest_take (i := 21) (v := undef) all_wide (noDefers_of (by kernel_rfl)) rfl (by kernel_rfl) (by kernel_rfl) (by kernel_rfl) (fun _ _ _ h => h) (Or.inr ⟨by rfl, rfl⟩) hHeld ?_
                  change RestIn _ _ _ _ _ _ _ 38 #[true, true, true, true, true, true, true, true, true, true, true, true, true, true, true, true, true, true, true, true, true, true, false, false, false, false, false, false, false, false, false, false, false, false, false, false, false, false, false, false, false, false, false, false, false, false, false, false, false, false, false, false, false, false, false, false, false, false, false, false] _ _
                  try simp only [Act.put, List.setIfInBounds_toArray, List.set_cons_zero, List.set_cons_succ, List.getElem_toArray, List.getElem_cons_zero, List.getElem_cons_succ]
                  refine rest_take (i := 22) (v := undef) all_wide (noDefers_of (by kernel_rfl)) rfl (by kernel_rfl) (by kernel_rfl) (by kernel_rfl) (fun _ _ _ h => h) (Or.inr ⟨by rfl, rfl⟩) hHeld ?_
                  change RestIn _ _ _ _ _ _ _ 37 #[true, true, true, true, true, true, true, true, true, true, true, true, true, true, true, true, true, true, true, true, true, true, true, false, false, false, false, false, false, false, false, false, false, false, false, false, false, false, false, false, false, false, false, false, false, false, false, false, false, false, false, false, false, false, false, false, false, false, false, false] _ _
                  try simp only [Act.put, List.setIfInBounds_toArray, List.set_cons_zero, List.set_cons_succ, List.getElem_toArray, List.getElem_cons_zero, List.getElem_cons_succ]
                  refine rest_take (i := 23) (v := undef) all_wide (noDefers_of (by kernel_rfl)) rfl (by kernel_rfl) (by kernel_rfl) (by kernel_rfl) (fun _ _ _ h => h) (Or.inr ⟨by rfl, rfl⟩) hHeld ?_
                  change RestIn _ _ _ _ _ _ _ 36 #[true, true, true, true, true, true, true, true, true, true, true, true, true, true, true, true, true, true, true, true, true, true, true, true, false, false, false, false, false, false, false, false, false, false, false, false, false, false, false, false, false, false, false, false, false, false, false, false, false, false, false, false, false, false, false, false, false, false, false, false] _ _
                  try simp only [Act.put, List.setIfInBounds_toArray, List.set_cons_zero, List.set_cons_succ, List.getElem_toArray, List.getElem_cons_zero, List.getElem_cons_succ]
                  refine rest_take (i := 24) (v := undef) all_wide (noDefers_of (by kernel_rfl)) rfl (by kernel_rfl) (by kernel_rfl) (by kernel_rfl) (fun _ _ _ h => h) (Or.inr ⟨by rfl, rfl⟩) hHeld ?_
                  change RestIn _ _ _ _ _ _ _ 35 #[true, true, true, true, true, true, true, true, true, true, true, true, true, true, true, true, true, true, true, true, true, true, true, true, true, false, false, false, false, false, false, false, false, false, false, false, false, false, false, false, false, false, false, false, false, false, false, false, false, false, false, false, false, false, false, false, false, false, false, false] _ _
                  try simp only [Act.put, List.setIfInBounds_toArray, List.set_cons_zero, List.set_cons_succ, List.getElem_toArray, List.getElem_cons_zero, List.getElem_cons_succ]
                  refine rest_take (i := 25) (v := undef) all_wide (noDefers_of (by kernel_rfl)) rfl (by kernel_rfl) (by kernel_rfl) (by kernel_rfl) (fun _ _ _ h => h) (Or.inr ⟨by rfl, rfl⟩) hHeld ?_
                  change RestIn _ _ _ _ _ _ _ 34 #[true, true, true, true, true, true, true, true, true, true, true, true, true, true, true, true, true, true, true, true, true, true, true, true, true, true, false, false, false, false, false, false, false, false, false, false, false, false, false, false, false, false, false, false, false, false, false, false, false, false, false, false, false, false, false, false, false, false, false, false] _ _
                  try simp only [Act.put, List.setIfInBounds_toArray, List.set_cons_zero, List.set_cons_succ, List.getElem_toArray, List.getElem_cons_zero, List.getElem_cons_succ]
                  refine rest_take (i := 26) (v := undef) all_wide (noDefers_of (by kernel_rfl)) rfl (by kernel_rfl) (by kernel_rfl) (by kernel_rfl) (fun _ _ _ h => h) (Or.inr ⟨by rfl, rfl⟩) hHeld ?_
                  change RestIn _ _ _ _ _ _ _ 33 #[true, true, true, true, true, true, true, true, true, true, true, true, true, true, true, true, true, true, true, true, true, true, true, true, true, true, true, false, false, false, false, false, false, false, false, false, false, false, false, false, false, false, false, false, false, false, false, false, false, false, false, false, false, false, false, false, false, false, false, false] _ _
                  try simp only [Act.put, List.setIfInBounds_toArray, List.set_cons_zero, List.set_cons_succ, List.getElem_toArray, List.getElem_cons_zero, List.getElem_cons_succ]
                  refine rest_take (i := 27) (v := undef) all_wide (noDefers_of (by kernel_rfl)) rfl (by kernel_rfl) (by kernel_rfl) (by kernel_rfl) (fun _ _ _ h => h) (Or.inr ⟨by rfl, rfl⟩) hHeld ?_
                  change RestIn _ _ _ _ _ _ _ 32 #[true, true, true, true, true, true, true, true, true, true, true, true, true, true, true, true, true, true, true, true, true, true, true, true, true, true, true, true, false, false, false, false, false, false, false, false, false, false, false, false, false, false, false, false, false, false, false, false, false, false, false, false, false, false, false, false, false, false, false, false] _ _
                  try simp only [Act.put, List.setIfInBounds_toArray, List.set_cons_zero, List.set_cons_succ, List.getElem_toArray, List.getElem_cons_zero, List.getElem_cons_succ]
                  refine rest_take (i := 28) (v := undef) all_wide (noDefers_of (by kernel_rfl)) rfl (by kernel_rfl) (by kernel_rfl) (by kernel_rfl) (fun _ _ _ h => h) (Or.inr ⟨by rfl, rfl⟩) hHeld ?_
                  change RestIn _ _ _ _ _ _ _ 31 #[true, true, true, true, true, true, true, true, true, true, true, true, true, true, true, true, true, true, true, true, true, true, true, true, true, true, true, true, true, false, false, false, false, false, false, false, false, false, false, false, false, false, false, false, false, false, false, false, false, false, false, false, false, false, false, false, false, false, false, false] _ _
                  try simp only [Act.put, List.setIfInBounds_toArray, List.set_cons_zero, List.set_cons_succ, List.getElem_toArray, List.getElem_cons_zero, List.getElem_cons_succ]
                  refine rest_take (i := 29) (v := undef) all_wide (noDefers_of (by kernel_rfl)) rfl (by kernel_rfl) (by kernel_rfl) (by kernel_rfl) (fun _ _ _ h => h) (Or.inr ⟨by rfl, rfl⟩) hHeld ?_
                  change RestIn _ _ _ _ _ _ _ 30 #[true, true, true, true, true, true, true, true, true, true, true, true, true, true, true, true, true, true, true, true, true, true, true, true, true, true, true, true, true, true, false, false, false, false, false, false, false, false, false, false, false, false, false, false, false, false, false, false, false, false, false, false, false, false, false, false, false, false, false, false] _ _
                  try simp only [Act.put, List.setIfInBounds_toArray, List.set_cons_zero, List.set_cons_succ, List.getElem_toArray, List.getElem_cons_zero, List.getElem_cons_succ]
                  refine rest_take (i := 30) (v := undef) all_wide (noDefers_of (by kernel_rfl)) rfl (by kernel_rfl) (by kernel_rfl) (by kernel_rfl) (fun _ _ _ h => h) (Or.inr ⟨by rfl, rfl⟩) hHeld ?_
                  change RestIn _ _ _ _ _ _ _ 29 #[true, true, true, true, true, true, true, true, true, true, true, true, true, true, true, true, true, true, true, true, true, true, true, true, true, true, true, true, true, true, true, false, false, false, false, false, false, false, false, false, false, false, false, false, false, false, false, false, false, false, false, false, false, false, false, false, false, false, false, false] _ _
                  try simp only [Act.put, List.setIfInBounds_toArray, List.set_cons_zero, List.set_cons_succ, List.getElem_toArray, List.getElem_cons_zero, List.getElem_cons_succ]
                  refine rest_take (i := 31) (v := undef) all_wide (noDefers_of (by kernel_rfl)) rfl (by kernel_rfl) (by kernel_rfl) (by kernel_rfl) (fun _ _ _ h => h) (Or.inr ⟨by rfl, rfl⟩) hHeld ?_
                  change RestIn _ _ _ _ _ _ _ 28 #[true, true, true, true, true, true, true, true, true, true, true, true, true, true, true, true, true, true, true, true, true, true, true, true, true, true, true, true, true, true, true, true, false, false, false, false, false, false, false, false, false, false, false, false, false, false, false, false, false, false, false, false, false, false, false, false, false, false, false, false] _ _
                  try simp only [Act.put, List.setIfInBounds_toArray, List.set_cons_zero, List.set_cons_succ, List.getElem_toArray, List.getElem_cons_zero, List.getElem_cons_succ]
                  refine rest_take (i := 32) (v := undef) all_wide (noDefers_of (by kernel_rfl)) rfl (by kernel_rfl) (by kernel_rfl) (by kernel_rfl) (fun _ _ _ h => h) (Or.inr ⟨by rfl, rfl⟩) hHeld ?_
                  change RestIn _ _ _ _ _ _ _ 27 #[true, true, true, true, true, true, true, true, true, true, true, true, true, true, true, true, true, true, true, true, true, true, true, true, true, true, true, true, true, true, true, true, true, false, false, false, false, false, false, false, false, false, false, false, false, false, false, false, false, false, false, false, false, false, false, false, false, false, false, false] _ _
                  try simp only [Act.put, List.setIfInBounds_toArray, List.set_cons_zero, List.set_cons_succ, List.getElem_toArray, List.getElem_cons_zero, List.getElem_cons_succ]
                  refine rest_take (i := 33) (v := undef) all_wide (noDefers_of (by kernel_rfl)) rfl (by kernel_rfl) (by kernel_rfl) (by kernel_rfl) (fun _ _ _ h => h) (Or.inr ⟨by rfl, rfl⟩) hHeld ?_
                  change RestIn _ _ _ _ _ _ _ 26 #[true, true, true, true, true, true, true, true, true, true, true, true, true, true, true, true, true, true, true, true, true, true, true, true, true, true, true, true, true, true, true, true, true, true, false, false, false, false, false, false, false, false, false, false, false, false, false, false, false, false, false, false, false, false, false, false, false, false, false, false] _ _
                  try simp only [Act.put, List.setIfInBounds_toArray, List.set_cons_zero, List.set_cons_succ, List.getElem_toArray, List.getElem_cons_zero, List.getElem_cons_succ]
                  refine rest_take (i := 34) (v := undef) all_wide (noDefers_of (by kernel_rfl)) rfl (by kernel_rfl) (by kernel_rfl) (by kernel_rfl) (fun _ _ _ h => h) (Or.inr ⟨by rfl, rfl⟩) hHeld ?_
                  change RestIn _ _ _ _ _ _ _ 25 #[true, true, true, true, true, true, true, true, true, true, true, true, true, true, true, true, true, true, true, true, true, true, true, true, true, true, true, true, true, true, true, true, true, true, true, false, false, false, false, false, false, false, false, false, false, false, false, false, false, false, false, false, false, false, false, false, false, false, false, false] _ _
                  try simp only [Act.put, List.setIfInBounds_toArray, List.set_cons_zero, List.set_cons_succ, List.getElem_toArray, List.getElem_cons_zero, List.getElem_cons_succ]
                  refine rest_take (i := 35) (v := undef) all_wide (noDefers_of (by kernel_rfl)) rfl (by kernel_rfl) (by kernel_rfl) (by kernel_rfl) (fun _ _ _ h => h) (Or.inr ⟨by rfl, rfl⟩) hHeld ?_
                  change RestIn _ _ _ _ _ _ _ 24 #[true, true, true, true, true, true, true, true, true, true, true, true, true, true, true, true, true, true, true, true, true, true, true, true, true, true, true, true, true, true, true, true, true, true, true, true, false, false, false, false, false, false, false, false, false, false, false, false, false, false, false, false, false, false, false, false, false, false, false, false] _ _
                  try simp only [Act.put, List.setIfInBounds_toArray, List.set_cons_zero, List.set_cons_succ, List.getElem_toArray, List.getElem_cons_zero, List.getElem_cons_succ]
                  refine rest_take (i := 36) (v := undef) all_wide (noDefers_of (by kernel_rfl)) rfl (by kernel_rfl) (by kernel_rfl) (by kernel_rfl) (fun _ _ _ h => h) (Or.inr ⟨by rfl, rfl⟩) hHeld ?_
                  change RestIn _ _ _ _ _ _ _ 23 #[true, true, true, true, true, true, true, true, true, true, true, true, true, true, true, true, true, true, true, true, true, true, true, true, true, true, true, true, true, true, true, true, true, true, true, true, true, false, false, false, false, false, false, false, false, false, false, false, false, false, false, false, false, false, false, false, false, false, false, false] _ _
                  try simp only [Act.put, List.setIfInBounds_toArray, List.set_cons_zero, List.set_cons_succ, List.getElem_toArray, List.getElem_cons_zero, List.getElem_cons_succ]
                  refine rest_take (i := 37) (v := undef) all_wide (noDefers_of (by kernel_rfl)) rfl (by kernel_rfl) (by kernel_rfl) (by kernel_rfl) (fun _ _ _ h => h) (Or.inr ⟨by rfl, rfl⟩) hHeld ?_
                  change RestIn _ _ _ _ _ _ _ 22 #[true, true, true, true, true, true, true, true, true, true, true, true, true, true, true, true, true, true, true, true, true, true, true, true, true, true, true, true, true, true, true, true, true, true, true, true, true, true, false, false, false, false, false, false, false, false, false, false, false, false, false, false, false, false, false, false, false, false, false, false] _ _
                  try simp only [Act.put, List.setIfInBounds_toArray, List.set_cons_zero, List.set_cons_succ, List.getElem_toArray, List.getElem_cons_zero, List.getElem_cons_succ]
                  refine rest_take (i := 38) (v := undef) all_wide (noDefers_of (by kernel_rfl)) rfl (by kernel_rfl) (by kernel_rfl) (by kernel_rfl) (fun _ _ _ h => h) (Or.inr ⟨by rfl, rfl⟩) hHeld ?_
                  change RestIn _ _ _ _ _ _ _ 21 #[true, true, true, true, true, true, true, true, true, true, true, true, true, true, true, true, true, true, true, true, true, true, true, true, true, true, true, true, true, true, true, true, true, true, true, true, true, true, true, false, false, false, false, false, false, false, false, false, false, false, false, false, false, false, false, false, false, false, false, false] _ _
                  try simp only [Act.put, List.setIfInBounds_toArray, List.set_cons_zero, List.set_cons_succ, List.getElem_toArray, List.getElem_cons_zero, List.getElem_cons_succ]
                  refine rest_take (i := 39) (v := _) all_wide (noDefers_of (by kernel_rfl)) rfl (by kernel_rfl) (by kernel_rfl) (by kernel_rfl) (fun _ _ _ h => h) (Or.inl ⟨by rfl, by intro w hSw; clear hSw; go_simp; first | done | with_reducible rfl⟩) hHeld ?_
                  change RestIn _ _ _ _ _ _ _ 20 #[true, true, true, true, true, true, true, true, true, true, true, true, true, true, true, true, true, true, true, true, true, true, true, true, true, true, true, true, true, true, true, true, true, true, true, true, true, true, true, true, false, false, false, false, false, false, false, false, false, false, false, false, false, false, false, false, false, false, false, false] _ _
                  try simp only [Act.put, List.setIfInBounds_toArray, List.set_cons_zero, List.set_cons_succ, List.getElem_toArray, List.getElem_cons_zero, List.getElem_cons_succ]
                  refine rest_take (i := 40) (v := _) all_wide (noDefers_of (by kernel_rfl)) rfl (by kernel_rfl) (by kernel_rfl) (by kernel_rfl) (fun _ _ _ h => h) (Or.inl ⟨by rfl, by intro w hSw; clear hSw; go_simp; first | done | with_reducible rfl⟩) hHeld ?_
                  change RestIn _ _ _ _ _ _ _ 19 #[true, true, true, true, true, true, true, true, true, true, true, true, true, true, true, true, true, true, true, true, true, true, true, true, true, true, true, true, true, true, true, true, true, true, true, true, true, true, true, true, true, false, false, false, false, false, false, false, false, false, false, false, false, false, false, false, false, false, false, false] _ _
                  try simp only [Act.put, List.setIfInBounds_toArray, List.set_cons_zero, List.set_cons_succ, List.getElem_toArray, List.getElem_cons_zero, List.getElem_cons_succ]
                  refine rest_take (i := 41) (v := _) all_wide (noDefers_of (by kernel_rfl)) rfl (by kernel_rfl) (by kernel_rfl) (by kernel_rfl) (fun _ _ _ h => h) (Or.inl ⟨by rfl, by intro w hSw; clear hSw; go_simp; first | done | with_reducible rfl⟩) hHeld ?_
                  change RestIn _ _ _ _ _ _ _ 18 #[true, true, true, true, true, true, true, true, true, true, true, true, true, true, true, true, true, true, true, true, true, true, true, true, true, true, true, true, true, true, true, true, true, true, true, true, true, true, true, true, true, true, false, false, false, false, false, false, false, false, false, false, false, false, false, false, false, false, false, false] _ _
                  try simp only [Act.put, List.setIfInBounds_toArray, List.set_cons_zero, List.set_cons_succ, List.getElem_toArray, List.getElem_cons_zero, List.getElem_cons_succ]
                  refine rest_take (i := 42) (v := _) all_wide (noDefers_of (by kernel_rfl)) rfl (by kernel_rfl) (by kernel_rfl) (by kernel_rfl) (fun _ _ _ h => h) (Or.inl ⟨by rfl, by intro w hSw; clear hSw; go_simp; first | done | with_reducible rfl⟩) hHeld ?_
                  change RestIn _ _ _ _ _ _ _ 17 #[true, true, true, true, true, true, true, true, true, true, true, true, true, true, true, true, true, true, true, true, true, true, true, true, true, true, true, true, true, true, true, true, true, true, true, true, true, true, true, true, true, true, true, false, false, false, false, false, false, false, false, false, false, false, false, false, false, false, false, false] _ _
                  try simp only [Act.put, List.setIfInBounds_toArray, List.set_cons_zero, List.set_cons_succ, List.getElem_toArray, List.getElem_cons_zero, List.getElem_cons_succ]
                  refine rest_take (i := 43) (v := _) all_wide (noDefers_of (by kernel_rfl)) rfl (by kernel_rfl) (by kernel_rfl) (by kernel_rfl) (fun _ _ _ h => h) (Or.inl ⟨by rfl, by intro w hSw; clear hSw; go_simp; first | done | with_reducible rfl⟩) hHeld ?_
                  change RestIn _ _ _ _ _ _ _ 16 #[true, true, true, true, true, true, true, true, true, true, true, true, true, true, true, true, true, true, true, true, true, true, true, true, true, true, true, true, true, true, true, true, true, true, true, true, true, true, true, true, true, true, true, true, false, false, false, false, false, false, false, false, false, false, false, false, false, false, false, false] _ _
                  try simp only [Act.put, List.setIfInBounds_toArray, List.set_cons_zero, List.set_cons_succ, List.getElem_toArray, List.getElem_cons_zero, List.getElem_cons_succ]
                  refine rest_take (i := 44) (v := _) all_wide (noDefers_of (by kernel_rfl)) rfl (by kernel_rfl) (by kernel_rfl) (by kernel_rfl) (fun _ _ _ h => h) (Or.inl ⟨by rfl, by intro w hSw; clear hSw; go_simp; first | done | with_reducible rfl⟩) hHeld ?_
                  change RestIn _ _ _ _ _ _ _ 15 #[true, true, true, true, true, true, true, true, true, true, true, true, true, true, true, true, true, true, true, true, true, true, true, true, true, true, true, true, true, true, true, true, true, true, true, true, true, true, true, true, true, true, true, true, true, false, false, false, false, false, false, false, false, false, false, false, false, false, false, false] _ _
                  try simp only [Act.put, List.setIfInBounds_toArray, List.set_cons_zero, List.set_cons_succ, List.getElem_toArray, List.getElem_cons_zero, List.getElem_cons_succ]
                  refine rest_take (i := 45) (v := _) all_wide (noDefers_of (by kernel_rfl)) rfl (by kernel_rfl) (by kernel_rfl) (by kernel_rfl) (fun _ _ _ h => h) (Or.inl ⟨by rfl, by intro w hSw; clear hSw; go_simp; first | done | with_reducible rfl⟩) hHeld ?_
                  change RestIn _ _ _ _ _ _ _ 14 #[true, true, true, true, true, true, true, true, true, true, true, true, true, true, true, true, true, true, true, true, true, true, true, true, true, true, true, true, true, true, true, true, true, true, true, true, true, true, true, true, true, true, true, true, true, true, false, false, false, false, false, false, false, false, false, false, false, false, false, false] _ _
                  try simp only [Act.put, List.setIfInBounds_toArray, List.set_cons_zero, List.set_cons_succ, List.getElem_toArray, List.getElem_cons_zero, List.getElem_cons_succ]
                  refine rest_take (i := 46) (v := _) all_wide (noDefers_of (by kernel_rfl)) rfl (by kernel_rfl) (by kernel_rfl) (by kernel_rfl) (fun _ _ _ h => h) (Or.inl ⟨by rfl, by intro w hSw; clear hSw; go_simp; first | done | with_reducible rfl⟩) hHeld ?_
                  change RestIn _ _ _ _ _ _ _ 13 #[true, true, true, true, true, true, true, true, true, true, true, true, true, true, true, true, true, true, true, true, true, true, true, true, true, true, true, true, true, true, true, true, true, true, true, true, true, true, true, true, true, true, true, true, true, true, true, false, false, false, false, false, false, false, false, false, false, false, false, false] _ _
                  try simp only [Act.put, List.setIfInBounds_toArray, List.set_cons_zero, List.set_cons_succ, List.getElem_toArray, List.getElem_cons_zero, List.getElem_cons_succ]
                  refine rest_take (i := 47) (v := _) all_wide (noDefers_of (by kernel_rfl)) rfl (by kernel_rfl) (by kernel_rfl) (by kernel_rfl) (fun _ _ _ h => h) (Or.inl ⟨by rfl, by intro w hSw; clear hSw; go_simp; first | done | with_reducible rfl⟩) hHeld ?_
                  change RestIn _ _ _ _ _ _ _ 12 #[true, true, true, true, true, true, true, true, true, true, true, true, true, true, true, true, true, true, true, true, true, true, true, true, true, true, true, true, true, true, true, true, true, true, true, true, true, true, true, true, true, true, true, true, true, true, true, true, false, false, false, false, false, false, false, false, false, false, false, false] _ _
                  try simp only [Act.put, List.setIfInBounds_toArray, List.set_cons_zero, List.set_cons_succ, List.getElem_toArray, List.getElem_cons_zero, List.getElem_cons_succ]
                  refine rest_take (i := 48) (v := _) all_wide (noDefers_of (by kernel_rfl)) rfl (by kernel_rfl) (by kernel_rfl) (by kernel_rfl) (fun _ _ _ h => h) (Or.inl ⟨by rfl, by intro w hSw; (obtain ⟨q0, q1, q2, q3, _⟩ := hSw); go_simp; first | done | with_reducible rfl⟩) hHeld ?_
                  change RestIn _ _ _ _ _ _ _ 11 #[true, true, true, true, true, true, true, true, true, true, true, true, true, true, true, true, true, true, true, true, true, true, true, true, true, true, true, true, true, true, true, true, true, true, true, true, true, true, true, true, true, true, true, true, true, true, true, true, true, false, false, false, false, false, false, false, false, false, false, false] _ _
                  try simp only [Act.put, List.setIfInBounds_toArray, List.set_cons_zero, List.set_cons_succ, List.getElem_toArray, List.getElem_cons_zero, List.getElem_cons_succ]
                  refine rest_take (i := 49) (v := _) all_wide (noDefers_of (by kernel_rfl)) rfl (by kernel_rfl) (by kernel_rfl) (by kernel_rfl) (fun _ _ _ h => h) (Or.inl ⟨by rfl, by intro w hSw; clear hSw; go_simp; first | done | with_reducible rfl⟩) hHeld ?_
                  change RestIn _ _ _ _ _ _ _ 10 #[true, true, true, true, true, true, true, true, true, true, true, true, true, true, true, true, true, true, true, true, true, true, true, true, true, true, true, true, true, true, true, true, true, true, true, true, true, true, true, true, true, true, true, true, true, true, true, true, true, true, false, false, false, false, false, false, false, false, false, false] _ _
                  try simp only [Act.put, List.setIfInBounds_toArray, List.set_cons_zero, List.set_cons_succ, List.getElem_toArray, List.getElem_cons_zero, List.getElem_cons_succ]
                  refine rest_take (i := 50) (v := _) all_wide (noDefers_of (by kernel_rfl)) rfl (by kernel_rfl) (by kernel_rfl) (by kernel_rfl) (fun _ _ _ h => h) (Or.inl ⟨by rfl, by intro w hSw; clear hSw; go_simp; first | done | with_reducible rfl⟩) hHeld ?_
                  change RestIn _ _ _ _ _ _ _ 9 #[true, true, true, true, true, true, true, true, true, true, true, true, true, true, true, true, true, true, true, true, true, true, true, true, true, true, true, true, true, true, true, true, true, true, true, true, true, true, true, true, true, true, true, true, true, true, true, true, true, true, true, false, false, false, false, false, false, false, false, false] _ _
                  try simp only [Act.put, List.setIfInBounds_toArray, List.set_cons_zero, List.set_cons_succ, List.getElem_toArray, List.getElem_cons_zero, List.getElem_cons_succ]
                  refine rest_take (i := 51) (v := _) all_wide (noDefers_of (by kernel_rfl)) rfl (by kernel_rfl) (by kernel_rfl) (by kernel_rfl) (fun _ _ _ h => h) (Or.inl ⟨by rfl, by intro w hSw; clear hSw; go_simp; first | done | with_reducible rfl⟩) hHeld ?_
                  change RestIn _ _ _ _ _ _ _ 8 #[true, true, true, true, true, true, true, true, true, true, true, true, true, true, true, true, true, true, true, true, true, true, true, true, true, true, true, true, true, true, true, true, true, true, true, true, true, true, true, true, true, true, true, true, true, true, true, true, true, true, true, true, false, false, false, false, false, false, false, false] _ _
                  try simp only [Act.put, List.setIfInBounds_toArray, List.set_cons_zero, List.set_cons_succ, List.getElem_toArray, List.getElem_cons_zero, List.getElem_cons_succ]
                  refine rest_take (i := 52) (v := _) all_wide (noDefers_of (by kernel_rfl)) rfl (by kernel_rfl) (by kernel_rfl) (by kernel_rfl) (fun _ _ _ h => h) (Or.inl ⟨by rfl, by intro w hSw; clear hSw; go_simp; first | done | with_reducible rfl⟩) hHeld ?_
                  change RestIn _ _ _ _ _ _ _ 7 #[true, true, true, true, true, true, true, true, true, true, true, true, true, true, true, true, true, true, true, true, true, true, true, true, true, true, true, true, true, true, true, true, true, true, true, true, true, true, true, true, true, true, true, true, true, true, true, true, true, true, true, true, true, false, false, false, false, false, false, false] _ _
                  try simp only [Act.put, List.setIfInBounds_toArray, List.set_cons_zero, List.set_cons_succ, List.getElem_toArray, List.getElem_cons_zero, List.getElem_cons_succ]
                  refine rest_take (i := 53) (v := _) all_wide (noDefers_of (by kernel_rfl)) rfl (by kernel_rfl) (by kernel_rfl) (by kernel_rfl) (fun _ _ _ h => h) (Or.inl ⟨by rfl, by intro w hSw; (obtain ⟨q0, q1, q2, q3, _⟩ := hSw); go_simp; first | done | with_reducible rfl⟩) hHeld ?_
                  change RestIn _ _ _ _ _ _ _ 6 #[true, true, true, true, true, true, true, true, true, true, true, true, true, true, true, true, true, true, true, true, true, true, true, true, true, true, true, true, true, true, true, true, true, true, true, true, true, true, true, true, true, true, true, true, true, true, true, true, true, true, true, true, true, true, false, false, false, false, false, false] _ _
                  try simp only [Act.put, List.setIfInBounds_toArray, List.set_cons_zero, List.set_cons_succ, List.getElem_toArray, List.getElem_cons_zero, List.getElem_cons_succ]
                  refine rest_take (i := 54) (v := _) all_wide (noDefers_of (by kernel_rfl)) rfl (by kernel_rfl) (by kernel_rfl) (by kernel_rfl) (fun _ _ _ h => h) (Or.inl ⟨by rfl, by intro w hSw; clear hSw; go_simp; first | done | with_reducible rfl⟩) hHeld ?_
                  change RestIn _ _ _ _ _ _ _ 5 #[true, true, true, true, true, true, true, true, true, true, true, true, true, true, true, true, true, true, true, true, true, true, true, true, true, true, true, true, true, true, true, true, true, true, true, true, true, true, true, true, true, true, true, true, true, true, true, true, true, true, true, true, true, true, true, false, false, false, false, false] _ _
                  try simp only [Act.put, List.setIfInBounds_toArray, List.set_cons_zero, List.set_cons_succ, List.getElem_toArray, List.getElem_cons_zero, List.getElem_cons_succ]
                  refine rest_take (i := 55) (v := _) all_wide (noDefers_of (by kernel_rfl)) rfl (by kernel_rfl) (by kernel_rfl) (by kernel_rfl) (fun _ _ _ h => h) (Or.inl ⟨by rfl, by intro w hSw; clear hSw; go_simp; first | done | with_reducible rfl⟩) hHeld ?_
                  change RestIn _ _ _ _ _ _ _ 4 #[true, true, true, true, true, true, true, true, true, true, true, true, true, true, true, true, true, true, true, true, true, true, true, true, true, true, true, true, true, true, true, true, true, true, true, true, true, true, true, true, true, true, true, true, true, true, true, true, true, true, true, true, true, true, true, true, false, false, false, false] _ _
                  try simp only [Act.put, List.setIfInBounds_toArray, List.set_cons_zero, List.set_cons_succ, List.getElem_toArray, List.getElem_cons_zero, List.getElem_cons_succ]
                  refine rest_take (i := 56) (v := _) all_wide (noDefers_of (by kernel_rfl)) rfl (by kernel_rfl) (by kernel_rfl) (by kernel_rfl) (fun _ _ _ h => h) (Or.inl ⟨by rfl, by intro w hSw; clear hSw; go_simp; first | done | with_reducible rfl⟩) hHeld ?_
                  change RestIn _ _ _ _ _ _ _ 3 #[true, true, true, true, true, true, true, true, true, true, true, true, true, true, true, true, true, true, true, true, true, true, true, true, true, true, true, true, true, true, true, true, true, true, true, true, true, true, true, true, true, true, true, true, true, true, true, true, true, true, true, true, true, true, true, true, true, false, false, false] _ _
                  try simp only [Act.put, List.setIfInBounds_toArray, List.set_cons_zero, List.set_cons_succ, List.getElem_toArray, List.getElem_cons_zero, List.getElem_cons_succ]
                  refine rest_take (i := 57) (v := _) all_wide (noDefers_of (by kernel_rfl)) rfl (by kernel_rfl) (by kernel_rfl) (by kernel_rfl) (fun _ _ _ h => h) (Or.inl ⟨by rfl, by intro w hSw; clear hSw; go_simp; first | done | with_reducible rfl⟩) hHeld ?_
                  change RestIn _ _ _ _ _ _ _ 2 #[true, true, true, true, true, true, true, true, true, true, true, true, true, true, true, true, true, true, true, true, true, true, true, true, true, true, true, true, true, true, true, true, true, true, true, true, true, true, true, true, true, true, true, true, true, true, true, true, true, true, true, true, true, true, true, true, true, true, false, false] _ _
                  try simp only [Act.put, List.setIfInBounds_toArray, List.set_cons_zero, List.set_cons_succ, List.getElem_toArray, List.getElem_cons_zero, List.getElem_cons_succ]
                  refine rest_take (i := 58) (v := _) all_wide (noDefers_of (by kernel_rfl)) rfl (by kernel_rfl) (by kernel_rfl) (by kernel_rfl) (fun _ _ _ h => h) (Or.inl ⟨by rfl, by intro w hSw; clear hSw; go_simp; first | done | with_reducible rfl⟩) hHeld ?_
                  change RestIn _ _ _ _ _ _ _ 1 #[true, true, true, true, true, true, true, true, true, true, true, true, true, true, true, true, true, true, true, true, true, true, true, true, true, true, true, true, true, true, true, true, true, true, true, true, true, true, true, true, true, true, true, true, true, true, true, true, true, true, true, true, true, true, true, true, true, true, true, false] _ _
                  try simp only [Act.put, List.setIfInBounds_toArray, List.set_cons_zero, List.set_cons_succ, List.getElem_toArray, List.getElem_cons_zero, List.getElem_cons_succ]
                  refine rest_take (i := 59) (v := _) all_wide (noDefers_of (by kernel_rfl)) rfl (by kernel_rfl) (by kernel_rfl) (by kernel_rfl) (fun _ _ _ h => h) (Or.inl ⟨by rfl, by intro w hSw; clear hSw; go_simp; first | done | with_reducible rfl⟩) hHeld ?_
                  change RestIn _ _ _ _ _ _ _ 0 #[true, true, true, true, true, true, true, true, true, true, true, true, true, true, true, true, true, true, true, true, true, true, true, true, true, true, true, true, true, true, true, true, true, true, true, true, true, true, true, true, true, true, true, true, true, true, true, true, true, true, true, true, true, true, true, true, true, true, true, true] _ _
                  try simp only [Act.put, List.setIfInBounds_toArray, List.set_cons_zero, List.set_cons_succ, List.getElem_toArray, List.getElem_cons_zero, List.getElem_cons_succ]
                  refine rest_done (by kernel_rfl) ?_
                  have hN := hHeld.2.2.2.2
                  clear hHeld e0 e1 f0 f1 hLast
                  go_wp2
                  go_roundw
                  case rel => exact ⟨k + 1, by omega, by go_num, hWb.trans (hN.mono hWb.size)⟩
                  case measure => simp [intOf] <;> omega
            case neg =>
              as_aux_lemma =>
                have hkmI : ¬ (k : Int) < (m : Int) + 1 := by omega
                have HB4 := Lib.hid (HB2.out.trans (hBk.mono HB2.out.size))
                obtain ⟨Wq, hWq⟩ : ∃ x, x = wr := ⟨_, rfl⟩
                subst hWq
                have e0 := cell_after HB4.out (HE.out 0 _ rfl)
                simp only [Nat.add_zero] at e0
                clear hs4 hBk HB2 HIN HP1 HWM HM HALM
                go_wp2
                clear e0
                go_loopw [17] (fun tt wr => ∃ t : Nat, s ≤ t ∧ t ≤ r + 1 ∧ tt = .int .i64 t ∧ Below Wq.heap.size Wq wr) (fun tt _ => r + 1 - (intOf tt).toNat)
                case atStart => exact ⟨s, Nat.le_refl _, by omega, rfl, Below.refl _ _⟩
                case round =>
                  obtain ⟨t, ht1, ht2, rfl, hBt⟩ := hrel
                  have hBq := HB4.out.trans (hBt.mono HB4.out.size)
                  have e1 := cell_after hBq (HE.out 1 _ rfl)
                  by_cases htr : t ≤ r
                  case neg =>
                    as_aux_lemma =>
                      have htI : ¬ (t : Int) ≤ (r : Int) := by omega
                      go_upto_region 34 with fail
                      clear e1
                      refine name_world (motive := fun W => Code.wp _ _ _ _ W) _ ?_
                      intro W0 hW
                      have hWc := hW.cell
                      have hWz := hW.size
                      have hWb := hW.below (hBq)
                      have e1 := cell_after hWb (HE.out 1 _ rfl)
                      have c14 := cell_after (HB3.out.trans (hWb.mono HB3.out.size)) HC14.out
                      have w5' : IntKind.i64.wrap ((r : Int) + (mo : Int)) = (r : Int) + (mo : Int) := IntWalk.i64_in _ (by omega)
                      have w6' : IntKind.i64.wrap ((r : Int) + (mo : Int) + (rest : Int)) = (r : Int) + (mo : Int) + (rest : Int) := IntWalk.i64_in _ (by omega)
                      clear hW hWc hWz hBq hBt
                      refine (wpIn_wide (n := 9)).1 ?_
                      have hLast := trivial
                      refine region_rest (S := (fun w' => w'.cell? ⟨q, o + i * 2 + 1, none⟩ = some (.int .i64 (r : Int)) ∧ w'.cell? ⟨b, off + i * 15 + 14, none⟩ = some (.int .i64 (mo : Int)) ∧ Below W0.heap.size W0 w')) hmx ?_ (fun hHeld => ?_)
                      · exact ⟨e1, c14, (Below.refl W0.heap.size W0).drew⟩
                      change RestIn _ _ _ _ _ _ _ 14 #[false, false, false, false, false, false, false, false, false, false, false, false, false, false] _ (World.drew _)
                      refine rest_take (i := 0) (v := _) all_wide (noDefers_of (by kernel_rfl)) rfl (by kernel_rfl) (by kernel_rfl) (by kernel_rfl) (fun _ _ _ h => h) (Or.inl ⟨by rfl, by intro w hSw; clear hSw; go_simp; first | done | with_reducible rfl⟩) hHeld ?_
                      change RestIn _ _ _ _ _ _ _ 13 #[true, false, false, false, false, false, false, false, false, false, false, false, false, false] _ _
                      try simp only [Act.put, List.setIfInBounds_toArray, List.set_cons_zero, List.set_cons_succ, List.getElem_toArray, List.getElem_cons_zero, List.getElem_cons_succ]
                      refine rest_take (i := 1) (v := _) all_wide (noDefers_of (by kernel_rfl)) rfl (by kernel_rfl) (by kernel_rfl) (by kernel_rfl) (fun _ _ _ h => h) (Or.inl ⟨by rfl, by intro w hSw; clear hSw; go_simp; first | done | with_reducible rfl⟩) hHeld ?_
                      change RestIn _ _ _ _ _ _ _ 12 #[true, true, false, false, false, false, false, false, false, false, false, false, false, false] _ _
                      try simp only [Act.put, List.setIfInBounds_toArray, List.set_cons_zero, List.set_cons_succ, List.getElem_toArray, List.getElem_cons_zero, List.getElem_cons_succ]
                      refine rest_take (i := 2) (v := _) all_wide (noDefers_of (by kernel_rfl)) rfl (by kernel_rfl) (by kernel_rfl) (by kernel_rfl) (fun _ _ _ h => h) (Or.inl ⟨by rfl, by intro w hSw; clear hSw; go_simp; first | done | with_reducible rfl⟩) hHeld ?_
                      change RestIn _ _ _ _ _ _ _ 11 #[true, true, true, false, false, false, false, false, false, false, false, false, false, false] _ _
                      try simp only [Act.put, List.setIfInBounds_toArray, List.set_cons_zero, List.set_cons_succ, List.getElem_toArray, List.getElem_cons_zero, List.getElem_cons_succ]
                      refine rest_take (i := 3) (v := _) all_wide (noDefers_of (by kernel_rfl)) rfl (by kernel_rfl) (by kernel_rfl) (by kernel_rfl) (fun _ _ _ h => h) (Or.inl ⟨by rfl, by intro w hSw; clear hSw; go_simp; first | done | with_reducible rfl⟩) hHeld ?_
                      change RestIn _ _ _ _ _ _ _ 10 #[true, true, true, true, false, false, false, false, false, false, false, false, false, false] _ _
                      try simp only [Act.put, List.setIfInBounds_toArray, List.set_cons_zero, List.set_cons_succ, List.getElem_toArray, List.getElem_cons_zero, List.getElem_cons_succ]
                      refine rest_take (i := 4) (v := _) all_wide (noDefers_of (by kernel_rfl)) rfl (by kernel_rfl) (by kernel_rfl) (by kernel_rfl) (fun _ _ _ h => h) (Or.inl ⟨by rfl, by intro w hSw; (obtain ⟨q0, q1, _⟩ := hSw); go_simp; first | done | with_reducible rfl⟩) hHeld ?_
                      change RestIn _ _ _ _ _ _ _ 9 #[true, true, true, true, true, false, false, false, false, false, false, false, false, false] _ _
                      try simp only [Act.put, List.setIfInBounds_toArray, List.set_cons_zero, List.set_cons_succ, List.getElem_toArray, List.getElem_cons_zero, List.getElem_cons_succ]
                      refine rest_take (i := 5) (v := _) all_wide (noDefers_of (by kernel_rfl)) rfl (by kernel_rfl) (by kernel_rfl) (by kernel_rfl) (fun _ _ _ h => h) (Or.inl ⟨by rfl, by intro w hSw; clear hSw; go_simp; first | done | with_reducible rfl⟩) hHeld ?_
                      change RestIn _ _ _ _ _ _ _ 8 #[true, true, true, true, true, true, false, false, false, false, false, false, false, false] _ _
                      try simp only [Act.put, List.setIfInBounds_toArray, List.set_cons_zero, List.set_cons_succ, List.getElem_toArray, List.getElem_cons_zero, List.getElem_cons_succ]
                      refine rest_take (i := 6) (v := _) all_wide (noDefers_of (by kernel_rfl)) rfl (by kernel_rfl) (by kernel_rfl) (by kernel_rfl) (fun _ _ _ h => h) (Or.inl ⟨by rfl, by intro w hSw; clear hSw; go_simp; first | done | with_reducible rfl⟩) hHeld ?_
                      change RestIn _ _ _ _ _ _ _ 7 #[true, true, true, true, true, true, true, false, false, false, false, false, false, false] _ _
                      try simp only [Act.put, List.setIfInBounds_toArray, List.set_cons_zero, List.set_cons_succ, List.getElem_toArray, List.getElem_cons_zero, List.getElem_cons_succ]
                      refine rest_take (i := 7) (v := _) all_wide (noDefers_of (by kernel_rfl)) rfl (by kernel_rfl) (by kernel_rfl) (by kernel_rfl) (fun _ _ _ h => h) (Or.inl ⟨by rfl, by intro w hSw; clear hSw; go_simp; first | done | with_reducible rfl⟩) hHeld ?_
                      change RestIn _ _ _ _ _ _ _ 6 #[true, true, true, true, true, true, true, true, false, false, false, false, false, false] _ _
                      try simp only [Act.put, List.setIfInBounds_toArray, List.set_cons_zero, List.set_cons_succ, List.getElem_toArray, List.getElem_cons_zero, List.getElem_cons_succ]
                      refine rest_take (i := 8) (v := _) all_wide (noDefers_of (by kernel_rfl)) rfl (by kernel_rfl) (by kernel_rfl) (by kernel_rfl) (fun _ _ _ h => h) (Or.inl ⟨by rfl, by intro w hSw; clear hSw; go_simp; first | done | with_reducible rfl⟩) hHeld ?_
                      change RestIn _ _ _ _ _ _ _ 5 #[true, true, true, true, true, true, true, true, true, false, false, false, false, false] _ _
                      try simp only [Act.put, List.setIfInBounds_toArray, List.set_cons_zero, List.set_cons_succ, List.getElem_toArray, List.getElem_cons_zero, List.getElem_cons_succ]
                      refine rest_take (i := 9) (v := _) all_wide (noDefers_of (by kernel_rfl)) rfl (by kernel_rfl) (by kernel_rfl) (by kernel_rfl) (fun _ _ _ h => h) (Or.inl ⟨by rfl, by intro w hSw; (obtain ⟨q0, q1, _⟩ := hSw); go_simp; first | done | with_reducible rfl⟩) hHeld ?_
                      change RestIn _ _ _ _ _ _ _ 4 #[true, true, true, true, true, true, true, true, true, true, false, false, false, false] _ _
                      try simp only [Act.put, List.setIfInBounds_toArray, List.set_cons_zero, List.set_cons_succ, List.getElem_toArray, List.getElem_cons_zero, List.getElem_cons_succ]
                      refine rest_take (i := 10) (v := _) all_wide (noDefers_of (by kernel_rfl)) rfl (by kernel_rfl) (by kernel_rfl) (by kernel_rfl) (fun _ _ _ h => h) (Or.inl ⟨by rfl, by intro w hSw; clear hSw; go_simp; first | done | with_reducible rfl⟩) hHeld ?_
                      change RestIn _ _ _ _ _ _ _ 3 #[true, true, true, true, true, true, true, true, true, true, true, false, false, false] _ _
                      try simp only [Act.put, List.setIfInBounds_toArray, List.set_cons_zero, List.set_cons_succ, List.getElem_toArray, List.getElem_cons_zero, List.getElem_cons_succ]
                      refine rest_take (i := 11) (v := _) all_wide (noDefers_of (by kernel_rfl)) rfl (by kernel_rfl) (by kernel_rfl) (by kernel_rfl) (fun _ _ _ h => h) (Or.inl ⟨by rfl, by intro w hSw; clear hSw; go_simp; first | done | with_reducible rfl⟩) hHeld ?_
                      change RestIn _ _ _ _ _ _ _ 2 #[true, true, true, true, true, true, true, true, true, true, true, true, false, false] _ _
                      try simp only [Act.put, List.setIfInBounds_toArray, List.set_cons_zero, List.set_cons_succ, List.getElem_toArray, List.getElem_cons_zero, List.getElem_cons_succ]
                      refine rest_take (i := 12) (v := _) all_wide (noDefers_of (by kernel_rfl)) rfl (by kernel_rfl) (by kernel_rfl) (by kernel_rfl) (fun _ _ _ h => h) (Or.inl ⟨by rfl, by intro w hSw; clear hSw; go_simp; first | done | with_reducible rfl⟩) hHeld ?_
                      change RestIn _ _ _ _ _ _ _ 1 #[true, true, true, true, true, true, true, true, true, true, true, true, true, false] _ _
                      try simp only [Act.put, List.setIfInBounds_toArray, List.set_cons_zero, List.set_cons_succ, List.getElem_toArray, List.getElem_cons_zero, List.getElem_cons_succ]
                      refine rest_take (i := 13) (v := _) all_wide (noDefers_of (by kernel_rfl)) rfl (by kernel_rfl) (by kernel_rfl) (by kernel_rfl) (fun _ _ _ h => h) (Or.inl ⟨by rfl, by intro w hSw; clear hSw; go_simp; first | done | with_reducible rfl⟩) hHeld ?_
                      change RestIn _ _ _ _ _ _ _ 0 #[true, true, true, true, true, true, true, true, true, true, true, true, true, true] _ _
                      try simp only [Act.put, List.setIfInBounds_toArray, List.set_cons_zero, List.set_cons_succ, List.getElem_toArray, List.getElem_cons_zero, List.getElem_cons_succ]
                      refine rest_done (by kernel_rfl) ?_
                      have hN := hHeld.2.2
                      clear hHeld e1 c14 hLast
                      go_wp2
                      go_roundw
                      case rel => exact ⟨i + 1, r + mo + rest, by omega, by go_num, by go_num, by omega, HNX, hWb.trans (hN.mono hWb.size)⟩
                      case measure => simp [intOf] <;> omega
                  case pos =>
                    as_aux_lemma =>
                      have htI : (t : Int) ≤ (r : Int) := by omega
                      have hBw := HB3.out.trans (hBq.mono HB3.out.size)
                      have c0 := cell_after hBw (HCC.out 0 _ rfl)
                      have c1 := cell_after hBw (HCC.out 1 _ rfl)
                      have c2 := cell_after hBw (HCC.out 2 _ rfl)
                      have c3 := cell_after hBw (HCC.out 3 _ rfl)
                      have c4 := cell_after hBw (HCC.out 4 _ rfl)
                      have c5 := cell_after hBw (HCC.out 5 _ rfl)
                      have c6 := cell_after hBw (HCC.out 6 _ rfl)
                      have c7 := cell_after hBw (HCC.out 7 _ rfl)
                      have c8 := cell_after hBw (HCC.out 8 _ rfl)
                      have c9 := cell_after hBw (HCC.out 9 _ rfl)
                      have c10 := cell_after hBw (HCC.out 10 _ rfl)
                      have c11 := cell_after hBw (HCC.out 11 _ rfl)
                      have c12 := cell_after hBw (HCC.out 12 _ rfl)
                      have c13 := cell_after hBw (HCC.out 13 _ rfl)
                      have c14 := cell_after hBw (HCC.out 14 _ rfl)
                      simp only [Nat.add_zero] at c0
                      have hxr := HXR.out _ hBq
                      have hgt := HGD.out t ht1 htr
                      obtain ⟨j, hj⟩ : ∃ j, (sureL f t).length = j + 1 := ⟨(sureL f t).length - 1, by unfold goodB at hgt; have := of_decide_eq_true hgt; omega⟩
                      obtain ⟨z, hz, hzm⟩ := last_get (l := ints (sureL f t)) (n := j) (by rw [ints_len]; exact hj)
                      have hzb := sure_last HFO.out HMO.out hzm
                      have hjb : j ≤ 300 := by have := sureL_len (f := f) (r := t) (by rw [HMO.out]; omega); omega
                      have HCt := fun (W : World) (A : Option Addr) (c : Nat) h => HCT.out t W A c (by omega) h
                      rw [hj] at HCt
                      have HCu := Lib.hid HCt
                      have HZ := Lib.hid hz
                      clear HCt hgt hzm hz hj
                      go_upto_region 32 with (first | (go_at_call 19; (with_reducible refine (HFx.out _ hxr).mono ?_); rintro e w6 ⟨AG, cG, rfl, hs6, hb6⟩) | (go_at_call 35; (with_reducible refine (HCu.out _ _ _ hs6).mono ?_); rintro e w7 ⟨AH, cH, rfl, hs7, hb7⟩))
                      have hB7 := sh_next hBt (sh_next hb6 hb7)
                      obtain ⟨q7, o7, rfl, hq7, h7⟩ := hs7.at_ HZ.out
                      have z0 := h7 0 _ rfl
                      simp only [Nat.add_zero, Nat.mul_one] at z0
                      clear c0 c1 c2 c3 c4 c5 c6 c7 c8 c9 c10 c11 c12 c13 c14 e1 hxr hs6 hs7 hb6 hb7 h7 hBw hBt HCu HZ
                      refine name_world (motive := fun W => Code.wp _ _ _ _ W) _ ?_
                      intro W0 hW
                      have hWc := hW.cell
                      have hWz := hW.size
                      have hWb := hW.below (hB7)
                      have z0 := cell_after (hW.below (Below.refl _ _)) z0
                      clear hW hWc hWz hB7 hBq
                      have hm0 : (((j : Int) + 1) == 0) = false := by simp; omega
                      have hm0' : ((((j + 1 : Nat)) : Int) == 0) = false := by simp; omega
                      have hm0'' : (j + 1 == 0) = false := by simp
                      have w7' : IntKind.i64.wrap ((i : Int) + 1) = (i : Int) + 1 := IntWalk.i64_in _ (by omega)
                      refine (wpIn_wide (n := 9)).1 ?_
                      by_cases hil : i + 1 < ws.length
                      case neg =>
                        as_aux_lemma =>
                          have d4 : decide ((i : Int) + 1 < (ws.length : Int)) = false := decide_eq_false (by omega)
                          have d4' : decide (i + 1 < ws.length) = false := decide_eq_false (by omega)
                          have d4l : decide ((i : Int) + 1 < (l.length : Int)) = false := decide_eq_false (by omega)
                          have d4m : decide (i + 1 < l.length) = false := decide_eq_false (by omega)
                          have hLast := trivial
                          refine region_rest (S := (fun w' => Below W0.heap.size W0 w')) hmx ?_ (fun hHeld => ?_)
                          · exact (Below.refl W0.heap.size W0).drew
                          change RestIn _ _ _ _ _ _ _ 31 #[false, false, false, false, false, false, false, false, false, false, false, false, false, false, false, false, false, false, false, false, false, false, false, false, false, false, false, false, false, false, false] _ (World.drew _)
                          refine rest_take (i := 0) (v := _) all_wide (noDefers_of (by kernel_rfl)) rfl (by kernel_rfl) (by kernel_rfl) (by kernel_rfl) (fun _ _ _ h => h) (Or.inl ⟨by rfl, by intro w hSw; clear hSw; go_simp; first | done | with_reducible rfl⟩) hHeld ?_
                          change RestIn _ _ _ _ _ _ _ 30 #[true, false, false, false, false, false, false, false, false, false, false, false, false, false, false, false, false, false, false, false, false, false, false, false, false, false, false, false, false, false, false] _ _
                          try simp only [Act.put, List.setIfInBounds_toArray, List.set_cons_zero, List.set_cons_succ, List.getElem_toArray, List.getElem_cons_zero, List.getElem_cons_succ]
                          refine rest_take (i := 1) (v := _) all_wide (noDefers_of (by kernel_rfl)) rfl (by kernel_rfl) (by kernel_rfl) (by kernel_rfl) (fun _ _ _ h => h) (Or.inl ⟨by rfl, by intro w hSw; clear hSw; go_simp; first | done | with_reducible rfl⟩) hHeld ?_
                          change RestIn _ _ _ _ _ _ _ 29 #[true, true, false, false, false, false, false, false, false, false, false, false, false, false, false, false, false, false, false, false, false, false, false, false, false, false, false, false, false, false, false] _ _
                          try simp only [Act.put, List.setIfInBounds_toArray, List.set_cons_zero, List.set_cons_succ, List.getElem_toArray, List.getElem_cons_zero, List.getElem_cons_succ]
                          refine rest_take (i := 2) (v := _) all_wide (noDefers_of (by kernel_rfl)) rfl (by kernel_rfl) (by kernel_rfl) (by kernel_rfl) (fun _ _ _ h => h) (Or.inl ⟨by rfl, by intro w hSw; clear hSw; go_simp; first | done | with_reducible rfl⟩) hHeld ?_
                          change RestIn _ _ _ _ _ _ _ 28 #[true, true, true, false, false, false, false, false, false, false, false, false, false, false, false, false, false, false, false, false, false, false, false, false, false, false, false, false, false, false, false] _ _
                          try simp only [Act.put, List.setIfInBounds_toArray, List.set_cons_zero, List.set_cons_succ, List.getElem_toArray, List.getElem_cons_zero, List.getElem_cons_succ]
                          refine rest_take (i := 3) (v := _) all_wide (noDefers_of (by kernel_rfl)) rfl (by kernel_rfl) (by kernel_rfl) (by kernel_rfl) (fun _ _ _ h => h) (Or.inl ⟨by rfl, by intro w hSw; clear hSw; go_simp; first | done | with_reducible rfl⟩) hHeld ?_
                          change RestIn _ _ _ _ _ _ _ 27 #[true, true, true, true, false, false, false, false, false, false, false, false, false, false, false, false, false, false, false, false, false, false, false, false, false, false, false, false, false, false, false] _ _
                          try simp only [Act.put, List.setIfInBounds_toArray, List.set_cons_zero, List.set_cons_succ, List.getElem_toArray, List.getElem_cons_zero, List.getElem_cons_succ]
                          refine rest_take (i := 4) (v := _) all_wide (noDefers_of (by kernel_rfl)) rfl (by kernel_rfl) (by kernel_rfl) (by kernel_rfl) (fun _ _ _ h => h) (Or.inl ⟨by rfl, by intro w hSw; clear hSw; go_simp; first | done | with_reducible rfl⟩) hHeld ?_
                          change RestIn _ _ _ _ _ _ _ 26 #[true, true, true, true, true, false, false, false, false, false, false, false, false, false, false, false, false, false, false, false, false, false, false, false, false, false, false, false, false, false, false] _ _
                          try simp only [Act.put, List.setIfInBounds_toArray, List.set_cons_zero, List.set_cons_succ, List.getElem_toArray, List.getElem_cons_zero, List.getElem_cons_succ]
                          refine rest_take (i := 5) (v := _) all_wide (noDefers_of (by kernel_rfl)) rfl (by kernel_rfl) (by kernel_rfl) (by kernel_rfl) (fun _ _ _ h => h) (Or.inl ⟨by rfl, by intro w hSw; clear hSw; go_simp; first | done | with_reducible rfl⟩) hHeld ?_
                          change RestIn _ _ _ _ _ _ _ 25 #[true, true, true, true, true, true, false, false, false, false, false, false, false, false, false, false, false, false, false, false, false, false, false, false, false, false, false, false, false, false, false] _ _
                          try simp only [Act.put, List.setIfInBounds_toArray, List.set_cons_zero, List.set_cons_succ, List.getElem_toArray, List.getElem_cons_zero, List.getElem_cons_succ]
                          refine rest_take (i := 6) (v := _) all_wide (noDefers_of (by kernel_rfl)) rfl (by kernel_rfl) (by kernel_rfl) (by kernel_rfl) (fun _ _ _ h => h) (Or.inl ⟨by rfl, by intro w hSw; clear hSw; go_simp; first | done | with_reducible rfl⟩) hHeld ?_
                          change RestIn _ _ _ _ _ _ _ 24 #[true, true, true, true, true, true, true, false, false, false, false, false, false, false, false, false, false, false, false, false, false, false, false, false, false, false, false, false, false, false, false] _ _
                          try simp only [Act.put, List.setIfInBounds_toArray, List.set_cons_zero, List.set_cons_succ, List.getElem_toArray, List.getElem_cons_zero, List.getElem_cons_succ]
                          refine rest_take (i := 7) (v := _) all_wide (noDefers_of (by kernel_rfl)) rfl (by kernel_rfl) (by kernel_rfl) (by kernel_rfl) (fun _ _ _ h => h) (Or.inl ⟨by rfl, by intro w hSw; clear hSw; go_simp; first | done | with_reducible rfl⟩) hHeld ?_
                          change RestIn _ _ _ _ _ _ _ 23 #[true, true, true, true, true, true, true, true, false, false, false, false, false, false, false, false, false, false, false, false, false, false, false, false, false, false, false, false, false, false, false] _ _
                          try simp only [Act.put, List.setIfInBounds_toArray, List.set_cons_zero, List.set_cons_succ, List.getElem_toArray, List.getElem_cons_zero, List.getElem_cons_succ]
                          refine rest_take (i := 8) (v := _) all_wide (noDefers_of (by kernel_rfl)) rfl (by kernel_rfl) (by kernel_rfl) (by kernel_rfl) (fun _ _ _ h => h) (Or.inl ⟨by rfl, by intro w hSw; clear hSw; go_simp; first | done | with_reducible rfl⟩) hHeld ?_
                          change RestIn _ _ _ _ _ _ _ 22 #[true, true, true, true, true, true, true, true, true, false, false, false, false, false, false, false, false, false, false, false, false, false, false, false, false, false, false, false, false, false, false] _ _
                          try simp only [Act.put, List.setIfInBounds_toArray, List.set_cons_zero, List.set_cons_succ, List.getElem_toArray, List.getElem_cons_zero, List.getElem_cons_succ]
                          refine rest_take (i := 9) (v := _) all_wide (noDefers_of (by kernel_rfl)) rfl (by kernel_rfl) (by kernel_rfl) (by kernel_rfl) (fun _ _ _ h => h) (Or.inl ⟨by rfl, by intro w hSw; clear hSw; go_simp; first | done | with_reducible rfl⟩) hHeld ?_
                          change RestIn _ _ _ _ _ _ _ 21 #[true, true, true, true, true, true, true, true, true, true, false, false, false, false, false, false, false, false, false, false, false, false, false, false, false, false, false, false, false, false, false] _ _
                          try simp only [Act.put, List.setIfInBounds_toArray, List.set_cons_zero, List.set_cons_succ, List.getElem_toArray, List.getElem_cons_zero, List.getElem_cons_succ]
                          refine rest_take (i := 10) (v := _) all_wide (noDefers_of (by kernel_rfl)) rfl (by kernel_rfl) (by kernel_rfl) (by kernel_rfl) (fun _ _ _ h => h) (Or.inl ⟨by rfl, by intro w hSw; clear hSw; go_simp; first | done | with_reducible rfl⟩) hHeld ?_
                          change RestIn _ _ _ _ _ _ _ 20 #[true, true, true, true, true, true, true, true, true, true, true, false, false, false, false, false, false, false, false, false, false, false, false, false, false, false, false, false, false, false, false] _ _
                          try simp only [Act.put, List.setIfInBounds_toArray, List.set_cons_zero, List.set_cons_succ, List.getElem_toArray, List.getElem_cons_zero, List.getElem_cons_succ]
                          refine rest_take (i := 11) (v := _) all_wide (noDefers_of (by kernel_rfl)) rfl (by kernel_rfl) (by kernel_rfl) (by kernel_rfl) (fun _ _ _ h => h) (Or.inl ⟨by rfl, by intro w hSw; clear hSw; go_simp; first | done | with_reducible rfl⟩) hHeld ?_
                          change RestIn _ _ _ _ _ _ _ 19 #[true, true, true, true, true, true, true, true, true, true, true, true, false, false, false, false, false, false, false, false, false, false, false, false, false, false, false, false, false, false, false] _ _
                          try simp only [Act.put, List.setIfInBounds_toArray, List.set_cons_zero, List.set_cons_succ, List.getElem_toArray, List.getElem_cons_zero, List.getElem_cons_succ]
                          refine rest_take (i := 12) (v := _) all_wide (noDefers_of (by kernel_rfl)) rfl (by kernel_rfl) (by kernel_rfl) (by kernel_rfl) (fun _ _ _ h => h) (Or.inl ⟨by rfl, by intro w hSw; clear hSw; go_simp; first | done | with_reducible rfl⟩) hHeld ?_
                          change RestIn _ _ _ _ _ _ _ 18 #[true, true, true, true, true, true, true, true, true, true, true, true, true, false, false, false, false, false, false, false, false, false, false, false, false, false, false, false, false, false, false] _ _
                          try simp only [Act.put, List.setIfInBounds_toArray, List.set_cons_zero, List.set_cons_succ, List.getElem_toArray, List.getElem_cons_zero, List.getElem_cons_succ]
                          refine rest_take (i := 13) (v := _) all_wide (noDefers_of (by kernel_rfl)) rfl (by kernel_rfl) (by kernel_rfl) (by kernel_rfl) (fun _ _ _ h => h) (Or.inl ⟨by rfl, by intro w hSw; clear hSw; go_simp; first | done | with_reducible rfl⟩) hHeld ?_
                          change RestIn _ _ _ _ _ _ _ 17 #[true, true, true, true, true, true, true, true, true, true, true, true, true, true, false, false, false, false, false, false, false, false, false, false, false, false, false, false, false, false, false] _ _
                          try simp only [Act.put, List.setIfInBounds_toArray, List.set_cons_zero, List.set_cons_succ, List.getElem_toArray, List.getElem_cons_zero, List.getElem_cons_succ]
                          refine rest_take (i := 14) (v := undef) all_wide (noDefers_of (by kernel_rfl)) rfl (by kernel_rfl) (by kernel_rfl) (by kernel_rfl) (fun _ _ _ h => h) (Or.inr ⟨by rfl, rfl⟩) hHeld ?_
                          change RestIn _ _ _ _ _ _ _ 16 #[true, true, true, true, true, true, true, true, true, true, true, true, true, true, true, false, false, false, false, false, false, false, false, false, false, false, false, false, false, false, false] _ _
                          try simp only [Act.put, List.setIfInBounds_toArray, List.set_cons_zero, List.set_cons_succ, List.getElem_toArray, List.getElem_cons_zero, List.getElem_cons_succ]
                          refine rest_take (i := 15) (v := undef) all_wide (noDefers_of (by kernel_rfl)) rfl (by kernel_rfl) (by kernel_rfl) (by kernel_rfl) (fun _ _ _ h => h) (Or.inr ⟨by rfl, rfl⟩) hHeld ?_
                          change RestIn _ _ _ _ _ _ _ 15 #[true, true, true, true, true, true, true, true, true, true, true, true, true, true, true, true, false, false, false, false, false, false, false, false, false, false, false, false, false, false, false] _ _
                          try simp only [Act.put, List.setIfInBounds_toArray, List.set_cons_zero, List.set_cons_succ, List.getElem_toArray, List.getElem_cons_zero, List.getElem_cons_succ]
                          refine rest_take (i := 16) (v := undef) all_wide (noDefers_of (by kernel_rfl)) rfl (by kernel_rfl) (by kernel_rfl) (by kernel_rfl) (fun _ _ _ h => h) (Or.inr ⟨by rfl, rfl⟩) hHeld ?_
                          change RestIn _ _ _ _ _ _ _ 14 #[true, true, true, true, true, true, true, true, true, true, true, true, true, true, true, true, true, false, false, false, false, false, false, false, false, false, false, false, false, false, false] _ _
                          try simp only [Act.put, List.setIfInBounds_toArray, List.set_cons_zero, List.set_cons_succ, List.getElem_toArray, List.getElem_cons_zero, List.getElem_cons_succ]
                          refine rest_take (i := 17) (v := undef) all_wide (noDefers_of (by kernel_rfl)) rfl (by kernel_rfl) (by kernel_rfl) (by kernel_rfl) (fun _ _ _ h => h) (Or.inr ⟨by rfl, rfl⟩) hHeld ?_
                          change RestIn _ _ _ _ _ _ _ 13 #[true, true, true, true, true, true, true, true, true, true, true, true, true, true, true, true, true, true, false, false, false, false, false, false, false, false, false, false, false, false, false] _ _
                          try simp only [Act.put, List.setIfInBounds_toArray, List.set_cons_zero, List.set_cons_succ, List.getElem_toArray, List.getElem_cons_zero, List.getElem_cons_succ]
                          refine rest_take (i := 18) (v := undef) all_wide (noDefers_of (by kernel_rfl)) rfl (by kernel_rfl) (by kernel_rfl) (by kernel_rfl) (fun _ _ _ h => h) (Or.inr ⟨by rfl, rfl⟩) hHeld ?_
                          change RestIn _ _ _ _ _ _ _ 12 #[true, true, true, true, true, true, true, true, true, true, true, true, true, true, true, true, true, true, true, false, false, false, false, false, false, false, false, false, false, false, false] _ _
                          try simp only [Act.put, List.setIfInBounds_toArray, List.set_cons_zero, List.set_cons_succ, List.getElem_toArray, List.getElem_cons_zero, List.getElem_cons_succ]
                          refine rest_take (i := 19) (v := undef) all_wide (noDefers_of (by kernel_rfl)) rfl (by kernel_rfl) (by kernel_rfl) (by kernel_rfl) (fun _ _ _ h => h) (Or.inr ⟨by rfl, rfl⟩) hHeld ?_
                          change RestIn _ _ _ _ _ _ _ 11 #[true, true, true, true, true, true, true, true, true, true, true, true, true, true, true, true, true, true, true, true, false, false, false, false, false, false, false, false, false, false, false] _ _
                          try simp only [Act.put, List.setIfInBounds_toArray, List.set_cons_zero, List.set_cons_succ, List.getElem_toArray, List.getElem_cons_zero, List.getElem_cons_succ]
                          refine rest_take (i := 20) (v := undef) all_wide (noDefers_of (by kernel_rfl)) rfl (by kernel_rfl) (by kernel_rfl) (by kernel_rfl) (fun _ _ _ h => h) (Or.inr ⟨by rfl, rfl⟩) hHeld ?_
                          change RestIn _ _ _ _ _ _ _ 10 #[true, true, true, true, true, true, true, true, true, true, true, true, true, true, true, true, true, true, true, true, true, false, false, false, false, false, false, false, false, false, false] _ _
                          try simp only [Act.put, List.setIfInBounds_toArray, List.set_cons_zero, List.set_cons_succ, List.getElem_toArray, List.getElem_cons_zero, List.getElem_cons_succ]
                          refine rest_take (i := 21) (v := undef) all_wide (noDefers_of (by kernel_rfl)) rfl (by kernel_rfl) (by kernel_rfl) (by kernel_rfl) (fun _ _ _ h => h) (Or.inr ⟨by rfl, rfl⟩) hHeld ?_
                          change RestIn _ _ _ _ _ _ _ 9 #[true, true, true, true, true, true, true, true, true, true, true, true, true, true, true, true, true, true, true, true, true, true, false, false, false, false, false, false, false, false, false] _ _
                          try simp only [Act.put, List.setIfInBounds_toArray, List.set_cons_zero, List.set_cons_succ, List.getElem_toArray, List.getElem_cons_zero, List.getElem_cons_succ]
                          refine rest_take (i := 22) (v := undef) all_wide (noDefers_of (by kernel_rfl)) rfl (by kernel_rfl) (by kernel_rfl) (by kernel_rfl) (fun _ _ _ h => h) (Or.inr ⟨by rfl, rfl⟩) hHeld ?_
                          change RestIn _ _ _ _ _ _ _ 8 #[true, true, true, true, true, true, true, true, true, true, true, true, true, true, true, true, true, true, true, true, true, true, true, false, false, false, false, false, false, false, false] _ _
                          try simp only [Act.put, List.setIfInBounds_toArray, List.set_cons_zero, List.set_cons_succ, List.getElem_toArray, List.getElem_cons_zero, List.getElem_cons_succ]
                          refine rest_take (i := 23) (v := undef) all_wide (noDefers_of (by kernel_rfl)) rfl (by kernel_rfl) (by kernel_rfl) (by kernel_rfl) (fun _ _ _ h => h) (Or.inr ⟨by rfl, rfl⟩) hHeld ?_
                          change RestIn _ _ _ _ _ _ _ 7 #[true, true, true, true, true, true, true, true, true, true, true, true, true, true, true, true, true, true, true, true, true, true, true, true, false, false, false, false, false, false, false] _ _
                          try simp only [Act.put, List.setIfInBounds_toArray, List.set_cons_zero, List.set_cons_succ, List.getElem_toArray, List.getElem_cons_zero, List.getElem_cons_succ]
                          refine rest_take (i := 24) (v := undef) all_wide (noDefers_of (by kernel_rfl)) rfl (by kernel_rfl) (by kernel_rfl) (by kernel_rfl) (fun _ _ _ h => h) (Or.inr ⟨by rfl, rfl⟩) hHeld ?_
                          change RestIn _ _ _ _ _ _ _ 6 #[true, true, true, true, true, true, true, true, true, true, true, true, true, true, true, true, true, true, true, true, true, true, true, true, true, false, false, false, false, false, false] _ _
                          try simp only [Act.put, List.setIfInBounds_toArray, List.set_cons_zero, List.set_cons_succ, List.getElem_toArray, List.getElem_cons_zero, List.getElem_cons_succ]
                          refine rest_take (i := 25) (v := undef) all_wide (noDefers_of (by kernel_rfl)) rfl (by kernel_rfl) (by kernel_rfl) (by kernel_rfl) (fun _ _ _ h => h) (Or.inr ⟨by rfl, rfl⟩) hHeld ?_
                          change RestIn _ _ _ _ _ _ _ 5 #[true, true, true, true, true, true, true, true, true, true, true, true, true, true, true, true, true, true, true, true, true, true, true, true, true, true, false, false, false, false, false] _ _
                          try simp only [Act.put, List.setIfInBounds_toArray, List.set_cons_zero, List.set_cons_succ, List.getElem_toArray, List.getElem_cons_zero, List.getElem_cons_succ]
                          refine rest_take (i := 26) (v := undef) all_wide (noDefers_of (by kernel_rfl)) rfl (by kernel_rfl) (by kernel_rfl) (by kernel_rfl) (fun _ _ _ h => h) (Or.inr ⟨by rfl, rfl⟩) hHeld ?_
                          change RestIn _ _ _ _ _ _ _ 4 #[true, true, true, true, true, true, true, true, true, true, true, true, true, true, true, true, true, true, true, true, true, true, true, true, true, true, true, false, false, false, false] _ _
                          try simp only [Act.put, List.setIfInBounds_toArray, List.set_cons_zero, List.set_cons_succ, List.getElem_toArray, List.getElem_cons_zero, List.getElem_cons_succ]
                          refine rest_take (i := 27) (v := undef) all_wide (noDefers_of (by kernel_rfl)) rfl (by kernel_rfl) (by kernel_rfl) (by kernel_rfl) (fun _ _ _ h => h) (Or.inr ⟨by rfl, rfl⟩) hHeld ?_
                          change RestIn _ _ _ _ _ _ _ 3 #[true, true, true, true, true, true, true, true, true, true, true, true, true, true, true, true, true, true, true, true, true, true, true, true, true, true, true, true, false, false, false] _ _
                          try simp only [Act.put, List.setIfInBounds_toArray, List.set_cons_zero, List.set_cons_succ, List.getElem_toArray, List.getElem_cons_zero, List.getElem_cons_succ]
                          refine rest_take (i := 28) (v := undef) all_wide (noDefers_of (by kernel_rfl)) rfl (by kernel_rfl) (by kernel_rfl) (by kernel_rfl) (fun _ _ _ h => h) (Or.inr ⟨by rfl, rfl⟩) hHeld ?_
                          change RestIn _ _ _ _ _ _ _ 2 #[true, true, true, true, true, true, true, true, true, true, true, true, true, true, true, true, true, true, true, true, true, true, true, true, true, true, true, true, true, false, false] _ _
                          try simp only [Act.put, List.setIfInBounds_toArray, List.set_cons_zero, List.set_cons_succ, List.getElem_toArray, List.getElem_cons_zero, List.getElem_cons_succ]
                          refine rest_take (i := 29) (v := _) all_wide (noDefers_of (by kernel_rfl)) rfl (by kernel_rfl) (by kernel_rfl) (by kernel_rfl) (fun _ _ _ h => h) (Or.inl ⟨by rfl, by intro w hSw; clear hSw; go_simp; first | done | with_reducible rfl⟩) hHeld ?_
                          change RestIn _ _ _ _ _ _ _ 1 #[true, true, true, true, true, true, true, true, true, true, true, true, true, true, true, true, true, true, true, true, true, true, true, true, true, true, true, true, true, true, false] _ _
                          try simp only [Act.put, List.setIfInBounds_toArray, List.set_cons_zero, List.set_cons_succ, List.getElem_toArray, List.getElem_cons_zero, List.getElem_cons_succ]
                          refine rest_take (i := 30) (v := _) all_wide (noDefers_of (by kernel_rfl)) rfl (by kernel_rfl) (by kernel_rfl) (by kernel_rfl) (fun _ _ _ h => h) (Or.inl ⟨by rfl, by intro w hSw; clear hSw; go_simp; first | done | with_reducible rfl⟩) hHeld ?_
                          change RestIn _ _ _ _ _ _ _ 0 #[true, true, true, true, true, true, true, true, true, true, true, true, true, true, true, true, true, true, true, true, true, true, true, true, true, true, true, true, true, true, true] _ _
                          try simp only [Act.put, List.setIfInBounds_toArray, List.set_cons_zero, List.set_cons_succ, List.getElem_toArray, List.getElem_cons_zero, List.getElem_cons_succ]
                          refine rest_done (by kernel_rfl) ?_
                          have hN := hHeld
                          clear hHeld hLast
                          go_wp2
                          go_roundw
                          case rel => exact ⟨t + 1, by omega, by omega, by go_num, hWb.trans (hN.mono hWb.size)⟩
                          case measure => simp [intOf]; omega
                      case pos =>
                        as_aux_lemma =>
                          have d4 : decide ((i : Int) + 1 < (ws.length : Int)) = true := decide_eq_true (by omega)
                          have d4' : decide (i + 1 < ws.length) = true := decide_eq_true (by omega)
                          have d4l : decide ((i : Int) + 1 < (l.length : Int)) = true := decide_eq_true (by omega)
                          have d4m : decide (i + 1 < l.length) = true := decide_eq_true (by omega)
                          have hi1l : (i : Int) + 1 < (l.length : Int) := by omega
                          obtain ⟨⟨p1, p2⟩, hp⟩ := getElem?_lt hil
                          have hpw := HNW.out _ hp
                          simp only at hpw
                          have g0 := cell_after (HB4.out.trans (hWb.mono HB4.out.size)) (HS3.out _ hp)
                          simp only at g0
                          have hi1 : (i : Int) + 1 < (ws.length : Int) := by omega
                          have hi2 : (0 : Int) ≤ (i : Int) + 1 := by omega
                          have hi3 : ((i : Int) + 1).toNat = i + 1 := by omega
                          have w8' : IntKind.i64.wrap ((j : Int) + 1 - 1) = (j : Int) := by rw [IntWalk.i64_in _ (by omega)]; omega
                          have w8'' : IntKind.i64.wrap (j : Int) = (j : Int) := IntWalk.i64_in _ (by omega)
                          have hj1 : (j : Int) < (j : Int) + 1 := by omega
                          have w9' : IntKind.i64.wrap (z + (rest : Int)) = z + (rest : Int) := IntWalk.i64_in _ (by omega)
                          have d5 : decide (p1 < z + (rest : Int)) = false := decide_eq_false (by omega)
                          have hLast := trivial
                          refine region_rest (S := (fun w' => w'.cell? ⟨q7, o7 + j, none⟩ = some (.int .i64 z) ∧ w'.cell? ⟨q, o + (i + 1) * 2, none⟩ = some (.int .i64 p1) ∧ Below W0.heap.size W0 w')) hmx ?_ (fun hHeld => ?_)
                          · exact ⟨z0, g0, (Below.refl W0.heap.size W0).drew⟩
                          change RestIn _ _ _ _ _ _ _ 31 #[false, false, false, false, false, false, false, false, false, false, false, false, false, false, false, false, false, false, false, false, false, false, false, false, false, false, false, false, false, false, false] _ (World.drew _)
                          refine rest_take (i := 0) (v := _) all_wide (noDefers_of (by kernel_rfl)) rfl (by kernel_rfl) (by kernel_rfl) (by kernel_rfl) (fun _ _ _ h => h) (Or.inl ⟨by rfl, by intro w hSw; clear hSw; go_simp; first | done | with_reducible rfl⟩) hHeld ?_
                          change RestIn _ _ _ _ _ _ _ 30 #[true, false, false, false, false, false, false, false, false, false, false, false, false, false, false, false, false, false, false, false, false, false, false, false, false, false, false, false, false, false, false] _ _
                          try simp only [Act.put, List.setIfInBounds_toArray, List.set_cons_zero, List.set_cons_succ, List.getElem_toArray, List.getElem_cons_zero, List.getElem_cons_succ]
                          refine rest_take (i := 1) (v := _) all_wide (noDefers_of (by kernel_rfl)) rfl (by kernel_rfl) (by kernel_rfl) (by kernel_rfl) (fun _ _ _ h => h) (Or.inl ⟨by rfl, by intro w hSw; clear hSw; go_simp; first | done | with_reducible rfl⟩) hHeld ?_
                          change RestIn _ _ _ _ _ _ _ 29 #[true, true, false, false, false, false, false, false, false, false, false, false, false, false, false, false, false, false, false, false, false, false, false, false, false, false, false, false, false, false, false] _ _
                          try simp only [Act.put, List.setIfInBounds_toArray, List.set_cons_zero, List.set_cons_succ, List.getElem_toArray, List.getElem_cons_zero, List.getElem_cons_succ]
                          refine rest_take (i := 2) (v := _) all_wide (noDefers_of (by kernel_rfl)) rfl (by kernel_rfl) (by kernel_rfl) (by kernel_rfl) (fun _ _ _ h => h) (Or.inl ⟨by rfl, by intro w hSw; clear hSw; go_simp; first | done | with_reducible rfl⟩) hHeld ?_
                          change RestIn _ _ _ _ _ _ _ 28 #[true, true, true, false, false, false, false, false, false, false, false, false, false, false, false, false, false, false, false, false, false, false, false, false, false, false, false, false, false, false, false] _ _
                          try simp only [Act.put, List.setIfInBounds_toArray, List.set_cons_zero, List.set_cons_succ, List.getElem_toArray, List.getElem_cons_zero, List.getElem_cons_succ]
                          refine rest_take (i := 3) (v := _) all_wide (noDefers_of (by kernel_rfl)) rfl (by kernel_rfl) (by kernel_rfl) (by kernel_rfl) (fun _ _ _ h => h) (Or.inl ⟨by rfl, by intro w hSw; clear hSw; go_simp; first | done | with_reducible rfl⟩) hHeld ?_
                          change RestIn _ _ _ _ _ _ _ 27 #[true, true, true, true, false, false, false, false, false, false, false, false, false, false, false, false, false, false, false, false, false, false, false, false, false, false, false, false, false, false, false] _ _
                          try simp only [Act.put, List.setIfInBounds_toArray, List.set_cons_zero, List.set_cons_succ, List.getElem_toArray, List.getElem_cons_zero, List.getElem_cons_succ]
                          refine rest_take (i := 4) (v := _) all_wide (noDefers_of (by kernel_rfl)) rfl (by kernel_rfl) (by kernel_rfl) (by kernel_rfl) (fun _ _ _ h => h) (Or.inl ⟨by rfl, by intro w hSw; clear hSw; go_simp; first | done | with_reducible rfl⟩) hHeld ?_
                          change RestIn _ _ _ _ _ _ _ 26 #[true, true, true, true, true, false, false, false, false, false, false, false, false, false, false, false, false, false, false, false, false, false, false, false, false, false, false, false, false, false, false] _ _
                          try simp only [Act.put, List.setIfInBounds_toArray, List.set_cons_zero, List.set_cons_succ, List.getElem_toArray, List.getElem_cons_zero, List.getElem_cons_succ]
                          refine rest_take (i := 5) (v := _) all_wide (noDefers_of (by kernel_rfl)) rfl (by kernel_rfl) (by kernel_rfl) (by kernel_rfl) (fun _ _ _ h => h) (Or.inl ⟨by rfl, by intro w hSw; clear hSw; go_simp; first | done | with_reducible rfl⟩) hHeld ?_
                          change RestIn _ _ _ _ _ _ _ 25 #[true, true, true, true, true, true, false, false, false, false, false, false, false, false, false, false, false, false, false, false, false, false, false, false, false, false, false, false, false, false, false] _ _
                          try simp only [Act.put, List.setIfInBounds_toArray, List.set_cons_zero, List.set_cons_succ, List.getElem_toArray, List.getElem_cons_zero, List.getElem_cons_succ]
                          refine rest_take (i := 6) (v := _) all_wide (noDefers_of (by kernel_rfl)) rfl (by kernel_rfl) (by kernel_rfl) (by kernel_rfl) (fun _ _ _ h => h) (Or.inl ⟨by rfl, by intro w hSw; clear hSw; go_simp; first | done | with_reducible rfl⟩) hHeld ?_
                          change RestIn _ _ _ _ _ _ _ 24 #[true, true, true, true, true, true, true, false, false, false, false, false, false, false, false, false, false, false, false, false, false, false, false, false, false, false, false, false, false, false, false] _ _
                          try simp only [Act.put, List.setIfInBounds_toArray, List.set_cons_zero, List.set_cons_succ, List.getElem_toArray, List.getElem_cons_zero, List.getElem_cons_succ]
                          refine rest_take (i := 7) (v := _) all_wide (noDefers_of (by kernel_rfl)) rfl (by kernel_rfl) (by kernel_rfl) (by kernel_rfl) (fun _ _ _ h => h) (Or.inl ⟨by rfl, by intro w hSw; clear hSw; go_simp; first | done | with_reducible rfl⟩) hHeld ?_
                          change RestIn _ _ _ _ _ _ _ 23 #[true, true, true, true, true, true, true, true, false, false, false, false, false, false, false, false, false, false, false, false, false, false, false, false, false, false, false, false, false, false, false] _ _
                          try simp only [Act.put, List.setIfInBounds_toArray, List.set_cons_zero, List.set_cons_succ, List.getElem_toArray, List.getElem_cons_zero, List.getElem_cons_succ]
                          refine rest_take (i := 8) (v := _) all_wide (noDefers_of (by kernel_rfl)) rfl (by kernel_rfl) (by kernel_rfl) (by kernel_rfl) (fun _ _ _ h => h) (Or.inl ⟨by rfl, by intro w hSw; clear hSw; go_simp; first | done | with_reducible rfl⟩) hHeld ?_
                          change RestIn _ _ _ _ _ _ _ 22 #[true, true, true, true, true, true, true, true, true, false, false, false, false, false, false, false, false, false, false, false, false, false, false, false, false, false, false, false, false, false, false] _ _
                          try simp only [Act.put, List.setIfInBounds_toArray, List.set_cons_zero, List.set_cons_succ, List.getElem_toArray, List.getElem_cons_zero, List.getElem_cons_succ]
                          refine rest_take (i := 9) (v := _) all_wide (noDefers_of (by kernel_rfl)) rfl (by kernel_rfl) (by kernel_rfl) (by kernel_rfl) (fun _ _ _ h => h) (Or.inl ⟨by rfl, by intro w hSw; clear hSw; go_simp; first | done | with_reducible rfl⟩) hHeld ?_
                          change RestIn _ _ _ _ _ _ _ 21 #[true, true, true, true, true, true, true, true, true, true, false, false, false, false, false, false, false, false, false, false, false, false, false, false, false, false, false, false, false, false, false] _ _
                          try simp only [Act.put, List.setIfInBounds_toArray, List.set_cons_zero, List.set_cons_succ, List.getElem_toArray, List.getElem_cons_zero, List.getElem_cons_succ]
                          refine rest_take (i := 10) (v := _) all_wide (noDefers_of (by kernel_rfl)) rfl (by kernel_rfl) (by kernel_rfl) (by kernel_rfl) (fun _ _ _ h => h) (Or.inl ⟨by rfl, by intro w hSw; clear hSw; go_simp; first | done | with_reducible rfl⟩) hHeld ?_
                          change RestIn _ _ _ _ _ _ _ 20 #[true, true, true, true, true, true, true, true, true, true, true, false, false, false, false, false, false, false, false, false, false, false, false, false, false, false, false, false, false, false, false] _ _
                          try simp only [Act.put, List.setIfInBounds_toArray, List.set_cons_zero, List.set_cons_succ, List.getElem_toArray, List.getElem_cons_zero, List.getElem_cons_succ]
                          refine rest_take (i := 11) (v := _) all_wide (noDefers_of (by kernel_rfl)) rfl (by kernel_rfl) (by kernel_rfl) (by kernel_rfl) (fun _ _ _ h => h) (Or.inl ⟨by rfl, by intro w hSw; clear hSw; go_simp; first | done | with_reducible rfl⟩) hHeld ?_
                          change RestIn _ _ _ _ _ _ _ 19 #[true, true, true, true, true, true, true, true, true, true, true, true, false, false, false, false, false, false, false, false, false, false, false, false, false, false, false, false, false, false, false] _ _
                          try simp only [Act.put, List.setIfInBounds_toArray, List.set_cons_zero, List.set_cons_succ, List.getElem_toArray, List.getElem_cons_zero, List.getElem_cons_succ]
                          refine rest_take (i := 12) (v := _) all_wide (noDefers_of (by kernel_rfl)) rfl (by kernel_rfl) (by kernel_rfl) (by kernel_rfl) (fun _ _ _ h => h) (Or.inl ⟨by rfl, by intro w hSw; clear hSw; go_simp; first | done | with_reducible rfl⟩) hHeld ?_
                          change RestIn _ _ _ _ _ _ _ 18 #[true, true, true, true, true, true, true, true, true, true, true, true, true, false, false, false, false, false, false, false, false, false, false, false, false, false, false, false, false, false, false] _ _
                          try simp only [Act.put, List.setIfInBounds_toArray, List.set_cons_zero, List.set_cons_succ, List.getElem_toArray, List.getElem_cons_zero, List.getElem_cons_succ]
                          refine rest_take (i := 13) (v := _) all_wide (noDefers_of (by kernel_rfl)) rfl (by kernel_rfl) (by kernel_rfl) (by kernel_rfl) (fun _ _ _ h => h) (Or.inl ⟨by rfl, by intro w hSw; clear hSw; go_simp; first | done | with_reducible rfl⟩) hHeld ?_
                          change RestIn _ _ _ _ _ _ _ 17 #[true, true, true, true, true, true, true, true, true, true, true, true, true, true, false, false, false, false, false, false, false, false, false, false, false, false, false, false, false, false, false] _ _
                          try simp only [Act.put, List.setIfInBounds_toArray, List.set_cons_zero, List.set_cons_succ, List.getElem_toArray, List.getElem_cons_zero, List.getElem_cons_succ]
                          refine rest_take (i := 14) (v := _) all_wide (noDefers_of (by kernel_rfl)) rfl (by kernel_rfl) (by kernel_rfl) (by kernel_rfl) (fun _ _ _ h => h) (Or.inl ⟨by rfl, by intro w hSw; clear hSw; go_simp; first | done | with_reducible rfl⟩) hHeld ?_
                          change RestIn _ _ _ _ _ _ _ 16 #[true, true, true, true, true, true, true, true, true, true, true, true, true, true, true, false, false, false, false, false, false, false, false, false, false, false, false, false, false, false, false] _ _
                          try simp only [Act.put, List.setIfInBounds_toArray, List.set_cons_zero, List.set_cons_succ, List.getElem_toArray, List.getElem_cons_zero, List.getElem_cons_succ]
                          refine rest_take (i := 15) (v := _) all_wide (noDefers_of (by kernel_rfl)) rfl (by kernel_rfl) (by kernel_rfl) (by kernel_rfl) (fun _ _ _ h => h) (Or.inl ⟨by rfl, by intro w hSw; clear hSw; go_simp; first | done | with_reducible rfl⟩) hHeld ?_
                          change RestIn _ _ _ _ _ _ _ 15 #[true, true, true, true, true, true, true, true, true, true, true, true, true, true, true, true, false, false, false, false, false, false, false, false, false, false, false, false, false, false, false] _ _
                          try simp only [Act.put, List.setIfInBounds_toArray, List.set_cons_zero, List.set_cons_succ, List.getElem_toArray, List.getElem_cons_zero, List.getElem_cons_succ]
                          refine rest_take (i := 16) (v := _) all_wide (noDefers_of (by kernel_rfl)) rfl (by kernel_rfl) (by kernel_rfl) (by kernel_rfl) (fun _ _ _ h => h) (Or.inl ⟨by rfl, by intro w hSw; clear hSw; go_simp; first | done | with_reducible rfl⟩) hHeld ?_
                          change RestIn _ _ _ _ _ _ _ 14 #[true, true, true, true, true, true, true, true, true, true, true, true, true, true, true, true, true, false, false, false, false, false, false, false, false, false, false, false, false, false, false] _ _
                          try simp only [Act.put, List.setIfInBounds_toArray, List.set_cons_zero, List.set_cons_succ, List.getElem_toArray, List.getElem_cons_zero, List.getElem_cons_succ]
                          refine rest_take (i := 17) (v := _) all_wide (noDefers_of (by kernel_rfl)) rfl (by kernel_rfl) (by kernel_rfl) (by kernel_rfl) (fun _ _ _ h => h) (Or.inl ⟨by rfl, by intro w hSw; clear hSw; go_simp; first | done | with_reducible rfl⟩) hHeld ?_
                          change RestIn _ _ _ _ _ _ _ 13 #[true, true, true, true, true, true, true, true, true, true, true, true, true, true, true, true, true, true, false, false, false, false, false, false, false, false, false, false, false, false, false] _ _
                          try simp only [Act.put, List.setIfInBounds_toArray, List.set_cons_zero, List.set_cons_succ, List.getElem_toArray, List.getElem_cons_zero, List.getElem_cons_succ]
                          refine rest_take (i := 18) (v := _) all_wide (noDefers_of (by kernel_rfl)) rfl (by kernel_rfl) (by kernel_rfl) (by kernel_rfl) (fun _ _ _ h => h) (Or.inl ⟨by rfl, by intro w hSw; clear hSw; go_simp; first | done | with_reducible rfl⟩) hHeld ?_
                          change RestIn _ _ _ _ _ _ _ 12 #[true, true, true, true, true, true, true, true, true, true, true, true, true, true, true, true, true, true, true, false, false, false, false, false, false, false, false, false, false, false, false] _ _
                          try simp only [Act.put, List.setIfInBounds_toArray, List.set_cons_zero, List.set_cons_succ, List.getElem_toArray, List.getElem_cons_zero, List.getElem_cons_succ]
                          refine rest_take (i := 19) (v := _) all_wide (noDefers_of (by kernel_rfl)) rfl (by kernel_rfl) (by kernel_rfl) (by kernel_rfl) (fun _ _ _ h => h) (Or.inl ⟨by rfl, by intro w hSw; (obtain ⟨q0, q1, _⟩ := hSw); go_simp; first | done | with_reducible rfl⟩) hHeld ?_
                          change RestIn _ _ _ _ _ _ _ 11 #[true, true, true, true, true, true, true, true, true, true, true, true, true, true, true, true, true, true, true, true, false, false, false, false, false, false, false, false, false, false, false] _ _
                          try simp only [Act.put, List.setIfInBounds_toArray, List.set_cons_zero, List.set_cons_succ, List.getElem_toArray, List.getElem_cons_zero, List.getElem_cons_succ]
                          refine rest_take (i := 20) (v := _) all_wide (noDefers_of (by kernel_rfl)) rfl (by kernel_rfl) (by kernel_rfl) (by kernel_rfl) (fun _ _ _ h => h) (Or.inl ⟨by rfl, by intro w hSw; clear hSw; go_simp; first | done | with_reducible rfl⟩) hHeld ?_
                          change RestIn _ _ _ _ _ _ _ 10 #[true, true, true, true, true, true, true, true, true, true, true, true, true, true, true, true, true, true, true, true, true, false, false, false, false, false, false, false, false, false, false] _ _
                          try simp only [Act.put, List.setIfInBounds_toArray, List.set_cons_zero, List.set_cons_succ, List.getElem_toArray, List.getElem_cons_zero, List.getElem_cons_succ]
                          refine rest_take (i := 21) (v := _) all_wide (noDefers_of (by kernel_rfl)) rfl (by kernel_rfl) (by kernel_rfl) (by kernel_rfl) (fun _ _ _ h => h) (Or.inl ⟨by rfl, by intro w hSw; clear hSw; go_simp; first | done | with_reducible rfl⟩) hHeld ?_
                          change RestIn _ _ _ _ _ _ _ 9 #[true, true, true, true, true, true, true, true, true, true, true, true, true, true, true, true, true, true, true, true, true, true, false, false, false, false, false, false, false, false, false] _ _
                          try simp only [Act.put, List.setIfInBounds_toArray, List.set_cons_zero, List.set_cons_succ, List.getElem_toArray, List.getElem_cons_zero, List.getElem_cons_succ]
                          refine rest_take (i := 22) (v := _) all_wide (noDefers_of (by kernel_rfl)) rfl (by kernel_rfl) (by kernel_rfl) (by kernel_rfl) (fun _ _ _ h => h) (Or.inl ⟨by rfl, by intro w hSw; clear hSw; go_simp; first | done | with_reducible rfl⟩) hHeld ?_
                          change RestIn _ _ _ _ _ _ _ 8 #[true, true, true, true, true, true, true, true, true, true, true, true, true, true, true, true, true, true, true, true, true, true, true, false, false, false, false, false, false, false, false] _ _
                          try simp only [Act.put, List.setIfInBounds_toArray, List.set_cons_zero, List.set_cons_succ, List.getElem_toArray, List.getElem_cons_zero, List.getElem_cons_succ]
                          refine rest_take (i := 23) (v := _) all_wide (noDefers_of (by kernel_rfl)) rfl (by kernel_rfl) (by kernel_rfl) (by kernel_rfl) (fun _ _ _ h => h) (Or.inl ⟨by rfl, by intro w hSw; clear hSw; go_simp; first | done | with_reducible rfl⟩) hHeld ?_
                          change RestIn _ _ _ _ _ _ _ 7 #[true, true, true, true, true, true, true, true, true, true, true, true, true, true, true, true, true, true, true, true, true, true, true, true, false, false, false, false, false, false, false] _ _
                          try simp only [Act.put, List.setIfInBounds_toArray, List.set_cons_zero, List.set_cons_succ, List.getElem_toArray, List.getElem_cons_zero, List.getElem_cons_succ]
                          refine rest_take (i := 24) (v := _) all_wide (noDefers_of (by kernel_rfl)) rfl (by kernel_rfl) (by kernel_rfl) (by kernel_rfl) (fun _ _ _ h => h) (Or.inl ⟨by rfl, by intro w hSw; clear hSw; go_simp; first | done | with_reducible rfl⟩) hHeld ?_
                          change RestIn _ _ _ _ _ _ _ 6 #[true, true, true, true, true, true, true, true, true, true, true, true, true, true, true, true, true, true, true, true, true, true, true, true, true, false, false, false, false, false, false] _ _
                          try simp only [Act.put, List.setIfInBounds_toArray, List.set_cons_zero, List.set_cons_succ, List.getElem_toArray, List.getElem_cons_zero, List.getElem_cons_succ]
                          refine rest_take (i := 25) (v := _) all_wide (noDefers_of (by kernel_rfl)) rfl (by kernel_rfl) (by kernel_rfl) (by kernel_rfl) (fun _ _ _ h => h) (Or.inl ⟨by rfl, by intro w hSw; clear hSw; go_simp; first | done | with_reducible rfl⟩) hHeld ?_
                          change RestIn _ _ _ _ _ _ _ 5 #[true, true, true, true, true, true, true, true, true, true, true, true, true, true, true, true, true, true, true, true, true, true, true, true, true, true, false, false, false, false, false] _ _
                          try simp only [Act.put, List.setIfInBounds_toArray, List.set_cons_zero, List.set_cons_succ, List.getElem_toArray, List.getElem_cons_zero, List.getElem_cons_succ]
                          refine rest_take (i := 26) (v := _) all_wide (noDefers_of (by kernel_rfl)) rfl (by kernel_rfl) (by kernel_rfl) (by kernel_rfl) (fun _ _ _ h => h) (Or.inl ⟨by rfl, by intro w hSw; clear hSw; go_simp; first | done | with_reducible rfl⟩) hHeld ?_
                          change RestIn _ _ _ _ _ _ _ 4 #[true, true, true, true, true, true, true, true, true, true, true, true, true, true, true, true, true, true, true, true, true, true, true, true, true, true, true, false, false, false, false] _ _
                          try simp only [Act.put, List.setIfInBounds_toArray, List.set_cons_zero, List.set_cons_succ, List.getElem_toArray, List.getElem_cons_zero, List.getElem_cons_succ]
                          refine rest_take (i := 27) (v := _) all_wide (noDefers_of (by kernel_rfl)) rfl (by kernel_rfl) (by kernel_rfl) (by kernel_rfl) (fun _ _ _ h => h) (Or.inl ⟨by rfl, by intro w hSw; (obtain ⟨q0, q1, _⟩ := hSw); go_simp; first | done | with_reducible rfl⟩) hHeld ?_
                          change RestIn _ _ _ _ _ _ _ 3 #[true, true, true, true, true, true, true, true, true, true, true, true, true, true, true, true, true, true, true, true, true, true, true, true, true, true, true, true, false, false, false] _ _
                          try simp only [Act.put, List.setIfInBounds_toArray, List.set_cons_zero, List.set_cons_succ, List.getElem_toArray, List.getElem_cons_zero, List.getElem_cons_succ]
                          refine rest_take (i := 28) (v := _) all_wide (noDefers_of (by kernel_rfl)) rfl (by kernel_rfl) (by kernel_rfl) (by kernel_rfl) (fun _ _ _ h => h) (Or.inl ⟨by rfl, by intro w hSw; clear hSw; go_simp; first | done | with_reducible rfl⟩) hHeld ?_
                          change RestIn _ _ _ _ _ _ _ 2 #[true, true, true, true, true, true, true, true, true, true, true, true, true, true, true, true, true, true, true, true, true, true, true, true, true, true, true, true, true, false, false] _ _
                          try simp only [Act.put, List.setIfInBounds_toArray, List.set_cons_zero, List.set_cons_succ, List.getElem_toArray, List.getElem_cons_zero, List.getElem_cons_succ]
                          refine rest_take (i := 29) (v := _) all_wide (noDefers_of (by kernel_rfl)) rfl (by kernel_rfl) (by kernel_rfl) (by kernel_rfl) (fun _ _ _ h => h) (Or.inl ⟨by rfl, by intro w hSw; clear hSw; go_simp; first | done | with_reducible rfl⟩) hHeld ?_
                          change RestIn _ _ _ _ _ _ _ 1 #[true, true, true, true, true, true, true, true, true, true, true, true, true, true, true, true, true, true, true, true, true, true, true, true, true, true, true, true, true, true, false] _ _
                          try simp only [Act.put, List.setIfInBounds_toArray, List.set_cons_zero, List.set_cons_succ, List.getElem_toArray, List.getElem_cons_zero, List.getElem_cons_succ]
                          refine rest_take (i := 30) (v := _) all_wide (noDefers_of (by kernel_rfl)) rfl (by kernel_rfl) (by kernel_rfl) (by kernel_rfl) (fun _ _ _ h => h) (Or.inl ⟨by rfl, by intro w hSw; clear hSw; go_simp; first | done | with_reducible rfl⟩) hHeld ?_
                          change RestIn _ _ _ _ _ _ _ 0 #[true, true, true, true, true, true, true, true, true, true, true, true, true, true, true, true, true, true, true, true, true, true, true, true, true, true, true, true, true, true, true] _ _
                          try simp only [Act.put, List.setIfInBounds_toArray, List.set_cons_zero, List.set_cons_succ, List.getElem_toArray, List.getElem_cons_zero, List.getElem_cons_succ]
                          refine rest_done (by kernel_rfl) ?_
                          have hN := hHeld.2.2
                          clear hHeld hLast z0 g0
                          go_wp2
                          go_roundw
                          case rel => exact ⟨t + 1, by omega, by omega, by go_num, hWb.trans (hN.mono hWb.size)⟩
                          case measure => simp [intOf]; omega
theorem follows_any (Al : Option Addr) (cl : Nat) (l : List FltA) (need rest : Int) (w : World) (hact : ActW w Al l) (hlm : l.length ≤ maxLen) :
    Calls Try.prog 11 #[.slice Al l.length cl, .int .i64 need, .int .i64 rest] w fun e w' => e = .returned (.bool true) ∧ Below w.heap.size w w' := by
  cases hli : lightB l
  · exact follows_dark Al cl l need rest w hact hlm (.inl hli)
  by_cases hn : 1 ≤ l.length ∧ l.length ≤ 3
  case neg => exact follows_dark Al cl l need rest w hact hlm (.inr (.inl ⟨hli, hn⟩))
  cases h1 : inB need 1 100
  · exact follows_dark Al cl l need rest w hact hlm (.inr (.inr (.inl ⟨hli, hn, h1⟩)))
  cases h2 : inB rest 0 1000
  · exact follows_dark Al cl l need rest w hact hlm (.inr (.inr (.inr ⟨hli, hn, h1, h2⟩)))
  have h1 := inB_true.1 h1
  have h2 := inB_true.1 h2
  obtain ⟨n, rfl⟩ : ∃ n : Nat, need = n := ⟨need.toNat, by omega⟩
  obtain ⟨r, rfl⟩ : ∃ r : Nat, rest = r := ⟨rest.toNat, by omega⟩
  cases hok : (actF l).all Flt.ok
  · exact follows_args Al cl l n r w hact hlm hli hn (by omega) (by omega) hok
  rcases chainOf_cases (l := actF l) (need := n) (rest := r) with ⟨h, _⟩ | ⟨h, _⟩
  · exact follows_ok Al cl l n r w hact hlm hli hn (by omega) (by omega) hok h
  · exact follows_none Al cl l n r w hact hlm hli hn (by omega) (by omega) hok h
end Go.Proofs.Ytbagfapalkmikaa
