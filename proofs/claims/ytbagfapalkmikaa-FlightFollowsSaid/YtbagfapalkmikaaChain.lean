import Derived.Test.YtbagfapalkmikaaChainA
import Derived.Deep.LoopGhost

/- The chain of an act. -/
namespace Go.Proofs.Ytbagfapalkmikaa
open Go.RowKit Go.Shelf
set_option linter.unusedSimpArgs false in
set_option maxRecDepth 100000 in
set_option maxHeartbeats 16000000 in
theorem chain_any (Al : Option Addr) (cl : Nat) (l : List FltA) (need rest : Nat) (w : World) (hact : ActW w Al l) (hl : l.length ≤ 12) (hok : ∀ x ∈ l, x.f.ok = true) (hn : 1 ≤ need ∧ need ≤ 100) (hre : rest ≤ 1000) :
    Calls Try.prog 78 #[.slice Al l.length cl, .int .i64 need, .int .i64 rest] w fun e w' => ∃ A' c', e = .returned (.tuple #[.slice A' (chainOf (actF l) need rest).ws.length c', .int .i64 (chainOf (actF l) need rest).at_, .int .i64 (chainOf (actF l) need rest).err]) ∧
      RS encW 2 w' w'.heap.size A' (chainOf (actF l) need rest).ws ∧ Below w.heap.size w w' := by
  obtain ⟨i0, hi0, hz0, hz1, hz2⟩ := info_parts infoWin
  have hml : (8000 : Nat) ≤ maxLen := by unfold maxLen; omega
  obtain ⟨o, ho⟩ : ∃ o, chainOf (actF l) need rest = o := ⟨_, rfl⟩
  rw [ho]
  have HO : Hid (chainGo need rest ((actF l).drop 0) 0 0 [] = o) := ho
  have HL := Lib.hid (actF_len l)
  have HACT : Hid (∀ W : World, Below w.heap.size w W → ActW W Al l) := fun W h => hact.to h
  have HOK := Lib.hid hok
  have HF : Hid (∀ (f : Flt) (A : Option Addr) (c : Nat) (W : World), f.ok = true → RS encB 4 W W.heap.size A f.cycle → Calls Try.prog 66 #[.agg #[.int .i64 f.fly.pos.x.lo, .int .i64 f.fly.pos.x.hi, .int .i64 f.fly.pos.z.lo, .int .i64 f.fly.pos.z.hi, .int .i64 f.fly.speed.x.lo, .int .i64 f.fly.speed.x.hi, .int .i64 f.fly.speed.z.lo, .int .i64 f.fly.speed.z.hi, .int .i64 f.fly.mass, .slice A f.cycle.length c, .int .i64 f.reach, .int .i64 f.soft, .int .i64 f.bears, .int .i64 f.least, .int .i64 f.most]] W fun e w' => ∃ g Ab An cb cn, e = .returned (.pointer (some ⟨g, 0, none⟩)) ∧ W.heap.size ≤ g ∧ FolW f A c w' w'.heap.size g Ab An cb cn ∧ Below W.heap.size W w') := fun f A c W hf h => follow_any f A c W hf h
  have HGD : Hid (∀ (f : Flt) (g : Nat) (A Ab An : Option Addr) (c cb cn r : Nat) (W : World), f.ok = true → r ≤ 6000 → FolW f A c W W.heap.size g Ab An cb cn → Calls Try.prog 104 #[.pointer (some ⟨g, 0, none⟩), .int .i64 (r : Int)] W fun e w' => e = .returned (.bool (goodB f r)) ∧ Below W.heap.size W w') := fun f g A Ab An c cb cn r W hf h1 h2 => good_any g f A Ab An c cb cn r hf h1 W h2
  clear hact hok ho
  go_enter Try.func78, Try.ntmps78
  go_wp2
  go_step3
  go_wp2
  go_step3
  go_wp2
  go_loopg [6, 9, 17] l.length (fun gh s b i wr => ∃ (k bg : Nat) (v : Value) (ws : List (Int × Int)), v = s ∧ k + gh = l.length ∧ i = .int .i64 k ∧ b = .int .i64 bg ∧ bg ≤ 7300 ∧ ws.length = k ∧ wr.ownsRow w.heap.size 92 2 v ws.length (ws.flatMap encW) ∧ Hid (chainGo need rest ((actF l).drop k) k bg ws = o) ∧ Below w.heap.size w wr)
  case atStart => exact ⟨0, 0, _, [], rfl, by omega, rfl, rfl, by omega, rfl, World.ownsRow_nil _ _ _ _, HO, Below.refl _ _⟩
  case round =>
    obtain ⟨k, bg, v, ws, rfl, hkg, rfl, rfl, hbg, hws, hown, HI, hB⟩ := hrel
    subst hws
    cases gk with
    | zero =>
      have hkz : ¬ ((ws.length : Int) < (l.length : Int)) := by omega
      obtain ⟨A3, c3, rfl, _⟩ := own_slice hown
      have hS := RS.of_own (enc := encW) (sz := 2) encW_len hown rfl
      have HE : Hid (o = ⟨ws, 0, 0⟩) := by show _ = _; rw [← HI.out]; exact chainGo_end (by rw [HL.out]; omega)
      clear hown HI HO
      go_wp2
      try rw [Exit.noGoto_ret]
      go_ret3
      rw [HE.out]
      exact ⟨A3, c3, rfl, hS, hB⟩
    | succ gh =>
      have hkI : (ws.length : Int) < (l.length : Int) := by omega
      obtain ⟨x, hx⟩ := getElem?_lt (l := l) (k := ws.length) (by omega)
      have HrB := HACT.out _ hB
      have hxr := HrB.2 x (List.mem_of_getElem? hx)
      have hxok := HOK.out x (List.mem_of_getElem? hx)
      have Hx : Hid ((actF l)[ws.length]? = some x.f) := actF_get hx
      obtain ⟨b, off, rfl, hb, hc⟩ := HrB.1.at_ hx
      obtain ⟨f, A, c⟩ := x
      obtain ⟨_, _, _, _, _, _, ⟨hle, _⟩, ⟨hmo1, hmo2⟩, _⟩ := Flt.ok_iff.1 hxok
      obtain ⟨mo, hmo⟩ : ∃ mo : Nat, f.most = mo := ⟨f.most.toNat, by simp only at hmo1; omega⟩
      have hmo3 : mo ≤ 300 := by simp only at hmo2; omega
      have hmoN : f.most.toNat = mo := by omega
      have c0 := hc 0 _ rfl
      have c1 := hc 1 _ rfl
      have c2 := hc 2 _ rfl
      have c3 := hc 3 _ rfl
      have c4 := hc 4 _ rfl
      have c5 := hc 5 _ rfl
      have c6 := hc 6 _ rfl
      have c7 := hc 7 _ rfl
      have c8 := hc 8 _ rfl
      have c9 := hc 9 _ rfl
      have c10 := hc 10 _ rfl
      have c11 := hc 11 _ rfl
      have c12 := hc 12 _ rfl
      have c13 := hc 13 _ rfl
      have c14 := hc 14 _ rfl
      simp only at hxr Hx hxok
      simp only [Nat.add_zero] at c0
      have HFx : Hid (∀ (W : World), RS encB 4 W W.heap.size A f.cycle → Calls Try.prog 66 #[.agg #[.int .i64 f.fly.pos.x.lo, .int .i64 f.fly.pos.x.hi, .int .i64 f.fly.pos.z.lo, .int .i64 f.fly.pos.z.hi, .int .i64 f.fly.speed.x.lo, .int .i64 f.fly.speed.x.hi, .int .i64 f.fly.speed.z.lo, .int .i64 f.fly.speed.z.hi, .int .i64 f.fly.mass, .slice A f.cycle.length c, .int .i64 f.reach, .int .i64 f.soft, .int .i64 f.bears, .int .i64 f.least, .int .i64 f.most]] W fun e w' => ∃ g Ab An cb cn, e = .returned (.pointer (some ⟨g, 0, none⟩)) ∧ W.heap.size ≤ g ∧ FolW f A c w' w'.heap.size g Ab An cb cn ∧ Below W.heap.size W w') := fun W h => HF.out f A c W hxok h
      have HGx : Hid (∀ (g cb cn r : Nat) (Ab An : Option Addr) (W : World), r ≤ 6000 → FolW f A c W W.heap.size g Ab An cb cn → Calls Try.prog 104 #[.pointer (some ⟨g, 0, none⟩), .int .i64 (r : Int)] W fun e w' => e = .returned (.bool (goodB f r)) ∧ Below W.heap.size W w') := fun g cb cn r Ab An W h1 h2 => HGD.out f g A Ab An c cb cn r W hxok h1 h2
      have HMO := Lib.hid hmo
      have HMN := Lib.hid hmoN
      clear hx hc HrB HF HGD HACT HOK HO hle hmo1 hmo2 hmo hmoN hxok
      have hbz := hB.size
      have hxr1 := hxr.to ((Below.refl _ wr).alloc (Nat.le_refl _) (.cells #[.int .i64 f.fly.pos.x.lo, .int .i64 f.fly.pos.x.hi, .int .i64 f.fly.pos.z.lo, .int .i64 f.fly.pos.z.hi, .int .i64 f.fly.speed.x.lo, .int .i64 f.fly.speed.x.hi, .int .i64 f.fly.speed.z.lo, .int .i64 f.fly.speed.z.hi, .int .i64 f.fly.mass, .slice A f.cycle.length c, .int .i64 f.reach, .int .i64 f.soft, .int .i64 f.bears, .int .i64 f.least, .int .i64 f.most] 50))
      have hB0 := hB.alloc hbz (.cells #[.int .i64 f.fly.pos.x.lo, .int .i64 f.fly.pos.x.hi, .int .i64 f.fly.pos.z.lo, .int .i64 f.fly.pos.z.hi, .int .i64 f.fly.speed.x.lo, .int .i64 f.fly.speed.x.hi, .int .i64 f.fly.speed.z.lo, .int .i64 f.fly.speed.z.hi, .int .i64 f.fly.mass, .slice A f.cycle.length c, .int .i64 f.reach, .int .i64 f.soft, .int .i64 f.bears, .int .i64 f.least, .int .i64 f.most] 50)
      have hown0 := hown.alloc (.cells #[.int .i64 f.fly.pos.x.lo, .int .i64 f.fly.pos.x.hi, .int .i64 f.fly.pos.z.lo, .int .i64 f.fly.pos.z.hi, .int .i64 f.fly.speed.x.lo, .int .i64 f.fly.speed.x.hi, .int .i64 f.fly.speed.z.lo, .int .i64 f.fly.speed.z.hi, .int .i64 f.fly.mass, .slice A f.cycle.length c, .int .i64 f.reach, .int .i64 f.soft, .int .i64 f.bears, .int .i64 f.least, .int .i64 f.most] 50)
      have hOL := own_lt hown
      have HOL := Lib.hid hOL
      clear hOL hown
      go_wp2_with (go_at_call 66; (with_reducible refine (HFx.out _ hxr1).mono ?_); rintro e w1 ⟨g, Ab, An, cb, cn, rfl, hg, hFW, hb1⟩)
      have hB1 := hB0.trans (hb1.mono hB0.size)
      have hown1 := own_below hown0 hb1
      have hgs : wr.heap.size < g := by simp at hg; omega
      have kG1 := hFW.1
      clear c0 c1 c2 c3 c4 c5 c6 c7 c8 c9 c10 c11 c12 c13 c14 hxr hxr1 hB0 hown0 hb1 HFx
      go_loopg [6, 9, 13, 14] (6001 - bg) (fun g2 v6 v9 fi ri wi => ∃ (s r : Nat), v = v6 ∧ v9 = .int .i64 bg ∧ s ≤ r ∧ bg ≤ s ∧ 6001 - r = g2 ∧ r ≤ 7300 ∧ fi = .int .i64 s ∧ ri = .int .i64 r ∧ r - s < need ∧ Hid (findW f need (6001 - r) r (r - s) = firstW f bg need) ∧ Below w1.heap.size w1 wi)
      case atStart => exact ⟨bg, bg, rfl, rfl, Nat.le_refl _, Nat.le_refl _, rfl, by omega, rfl, rfl, by omega, by rw [Nat.sub_self]; exact rfl, Below.refl _ _⟩
      case round =>
        obtain ⟨s, r, rfl, rfl, hsr, hbs, hrg, hr7, rfl, rfl, hrun, HF1, hBi⟩ := hrel
        cases gk with
        | zero =>
          have hrz : ¬ ((r : Int) ≤ 6000) := by omega
          have HE : Hid (o = ⟨[], ws.length, 7⟩) := by
            show _ = _
            rw [← HI.out]
            exact chainGo_none Hx.out (by rw [← HF1.out]; exact findW_end (by omega))
          clear HI
          go_wp2
          try rw [Exit.noGoto_ret]
          go_ret3
          rw [HE.out]
          exact ⟨none, 0, rfl, .inl rfl, hB1.trans (hBi.mono hB1.size)⟩
        | succ g2 =>
          have hrz : (r : Int) ≤ 6000 := by omega
          have hr6 : r ≤ 6000 := by omega
          have hFr := Lib.hid ((hFW.below hBi (Nat.le_refl _)).more' hBi.size)
          have HGr : Hid (∀ (W : World), FolW f A c W W.heap.size g Ab An cb cn → Calls Try.prog 104 #[.pointer (some ⟨g, 0, none⟩), .int .i64 (r : Int)] W fun e w' => e = .returned (.bool (goodB f r)) ∧ Below W.heap.size W w') := fun W h => HGx.out g cb cn r Ab An W hr6 h
          cases hgd : goodB f r
          case false =>
            rw [hgd] at HGr
            have HF2 : Hid (findW f need (6001 - (r + 1)) (r + 1) (r + 1 - (r + 1)) = firstW f bg need) := by show _ = _; rw [Nat.sub_self, ← HF1.out]; exact (findW_bad hr6 hgd).symm
            clear hgd HF1
            go_wp2_with (go_at_call 104; (with_reducible refine (HGr.out _ hFr.out).mono ?_); rintro e w2 ⟨rfl, hb2⟩)
            go_roundg g2
            case measure => omega
            case rel => exact ⟨r + 1, r + 1, rfl, rfl, Nat.le_refl _, by omega, by omega, by omega, by go_num, by go_num, by omega, HF2, sh_next hBi hb2⟩
          case true =>
            rw [hgd] at HGr
            by_cases hneed : r - s + 1 = need
            case neg =>
              have hnI : ¬ ((r : Int) - (s : Int) + 1 = (need : Int)) := by omega
              have HF2 : Hid (findW f need (6001 - (r + 1)) (r + 1) (r + 1 - s) = firstW f bg need) := by show _ = _; rw [show r + 1 - s = r - s + 1 by omega, ← HF1.out]; exact (findW_more hr6 hgd hneed).symm
              clear hgd HF1
              go_wp2_with (go_at_call 104; (with_reducible refine (HGr.out _ hFr.out).mono ?_); rintro e w2 ⟨rfl, hb2⟩)
              go_roundg g2
              case measure => omega
              case rel => exact ⟨s, r + 1, rfl, rfl, by omega, by omega, by omega, by omega, rfl, by go_num, by omega, HF2, sh_next hBi hb2⟩
            case pos =>
              have hnI : (r : Int) - (s : Int) + 1 = (need : Int) := by omega
              have HF2 : Hid (firstW f bg need = some r) := by show _ = _; rw [← HF1.out]; exact findW_hit hr6 hgd hneed
              have HI2 : Hid (chainGo need rest ((actF l).drop (ws.length + 1)) (ws.length + 1) (r + mo + rest) (ws ++ [((s : Int), (r : Int))]) = o) := by
                show _ = _
                rw [← HI.out, chainGo_some Hx.out HF2.out, HMN.out, show r + 1 - need = s by omega]
              clear hgd HF1 HF2 HI
              have hown2 := own_below hown1 hBi
              have hgl := kG1.lt
              have hkw : ws.length ≤ 12 := by omega
              go_wp2_with (first | (go_at_call 104; (with_reducible refine (HGr.out _ hFr.out).mono ?_); rintro e w2 ⟨rfl, hb2⟩; have hown3 := own_below hown2 hb2; have hB2 := sh_next hBi hb2; have hw2 := hB2.size) | (at_builtin; go_loud (refine wpList_append_own _ rfl _ _ 94 rfl w.heap.size 92 i0 _ 2 16 Try.underlying94 hi0 hz0 hz1 hz2 rfl (by decide) _ ws.length _ rfl (hown3.alloc _) ⟨w2.heap.size, 0, none⟩ 1 1 [.int .i64 (s : Int), .int .i64 (r : Int)] rfl rfl ?c1 ?c2 ?c3 ?c4 ?c5 ?_)))
              case c1 => exact fun j u h => Blk.add (Blk.new w2 92 #[.int .i64 (s : Int), .int .i64 (r : Int)]) h
              case c2 => simp [Value.oneCell']
              case c3 => omega
              case c4 => omega
              case c5 => have := hB1.size; (try simp) <;> omega
              intro v3 w3 hown4 hgrow3 _
              have kG3 := ((((kG1.below hBi hgl).below hb2 (by have := hBi.size; omega))).alloc (.cells #[.int .i64 (s : Int), .int .i64 (r : Int)] 92)).grown hgrow3 (fun e => by have := HOL.out _ e.symm; omega)
              have hBz := hB1.size
              have hB3 := app_belowF ((hB1.trans (hB2.mono hBz)).alloc (by omega) (.cells #[.int .i64 (s : Int), .int .i64 (r : Int)] 92)) (Nat.le_refl _) (by simp; omega) (hown3.alloc _) hgrow3
              have m14 := kG3.cell 14
              have ml := kG3.lt
              simp at m14
              rw [HMO.out] at m14
              have HOW := Lib.hid hown4
              clear hown4 hown3 hown2 hown1 hgrow3 kG3 kG1 hFW hFr hBi hB1 hB2 hb2
              go_wp2
              go_roundg gh
              case measure => omega
              case rel =>
                refine ⟨ws.length + 1, r + mo + rest, v3, ws ++ [((s : Int), (r : Int))], rfl, by omega, by go_num, by go_num, by omega, by simp, ?_, HI2, hB3⟩
                have hx : (ws ++ [((s : Int), (r : Int))]).flatMap encW = ws.flatMap encW ++ [.int .i64 (s : Int), .int .i64 (r : Int)] := by simp [encW]
                rw [List.length_append, hx]
                exact HOW.out
end Go.Proofs.Ytbagfapalkmikaa
