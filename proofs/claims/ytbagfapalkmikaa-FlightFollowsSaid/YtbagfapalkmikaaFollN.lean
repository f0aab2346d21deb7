import Derived.Test.YtbagfapalkmikaaChains
import Derived.Test.YtbagfapalkmikaaFollM
import Derived.Test.YtbagfapalkmikaaConvF
import Derived.Test.YtbagfapalkmikaaSureM

/- In a chain each window begins as early as can be, and holds good releases only. -/
namespace Go.Proofs.Ytbagfapalkmikaa
open Go.RowKit Go.Shelf
theorem sure_last {f : Flt} {t : Nat} (hf : f.ok = true) {mo : Nat} (hmo : f.most = mo) {x : Int} (h : x ∈ ints (sureL f t)) : 0 ≤ x ∧ x ≤ (t + mo : Nat) := by
  obtain ⟨_, _, _, _, _, _, ⟨hl, _⟩, ⟨hm1, hm2⟩, _⟩ := Flt.ok_iff.1 hf
  unfold ints at h
  obtain ⟨y, hy, rfl⟩ := List.mem_map.1 h
  obtain ⟨u, rfl, h1, h2, _⟩ := (mem_sure hm2 hm1 hl).1 hy
  omega
theorem last_get {l : List Int} {n : Nat} (h : l.length = n + 1) : ∃ z, l[n]? = some z ∧ z ∈ l := ⟨l[n]'(by omega), List.getElem?_eq_getElem (by omega), List.getElem_mem _⟩
set_option linter.unusedSimpArgs false in
set_option maxRecDepth 100000 in
set_option maxHeartbeats 32000000 in
theorem follows_dark (Al : Option Addr) (cl : Nat) (l : List FltA) (need rest : Int) (w : World) (hact : ActW w Al l) (hlm : l.length ≤ maxLen) (h : lightB l = false ∨ (lightB l = true ∧ ¬ (1 ≤ l.length ∧ l.length ≤ 3)) ∨ (lightB l = true ∧ (1 ≤ l.length ∧ l.length ≤ 3) ∧ inB need 1 100 = false) ∨ (lightB l = true ∧ (1 ≤ l.length ∧ l.length ≤ 3) ∧ inB need 1 100 = true ∧ inB rest 0 1000 = false)) :
    Calls Try.prog 11 #[.slice Al l.length cl, .int .i64 need, .int .i64 rest] w fun e w' => e = .returned (.bool true) ∧ Below w.heap.size w w' := by
  have HLI : Hid (Calls Try.prog 46 #[.slice Al l.length cl] w fun e w' => e = .returned (.bool (lightB l)) ∧ Below w.heap.size w w') := light_any Al cl l w hact hlm
  have HI1 : Hid (∀ W : World, Calls Try.prog 20 #[.int .i64 need, .int .i64 1, .int .i64 100] W fun e w' => e = .returned (.bool (inB need 1 100)) ∧ W = w') := fun W => in_any _ _ _ W
  have HI2 : Hid (∀ W : World, Calls Try.prog 20 #[.int .i64 rest, .int .i64 0, .int .i64 1000] W fun e w' => e = .returned (.bool (inB rest 0 1000)) ∧ W = w') := fun W => in_any _ _ _ W
  clear hact hlm
  have h' : lightB l = false ∨ (lightB l = true ∧ (l.length : Int) < 1) ∨ (lightB l = true ∧ ¬ (l.length : Int) < 1 ∧ (3 : Int) < (l.length : Int)) ∨ (lightB l = true ∧ (¬ (l.length : Int) < 1 ∧ ¬ (3 : Int) < (l.length : Int)) ∧ inB need 1 100 = false) ∨ (lightB l = true ∧ (¬ (l.length : Int) < 1 ∧ ¬ (3 : Int) < (l.length : Int)) ∧ inB need 1 100 = true ∧ inB rest 0 1000 = false) := by
    rcases h with h | ⟨h, h1⟩ | ⟨h, h1, h2⟩ | ⟨h, h1, h2, h3⟩
    · exact .inl h
    · by_cases h2 : l.length < 1
      · exact .inr (.inl ⟨h, by omega⟩)
      · exact .inr (.inr (.inl ⟨h, by omega, by omega⟩))
    · exact .inr (.inr (.inr (.inl ⟨h, ⟨by omega, by omega⟩, h2⟩)))
    · exact .inr (.inr (.inr (.inr ⟨h, ⟨by omega, by omega⟩, h2, h3⟩)))
  clear h
  rcases h' with h | ⟨h, h1⟩ | ⟨h, h1, h2⟩ | ⟨h, ⟨h1, h2⟩, h3⟩ | ⟨h, ⟨h1, h2⟩, h3, h4⟩
  all_goals
    rw [h] at HLI
    try rw [h3] at HI1
    try rw [h4] at HI2
    clear h
    try clear h3
    try clear h4
    go_enter Try.func11, Try.ntmps11
    go_wp2_with (first | (go_at_call 46; (with_reducible refine HLI.out.mono ?_); rintro e w1 ⟨rfl, hb1⟩) | (go_at_call 20; (with_reducible refine (HI1.out _).mono ?_); rintro e w5 ⟨rfl, rfl⟩) | (go_at_call 20; (with_reducible refine (HI2.out _).mono ?_); rintro e w5 ⟨rfl, rfl⟩) | (go_at_call 15; refine (wakes_any _).mono ?_; rintro e wk ⟨rfl, hbk⟩))
    go_ret
    exact ⟨rfl, sh_next hb1 hbk⟩
set_option linter.unusedSimpArgs false in
set_option maxRecDepth 100000 in
set_option maxHeartbeats 32000000 in
theorem follows_args (Al : Option Addr) (cl : Nat) (l : List FltA) (need rest : Nat) (w : World) (hact : ActW w Al l) (hlm : l.length ≤ maxLen) (hli : lightB l = true) (hn : 1 ≤ l.length ∧ l.length ≤ 3) (hne : 1 ≤ need ∧ need ≤ 100) (hre : rest ≤ 1000) (hok : (actF l).all Flt.ok = false) :
    Calls Try.prog 11 #[.slice Al l.length cl, .int .i64 need, .int .i64 rest] w fun e w' => e = .returned (.bool true) ∧ Below w.heap.size w w' := by
  obtain ⟨hl14, hx7⟩ := lightB_true hli
  have HLI : Hid (Calls Try.prog 46 #[.slice Al l.length cl] w fun e w' => e = .returned (.bool true) ∧ Below w.heap.size w w') := by have := light_any Al cl l w hact hlm; rw [hli] at this; exact this
  have HI1 : Hid (∀ W : World, Calls Try.prog 20 #[.int .i64 (need : Int), .int .i64 1, .int .i64 100] W fun e w' => e = .returned (.bool true) ∧ W = w') := fun W => by have := in_any (need : Int) 1 100 W; rw [inB_true.2 (by omega)] at this; exact this
  have HI2 : Hid (∀ W : World, Calls Try.prog 20 #[.int .i64 (rest : Int), .int .i64 0, .int .i64 1000] W fun e w' => e = .returned (.bool true) ∧ W = w') := fun W => by have := in_any (rest : Int) 0 1000 W; rw [inB_true.2 (by omega)] at this; exact this
  have h1 : ¬ (l.length : Int) < 1 := by omega
  have h2 : ¬ (3 : Int) < (l.length : Int) := by omega
  have HX7 := Lib.hid hx7
  have HACT := Lib.hid hact
  have HLN := Lib.hid (actF_len l)
  have HOK : Hid ((actF l).all Flt.ok = false) := hok
  clear hact hlm hli hx7 hok
  go_enter Try.func11, Try.ntmps11
  go_wp2_with (first | (go_at_call 46; (with_reducible refine HLI.out.mono ?_); rintro e w1 ⟨rfl, hb1⟩) | (go_at_call 20; (with_reducible refine (HI1.out _).mono ?_); rintro e w5 ⟨rfl, rfl⟩) | (go_at_call 20; (with_reducible refine (HI2.out _).mono ?_); rintro e w5 ⟨rfl, rfl⟩))
  have HC : Hid (∀ (W : World), Below w1.heap.size w1 W → Below w.heap.size w W) := fun W h => sh_next hb1 h
  go_loopw [7] (fun i wr => ∃ k : Nat, k ≤ l.length ∧ i = .int .i64 k ∧ Hid (((actF l).take k).all Flt.ok = true) ∧ Below w1.heap.size w1 wr) (fun i _ => l.length - (intOf i).toNat)
  case atStart => exact ⟨0, Nat.zero_le _, rfl, rfl, Below.refl _ _⟩
  case round =>
    obtain ⟨k, hk, rfl, HALL, hBr⟩ := hrel
    by_cases hlt : k < l.length
    case neg =>
      exfalso
      have := HALL.out
      rw [List.take_of_length_le (by rw [HLN.out]; omega), HOK.out] at this
      cases this
    case pos =>
      have hkI : (k : Int) < (l.length : Int) := by omega
      obtain ⟨x, hx⟩ := getElem?_lt (l := l) (k := k) hlt
      have hxm := List.mem_of_getElem? hx
      have Hx : Hid ((actF l)[k]? = some x.f) := actF_get hx
      have HRr : Hid (∀ W : World, Below w1.heap.size w1 W → Calls Try.prog 22 #[match x with | ⟨f, A, c⟩ => .agg #[.int .i64 f.fly.pos.x.lo, .int .i64 f.fly.pos.x.hi, .int .i64 f.fly.pos.z.lo, .int .i64 f.fly.pos.z.hi, .int .i64 f.fly.speed.x.lo, .int .i64 f.fly.speed.x.hi, .int .i64 f.fly.speed.z.lo, .int .i64 f.fly.speed.z.hi, .int .i64 f.fly.mass, .slice A f.cycle.length c, .int .i64 f.reach, .int .i64 f.soft, .int .i64 f.bears, .int .i64 f.least, .int .i64 f.most]] W fun e w' => e = .returned (.bool x.f.ok) ∧ Below W.heap.size W w') := fun W hW => right_any x.f x.A x.c W ((HACT.out.to (HC.out W hW)).2 x hxm) (HX7.out x hxm)
      obtain ⟨b, off, rfl, hb, hc⟩ := HACT.out.1.at_ hx
      have HCC := Lib.hid hc
      have hBw := HC.out _ hBr
      obtain ⟨f, A, c⟩ := x
      have c0 := cell_after hBw (HCC.out 0 _ rfl)
      have c1 := cell_after hBw (HCC.out 1 _ rfl)
      have c2 := cell_after hBw (HCC.out 2 _ rfl)
      have c3 := cell_after hBw (HCC.out 3 _ rfl)
      have c4 := cell_after hBw (HCC.out 4 _ rfl)
      have c5 := cell_after hBw (HCC.out 5 _ rfl)
      have c6 := cell_after hBw (HCC.out 6 _ rfl)
      have c7 := cell_after hBw (HCC.out 7 _ rfl)
      have c8 := cell_after hBw (HCC.out 8 _ rfl)
      have c9 := cell_after hBw (HCC.out 9 _ rfl)
      have c10 := cell_after hBw (HCC.out 10 _ rfl)
      have c11 := cell_after hBw (HCC.out 11 _ rfl)
      have c12 := cell_after hBw (HCC.out 12 _ rfl)
      have c13 := cell_after hBw (HCC.out 13 _ rfl)
      have c14 := cell_after hBw (HCC.out 14 _ rfl)
      simp only [Nat.add_zero] at c0
      simp only at HRr Hx
      clear hx hxm hc
      cases hfo : f.ok
      case false =>
        rw [hfo] at HRr
        have HBE := Lib.hid (HC.out _ hBr)
        go_wp2_with (first | (go_at_call 22; (with_reducible refine (HRr.out _ hBr).mono ?_); rintro e w4 ⟨rfl, hb4⟩) | (go_at_call 15; refine (wakes_any _).mono ?_; rintro e wk ⟨rfl, hbk⟩))
        go_ret
        exact ⟨rfl, HBE.out.trans ((sh_next hb4 hbk).mono HBE.out.size)⟩
      case true =>
        rw [hfo] at HRr
        go_wp2_with (go_at_call 22; (with_reducible refine (HRr.out _ hBr).mono ?_); rintro e w4 ⟨rfl, hb4⟩)
        go_roundw
        case rel => exact ⟨k + 1, by omega, by go_num, all_snoc Hx.out HALL.out hfo, sh_next hBr hb4⟩
        case measure => simp [intOf]; omega
set_option linter.unusedSimpArgs false in
set_option maxRecDepth 100000 in
set_option maxHeartbeats 32000000 in
theorem follows_none (Al : Option Addr) (cl : Nat) (l : List FltA) (need rest : Nat) (w : World) (hact : ActW w Al l) (hlm : l.length ≤ maxLen) (hli : lightB l = true) (hn : 1 ≤ l.length ∧ l.length ≤ 3) (hne : 1 ≤ need ∧ need ≤ 100) (hre : rest ≤ 1000) (hok : (actF l).all Flt.ok = true) (herr : (chainOf (actF l) need rest).err = 7) :
    Calls Try.prog 11 #[.slice Al l.length cl, .int .i64 need, .int .i64 rest] w fun e w' => e = .returned (.bool true) ∧ Below w.heap.size w w' := by
  obtain ⟨hl14, hx7⟩ := lightB_true hli
  have HLI : Hid (Calls Try.prog 46 #[.slice Al l.length cl] w fun e w' => e = .returned (.bool true) ∧ Below w.heap.size w w') := by have := light_any Al cl l w hact hlm; rw [hli] at this; exact this
  have HI1 : Hid (∀ W : World, Calls Try.prog 20 #[.int .i64 (need : Int), .int .i64 1, .int .i64 100] W fun e w' => e = .returned (.bool true) ∧ W = w') := fun W => by have := in_any (need : Int) 1 100 W; rw [inB_true.2 (by omega)] at this; exact this
  have HI2 : Hid (∀ W : World, Calls Try.prog 20 #[.int .i64 (rest : Int), .int .i64 0, .int .i64 1000] W fun e w' => e = .returned (.bool true) ∧ W = w') := fun W => by have := in_any (rest : Int) 0 1000 W; rw [inB_true.2 (by omega)] at this; exact this
  have h1 : ¬ (l.length : Int) < 1 := by omega
  have h2 : ¬ (3 : Int) < (l.length : Int) := by omega
  have HX7 := Lib.hid hx7
  have HACT := Lib.hid hact
  have HLN := Lib.hid (actF_len l)
  have HOK : Hid ((actF l).all Flt.ok = true) := hok
  have HNE := Lib.hid hne
  have HA : Hid (∀ W : World, Below w.heap.size w W → Calls Try.prog 48 #[.slice Al l.length cl] W fun e w' => ∃ A' c' l2, e = .returned (.slice A' l2.length c') ∧ ActW w' A' l2 ∧ actF l2 = actF l ∧ Below W.heap.size W w') := fun W hb => act_any Al cl l W (hact.to hb) hl14 hx7
  have HCB : Hid (∀ (A' : Option Addr) (c' : Nat) (l2 : List FltA) (W : World), actF l2 = actF l → ActW W A' l2 → Calls Try.prog 47 #[.slice A' l2.length c', .int .i64 (need : Int), .int .i64 (rest : Int)] W fun e w' => ∃ A3 c3, e = .returned (.tuple #[.slice A3 (chainOf (actF l) need rest).ws.length c3, .int .i64 (chainOf (actF l) need rest).at_, .int .i64 (chainOf (actF l) need rest).err]) ∧ RS encW 2 w' w'.heap.size A3 (chainOf (actF l) need rest).ws ∧ Below W.heap.size W w') := fun A' c' l2 W h1 h2 => by
    have h3 := acts_len h1
    have := Chain_ok A' c' l2 need rest W h2 (by rw [h3]; omega) (by rw [h1]; exact HOK.out) hne hre
    rw [h1] at this
    exact this
  have hout := chainOf_cases (l := actF l) (need := need) (rest := rest)
  have hspec := fun h => chainGo_spec (need := need) (rest := rest) (l := actF l) (k := 0) (b := 0) (ws0 := []) (o := chainOf (actF l) need rest) rfl h
  rw [actF_len] at hout
  obtain ⟨o, ho⟩ : ∃ o, chainOf (actF l) need rest = o := ⟨_, rfl⟩
  rw [ho] at hout HCB herr hspec
  obtain ⟨ws, at_, err⟩ := o
  simp only at hout HCB herr hspec
  subst herr
  rcases hout with ⟨h, _⟩ | ⟨_, rfl, hat⟩
  · exact absurd h (by decide)
  have hatI : (at_ : Int) < (l.length : Int) := by omega
  have hatJ : (0 : Int) ≤ (at_ : Int) := by omega
  clear hact hlm hli hx7 hok hne hre ho hspec
  go_enter Try.func11, Try.ntmps11
  go_wp2_with (first | (go_at_call 46; (with_reducible refine HLI.out.mono ?_); rintro e w1 ⟨rfl, hb1⟩) | (go_at_call 20; (with_reducible refine (HI1.out _).mono ?_); rintro e w5 ⟨rfl, rfl⟩) | (go_at_call 20; (with_reducible refine (HI2.out _).mono ?_); rintro e w5 ⟨rfl, rfl⟩))
  have HC : Hid (∀ (W : World), Below w1.heap.size w1 W → Below w.heap.size w W) := fun W h => sh_next hb1 h
  go_loopw [7] (fun i wr => ∃ k : Nat, k ≤ l.length ∧ i = .int .i64 k ∧ True ∧ Below w1.heap.size w1 wr) (fun i _ => l.length - (intOf i).toNat)
  case atStart => exact ⟨0, Nat.zero_le _, rfl, trivial, Below.refl _ _⟩
  case round =>
    obtain ⟨k, hk, rfl, -, hBr⟩ := hrel
    by_cases hlt : k < l.length
    case pos =>
      have hkI : (k : Int) < (l.length : Int) := by omega
      obtain ⟨x, hx⟩ := getElem?_lt (l := l) (k := k) hlt
      have hxm := List.mem_of_getElem? hx
      have Hx : Hid ((actF l)[k]? = some x.f) := actF_get hx
      have HRr : Hid (∀ W : World, Below w1.heap.size w1 W → Calls Try.prog 22 #[match x with | ⟨f, A, c⟩ => .agg #[.int .i64 f.fly.pos.x.lo, .int .i64 f.fly.pos.x.hi, .int .i64 f.fly.pos.z.lo, .int .i64 f.fly.pos.z.hi, .int .i64 f.fly.speed.x.lo, .int .i64 f.fly.speed.x.hi, .int .i64 f.fly.speed.z.lo, .int .i64 f.fly.speed.z.hi, .int .i64 f.fly.mass, .slice A f.cycle.length c, .int .i64 f.reach, .int .i64 f.soft, .int .i64 f.bears, .int .i64 f.least, .int .i64 f.most]] W fun e w' => e = .returned (.bool x.f.ok) ∧ Below W.heap.size W w') := fun W hW => right_any x.f x.A x.c W ((HACT.out.to (HC.out W hW)).2 x hxm) (HX7.out x hxm)
      obtain ⟨b, off, rfl, hb, hc⟩ := HACT.out.1.at_ hx
      have HCC := Lib.hid hc
      have hBw := HC.out _ hBr
      obtain ⟨f, A, c⟩ := x
      have c0 := cell_after hBw (HCC.out 0 _ rfl)
      have c1 := cell_after hBw (HCC.out 1 _ rfl)
      have c2 := cell_after hBw (HCC.out 2 _ rfl)
      have c3 := cell_after hBw (HCC.out 3 _ rfl)
      have c4 := cell_after hBw (HCC.out 4 _ rfl)
      have c5 := cell_after hBw (HCC.out 5 _ rfl)
      have c6 := cell_after hBw (HCC.out 6 _ rfl)
      have c7 := cell_after hBw (HCC.out 7 _ rfl)
      have c8 := cell_after hBw (HCC.out 8 _ rfl)
      have c9 := cell_after hBw (HCC.out 9 _ rfl)
      have c10 := cell_after hBw (HCC.out 10 _ rfl)
      have c11 := cell_after hBw (HCC.out 11 _ rfl)
      have c12 := cell_after hBw (HCC.out 12 _ rfl)
      have c13 := cell_after hBw (HCC.out 13 _ rfl)
      have c14 := cell_after hBw (HCC.out 14 _ rfl)
      simp only [Nat.add_zero] at c0
      simp only at HRr Hx
      clear hx hxm hc
      have hfo : f.ok = true := List.all_eq_true.1 HOK.out f (List.mem_of_getElem? Hx.out)
      rw [hfo] at HRr
      clear hfo
      go_wp2_with (go_at_call 22; (with_reducible refine (HRr.out _ hBr).mono ?_); rintro e w4 ⟨rfl, hb4⟩)
      go_roundw
      case rel => exact ⟨k + 1, by omega, by go_num, trivial, sh_next hBr hb4⟩
      case measure => simp [intOf]; omega
    case neg =>
      have hkI : ¬ (k : Int) < (l.length : Int) := by omega
      have hBE := HC.out _ hBr
      go_wp2_with (first | (go_at_call 48; (with_reducible refine (HA.out _ hBE).mono ?_); rintro e w2 ⟨A2, c2, l2, rfl, hs2, hl2, hb2⟩) | (go_at_call 47; (with_reducible refine (HCB.out _ _ _ _ hl2 hs2).mono ?_); rintro e w3 ⟨A3, c3, rfl, hs3, hb3⟩) | (go_at_call 15; refine (wakes_any _).mono ?_; rintro e wk ⟨rfl, hbk⟩))
      go_ret
      exact ⟨rfl, hBE.trans ((sh_next (sh_next hb2 hb3) hbk).mono hBE.size)⟩
end Go.Proofs.Ytbagfapalkmikaa
