import Derived.Test.YtbagfapalkmikaaChainE
import Derived.Test.YtbagfapalkmikaaRefCh
import Derived.Test.YtbagfapalkmikaaLight
import Derived.Test.YtbagfapalkmikaaActL
import Derived.Test.YtbagfapalkmikaaLawW

/- The chain of any act is as the document says. -/
namespace Go.Proofs.Ytbagfapalkmikaa
open Go.RowKit Go.Shelf
theorem acts_cyc {l l2 : List FltA} (h : actF l2 = actF l) (hx : ∀ x ∈ l, x.f.cycle.length ≤ 700) : ∀ x ∈ l2, x.f.cycle.length ≤ maxLen := by
  intro x hx2
  have h1 : x.f ∈ actF l2 := List.mem_map.2 ⟨x, hx2, rfl⟩
  rw [h] at h1
  obtain ⟨y, hy, hyf⟩ := List.mem_map.1 h1
  have := hx y hy
  rw [← hyf]
  unfold maxLen
  omega
theorem acts_len {l l2 : List FltA} (h : actF l2 = actF l) : l2.length = l.length := by have := congrArg List.length h; rw [actF_len, actF_len] at this; exact this

set_option linter.unusedSimpArgs false in
set_option maxRecDepth 100000 in
set_option maxHeartbeats 16000000 in
theorem chains_count (Al : Option Addr) (cl : Nat) (l : List FltA) (need rest : Int) (w : World) (hact : ActW w Al l) (hlm : l.length ≤ maxLen) (hli : lightB l = true) (hn : inB l.length 1 12 = false) :
    Calls Try.prog 12 #[.slice Al l.length cl, .int .i64 need, .int .i64 rest] w fun e w' => e = .returned (.bool true) ∧ Below w.heap.size w w' := by
  obtain ⟨hl14, hx7⟩ := lightB_true hli
  have HLI : Hid (Calls Try.prog 46 #[.slice Al l.length cl] w fun e w' => e = .returned (.bool true) ∧ Below w.heap.size w w') := by have := light_any Al cl l w hact hlm; rw [hli] at this; exact this
  have HA : Hid (∀ W : World, Below w.heap.size w W → Calls Try.prog 48 #[.slice Al l.length cl] W fun e w' => ∃ A' c' l2, e = .returned (.slice A' l2.length c') ∧ ActW w' A' l2 ∧ actF l2 = actF l ∧ Below W.heap.size W w') := fun W hb => act_any Al cl l W (hact.to hb) hl14 hx7
  have HX7 := Lib.hid hx7
  have HACT := Lib.hid hact
  have hchE : chainE l.length ((actF l).all Flt.ok) need rest = 3 := by unfold chainE; rw [hn]; rfl
  have HCB : Hid (∀ (A' : Option Addr) (c' : Nat) (l2 : List FltA) (W : World), actF l2 = actF l → ActW W A' l2 → Calls Try.prog 47 #[.slice A' l2.length c', .int .i64 need, .int .i64 rest] W fun e w' => e = .returned (.tuple #[.slice none 0 0, .int .i64 0, .int .i64 3]) ∧ Below W.heap.size W w') := fun A' c' l2 W h1 h2 => by
    have h3 := acts_len h1
    have hE : chainE l2.length ((actF l2).all Flt.ok) need rest = 3 := by rw [h1, h3]; exact hchE
    have := Chain_bad A' c' l2 need rest W h2 (by rw [h3]; exact hlm) (acts_cyc h1 HX7.out) (by rw [hE]; decide)
    rw [hE] at this
    exact this
  have hcase : (¬ (0 : Int) < (l.length : Int) ∧ (l.length : Int) < 1) ∨ ((0 : Int) < (l.length : Int) ∧ ¬ (l.length : Int) < 1 ∧ (12 : Int) < (l.length : Int)) := by
    rw [Bool.eq_false_iff] at hn
    by_cases h0 : l.length = 0
    · left; omega
    · right
      refine ⟨by omega, by omega, ?_⟩
      have : ¬ (1 ≤ (l.length : Int) ∧ (l.length : Int) ≤ 12) := fun h => hn (inB_true.2 h)
      omega
  clear hn hl14 HX7 HACT
  rcases hcase with ⟨h1, h2⟩ | ⟨h1, h2, h3⟩
  all_goals
    clear hact hlm hli hx7 hchE
    go_enter Try.func12, Try.ntmps12
    go_wp2_with (first | (go_at_call 46; (with_reducible refine HLI.out.mono ?_); rintro e w1 ⟨rfl, hb1⟩) | (go_at_call 48; (with_reducible refine (HA.out _ hb1).mono ?_); rintro e w2 ⟨A2, c2, l2, rfl, hs2, hl2, hb2⟩) | (go_at_call 47; (with_reducible refine (HCB.out _ _ _ _ hl2 hs2).mono ?_); rintro e w3 ⟨rfl, hb3⟩))
    have hB3 := sh_next (sh_next hb1 hb2) hb3
    have HB3 := Lib.hid hB3
    clear hs2 hl2 hb1 hb2 hb3 hB3 HLI HA
    go_loop [10, 11] (fun wt i => wt = .int .i64 3 ∧ i = .int .i64 0) (fun _ _ => 0)
    case atStart => exact ⟨rfl, rfl⟩
    case round =>
      obtain ⟨rfl, rfl⟩ := hrel
      go_wp2_with (go_at_call 15; refine (wakes_any _).mono ?_; rintro e wk ⟨rfl, hbk⟩)
      go_ret
      exact ⟨rfl, HB3.out.trans (hbk.mono HB3.out.size)⟩
set_option linter.unusedSimpArgs false in
set_option maxRecDepth 100000 in
set_option maxHeartbeats 16000000 in
theorem chains_args (Al : Option Addr) (cl : Nat) (l : List FltA) (need rest : Int) (w : World) (hact : ActW w Al l) (hlm : l.length ≤ maxLen) (hli : lightB l = true) (hn : inB l.length 1 12 = true) (hok : (actF l).all Flt.ok = false) :
    Calls Try.prog 12 #[.slice Al l.length cl, .int .i64 need, .int .i64 rest] w fun e w' => e = .returned (.bool true) ∧ Below w.heap.size w w' := by
  obtain ⟨hl14, hx7⟩ := lightB_true hli
  have HLI : Hid (Calls Try.prog 46 #[.slice Al l.length cl] w fun e w' => e = .returned (.bool true) ∧ Below w.heap.size w w') := by have := light_any Al cl l w hact hlm; rw [hli] at this; exact this
  have HA : Hid (∀ W : World, Below w.heap.size w W → Calls Try.prog 48 #[.slice Al l.length cl] W fun e w' => ∃ A' c' l2, e = .returned (.slice A' l2.length c') ∧ ActW w' A' l2 ∧ actF l2 = actF l ∧ Below W.heap.size W w') := fun W hb => act_any Al cl l W (hact.to hb) hl14 hx7
  have HX7 := Lib.hid hx7
  have HACT := Lib.hid hact
  have hchE : chainE l.length ((actF l).all Flt.ok) need rest = 1 := by unfold chainE; rw [hn, hok]; rfl
  have HCB : Hid (∀ (A' : Option Addr) (c' : Nat) (l2 : List FltA) (W : World), actF l2 = actF l → ActW W A' l2 → Calls Try.prog 47 #[.slice A' l2.length c', .int .i64 need, .int .i64 rest] W fun e w' => e = .returned (.tuple #[.slice none 0 0, .int .i64 0, .int .i64 1]) ∧ Below W.heap.size W w') := fun A' c' l2 W h1 h2 => by
    have h3 := acts_len h1
    have hE : chainE l2.length ((actF l2).all Flt.ok) need rest = 1 := by rw [h1, h3]; exact hchE
    have := Chain_bad A' c' l2 need rest W h2 (by rw [h3]; exact hlm) (acts_cyc h1 HX7.out) (by rw [hE]; decide)
    rw [hE] at this
    exact this
  have hnI := inB_true.1 hn
  have h1 : ¬ (l.length : Int) < 1 := by omega
  have h2 : ¬ (12 : Int) < (l.length : Int) := by omega
  have HOK : Hid ((actF l).all Flt.ok = false) := hok
  have HLN := Lib.hid (actF_len l)
  clear hn hnI hok
  clear hact hlm hli hx7 hchE
  go_enter Try.func12, Try.ntmps12
  go_wp2_with (first | (go_at_call 46; (with_reducible refine HLI.out.mono ?_); rintro e w1 ⟨rfl, hb1⟩) | (go_at_call 48; (with_reducible refine (HA.out _ hb1).mono ?_); rintro e w2 ⟨A2, c2, l2, rfl, hs2, hl2, hb2⟩) | (go_at_call 47; (with_reducible refine (HCB.out _ _ _ _ hl2 hs2).mono ?_); rintro e w3 ⟨rfl, hb3⟩))
  have hB3 := sh_next (sh_next hb1 hb2) hb3
  have HB3 := Lib.hid hB3
  clear hs2 hl2 hb1 hb2 hb3 hB3 HLI HA
  have HACT3 : Hid (∀ W : World, Below w3.heap.size w3 W → ActW W Al l) := fun W h => HACT.out.to (HB3.out.trans (h.mono HB3.out.size))
  have HC : Hid (∀ (W : World), Below w3.heap.size w3 W → Below w.heap.size w W) := fun W h => HB3.out.trans (h.mono HB3.out.size)
  go_loopw [10, 11] (fun wt i wr => ∃ k : Nat, k ≤ l.length ∧ i = .int .i64 k ∧ ((wt = .int .i64 0 ∧ Hid (((actF l).take k).all Flt.ok = true)) ∨ wt = .int .i64 1) ∧ Below w3.heap.size w3 wr) (fun _ i _ => l.length - (intOf i).toNat)
  case atStart => exact ⟨0, Nat.zero_le _, rfl, .inl ⟨rfl, rfl⟩, Below.refl _ _⟩
  case round =>
    obtain ⟨k, hk, rfl, hor, hBr⟩ := hrel
    rcases hor with ⟨rfl, HALL⟩ | rfl
    case inl =>
      by_cases hlt : k < l.length
      case neg =>
        exfalso
        have := HALL.out
        rw [List.take_of_length_le (by rw [HLN.out]; omega), HOK.out] at this
        cases this
      case pos =>
        have hkI : (k : Int) < (l.length : Int) := by omega
        obtain ⟨x, hx⟩ := getElem?_lt (l := l) (k := k) hlt
        have hxm := List.mem_of_getElem? hx
        have HRr : Hid (∀ W : World, Below w3.heap.size w3 W → Calls Try.prog 22 #[match x with | ⟨f, A, c⟩ => .agg #[.int .i64 f.fly.pos.x.lo, .int .i64 f.fly.pos.x.hi, .int .i64 f.fly.pos.z.lo, .int .i64 f.fly.pos.z.hi, .int .i64 f.fly.speed.x.lo, .int .i64 f.fly.speed.x.hi, .int .i64 f.fly.speed.z.lo, .int .i64 f.fly.speed.z.hi, .int .i64 f.fly.mass, .slice A f.cycle.length c, .int .i64 f.reach, .int .i64 f.soft, .int .i64 f.bears, .int .i64 f.least, .int .i64 f.most]] W fun e w' => e = .returned (.bool x.f.ok) ∧ Below W.heap.size W w') := fun W hW => right_any x.f x.A x.c W ((HACT3.out W hW).2 x hxm) (HX7.out x hxm)
        have Hx : Hid ((actF l)[k]? = some x.f) := actF_get hx
        obtain ⟨b, off, rfl, hb, hc⟩ := HACT.out.1.at_ hx
        have hBw := HC.out _ hBr
        obtain ⟨f, A, c⟩ := x
        have c0 := cell_after hBw (hc 0 _ rfl)
        have c1 := cell_after hBw (hc 1 _ rfl)
        have c2 := cell_after hBw (hc 2 _ rfl)
        have c3 := cell_after hBw (hc 3 _ rfl)
        have c4 := cell_after hBw (hc 4 _ rfl)
        have c5 := cell_after hBw (hc 5 _ rfl)
        have c6 := cell_after hBw (hc 6 _ rfl)
        have c7 := cell_after hBw (hc 7 _ rfl)
        have c8 := cell_after hBw (hc 8 _ rfl)
        have c9 := cell_after hBw (hc 9 _ rfl)
        have c10 := cell_after hBw (hc 10 _ rfl)
        have c11 := cell_after hBw (hc 11 _ rfl)
        have c12 := cell_after hBw (hc 12 _ rfl)
        have c13 := cell_after hBw (hc 13 _ rfl)
        have c14 := cell_after hBw (hc 14 _ rfl)
        simp only [Nat.add_zero] at c0
        simp only at HRr Hx
        clear hx hxm hc
        cases hfo : f.ok
        case false =>
          rw [hfo] at HRr
          go_wp2_with (go_at_call 22; (with_reducible refine (HRr.out _ hBr).mono ?_); rintro e w4 ⟨rfl, hb4⟩)
          go_roundw
          case rel => exact ⟨k + 1, by omega, by go_num, .inr rfl, sh_next hBr hb4⟩
          case measure => simp [intOf]; omega
        case true =>
          rw [hfo] at HRr
          go_wp2_with (go_at_call 22; (with_reducible refine (HRr.out _ hBr).mono ?_); rintro e w4 ⟨rfl, hb4⟩)
          go_roundw
          case rel => exact ⟨k + 1, by omega, by go_num, .inl ⟨rfl, all_snoc Hx.out HALL.out hfo⟩, sh_next hBr hb4⟩
          case measure => simp [intOf]; omega
    case inr =>
      have HBE := Lib.hid (HC.out _ hBr)
      by_cases hlt : (k : Int) < (l.length : Int)
      all_goals
        go_wp2_with (go_at_call 15; refine (wakes_any _).mono ?_; rintro e wk ⟨rfl, hbk⟩)
        go_ret
        exact ⟨rfl, HBE.out.trans (hbk.mono HBE.out.size)⟩
set_option linter.unusedSimpArgs false in
set_option maxRecDepth 100000 in
set_option maxHeartbeats 16000000 in
theorem chains_range (Al : Option Addr) (cl : Nat) (l : List FltA) (need rest : Int) (w : World) (hact : ActW w Al l) (hlm : l.length ≤ maxLen) (hli : lightB l = true) (hn : inB l.length 1 12 = true) (hok : (actF l).all Flt.ok = true) (hnr : (inB need 1 100 && inB rest 0 1000) = false) :
    Calls Try.prog 12 #[.slice Al l.length cl, .int .i64 need, .int .i64 rest] w fun e w' => e = .returned (.bool true) ∧ Below w.heap.size w w' := by
  obtain ⟨hl14, hx7⟩ := lightB_true hli
  have HLI : Hid (Calls Try.prog 46 #[.slice Al l.length cl] w fun e w' => e = .returned (.bool true) ∧ Below w.heap.size w w') := by have := light_any Al cl l w hact hlm; rw [hli] at this; exact this
  have HA : Hid (∀ W : World, Below w.heap.size w W → Calls Try.prog 48 #[.slice Al l.length cl] W fun e w' => ∃ A' c' l2, e = .returned (.slice A' l2.length c') ∧ ActW w' A' l2 ∧ actF l2 = actF l ∧ Below W.heap.size W w') := fun W hb => act_any Al cl l W (hact.to hb) hl14 hx7
  have HX7 := Lib.hid hx7
  have HACT := Lib.hid hact
  have hchE : chainE l.length ((actF l).all Flt.ok) need rest = 2 := by unfold chainE; rw [hn, hok, hnr]; rfl
  have HCB : Hid (∀ (A' : Option Addr) (c' : Nat) (l2 : List FltA) (W : World), actF l2 = actF l → ActW W A' l2 → Calls Try.prog 47 #[.slice A' l2.length c', .int .i64 need, .int .i64 rest] W fun e w' => e = .returned (.tuple #[.slice none 0 0, .int .i64 0, .int .i64 2]) ∧ Below W.heap.size W w') := fun A' c' l2 W h1 h2 => by
    have h3 := acts_len h1
    have hE : chainE l2.length ((actF l2).all Flt.ok) need rest = 2 := by rw [h1, h3]; exact hchE
    have := Chain_bad A' c' l2 need rest W h2 (by rw [h3]; exact hlm) (acts_cyc h1 HX7.out) (by rw [hE]; decide)
    rw [hE] at this
    exact this
  have hnI := inB_true.1 hn
  have h1 : ¬ (l.length : Int) < 1 := by omega
  have h2 : ¬ (12 : Int) < (l.length : Int) := by omega
  have HOK : Hid ((actF l).all Flt.ok = true) := hok
  have HI1 : Hid (∀ W : World, Calls Try.prog 20 #[.int .i64 need, .int .i64 1, .int .i64 100] W fun e w' => e = .returned (.bool (inB need 1 100)) ∧ W = w') := fun W => in_any _ _ _ W
  have HI2 : Hid (∀ W : World, Calls Try.prog 20 #[.int .i64 rest, .int .i64 0, .int .i64 1000] W fun e w' => e = .returned (.bool (inB rest 0 1000)) ∧ W = w') := fun W => in_any _ _ _ W
  have hcase : inB need 1 100 = false ∨ (inB need 1 100 = true ∧ inB rest 0 1000 = false) := by
    cases h2 : inB need 1 100
    · exact .inl rfl
    · rw [h2] at hnr; exact .inr ⟨rfl, hnr⟩
  clear hn hnI hok hnr
  clear hact hlm hli hx7 hchE
  go_enter Try.func12, Try.ntmps12
  go_wp2_with (first | (go_at_call 46; (with_reducible refine HLI.out.mono ?_); rintro e w1 ⟨rfl, hb1⟩) | (go_at_call 48; (with_reducible refine (HA.out _ hb1).mono ?_); rintro e w2 ⟨A2, c2, l2, rfl, hs2, hl2, hb2⟩) | (go_at_call 47; (with_reducible refine (HCB.out _ _ _ _ hl2 hs2).mono ?_); rintro e w3 ⟨rfl, hb3⟩))
  have hB3 := sh_next (sh_next hb1 hb2) hb3
  have HB3 := Lib.hid hB3
  clear hs2 hl2 hb1 hb2 hb3 hB3 HLI HA
  have HACT3 : Hid (∀ W : World, Below w3.heap.size w3 W → ActW W Al l) := fun W h => HACT.out.to (HB3.out.trans (h.mono HB3.out.size))
  have HC : Hid (∀ (W : World), Below w3.heap.size w3 W → Below w.heap.size w W) := fun W h => HB3.out.trans (h.mono HB3.out.size)
  go_loopw [10, 11] (fun wt i wr => ∃ k : Nat, k ≤ l.length ∧ i = .int .i64 k ∧ wt = .int .i64 0 ∧ Below w3.heap.size w3 wr) (fun _ i _ => l.length - (intOf i).toNat)
  case atStart => exact ⟨0, Nat.zero_le _, rfl, rfl, Below.refl _ _⟩
  case round =>
    obtain ⟨k, hk, rfl, rfl, hBr⟩ := hrel
    by_cases hlt : k < l.length
    case pos =>
      have hkI : (k : Int) < (l.length : Int) := by omega
      obtain ⟨x, hx⟩ := getElem?_lt (l := l) (k := k) hlt
      have hxm := List.mem_of_getElem? hx
      have HRr : Hid (∀ W : World, Below w3.heap.size w3 W → Calls Try.prog 22 #[match x with | ⟨f, A, c⟩ => .agg #[.int .i64 f.fly.pos.x.lo, .int .i64 f.fly.pos.x.hi, .int .i64 f.fly.pos.z.lo, .int .i64 f.fly.pos.z.hi, .int .i64 f.fly.speed.x.lo, .int .i64 f.fly.speed.x.hi, .int .i64 f.fly.speed.z.lo, .int .i64 f.fly.speed.z.hi, .int .i64 f.fly.mass, .slice A f.cycle.length c, .int .i64 f.reach, .int .i64 f.soft, .int .i64 f.bears, .int .i64 f.least, .int .i64 f.most]] W fun e w' => e = .returned (.bool x.f.ok) ∧ Below W.heap.size W w') := fun W hW => right_any x.f x.A x.c W ((HACT3.out W hW).2 x hxm) (HX7.out x hxm)
      have Hx : Hid ((actF l)[k]? = some x.f) := actF_get hx
      obtain ⟨b, off, rfl, hb, hc⟩ := HACT.out.1.at_ hx
      have hBw := HC.out _ hBr
      obtain ⟨f, A, c⟩ := x
      have c0 := cell_after hBw (hc 0 _ rfl)
      have c1 := cell_after hBw (hc 1 _ rfl)
      have c2 := cell_after hBw (hc 2 _ rfl)
      have c3 := cell_after hBw (hc 3 _ rfl)
      have c4 := cell_after hBw (hc 4 _ rfl)
      have c5 := cell_after hBw (hc 5 _ rfl)
      have c6 := cell_after hBw (hc 6 _ rfl)
      have c7 := cell_after hBw (hc 7 _ rfl)
      have c8 := cell_after hBw (hc 8 _ rfl)
      have c9 := cell_after hBw (hc 9 _ rfl)
      have c10 := cell_after hBw (hc 10 _ rfl)
      have c11 := cell_after hBw (hc 11 _ rfl)
      have c12 := cell_after hBw (hc 12 _ rfl)
      have c13 := cell_after hBw (hc 13 _ rfl)
      have c14 := cell_after hBw (hc 14 _ rfl)
      simp only [Nat.add_zero] at c0
      simp only at HRr Hx
      clear hx hxm hc
      have hfo : f.ok = true := List.all_eq_true.1 HOK.out f (List.mem_of_getElem? Hx.out)
      rw [hfo] at HRr
      clear hfo
      go_wp2_with (go_at_call 22; (with_reducible refine (HRr.out _ hBr).mono ?_); rintro e w4 ⟨rfl, hb4⟩)
      go_roundw
      case rel => exact ⟨k + 1, by omega, by go_num, rfl, sh_next hBr hb4⟩
      case measure => simp [intOf]; omega
    case neg =>
      have hkI : ¬ (k : Int) < (l.length : Int) := by omega
      have HBE := Lib.hid (HC.out _ hBr)
      rcases hcase with h3 | ⟨h3, h4⟩
      all_goals
        rw [h3] at HI1
        try rw [h4] at HI2
        clear h3
        try clear h4
        go_wp2_with (first | (go_at_call 20; (with_reducible refine (HI1.out _).mono ?_); rintro e w5 ⟨rfl, rfl⟩) | (go_at_call 20; (with_reducible refine (HI2.out _).mono ?_); rintro e w5 ⟨rfl, rfl⟩) | (go_at_call 15; refine (wakes_any _).mono ?_; rintro e wk ⟨rfl, hbk⟩))
        go_ret
        exact ⟨rfl, HBE.out.trans (hbk.mono HBE.out.size)⟩
set_option linter.unusedSimpArgs false in
set_option maxRecDepth 100000 in
set_option maxHeartbeats 16000000 in
theorem chains_ok (Al : Option Addr) (cl : Nat) (l : List FltA) (need rest : Nat) (w : World) (hact : ActW w Al l) (hlm : l.length ≤ maxLen) (hli : lightB l = true) (hn : inB l.length 1 12 = true) (hok : (actF l).all Flt.ok = true) (hne : 1 ≤ need ∧ need ≤ 100) (hre : rest ≤ 1000) :
    Calls Try.prog 12 #[.slice Al l.length cl, .int .i64 need, .int .i64 rest] w fun e w' => e = .returned (.bool true) ∧ Below w.heap.size w w' := by
  obtain ⟨hl14, hx7⟩ := lightB_true hli
  have HLI : Hid (Calls Try.prog 46 #[.slice Al l.length cl] w fun e w' => e = .returned (.bool true) ∧ Below w.heap.size w w') := by have := light_any Al cl l w hact hlm; rw [hli] at this; exact this
  have HA : Hid (∀ W : World, Below w.heap.size w W → Calls Try.prog 48 #[.slice Al l.length cl] W fun e w' => ∃ A' c' l2, e = .returned (.slice A' l2.length c') ∧ ActW w' A' l2 ∧ actF l2 = actF l ∧ Below W.heap.size W w') := fun W hb => act_any Al cl l W (hact.to hb) hl14 hx7
  have HX7 := Lib.hid hx7
  have HACT := Lib.hid hact
  have hnI := inB_true.1 hn
  have h1 : ¬ (l.length : Int) < 1 := by omega
  have h2 : ¬ (12 : Int) < (l.length : Int) := by omega
  have HOK : Hid ((actF l).all Flt.ok = true) := hok
  have HI1 : Hid (∀ W : World, Calls Try.prog 20 #[.int .i64 (need : Int), .int .i64 1, .int .i64 100] W fun e w' => e = .returned (.bool true) ∧ W = w') := fun W => by have := in_any (need : Int) 1 100 W; rw [inB_true.2 (by omega)] at this; exact this
  have HI2 : Hid (∀ W : World, Calls Try.prog 20 #[.int .i64 (rest : Int), .int .i64 0, .int .i64 1000] W fun e w' => e = .returned (.bool true) ∧ W = w') := fun W => by have := in_any (rest : Int) 0 1000 W; rw [inB_true.2 (by omega)] at this; exact this
  have HCB : Hid (∀ (A' : Option Addr) (c' : Nat) (l2 : List FltA) (W : World), actF l2 = actF l → ActW W A' l2 → Calls Try.prog 47 #[.slice A' l2.length c', .int .i64 (need : Int), .int .i64 (rest : Int)] W fun e w' => ∃ A3 c3, e = .returned (.tuple #[.slice A3 (chainOf (actF l) need rest).ws.length c3, .int .i64 (chainOf (actF l) need rest).at_, .int .i64 (chainOf (actF l) need rest).err]) ∧ RS encW 2 w' w'.heap.size A3 (chainOf (actF l) need rest).ws ∧ Below W.heap.size W w') := fun A' c' l2 W h1 h2 => by
    have h3 := acts_len h1
    have := Chain_ok A' c' l2 need rest W h2 (by rw [h3]; omega) (by rw [h1]; exact HOK.out) hne hre
    rw [h1] at this
    exact this
  have HRC : Hid (∀ W : World, ActW W Al l → Calls Try.prog 49 #[.slice Al l.length cl, .int .i64 (need : Int), .int .i64 (rest : Int)] W fun e w' => ∃ A' c', e = .returned (.tuple #[.slice A' (chainOf (actF l) need rest).ws.length c', .int .i64 (if (chainOf (actF l) need rest).err = 0 then -1 else (chainOf (actF l) need rest).at_)]) ∧ RS encW 2 w' w'.heap.size A' (chainOf (actF l) need rest).ws ∧ Below W.heap.size W w') := fun W h => refChain_any Al cl l need rest W h (by omega) (fun x hx => List.all_eq_true.1 HOK.out x.f (List.mem_map.2 ⟨x, hx, rfl⟩)) hne hre
  have hout := chainOf_cases (l := actF l) (need := need) (rest := rest)
  rw [actF_len] at hout
  obtain ⟨o, ho⟩ : ∃ o, chainOf (actF l) need rest = o := ⟨_, rfl⟩
  rw [ho] at hout HCB HRC
  obtain ⟨ws, at_, err⟩ := o
  simp only at hout HCB HRC
  have HOUT := Lib.hid hout
  clear hn hnI hok hne hre hout ho
  clear hact hlm hli hx7
  go_enter Try.func12, Try.ntmps12
  go_wp2_with (first | (go_at_call 46; (with_reducible refine HLI.out.mono ?_); rintro e w1 ⟨rfl, hb1⟩) | (go_at_call 48; (with_reducible refine (HA.out _ hb1).mono ?_); rintro e w2 ⟨A2, c2, l2, rfl, hs2, hl2, hb2⟩) | (go_at_call 47; (with_reducible refine (HCB.out _ _ _ _ hl2 hs2).mono ?_); rintro e w3 ⟨A3, c3, rfl, hs3, hb3⟩))
  have hB3 := sh_next (sh_next hb1 hb2) hb3
  have HB3 := Lib.hid hB3
  clear hs2 hl2 hb1 hb2 hb3 hB3 HLI HA
  have HACT3 : Hid (∀ W : World, Below w3.heap.size w3 W → ActW W Al l) := fun W h => HACT.out.to (HB3.out.trans (h.mono HB3.out.size))
  have HC : Hid (∀ (W : World), Below w3.heap.size w3 W → Below w.heap.size w W) := fun W h => HB3.out.trans (h.mono HB3.out.size)
  go_loopw [10, 11] (fun wt i wr => ∃ k : Nat, k ≤ l.length ∧ i = .int .i64 k ∧ wt = .int .i64 0 ∧ Below w3.heap.size w3 wr) (fun _ i _ => l.length - (intOf i).toNat)
  case atStart => exact ⟨0, Nat.zero_le _, rfl, rfl, Below.refl _ _⟩
  case round =>
    obtain ⟨k, hk, rfl, rfl, hBr⟩ := hrel
    by_cases hlt : k < l.length
    case pos =>
      have hkI : (k : Int) < (l.length : Int) := by omega
      obtain ⟨x, hx⟩ := getElem?_lt (l := l) (k := k) hlt
      have hxm := List.mem_of_getElem? hx
      have HRr : Hid (∀ W : World, Below w3.heap.size w3 W → Calls Try.prog 22 #[match x with | ⟨f, A, c⟩ => .agg #[.int .i64 f.fly.pos.x.lo, .int .i64 f.fly.pos.x.hi, .int .i64 f.fly.pos.z.lo, .int .i64 f.fly.pos.z.hi, .int .i64 f.fly.speed.x.lo, .int .i64 f.fly.speed.x.hi, .int .i64 f.fly.speed.z.lo, .int .i64 f.fly.speed.z.hi, .int .i64 f.fly.mass, .slice A f.cycle.length c, .int .i64 f.reach, .int .i64 f.soft, .int .i64 f.bears, .int .i64 f.least, .int .i64 f.most]] W fun e w' => e = .returned (.bool x.f.ok) ∧ Below W.heap.size W w') := fun W hW => right_any x.f x.A x.c W ((HACT3.out W hW).2 x hxm) (HX7.out x hxm)
      have Hx : Hid ((actF l)[k]? = some x.f) := actF_get hx
      obtain ⟨b, off, rfl, hb, hc⟩ := HACT.out.1.at_ hx
      have hBw := HC.out _ hBr
      obtain ⟨f, A, c⟩ := x
      have c0 := cell_after hBw (hc 0 _ rfl)
      have c1 := cell_after hBw (hc 1 _ rfl)
      have c2 := cell_after hBw (hc 2 _ rfl)
      have c3 := cell_after hBw (hc 3 _ rfl)
      have c4 := cell_after hBw (hc 4 _ rfl)
      have c5 := cell_after hBw (hc 5 _ rfl)
      have c6 := cell_after hBw (hc 6 _ rfl)
      have c7 := cell_after hBw (hc 7 _ rfl)
      have c8 := cell_after hBw (hc 8 _ rfl)
      have c9 := cell_after hBw (hc 9 _ rfl)
      have c10 := cell_after hBw (hc 10 _ rfl)
      have c11 := cell_after hBw (hc 11 _ rfl)
      have c12 := cell_after hBw (hc 12 _ rfl)
      have c13 := cell_after hBw (hc 13 _ rfl)
      have c14 := cell_after hBw (hc 14 _ rfl)
      simp only [Nat.add_zero] at c0
      simp only at HRr Hx
      clear hx hxm hc
      have hfo : f.ok = true := List.all_eq_true.1 HOK.out f (List.mem_of_getElem? Hx.out)
      rw [hfo] at HRr
      clear hfo
      go_wp2_with (go_at_call 22; (with_reducible refine (HRr.out _ hBr).mono ?_); rintro e w4 ⟨rfl, hb4⟩)
      go_roundw
      case rel => exact ⟨k + 1, by omega, by go_num, rfl, sh_next hBr hb4⟩
      case measure => simp [intOf]; omega
    case neg =>
      have hkI : ¬ (k : Int) < (l.length : Int) := by omega
      have HBE := Lib.hid (HC.out _ hBr)
      have HAr : Hid (ActW wr Al l) := HACT3.out _ hBr
      have hs3r := hs3.to hBr
      rcases HOUT.out with ⟨rfl, rfl, hwl⟩ | ⟨rfl, rfl, hat⟩
      case inl =>
        have hw7 : ws.length ≤ 7000 := by omega
        clear hwl
        simp only [if_pos] at HRC
        go_wp2_with (first | (go_at_call 20; (with_reducible refine (HI1.out _).mono ?_); rintro e w5 ⟨rfl, rfl⟩) | (go_at_call 20; (with_reducible refine (HI2.out _).mono ?_); rintro e w5 ⟨rfl, rfl⟩) | (go_at_call 49; (with_reducible refine (HRC.out _ HAr.out).mono ?_); rintro e w6 ⟨A6, c6, rfl, hs6, hb6⟩) | (go_at_call 45; (with_reducible refine (lawWindows_any A3 A6 c3 c6 ws _ (hs3r.to hb6) hs6 hw7).mono ?_); rintro e w7 ⟨rfl, hb7⟩) | (go_at_call 15; refine (wakes_any _).mono ?_; rintro e wk ⟨rfl, hbk⟩))
        go_ret
        exact ⟨rfl, HBE.out.trans ((sh_next (sh_next hb6 hb7) hbk).mono HBE.out.size)⟩
      case inr =>
        have hz : ¬ (7 : Int) = 0 := by omega
        rw [if_neg hz] at HRC
        have hatI : (0 : Int) ≤ (at_ : Int) := by omega
        clear hz
        go_wp2_with (first | (go_at_call 20; (with_reducible refine (HI1.out _).mono ?_); rintro e w5 ⟨rfl, rfl⟩) | (go_at_call 20; (with_reducible refine (HI2.out _).mono ?_); rintro e w5 ⟨rfl, rfl⟩) | (go_at_call 49; (with_reducible refine (HRC.out _ HAr.out).mono ?_); rintro e w6 ⟨A6, c6, rfl, hs6, hb6⟩) | (go_at_call 15; refine (wakes_any _).mono ?_; rintro e wk ⟨rfl, hbk⟩))
        go_ret
        exact ⟨rfl, HBE.out.trans ((sh_next hb6 hbk).mono HBE.out.size)⟩
set_option maxHeartbeats 4000000 in
theorem chains_dark (Al : Option Addr) (cl : Nat) (l : List FltA) (need rest : Int) (w : World) (hact : ActW w Al l) (hlm : l.length ≤ maxLen) (hli : lightB l = false) :
    Calls Try.prog 12 #[.slice Al l.length cl, .int .i64 need, .int .i64 rest] w fun e w' => e = .returned (.bool true) ∧ Below w.heap.size w w' := by
  have HLI : Hid (Calls Try.prog 46 #[.slice Al l.length cl] w fun e w' => e = .returned (.bool false) ∧ Below w.heap.size w w') := by have := light_any Al cl l w hact hlm; rw [hli] at this; exact this
  clear hact hlm hli
  go_enter Try.func12, Try.ntmps12
  go_wp2_with (first | (go_at_call 46; (with_reducible refine HLI.out.mono ?_); rintro e w1 ⟨rfl, hb1⟩) | (go_at_call 15; refine (wakes_any _).mono ?_; rintro e wk ⟨rfl, hbk⟩))
  go_ret
  exact ⟨rfl, sh_next hb1 hbk⟩
theorem chains_any (Al : Option Addr) (cl : Nat) (l : List FltA) (need rest : Int) (w : World) (hact : ActW w Al l) (hlm : l.length ≤ maxLen) :
    Calls Try.prog 12 #[.slice Al l.length cl, .int .i64 need, .int .i64 rest] w fun e w' => e = .returned (.bool true) ∧ Below w.heap.size w w' := by
  cases hli : lightB l
  · exact chains_dark Al cl l need rest w hact hlm hli
  cases hn : inB (l.length : Int) 1 12
  · exact chains_count Al cl l need rest w hact hlm hli hn
  cases hok : (actF l).all Flt.ok
  · exact chains_args Al cl l need rest w hact hlm hli hn hok
  cases hnr : (inB need 1 100 && inB rest 0 1000)
  · exact chains_range Al cl l need rest w hact hlm hli hn hok hnr
  rw [Bool.and_eq_true] at hnr
  have h1 := inB_true.1 hnr.1
  have h2 := inB_true.1 hnr.2
  obtain ⟨n, rfl⟩ : ∃ n : Nat, need = n := ⟨need.toNat, by omega⟩
  obtain ⟨r, rfl⟩ : ∃ r : Nat, rest = r := ⟨rest.toNat, by omega⟩
  exact chains_ok Al cl l n r w hact hlm hli hn hok (by omega) (by omega)
end Go.Proofs.Ytbagfapalkmikaa
