import Derived.Test.YtbagfapalkmikaaChain

/- Contracts of Chain. -/
namespace Go.Proofs.Ytbagfapalkmikaa
open Go.RowKit Go.Shelf
/-- The error of a call with so many flights. -/
def chainE (n : Nat) (ok : Bool) (need rest : Int) : Int := if inB n 1 12 then (if ok then (if inB need 1 100 && inB rest 0 1000 then 0 else 2) else 1) else 3
set_option maxRecDepth 100000 in
set_option maxHeartbeats 8000000 in
theorem Chain_bad (Al : Option Addr) (cl : Nat) (l : List FltA) (need rest : Int) (w : World) (hact : ActW w Al l) (hl : l.length ≤ maxLen) (hx : ∀ x ∈ l, x.f.cycle.length ≤ maxLen) (h : chainE l.length ((actF l).all Flt.ok) need rest ≠ 0) :
    Calls Try.prog 47 #[.slice Al l.length cl, .int .i64 need, .int .i64 rest] w fun e w' => e = .returned (.tuple #[.slice none 0 0, .int .i64 0, .int .i64 (chainE l.length ((actF l).all Flt.ok) need rest)]) ∧ Below w.heap.size w w' := by
  have HEV : Hid (∀ W : World, Below w.heap.size w W → Calls Try.prog 77 #[.slice Al l.length cl, .func (.func 56) #[] #[]] W fun e w' => e = .returned (.bool ((actF l).all Flt.ok)) ∧ Below W.heap.size W w') := fun W hb => everyF_any Al cl l W (hact.to hb) hl hx
  have HT1 : Hid (∀ W : World, Calls Try.prog 76 #[.int .i64 (l.length : Int), .int .i64 1, .int .i64 12] W fun e w' => e = .returned (.bool (inB l.length 1 12)) ∧ W = w') := fun W => fwithin_any _ _ _ W
  have HT2 : Hid (∀ W : World, Calls Try.prog 76 #[.int .i64 need, .int .i64 1, .int .i64 100] W fun e w' => e = .returned (.bool (inB need 1 100)) ∧ W = w') := fun W => fwithin_any _ _ _ W
  have HT3 : Hid (∀ W : World, Calls Try.prog 76 #[.int .i64 rest, .int .i64 0, .int .i64 1000] W fun e w' => e = .returned (.bool (inB rest 0 1000)) ∧ W = w') := fun W => fwithin_any _ _ _ W
  obtain ⟨ok, hok⟩ : ∃ ok, (actF l).all Flt.ok = ok := ⟨_, rfl⟩
  rw [hok] at HEV h
  rw [hok]
  clear hact hl hx hok
  cases h1 : inB (l.length : Int) 1 12
  case false =>
    have HE : Hid (chainE l.length ok need rest = 3) := by show _ = _; unfold chainE; rw [h1]; rfl
    rw [h1] at HT1
    clear h h1
    go_enter Try.func47, Try.ntmps47
    go_wp2_with (go_at_call 76; (with_reducible refine (HT1.out _).mono ?_); rintro e w2 ⟨rfl, rfl⟩)
    rw [HE.out]
    go_ret3
    exact ⟨rfl, Below.refl _ _⟩
  case true =>
    rw [h1] at HT1
    cases ok
    case false =>
      have HE : Hid (chainE l.length false need rest = 1) := by show _ = _; unfold chainE; rw [h1]; rfl
      clear h h1
      go_enter Try.func47, Try.ntmps47
      go_wp2_with (first | (go_at_call 76; (with_reducible refine (HT1.out _).mono ?_); rintro e w2 ⟨rfl, rfl⟩) | (go_at_call 77; (with_reducible refine (HEV.out _ (Below.refl _ _)).mono ?_); rintro e w1 ⟨rfl, hb1⟩))
      rw [HE.out]
      go_ret3
      exact ⟨rfl, hb1⟩
    case true =>
      have hcase : inB need 1 100 = false ∨ (inB need 1 100 = true ∧ inB rest 0 1000 = false) := by
        cases h2 : inB need 1 100
        · exact .inl rfl
        · cases h3 : inB rest 0 1000
          · exact .inr ⟨rfl, rfl⟩
          · exact absurd (show chainE l.length true need rest = 0 by unfold chainE; rw [h1, h2, h3]; rfl) h
      have HE : Hid (chainE l.length true need rest = 2) := by
        show _ = _
        unfold chainE
        rcases hcase with h2 | ⟨h2, h3⟩
        · rw [h1, h2]; rfl
        · rw [h1, h2, h3]; rfl
      clear h h1
      rcases hcase with h2 | ⟨h2, h3⟩
      all_goals
        rw [h2] at HT2
        try rw [h3] at HT3
        clear h2
        try clear h3
        go_enter Try.func47, Try.ntmps47
        go_wp2_with (first | (go_at_call 76; (with_reducible refine (HT1.out _).mono ?_); rintro e w2 ⟨rfl, rfl⟩) | (go_at_call 76; (with_reducible refine (HT2.out _).mono ?_); rintro e w2 ⟨rfl, rfl⟩) | (go_at_call 76; (with_reducible refine (HT3.out _).mono ?_); rintro e w2 ⟨rfl, rfl⟩) | (go_at_call 77; (with_reducible refine (HEV.out _ (Below.refl _ _)).mono ?_); rintro e w1 ⟨rfl, hb1⟩))
        rw [HE.out]
        go_ret3
        exact ⟨rfl, hb1⟩
set_option maxRecDepth 100000 in
set_option maxHeartbeats 8000000 in
theorem Chain_ok (Al : Option Addr) (cl : Nat) (l : List FltA) (need rest : Nat) (w : World) (hact : ActW w Al l) (hl : 1 ≤ l.length ∧ l.length ≤ 12) (hok : (actF l).all Flt.ok = true) (hn : 1 ≤ need ∧ need ≤ 100) (hre : rest ≤ 1000) :
    Calls Try.prog 47 #[.slice Al l.length cl, .int .i64 need, .int .i64 rest] w fun e w' => ∃ A' c', e = .returned (.tuple #[.slice A' (chainOf (actF l) need rest).ws.length c', .int .i64 (chainOf (actF l) need rest).at_, .int .i64 (chainOf (actF l) need rest).err]) ∧
      RS encW 2 w' w'.heap.size A' (chainOf (actF l) need rest).ws ∧ Below w.heap.size w w' := by
  have hall : ∀ x ∈ l, x.f.ok = true := fun x hx => List.all_eq_true.1 hok x.f (List.mem_map.2 ⟨x, hx, rfl⟩)
  have hlm : l.length ≤ maxLen := by unfold maxLen; omega
  have hxm : ∀ x ∈ l, x.f.cycle.length ≤ maxLen := fun x hx => by have := (Flt.ok_iff.1 (hall x hx)).2.1.2; unfold maxLen; omega
  have HEV : Hid (∀ W : World, Below w.heap.size w W → Calls Try.prog 77 #[.slice Al l.length cl, .func (.func 56) #[] #[]] W fun e w' => e = .returned (.bool true) ∧ Below W.heap.size W w') := fun W hb => by rw [← hok]; exact everyF_any Al cl l W (hact.to hb) hlm hxm
  have HT1 : Hid (∀ W : World, Calls Try.prog 76 #[.int .i64 (l.length : Int), .int .i64 1, .int .i64 12] W fun e w' => e = .returned (.bool true) ∧ W = w') := fun W => by have := fwithin_any (l.length : Int) 1 12 W; rw [inB_true.2 (by omega)] at this; exact this
  have HT2 : Hid (∀ W : World, Calls Try.prog 76 #[.int .i64 (need : Int), .int .i64 1, .int .i64 100] W fun e w' => e = .returned (.bool true) ∧ W = w') := fun W => by have := fwithin_any (need : Int) 1 100 W; rw [inB_true.2 (by omega)] at this; exact this
  have HT3 : Hid (∀ W : World, Calls Try.prog 76 #[.int .i64 (rest : Int), .int .i64 0, .int .i64 1000] W fun e w' => e = .returned (.bool true) ∧ W = w') := fun W => by have := fwithin_any (rest : Int) 0 1000 W; rw [inB_true.2 (by omega)] at this; exact this
  have HCH : Hid (∀ W : World, Below w.heap.size w W → Calls Try.prog 78 #[.slice Al l.length cl, .int .i64 (need : Int), .int .i64 (rest : Int)] W fun e w' => ∃ A' c', e = .returned (.tuple #[.slice A' (chainOf (actF l) need rest).ws.length c', .int .i64 (chainOf (actF l) need rest).at_, .int .i64 (chainOf (actF l) need rest).err]) ∧ RS encW 2 w' w'.heap.size A' (chainOf (actF l) need rest).ws ∧ Below W.heap.size W w') := fun W hb => chain_any Al cl l need rest W (hact.to hb) hl.2 hall hn hre
  obtain ⟨o, ho⟩ : ∃ o, chainOf (actF l) need rest = o := ⟨_, rfl⟩
  rw [ho] at HCH
  rw [ho]
  clear hact hl hok hn hre hall hlm hxm ho
  go_enter Try.func47, Try.ntmps47
  go_wp2_with (first | (go_at_call 76; (with_reducible refine (HT1.out _).mono ?_); rintro e w2 ⟨rfl, rfl⟩) | (go_at_call 76; (with_reducible refine (HT2.out _).mono ?_); rintro e w2 ⟨rfl, rfl⟩) | (go_at_call 76; (with_reducible refine (HT3.out _).mono ?_); rintro e w2 ⟨rfl, rfl⟩) | (go_at_call 77; (with_reducible refine (HEV.out _ (Below.refl _ _)).mono ?_); rintro e w1 ⟨rfl, hb1⟩) | (go_at_call 78; (with_reducible refine (HCH.out _ hb1).mono ?_); rintro e w3 ⟨A3, c3, rfl, hs3, hb3⟩))
  go_ret3
  exact ⟨A3, c3, rfl, hs3, sh_next hb1 hb3⟩
end Go.Proofs.Ytbagfapalkmikaa
