import Derived.Test.YtbagfapalkmikaaChainA

/- Is an act light? -/
namespace Go.Proofs.Ytbagfapalkmikaa
open Go.RowKit Go.Shelf
theorem in_below {n lo hi : Int} {b : Bool} (h : inB n lo hi = b) (W : World) : Calls Try.prog 20 #[.int .i64 n, .int .i64 lo, .int .i64 hi] W fun e w' => e = .returned (.bool b) ∧ Below W.heap.size W w' :=
  (in_any n lo hi W).mono fun e w' ⟨h1, h2⟩ => ⟨by rw [h1, h], by subst h2; exact Below.refl _ _⟩
def lg (x : FltA) : Bool := decide (x.f.cycle.length ≤ 700) && !(inB x.f.least 0 300 && inB x.f.most (x.f.least + 60) 300)
def lightB (l : List FltA) : Bool := l.all lg && (decide (l.length ≤ 3) || (decide (12 < l.length) && decide (l.length ≤ 14)))
theorem lightB_true {l : List FltA} (h : lightB l = true) : l.length ≤ 14 ∧ ∀ x ∈ l, x.f.cycle.length ≤ 700 := by
  unfold lightB at h
  simp only [Bool.and_eq_true, Bool.or_eq_true, decide_eq_true_eq] at h
  obtain ⟨h1, h2⟩ := h
  refine ⟨by omega, fun x hx => ?_⟩
  have := List.all_eq_true.1 h1 x hx
  unfold lg at this
  rw [Bool.and_eq_true] at this
  exact of_decide_eq_true this.1
theorem lg_bad {f : Flt} {A : Option Addr} {c : Nat} (h : ¬ f.cycle.length ≤ 700) : lg ⟨f, A, c⟩ = false := by unfold lg; rw [decide_eq_false h]; rfl
theorem lg_out {f : Flt} {A : Option Addr} {c : Nat} (h : f.cycle.length ≤ 700) (h1 : inB f.least 0 300 = false) : lg ⟨f, A, c⟩ = true := by unfold lg; rw [decide_eq_true h, h1]; rfl
theorem lg_in {f : Flt} {A : Option Addr} {c : Nat} {b : Bool} (h : f.cycle.length ≤ 700) (h1 : inB f.least 0 300 = true) (h2 : inB f.most (f.least + 60) 300 = b) : lg ⟨f, A, c⟩ = !b := by unfold lg; rw [decide_eq_true h, h1, h2]; rfl
set_option linter.unusedSimpArgs false in
set_option maxRecDepth 100000 in
set_option maxHeartbeats 16000000 in
theorem light_any (Al : Option Addr) (cl : Nat) (l : List FltA) (w : World) (hact : ActW w Al l) (hl : l.length ≤ maxLen) :
    Calls Try.prog 46 #[.slice Al l.length cl] w fun e w' => e = .returned (.bool (lightB l)) ∧ Below w.heap.size w w' := by
  have hmx : Try.prog.follows .mixedOrders = true := by kernel_rfl
  unfold maxLen at hl
  have HACT := Lib.hid hact
  clear hact
  go_enter Try.func46, Try.ntmps46
  go_wp2
  go_loopw [3] (fun i wr => ∃ k : Nat, k ≤ l.length ∧ i = .int .i64 k ∧ Hid ((l.take k).all lg = true) ∧ Below w.heap.size w wr) (fun i _ => l.length - (intOf i).toNat)
  case atStart => exact ⟨0, Nat.zero_le _, rfl, rfl, Below.refl _ _⟩
  case round =>
    obtain ⟨k, hk, rfl, HALL, hB⟩ := hrel
    by_cases hlt : k < l.length
    case neg =>
      have hkI : ¬ ((k : Int) < (l.length : Int)) := by omega
      have HA2 : Hid (l.all lg = true) := by have := HALL.out; rw [List.take_of_length_le (by omega)] at this; exact this
      have HLB : Hid (lightB l = (decide (l.length ≤ 3) || (decide (12 < l.length) && decide (l.length ≤ 14)))) := by show _ = _; unfold lightB; rw [HA2.out]; rfl
      clear HALL
      by_cases h3 : l.length ≤ 3
      · have h3I : (l.length : Int) ≤ 3 := by omega
        go_wp2
        go_ret
        exact ⟨ret_bool (by rw [HLB.out]; simp <;> omega), hB⟩
      · have h3I : ¬ (l.length : Int) ≤ 3 := by omega
        by_cases h12 : 12 < l.length
        · have h12I : (12 : Int) < (l.length : Int) := by omega
          by_cases h14 : l.length ≤ 14
          · have h14I : (l.length : Int) ≤ 14 := by omega
            go_wp2
            go_ret
            exact ⟨ret_bool (by rw [HLB.out]; simp <;> omega), hB⟩
          · have h14I : ¬ (l.length : Int) ≤ 14 := by omega
            go_wp2
            go_ret
            exact ⟨ret_bool (by rw [HLB.out]; simp <;> omega), hB⟩
        · have h12I : ¬ (12 : Int) < (l.length : Int) := by omega
          go_wp2
          go_ret
          exact ⟨ret_bool (by rw [HLB.out]; simp <;> omega), hB⟩
    case pos =>
      have hkI : (k : Int) < (l.length : Int) := by omega
      obtain ⟨x, hx⟩ := getElem?_lt (l := l) (k := k) hlt
      have hxr := (HACT.out.2 x (List.mem_of_getElem? hx)).to hB
      have Hx : Hid (l[k]? = some x) := hx
      obtain ⟨b, off, rfl, hb, hc⟩ := HACT.out.1.at_ hx
      obtain ⟨f, A, c⟩ := x
      have c0 := cell_after hB (hc 0 _ rfl)
      have c1 := cell_after hB (hc 1 _ rfl)
      have c2 := cell_after hB (hc 2 _ rfl)
      have c3 := cell_after hB (hc 3 _ rfl)
      have c4 := cell_after hB (hc 4 _ rfl)
      have c5 := cell_after hB (hc 5 _ rfl)
      have c6 := cell_after hB (hc 6 _ rfl)
      have c7 := cell_after hB (hc 7 _ rfl)
      have c8 := cell_after hB (hc 8 _ rfl)
      have c9 := cell_after hB (hc 9 _ rfl)
      have c10 := cell_after hB (hc 10 _ rfl)
      have c11 := cell_after hB (hc 11 _ rfl)
      have c12 := cell_after hB (hc 12 _ rfl)
      have c13 := cell_after hB (hc 13 _ rfl)
      have c14 := cell_after hB (hc 14 _ rfl)
      simp only [Nat.add_zero] at c0
      clear hx hc
      go_upto_region 4 with fail
      refine name_world (motive := fun W => Code.wp _ _ _ _ W) _ ?_
      intro W0 hW
      have hWc := hW.cell
      have hWz := hW.size
      have hWb := hW.below (hB)
      have x0 := cell_after (hW.below (Below.refl _ _)) c0
      have x1 := cell_after (hW.below (Below.refl _ _)) c1
      have x2 := cell_after (hW.below (Below.refl _ _)) c2
      have x3 := cell_after (hW.below (Below.refl _ _)) c3
      have x4 := cell_after (hW.below (Below.refl _ _)) c4
      have x5 := cell_after (hW.below (Below.refl _ _)) c5
      have x6 := cell_after (hW.below (Below.refl _ _)) c6
      have x7 := cell_after (hW.below (Below.refl _ _)) c7
      have x8 := cell_after (hW.below (Below.refl _ _)) c8
      have x9 := cell_after (hW.below (Below.refl _ _)) c9
      have x10 := cell_after (hW.below (Below.refl _ _)) c10
      have x11 := cell_after (hW.below (Below.refl _ _)) c11
      have x12 := cell_after (hW.below (Below.refl _ _)) c12
      have x13 := cell_after (hW.below (Below.refl _ _)) c13
      have x14 := cell_after (hW.below (Below.refl _ _)) c14
      clear c0 c1 c2 c3 c4 c5 c6 c7 c8 c9 c10 c11 c12 c13 c14 hW hWc hWz
      have HB0 := Lib.hid hWb
      by_cases hfw : f.cycle.length ≤ 700
      case neg =>
        have HLF : Hid (lightB l = false) := by show _ = _; unfold lightB; rw [all_bad' Hx.out (lg_bad hfw)]; rfl
        have HFEW : Hid (∀ W : World, Calls Try.prog 14 #[.agg #[.int .i64 f.fly.pos.x.lo, .int .i64 f.fly.pos.x.hi, .int .i64 f.fly.pos.z.lo, .int .i64 f.fly.pos.z.hi, .int .i64 f.fly.speed.x.lo, .int .i64 f.fly.speed.x.hi, .int .i64 f.fly.speed.z.lo, .int .i64 f.fly.speed.z.hi, .int .i64 f.fly.mass, .slice A f.cycle.length c, .int .i64 f.reach, .int .i64 f.soft, .int .i64 f.bears, .int .i64 f.least, .int .i64 f.most]] W fun e w' => e = .returned (.bool false) ∧ Below W.heap.size W w') := fun W => by have := few_any f A c W; rw [decide_eq_false hfw] at this; exact this
        refine (wpIn_wide (n := 9)).1 ?_
        have hLast := trivial
        refine region_rest (S := (fun w' => w'.cell? ⟨b, off + k * 15, none⟩ = some (.int .i64 f.fly.pos.x.lo) ∧ w'.cell? ⟨b, off + k * 15 + 1, none⟩ = some (.int .i64 f.fly.pos.x.hi) ∧ w'.cell? ⟨b, off + k * 15 + 2, none⟩ = some (.int .i64 f.fly.pos.z.lo) ∧ w'.cell? ⟨b, off + k * 15 + 3, none⟩ = some (.int .i64 f.fly.pos.z.hi) ∧ w'.cell? ⟨b, off + k * 15 + 4, none⟩ = some (.int .i64 f.fly.speed.x.lo) ∧ w'.cell? ⟨b, off + k * 15 + 5, none⟩ = some (.int .i64 f.fly.speed.x.hi) ∧ w'.cell? ⟨b, off + k * 15 + 6, none⟩ = some (.int .i64 f.fly.speed.z.lo) ∧ w'.cell? ⟨b, off + k * 15 + 7, none⟩ = some (.int .i64 f.fly.speed.z.hi) ∧ w'.cell? ⟨b, off + k * 15 + 8, none⟩ = some (.int .i64 f.fly.mass) ∧ w'.cell? ⟨b, off + k * 15 + 9, none⟩ = some (.slice A f.cycle.length c) ∧ w'.cell? ⟨b, off + k * 15 + 10, none⟩ = some (.int .i64 f.reach) ∧ w'.cell? ⟨b, off + k * 15 + 11, none⟩ = some (.int .i64 f.soft) ∧ w'.cell? ⟨b, off + k * 15 + 12, none⟩ = some (.int .i64 f.bears) ∧ w'.cell? ⟨b, off + k * 15 + 13, none⟩ = some (.int .i64 f.least) ∧ w'.cell? ⟨b, off + k * 15 + 14, none⟩ = some (.int .i64 f.most) ∧ Below W0.heap.size W0 w')) hmx ?_ (fun hHeld => ?_)
        · exact ⟨x0, x1, x2, x3, x4, x5, x6, x7, x8, x9, x10, x11, x12, x13, x14, (Below.refl W0.heap.size W0).drew⟩
        change RestIn _ _ _ _ _ _ _ 28 #[false, false, false, false, false, false, false, false, false, false, false, false, false, false, false, false, false, false, false, false, false, false, false, false, false, false, false, false] _ (World.drew _)
        refine rest_take (i := 0) (v := _) all_wide (noDefers_of (by kernel_rfl)) rfl (by kernel_rfl) (by kernel_rfl) (by kernel_rfl) (fun _ _ _ h => h) (Or.inl ⟨by rfl, by intro w hSw; clear hSw; go_simp; first | done | with_reducible rfl⟩) hHeld ?_
        change RestIn _ _ _ _ _ _ _ 27 #[true, false, false, false, false, false, false, false, false, false, false, false, false, false, false, false, false, false, false, false, false, false, false, false, false, false, false, false] _ _
        try simp only [Act.put, List.setIfInBounds_toArray, List.set_cons_zero, List.set_cons_succ, List.getElem_toArray, List.getElem_cons_zero, List.getElem_cons_succ]
        refine rest_take (i := 1) (v := _) all_wide (noDefers_of (by kernel_rfl)) rfl (by kernel_rfl) (by kernel_rfl) (by kernel_rfl) (fun _ _ _ h => h) (Or.inl ⟨by rfl, by intro w hSw; clear hSw; go_simp; first | done | with_reducible rfl⟩) hHeld ?_
        change RestIn _ _ _ _ _ _ _ 26 #[true, true, false, false, false, false, false, false, false, false, false, false, false, false, false, false, false, false, false, false, false, false, false, false, false, false, false, false] _ _
        try simp only [Act.put, List.setIfInBounds_toArray, List.set_cons_zero, List.set_cons_succ, List.getElem_toArray, List.getElem_cons_zero, List.getElem_cons_succ]
        refine rest_take (i := 2) (v := _) all_wide (noDefers_of (by kernel_rfl)) rfl (by kernel_rfl) (by kernel_rfl) (by kernel_rfl) (fun _ _ _ h => h) (Or.inl ⟨by rfl, by intro w hSw; clear hSw; go_simp; first | done | with_reducible rfl⟩) hHeld ?_
        change RestIn _ _ _ _ _ _ _ 25 #[true, true, true, false, false, false, false, false, false, false, false, false, false, false, false, false, false, false, false, false, false, false, false, false, false, false, false, false] _ _
        try simp only [Act.put, List.setIfInBounds_toArray, List.set_cons_zero, List.set_cons_succ, List.getElem_toArray, List.getElem_cons_zero, List.getElem_cons_succ]
        refine rest_take (i := 3) (v := _) all_wide (noDefers_of (by kernel_rfl)) rfl (by kernel_rfl) (by kernel_rfl) (by kernel_rfl) (fun _ _ _ h => h) (Or.inl ⟨by rfl, by intro w hSw; (obtain ⟨q0, q1, q2, q3, q4, q5, q6, q7, q8, q9, q10, q11, q12, q13, q14, _⟩ := hSw); go_simp; first | done | with_reducible rfl⟩) hHeld ?_
        change RestIn _ _ _ _ _ _ _ 24 #[true, true, true, true, false, false, false, false, false, false, false, false, false, false, false, false, false, false, false, false, false, false, false, false, false, false, false, false] _ _
        try simp only [Act.put, List.setIfInBounds_toArray, List.set_cons_zero, List.set_cons_succ, List.getElem_toArray, List.getElem_cons_zero, List.getElem_cons_succ]
        refine rest_ready (rs := [4]) (by kernel_rfl) (by simp) ?_
        refine AllRest.cons rfl (fun K hK => ?_) AllRest.nil
        have hNow := (hHeld.2.2.2.2.2.2.2.2.2.2.2.2.2.2.2)
        clear hLast
        have hLast := hNow
        go_simp
        gi_wp2_with ((refine ⟨trivial, ?_⟩; gi_at_call 14; (with_reducible refine (callsIn_wide.2 (HFEW.out _)).mono ?_); rintro e wn ⟨rfl, hb⟩))
        refine hK.out _ _ ?_ (fun hHeld' => ?_)
        · exact ⟨cell_after hb hHeld.1, cell_after hb hHeld.2.1, cell_after hb hHeld.2.2.1, cell_after hb hHeld.2.2.2.1, cell_after hb hHeld.2.2.2.2.1, cell_after hb hHeld.2.2.2.2.2.1, cell_after hb hHeld.2.2.2.2.2.2.1, cell_after hb hHeld.2.2.2.2.2.2.2.1, cell_after hb hHeld.2.2.2.2.2.2.2.2.1, cell_after hb hHeld.2.2.2.2.2.2.2.2.2.1, cell_after hb hHeld.2.2.2.2.2.2.2.2.2.2.1, cell_after hb hHeld.2.2.2.2.2.2.2.2.2.2.2.1, cell_after hb hHeld.2.2.2.2.2.2.2.2.2.2.2.2.1, cell_after hb hHeld.2.2.2.2.2.2.2.2.2.2.2.2.2.1, cell_after hb hHeld.2.2.2.2.2.2.2.2.2.2.2.2.2.2.1, (hHeld.2.2.2.2.2.2.2.2.2.2.2.2.2.2.2).trans (hb.mono (hHeld.2.2.2.2.2.2.2.2.2.2.2.2.2.2.2).size)⟩
        clear hK K
        change RestIn _ _ _ _ _ _ _ 23 #[true, true, true, true, true, false, false, false, false, false, false, false, false, false, false, false, false, false, false, false, false, false, false, false, false, false, false, false] _ _
        try simp only [Act.put, List.setIfInBounds_toArray, List.set_cons_zero, List.set_cons_succ, List.getElem_toArray, List.getElem_cons_zero, List.getElem_cons_succ]
        clear hHeld
        have hHeld := hHeld'
        clear hHeld'
        have hNow := (hHeld.2.2.2.2.2.2.2.2.2.2.2.2.2.2.2)
        refine rest_take (i := 5) (v := _) all_wide (noDefers_of (by kernel_rfl)) rfl (by kernel_rfl) (by kernel_rfl) (by kernel_rfl) (fun _ _ _ h => h) (Or.inl ⟨by rfl, by intro w hSw; clear hSw; go_simp; first | done | with_reducible rfl⟩) hHeld ?_
        change RestIn _ _ _ _ _ _ _ 22 #[true, true, true, true, true, true, false, false, false, false, false, false, false, false, false, false, false, false, false, false, false, false, false, false, false, false, false, false] _ _
        try simp only [Act.put, List.setIfInBounds_toArray, List.set_cons_zero, List.set_cons_succ, List.getElem_toArray, List.getElem_cons_zero, List.getElem_cons_succ]
        refine rest_take (i := 6) (v := _) all_wide (noDefers_of (by kernel_rfl)) rfl (by kernel_rfl) (by kernel_rfl) (by kernel_rfl) (fun _ _ _ h => h) (Or.inl ⟨by rfl, by intro w hSw; clear hSw; go_simp; first | done | with_reducible rfl⟩) hHeld ?_
        change RestIn _ _ _ _ _ _ _ 21 #[true, true, true, true, true, true, true, false, false, false, false, false, false, false, false, false, false, false, false, false, false, false, false, false, false, false, false, false] _ _
        try simp only [Act.put, List.setIfInBounds_toArray, List.set_cons_zero, List.set_cons_succ, List.getElem_toArray, List.getElem_cons_zero, List.getElem_cons_succ]
        refine rest_take (i := 7) (v := undef) all_wide (noDefers_of (by kernel_rfl)) rfl (by kernel_rfl) (by kernel_rfl) (by kernel_rfl) (fun _ _ _ h => h) (Or.inr ⟨by rfl, rfl⟩) hHeld ?_
        change RestIn _ _ _ _ _ _ _ 20 #[true, true, true, true, true, true, true, true, false, false, false, false, false, false, false, false, false, false, false, false, false, false, false, false, false, false, false, false] _ _
        try simp only [Act.put, List.setIfInBounds_toArray, List.set_cons_zero, List.set_cons_succ, List.getElem_toArray, List.getElem_cons_zero, List.getElem_cons_succ]
        refine rest_take (i := 8) (v := undef) all_wide (noDefers_of (by kernel_rfl)) rfl (by kernel_rfl) (by kernel_rfl) (by kernel_rfl) (fun _ _ _ h => h) (Or.inr ⟨by rfl, rfl⟩) hHeld ?_
        change RestIn _ _ _ _ _ _ _ 19 #[true, true, true, true, true, true, true, true, true, false, false, false, false, false, false, false, false, false, false, false, false, false, false, false, false, false, false, false] _ _
        try simp only [Act.put, List.setIfInBounds_toArray, List.set_cons_zero, List.set_cons_succ, List.getElem_toArray, List.getElem_cons_zero, List.getElem_cons_succ]
        refine rest_take (i := 9) (v := undef) all_wide (noDefers_of (by kernel_rfl)) rfl (by kernel_rfl) (by kernel_rfl) (by kernel_rfl) (fun _ _ _ h => h) (Or.inr ⟨by rfl, rfl⟩) hHeld ?_
        change RestIn _ _ _ _ _ _ _ 18 #[true, true, true, true, true, true, true, true, true, true, false, false, false, false, false, false, false, false, false, false, false, false, false, false, false, false, false, false] _ _
        try simp only [Act.put, List.setIfInBounds_toArray, List.set_cons_zero, List.set_cons_succ, List.getElem_toArray, List.getElem_cons_zero, List.getElem_cons_succ]
        refine rest_take (i := 10) (v := undef) all_wide (noDefers_of (by kernel_rfl)) rfl (by kernel_rfl) (by kernel_rfl) (by kernel_rfl) (fun _ _ _ h => h) (Or.inr ⟨by rfl, rfl⟩) hHeld ?_
        change RestIn _ _ _ _ _ _ _ 17 #[true, true, true, true, true, true, true, true, true, true, true, false, false, false, false, false, false, false, false, false, false, false, false, false, false, false, false, false] _ _
        try simp only [Act.put, List.setIfInBounds_toArray, List.set_cons_zero, List.set_cons_succ, List.getElem_toArray, List.getElem_cons_zero, List.getElem_cons_succ]
        refine rest_take (i := 11) (v := undef) all_wide (noDefers_of (by kernel_rfl)) rfl (by kernel_rfl) (by kernel_rfl) (by kernel_rfl) (fun _ _ _ h => h) (Or.inr ⟨by rfl, rfl⟩) hHeld ?_
        change RestIn _ _ _ _ _ _ _ 16 #[true, true, true, true, true, true, true, true, true, true, true, true, false, false, false, false, false, false, false, false, false, false, false, false, false, false, false, false] _ _
        try simp only [Act.put, List.setIfInBounds_toArray, List.set_cons_zero, List.set_cons_succ, List.getElem_toArray, List.getElem_cons_zero, List.getElem_cons_succ]
        refine rest_take (i := 12) (v := undef) all_wide (noDefers_of (by kernel_rfl)) rfl (by kernel_rfl) (by kernel_rfl) (by kernel_rfl) (fun _ _ _ h => h) (Or.inr ⟨by rfl, rfl⟩) hHeld ?_
        change RestIn _ _ _ _ _ _ _ 15 #[true, true, true, true, true, true, true, true, true, true, true, true, true, false, false, false, false, false, false, false, false, false, false, false, false, false, false, false] _ _
        try simp only [Act.put, List.setIfInBounds_toArray, List.set_cons_zero, List.set_cons_succ, List.getElem_toArray, List.getElem_cons_zero, List.getElem_cons_succ]
        refine rest_take (i := 13) (v := undef) all_wide (noDefers_of (by kernel_rfl)) rfl (by kernel_rfl) (by kernel_rfl) (by kernel_rfl) (fun _ _ _ h => h) (Or.inr ⟨by rfl, rfl⟩) hHeld ?_
        change RestIn _ _ _ _ _ _ _ 14 #[true, true, true, true, true, true, true, true, true, true, true, true, true, true, false, false, false, false, false, false, false, false, false, false, false, false, false, false] _ _
        try simp only [Act.put, List.setIfInBounds_toArray, List.set_cons_zero, List.set_cons_succ, List.getElem_toArray, List.getElem_cons_zero, List.getElem_cons_succ]
        refine rest_take (i := 14) (v := undef) all_wide (noDefers_of (by kernel_rfl)) rfl (by kernel_rfl) (by kernel_rfl) (by kernel_rfl) (fun _ _ _ h => h) (Or.inr ⟨by rfl, rfl⟩) hHeld ?_
        change RestIn _ _ _ _ _ _ _ 13 #[true, true, true, true, true, true, true, true, true, true, true, true, true, true, true, false, false, false, false, false, false, false, false, false, false, false, false, false] _ _
        try simp only [Act.put, List.setIfInBounds_toArray, List.set_cons_zero, List.set_cons_succ, List.getElem_toArray, List.getElem_cons_zero, List.getElem_cons_succ]
        refine rest_take (i := 15) (v := undef) all_wide (noDefers_of (by kernel_rfl)) rfl (by kernel_rfl) (by kernel_rfl) (by kernel_rfl) (fun _ _ _ h => h) (Or.inr ⟨by rfl, rfl⟩) hHeld ?_
        change RestIn _ _ _ _ _ _ _ 12 #[true, true, true, true, true, true, true, true, true, true, true, true, true, true, true, true, false, false, false, false, false, false, false, false, false, false, false, false] _ _
        try simp only [Act.put, List.setIfInBounds_toArray, List.set_cons_zero, List.set_cons_succ, List.getElem_toArray, List.getElem_cons_zero, List.getElem_cons_succ]
        refine rest_take (i := 16) (v := undef) all_wide (noDefers_of (by kernel_rfl)) rfl (by kernel_rfl) (by kernel_rfl) (by kernel_rfl) (fun _ _ _ h => h) (Or.inr ⟨by rfl, rfl⟩) hHeld ?_
        change RestIn _ _ _ _ _ _ _ 11 #[true, true, true, true, true, true, true, true, true, true, true, true, true, true, true, true, true, false, false, false, false, false, false, false, false, false, false, false] _ _
        try simp only [Act.put, List.setIfInBounds_toArray, List.set_cons_zero, List.set_cons_succ, List.getElem_toArray, List.getElem_cons_zero, List.getElem_cons_succ]
        refine rest_take (i := 17) (v := undef) all_wide (noDefers_of (by kernel_rfl)) rfl (by kernel_rfl) (by kernel_rfl) (by kernel_rfl) (fun _ _ _ h => h) (Or.inr ⟨by rfl, rfl⟩) hHeld ?_
        change RestIn _ _ _ _ _ _ _ 10 #[true, true, true, true, true, true, true, true, true, true, true, true, true, true, true, true, true, true, false, false, false, false, false, false, false, false, false, false] _ _
        try simp only [Act.put, List.setIfInBounds_toArray, List.set_cons_zero, List.set_cons_succ, List.getElem_toArray, List.getElem_cons_zero, List.getElem_cons_succ]
        refine rest_take (i := 18) (v := undef) all_wide (noDefers_of (by kernel_rfl)) rfl (by kernel_rfl) (by kernel_rfl) (by kernel_rfl) (fun _ _ _ h => h) (Or.inr ⟨by rfl, rfl⟩) hHeld ?_
        change RestIn _ _ _ _ _ _ _ 9 #[true, true, true, true, true, true, true, true, true, true, true, true, true, true, true, true, true, true, true, false, false, false, false, false, false, false, false, false] _ _
        try simp only [Act.put, List.setIfInBounds_toArray, List.set_cons_zero, List.set_cons_succ, List.getElem_toArray, List.getElem_cons_zero, List.getElem_cons_succ]
        refine rest_take (i := 19) (v := undef) all_wide (noDefers_of (by kernel_rfl)) rfl (by kernel_rfl) (by kernel_rfl) (by kernel_rfl) (fun _ _ _ h => h) (Or.inr ⟨by rfl, rfl⟩) hHeld ?_
        change RestIn _ _ _ _ _ _ _ 8 #[true, true, true, true, true, true, true, true, true, true, true, true, true, true, true, true, true, true, true, true, false, false, false, false, false, false, false, false] _ _
        try simp only [Act.put, List.setIfInBounds_toArray, List.set_cons_zero, List.set_cons_succ, List.getElem_toArray, List.getElem_cons_zero, List.getElem_cons_succ]
        refine rest_take (i := 20) (v := undef) all_wide (noDefers_of (by kernel_rfl)) rfl (by kernel_rfl) (by kernel_rfl) (by kernel_rfl) (fun _ _ _ h => h) (Or.inr ⟨by rfl, rfl⟩) hHeld ?_
        change RestIn _ _ _ _ _ _ _ 7 #[true, true, true, true, true, true, true, true, true, true, true, true, true, true, true, true, true, true, true, true, true, false, false, false, false, false, false, false] _ _
        try simp only [Act.put, List.setIfInBounds_toArray, List.set_cons_zero, List.set_cons_succ, List.getElem_toArray, List.getElem_cons_zero, List.getElem_cons_succ]
        refine rest_take (i := 21) (v := undef) all_wide (noDefers_of (by kernel_rfl)) rfl (by kernel_rfl) (by kernel_rfl) (by kernel_rfl) (fun _ _ _ h => h) (Or.inr ⟨by rfl, rfl⟩) hHeld ?_
        change RestIn _ _ _ _ _ _ _ 6 #[true, true, true, true, true, true, true, true, true, true, true, true, true, true, true, true, true, true, true, true, true, true, false, false, false, false, false, false] _ _
        try simp only [Act.put, List.setIfInBounds_toArray, List.set_cons_zero, List.set_cons_succ, List.getElem_toArray, List.getElem_cons_zero, List.getElem_cons_succ]
        refine rest_take (i := 22) (v := undef) all_wide (noDefers_of (by kernel_rfl)) rfl (by kernel_rfl) (by kernel_rfl) (by kernel_rfl) (fun _ _ _ h => h) (Or.inr ⟨by rfl, rfl⟩) hHeld ?_
        change RestIn _ _ _ _ _ _ _ 5 #[true, true, true, true, true, true, true, true, true, true, true, true, true, true, true, true, true, true, true, true, true, true, true, false, false, false, false, false] _ _
        try simp only [Act.put, List.setIfInBounds_toArray, List.set_cons_zero, List.set_cons_succ, List.getElem_toArray, List.getElem_cons_zero, List.getElem_cons_succ]
        refine rest_take (i := 23) (v := undef) all_wide (noDefers_of (by kernel_rfl)) rfl (by kernel_rfl) (by kernel_rfl) (by kernel_rfl) (fun _ _ _ h => h) (Or.inr ⟨by rfl, rfl⟩) hHeld ?_
        change RestIn _ _ _ _ _ _ _ 4 #[true, true, true, true, true, true, true, true, true, true, true, true, true, true, true, true, true, true, true, true, true, true, true, true, false, false, false, false] _ _
        try simp only [Act.put, List.setIfInBounds_toArray, List.set_cons_zero, List.set_cons_succ, List.getElem_toArray, List.getElem_cons_zero, List.getElem_cons_succ]
        refine rest_take (i := 24) (v := undef) all_wide (noDefers_of (by kernel_rfl)) rfl (by kernel_rfl) (by kernel_rfl) (by kernel_rfl) (fun _ _ _ h => h) (Or.inr ⟨by rfl, rfl⟩) hHeld ?_
        change RestIn _ _ _ _ _ _ _ 3 #[true, true, true, true, true, true, true, true, true, true, true, true, true, true, true, true, true, true, true, true, true, true, true, true, true, false, false, false] _ _
        try simp only [Act.put, List.setIfInBounds_toArray, List.set_cons_zero, List.set_cons_succ, List.getElem_toArray, List.getElem_cons_zero, List.getElem_cons_succ]
        refine rest_take (i := 25) (v := undef) all_wide (noDefers_of (by kernel_rfl)) rfl (by kernel_rfl) (by kernel_rfl) (by kernel_rfl) (fun _ _ _ h => h) (Or.inr ⟨by rfl, rfl⟩) hHeld ?_
        change RestIn _ _ _ _ _ _ _ 2 #[true, true, true, true, true, true, true, true, true, true, true, true, true, true, true, true, true, true, true, true, true, true, true, true, true, true, false, false] _ _
        try simp only [Act.put, List.setIfInBounds_toArray, List.set_cons_zero, List.set_cons_succ, List.getElem_toArray, List.getElem_cons_zero, List.getElem_cons_succ]
        refine rest_take (i := 26) (v := undef) all_wide (noDefers_of (by kernel_rfl)) rfl (by kernel_rfl) (by kernel_rfl) (by kernel_rfl) (fun _ _ _ h => h) (Or.inr ⟨by rfl, rfl⟩) hHeld ?_
        change RestIn _ _ _ _ _ _ _ 1 #[true, true, true, true, true, true, true, true, true, true, true, true, true, true, true, true, true, true, true, true, true, true, true, true, true, true, true, false] _ _
        try simp only [Act.put, List.setIfInBounds_toArray, List.set_cons_zero, List.set_cons_succ, List.getElem_toArray, List.getElem_cons_zero, List.getElem_cons_succ]
        refine rest_take (i := 27) (v := _) all_wide (noDefers_of (by kernel_rfl)) rfl (by kernel_rfl) (by kernel_rfl) (by kernel_rfl) (fun _ _ _ h => h) (Or.inl ⟨by rfl, by intro w hSw; clear hSw; go_simp; first | done | with_reducible rfl⟩) hHeld ?_
        change RestIn _ _ _ _ _ _ _ 0 #[true, true, true, true, true, true, true, true, true, true, true, true, true, true, true, true, true, true, true, true, true, true, true, true, true, true, true, true] _ _
        try simp only [Act.put, List.setIfInBounds_toArray, List.set_cons_zero, List.set_cons_succ, List.getElem_toArray, List.getElem_cons_zero, List.getElem_cons_succ]
        refine rest_done (by kernel_rfl) ?_
        have hN := hHeld.2.2.2.2.2.2.2.2.2.2.2.2.2.2.2
        go_wp2
        go_ret
        exact ⟨ret_bool HLF.out.symm, HB0.out.trans (hN.mono HB0.out.size)⟩
      case pos =>
        have HFEW : Hid (∀ W : World, Calls Try.prog 14 #[.agg #[.int .i64 f.fly.pos.x.lo, .int .i64 f.fly.pos.x.hi, .int .i64 f.fly.pos.z.lo, .int .i64 f.fly.pos.z.hi, .int .i64 f.fly.speed.x.lo, .int .i64 f.fly.speed.x.hi, .int .i64 f.fly.speed.z.lo, .int .i64 f.fly.speed.z.hi, .int .i64 f.fly.mass, .slice A f.cycle.length c, .int .i64 f.reach, .int .i64 f.soft, .int .i64 f.bears, .int .i64 f.least, .int .i64 f.most]] W fun e w' => e = .returned (.bool true) ∧ Below W.heap.size W w') := fun W => by have := few_any f A c W; rw [decide_eq_true hfw] at this; exact this
        cases h1 : inB f.least 0 300
        case false =>
          have HA2 : Hid ((l.take (k + 1)).all lg = true) := all_snoc Hx.out HALL.out (lg_out hfw h1)
          clear HALL
          have HIN : Hid (∀ W : World, Calls Try.prog 20 #[.int .i64 f.least, .int .i64 0, .int .i64 300] W fun e w' => e = .returned (.bool false) ∧ Below W.heap.size W w') := fun W => in_below h1 W
          clear h1
          refine (wpIn_wide (n := 9)).1 ?_
          have hLast := trivial
          refine region_rest (S := (fun w' => w'.cell? ⟨b, off + k * 15, none⟩ = some (.int .i64 f.fly.pos.x.lo) ∧ w'.cell? ⟨b, off + k * 15 + 1, none⟩ = some (.int .i64 f.fly.pos.x.hi) ∧ w'.cell? ⟨b, off + k * 15 + 2, none⟩ = some (.int .i64 f.fly.pos.z.lo) ∧ w'.cell? ⟨b, off + k * 15 + 3, none⟩ = some (.int .i64 f.fly.pos.z.hi) ∧ w'.cell? ⟨b, off + k * 15 + 4, none⟩ = some (.int .i64 f.fly.speed.x.lo) ∧ w'.cell? ⟨b, off + k * 15 + 5, none⟩ = some (.int .i64 f.fly.speed.x.hi) ∧ w'.cell? ⟨b, off + k * 15 + 6, none⟩ = some (.int .i64 f.fly.speed.z.lo) ∧ w'.cell? ⟨b, off + k * 15 + 7, none⟩ = some (.int .i64 f.fly.speed.z.hi) ∧ w'.cell? ⟨b, off + k * 15 + 8, none⟩ = some (.int .i64 f.fly.mass) ∧ w'.cell? ⟨b, off + k * 15 + 9, none⟩ = some (.slice A f.cycle.length c) ∧ w'.cell? ⟨b, off + k * 15 + 10, none⟩ = some (.int .i64 f.reach) ∧ w'.cell? ⟨b, off + k * 15 + 11, none⟩ = some (.int .i64 f.soft) ∧ w'.cell? ⟨b, off + k * 15 + 12, none⟩ = some (.int .i64 f.bears) ∧ w'.cell? ⟨b, off + k * 15 + 13, none⟩ = some (.int .i64 f.least) ∧ w'.cell? ⟨b, off + k * 15 + 14, none⟩ = some (.int .i64 f.most) ∧ Below W0.heap.size W0 w')) hmx ?_ (fun hHeld => ?_)
          · exact ⟨x0, x1, x2, x3, x4, x5, x6, x7, x8, x9, x10, x11, x12, x13, x14, (Below.refl W0.heap.size W0).drew⟩
          change RestIn _ _ _ _ _ _ _ 28 #[false, false, false, false, false, false, false, false, false, false, false, false, false, false, false, false, false, false, false, false, false, false, false, false, false, false, false, false] _ (World.drew _)
          refine rest_take (i := 0) (v := _) all_wide (noDefers_of (by kernel_rfl)) rfl (by kernel_rfl) (by kernel_rfl) (by kernel_rfl) (fun _ _ _ h => h) (Or.inl ⟨by rfl, by intro w hSw; clear hSw; go_simp; first | done | with_reducible rfl⟩) hHeld ?_
          change RestIn _ _ _ _ _ _ _ 27 #[true, false, false, false, false, false, false, false, false, false, false, false, false, false, false, false, false, false, false, false, false, false, false, false, false, false, false, false] _ _
          try simp only [Act.put, List.setIfInBounds_toArray, List.set_cons_zero, List.set_cons_succ, List.getElem_toArray, List.getElem_cons_zero, List.getElem_cons_succ]
          refine rest_take (i := 1) (v := _) all_wide (noDefers_of (by kernel_rfl)) rfl (by kernel_rfl) (by kernel_rfl) (by kernel_rfl) (fun _ _ _ h => h) (Or.inl ⟨by rfl, by intro w hSw; clear hSw; go_simp; first | done | with_reducible rfl⟩) hHeld ?_
          change RestIn _ _ _ _ _ _ _ 26 #[true, true, false, false, false, false, false, false, false, false, false, false, false, false, false, false, false, false, false, false, false, false, false, false, false, false, false, false] _ _
          try simp only [Act.put, List.setIfInBounds_toArray, List.set_cons_zero, List.set_cons_succ, List.getElem_toArray, List.getElem_cons_zero, List.getElem_cons_succ]
          refine rest_take (i := 2) (v := _) all_wide (noDefers_of (by kernel_rfl)) rfl (by kernel_rfl) (by kernel_rfl) (by kernel_rfl) (fun _ _ _ h => h) (Or.inl ⟨by rfl, by intro w hSw; clear hSw; go_simp; first | done | with_reducible rfl⟩) hHeld ?_
          change RestIn _ _ _ _ _ _ _ 25 #[true, true, true, false, false, false, false, false, false, false, false, false, false, false, false, false, false, false, false, false, false, false, false, false, false, false, false, false] _ _
          try simp only [Act.put, List.setIfInBounds_toArray, List.set_cons_zero, List.set_cons_succ, List.getElem_toArray, List.getElem_cons_zero, List.getElem_cons_succ]
          refine rest_take (i := 3) (v := _) all_wide (noDefers_of (by kernel_rfl)) rfl (by kernel_rfl) (by kernel_rfl) (by kernel_rfl) (fun _ _ _ h => h) (Or.inl ⟨by rfl, by intro w hSw; (obtain ⟨q0, q1, q2, q3, q4, q5, q6, q7, q8, q9, q10, q11, q12, q13, q14, _⟩ := hSw); go_simp; first | done | with_reducible rfl⟩) hHeld ?_
          change RestIn _ _ _ _ _ _ _ 24 #[true, true, true, true, false, false, false, false, false, false, false, false, false, false, false, false, false, false, false, false, false, false, false, false, false, false, false, false] _ _
          try simp only [Act.put, List.setIfInBounds_toArray, List.set_cons_zero, List.set_cons_succ, List.getElem_toArray, List.getElem_cons_zero, List.getElem_cons_succ]
          refine rest_ready (rs := [4]) (by kernel_rfl) (by simp) ?_
          refine AllRest.cons rfl (fun K hK => ?_) AllRest.nil
          have hNow := (hHeld.2.2.2.2.2.2.2.2.2.2.2.2.2.2.2)
          clear hLast
          have hLast := hNow
          go_simp
          gi_wp2_with ((refine ⟨trivial, ?_⟩; gi_at_call 14; (with_reducible refine (callsIn_wide.2 (HFEW.out _)).mono ?_); rintro e wn ⟨rfl, hb⟩))
          refine hK.out _ _ ?_ (fun hHeld' => ?_)
          · exact ⟨cell_after hb hHeld.1, cell_after hb hHeld.2.1, cell_after hb hHeld.2.2.1, cell_after hb hHeld.2.2.2.1, cell_after hb hHeld.2.2.2.2.1, cell_after hb hHeld.2.2.2.2.2.1, cell_after hb hHeld.2.2.2.2.2.2.1, cell_after hb hHeld.2.2.2.2.2.2.2.1, cell_after hb hHeld.2.2.2.2.2.2.2.2.1, cell_after hb hHeld.2.2.2.2.2.2.2.2.2.1, cell_after hb hHeld.2.2.2.2.2.2.2.2.2.2.1, cell_after hb hHeld.2.2.2.2.2.2.2.2.2.2.2.1, cell_after hb hHeld.2.2.2.2.2.2.2.2.2.2.2.2.1, cell_after hb hHeld.2.2.2.2.2.2.2.2.2.2.2.2.2.1, cell_after hb hHeld.2.2.2.2.2.2.2.2.2.2.2.2.2.2.1, (hHeld.2.2.2.2.2.2.2.2.2.2.2.2.2.2.2).trans (hb.mono (hHeld.2.2.2.2.2.2.2.2.2.2.2.2.2.2.2).size)⟩
          clear hK K
          change RestIn _ _ _ _ _ _ _ 23 #[true, true, true, true, true, false, false, false, false, false, false, false, false, false, false, false, false, false, false, false, false, false, false, false, false, false, false, false] _ _
          try simp only [Act.put, List.setIfInBounds_toArray, List.set_cons_zero, List.set_cons_succ, List.getElem_toArray, List.getElem_cons_zero, List.getElem_cons_succ]
          clear hHeld
          have hHeld := hHeld'
          clear hHeld'
          have hNow := (hHeld.2.2.2.2.2.2.2.2.2.2.2.2.2.2.2)
          refine rest_take (i := 5) (v := _) all_wide (noDefers_of (by kernel_rfl)) rfl (by kernel_rfl) (by kernel_rfl) (by kernel_rfl) (fun _ _ _ h => h) (Or.inl ⟨by rfl, by intro w hSw; clear hSw; go_simp; first | done | with_reducible rfl⟩) hHeld ?_
          change RestIn _ _ _ _ _ _ _ 22 #[true, true, true, true, true, true, false, false, false, false, false, false, false, false, false, false, false, false, false, false, false, false, false, false, false, false, false, false] _ _
          try simp only [Act.put, List.setIfInBounds_toArray, List.set_cons_zero, List.set_cons_succ, List.getElem_toArray, List.getElem_cons_zero, List.getElem_cons_succ]
          refine rest_take (i := 6) (v := _) all_wide (noDefers_of (by kernel_rfl)) rfl (by kernel_rfl) (by kernel_rfl) (by kernel_rfl) (fun _ _ _ h => h) (Or.inl ⟨by rfl, by intro w hSw; clear hSw; go_simp; first | done | with_reducible rfl⟩) hHeld ?_
          change RestIn _ _ _ _ _ _ _ 21 #[true, true, true, true, true, true, true, false, false, false, false, false, false, false, false, false, false, false, false, false, false, false, false, false, false, false, false, false] _ _
          try simp only [Act.put, List.setIfInBounds_toArray, List.set_cons_zero, List.set_cons_succ, List.getElem_toArray, List.getElem_cons_zero, List.getElem_cons_succ]
          refine rest_take (i := 7) (v := _) all_wide (noDefers_of (by kernel_rfl)) rfl (by kernel_rfl) (by kernel_rfl) (by kernel_rfl) (fun _ _ _ h => h) (Or.inl ⟨by rfl, by intro w hSw; clear hSw; go_simp; first | done | with_reducible rfl⟩) hHeld ?_
          change RestIn _ _ _ _ _ _ _ 20 #[true, true, true, true, true, true, true, true, false, false, false, false, false, false, false, false, false, false, false, false, false, false, false, false, false, false, false, false] _ _
          try simp only [Act.put, List.setIfInBounds_toArray, List.set_cons_zero, List.set_cons_succ, List.getElem_toArray, List.getElem_cons_zero, List.getElem_cons_succ]
          refine rest_take (i := 8) (v := _) all_wide (noDefers_of (by kernel_rfl)) rfl (by kernel_rfl) (by kernel_rfl) (by kernel_rfl) (fun _ _ _ h => h) (Or.inl ⟨by rfl, by intro w hSw; clear hSw; go_simp; first | done | with_reducible rfl⟩) hHeld ?_
          change RestIn _ _ _ _ _ _ _ 19 #[true, true, true, true, true, true, true, true, true, false, false, false, false, false, false, false, false, false, false, false, false, false, false, false, false, false, false, false] _ _
          try simp only [Act.put, List.setIfInBounds_toArray, List.set_cons_zero, List.set_cons_succ, List.getElem_toArray, List.getElem_cons_zero, List.getElem_cons_succ]
          refine rest_take (i := 9) (v := _) all_wide (noDefers_of (by kernel_rfl)) rfl (by kernel_rfl) (by kernel_rfl) (by kernel_rfl) (fun _ _ _ h => h) (Or.inl ⟨by rfl, by intro w hSw; clear hSw; go_simp; first | done | with_reducible rfl⟩) hHeld ?_
          change RestIn _ _ _ _ _ _ _ 18 #[true, true, true, true, true, true, true, true, true, true, false, false, false, false, false, false, false, false, false, false, false, false, false, false, false, false, false, false] _ _
          try simp only [Act.put, List.setIfInBounds_toArray, List.set_cons_zero, List.set_cons_succ, List.getElem_toArray, List.getElem_cons_zero, List.getElem_cons_succ]
          refine rest_take (i := 10) (v := _) all_wide (noDefers_of (by kernel_rfl)) rfl (by kernel_rfl) (by kernel_rfl) (by kernel_rfl) (fun _ _ _ h => h) (Or.inl ⟨by rfl, by intro w hSw; clear hSw; go_simp; first | done | with_reducible rfl⟩) hHeld ?_
          change RestIn _ _ _ _ _ _ _ 17 #[true, true, true, true, true, true, true, true, true, true, true, false, false, false, false, false, false, false, false, false, false, false, false, false, false, false, false, false] _ _
          try simp only [Act.put, List.setIfInBounds_toArray, List.set_cons_zero, List.set_cons_succ, List.getElem_toArray, List.getElem_cons_zero, List.getElem_cons_succ]
          refine rest_take (i := 11) (v := _) all_wide (noDefers_of (by kernel_rfl)) rfl (by kernel_rfl) (by kernel_rfl) (by kernel_rfl) (fun _ _ _ h => h) (Or.inl ⟨by rfl, by intro w hSw; (obtain ⟨q0, q1, q2, q3, q4, q5, q6, q7, q8, q9, q10, q11, q12, q13, q14, _⟩ := hSw); go_simp; first | done | with_reducible rfl⟩) hHeld ?_
          change RestIn _ _ _ _ _ _ _ 16 #[true, true, true, true, true, true, true, true, true, true, true, true, false, false, false, false, false, false, false, false, false, false, false, false, false, false, false, false] _ _
          try simp only [Act.put, List.setIfInBounds_toArray, List.set_cons_zero, List.set_cons_succ, List.getElem_toArray, List.getElem_cons_zero, List.getElem_cons_succ]
          refine rest_ready (rs := [12]) (by kernel_rfl) (by simp) ?_
          refine AllRest.cons rfl (fun K hK => ?_) AllRest.nil
          have hNow := (hHeld.2.2.2.2.2.2.2.2.2.2.2.2.2.2.2)
          clear hLast
          have hLast := hNow
          go_simp
          gi_wp2_with ((refine ⟨trivial, ?_⟩; gi_at_call 20; (with_reducible refine (callsIn_wide.2 (HIN.out _)).mono ?_); rintro e wn ⟨rfl, hb⟩))
          refine hK.out _ _ ?_ (fun hHeld' => ?_)
          · exact ⟨cell_after hb hHeld.1, cell_after hb hHeld.2.1, cell_after hb hHeld.2.2.1, cell_after hb hHeld.2.2.2.1, cell_after hb hHeld.2.2.2.2.1, cell_after hb hHeld.2.2.2.2.2.1, cell_after hb hHeld.2.2.2.2.2.2.1, cell_after hb hHeld.2.2.2.2.2.2.2.1, cell_after hb hHeld.2.2.2.2.2.2.2.2.1, cell_after hb hHeld.2.2.2.2.2.2.2.2.2.1, cell_after hb hHeld.2.2.2.2.2.2.2.2.2.2.1, cell_after hb hHeld.2.2.2.2.2.2.2.2.2.2.2.1, cell_after hb hHeld.2.2.2.2.2.2.2.2.2.2.2.2.1, cell_after hb hHeld.2.2.2.2.2.2.2.2.2.2.2.2.2.1, cell_after hb hHeld.2.2.2.2.2.2.2.2.2.2.2.2.2.2.1, (hHeld.2.2.2.2.2.2.2.2.2.2.2.2.2.2.2).trans (hb.mono (hHeld.2.2.2.2.2.2.2.2.2.2.2.2.2.2.2).size)⟩
          clear hK K
          change RestIn _ _ _ _ _ _ _ 15 #[true, true, true, true, true, true, true, true, true, true, true, true, true, false, false, false, false, false, false, false, false, false, false, false, false, false, false, false] _ _
          try simp only [Act.put, List.setIfInBounds_toArray, List.set_cons_zero, List.set_cons_succ, List.getElem_toArray, List.getElem_cons_zero, List.getElem_cons_succ]
          clear hHeld
          have hHeld := hHeld'
          clear hHeld'
          have hNow := (hHeld.2.2.2.2.2.2.2.2.2.2.2.2.2.2.2)
          refine rest_take (i := 13) (v := _) all_wide (noDefers_of (by kernel_rfl)) rfl (by kernel_rfl) (by kernel_rfl) (by kernel_rfl) (fun _ _ _ h => h) (Or.inl ⟨by rfl, by intro w hSw; clear hSw; go_simp; first | done | with_reducible rfl⟩) hHeld ?_
          change RestIn _ _ _ _ _ _ _ 14 #[true, true, true, true, true, true, true, true, true, true, true, true, true, true, false, false, false, false, false, false, false, false, false, false, false, false, false, false] _ _
          try simp only [Act.put, List.setIfInBounds_toArray, List.set_cons_zero, List.set_cons_succ, List.getElem_toArray, List.getElem_cons_zero, List.getElem_cons_succ]
          refine rest_take (i := 14) (v := undef) all_wide (noDefers_of (by kernel_rfl)) rfl (by kernel_rfl) (by kernel_rfl) (by kernel_rfl) (fun _ _ _ h => h) (Or.inr ⟨by rfl, rfl⟩) hHeld ?_
          change RestIn _ _ _ _ _ _ _ 13 #[true, true, true, true, true, true, true, true, true, true, true, true, true, true, true, false, false, false, false, false, false, false, false, false, false, false, false, false] _ _
          try simp only [Act.put, List.setIfInBounds_toArray, List.set_cons_zero, List.set_cons_succ, List.getElem_toArray, List.getElem_cons_zero, List.getElem_cons_succ]
          refine rest_take (i := 15) (v := undef) all_wide (noDefers_of (by kernel_rfl)) rfl (by kernel_rfl) (by kernel_rfl) (by kernel_rfl) (fun _ _ _ h => h) (Or.inr ⟨by rfl, rfl⟩) hHeld ?_
          change RestIn _ _ _ _ _ _ _ 12 #[true, true, true, true, true, true, true, true, true, true, true, true, true, true, true, true, false, false, false, false, false, false, false, false, false, false, false, false] _ _
          try simp only [Act.put, List.setIfInBounds_toArray, List.set_cons_zero, List.set_cons_succ, List.getElem_toArray, List.getElem_cons_zero, List.getElem_cons_succ]
          refine rest_take (i := 16) (v := undef) all_wide (noDefers_of (by kernel_rfl)) rfl (by kernel_rfl) (by kernel_rfl) (by kernel_rfl) (fun _ _ _ h => h) (Or.inr ⟨by rfl, rfl⟩) hHeld ?_
          change RestIn _ _ _ _ _ _ _ 11 #[true, true, true, true, true, true, true, true, true, true, true, true, true, true, true, true, true, false, false, false, false, false, false, false, false, false, false, false] _ _
          try simp only [Act.put, List.setIfInBounds_toArray, List.set_cons_zero, List.set_cons_succ, List.getElem_toArray, List.getElem_cons_zero, List.getElem_cons_succ]
          refine rest_take (i := 17) (v := undef) all_wide (noDefers_of (by kernel_rfl)) rfl (by kernel_rfl) (by kernel_rfl) (by kernel_rfl) (fun _ _ _ h => h) (Or.inr ⟨by rfl, rfl⟩) hHeld ?_
          change RestIn _ _ _ _ _ _ _ 10 #[true, true, true, true, true, true, true, true, true, true, true, true, true, true, true, true, true, true, false, false, false, false, false, false, false, false, false, false] _ _
          try simp only [Act.put, List.setIfInBounds_toArray, List.set_cons_zero, List.set_cons_succ, List.getElem_toArray, List.getElem_cons_zero, List.getElem_cons_succ]
          refine rest_take (i := 18) (v := undef) all_wide (noDefers_of (by kernel_rfl)) rfl (by kernel_rfl) (by kernel_rfl) (by kernel_rfl) (fun _ _ _ h => h) (Or.inr ⟨by rfl, rfl⟩) hHeld ?_
          change RestIn _ _ _ _ _ _ _ 9 #[true, true, true, true, true, true, true, true, true, true, true, true, true, true, true, true, true, true, true, false, false, false, false, false, false, false, false, false] _ _
          try simp only [Act.put, List.setIfInBounds_toArray, List.set_cons_zero, List.set_cons_succ, List.getElem_toArray, List.getElem_cons_zero, List.getElem_cons_succ]
          refine rest_take (i := 19) (v := undef) all_wide (noDefers_of (by kernel_rfl)) rfl (by kernel_rfl) (by kernel_rfl) (by kernel_rfl) (fun _ _ _ h => h) (Or.inr ⟨by rfl, rfl⟩) hHeld ?_
          change RestIn _ _ _ _ _ _ _ 8 #[true, true, true, true, true, true, true, true, true, true, true, true, true, true, true, true, true, true, true, true, false, false, false, false, false, false, false, false] _ _
          try simp only [Act.put, List.setIfInBounds_toArray, List.set_cons_zero, List.set_cons_succ, List.getElem_toArray, List.getElem_cons_zero, List.getElem_cons_succ]
          refine rest_take (i := 20) (v := undef) all_wide (noDefers_of (by kernel_rfl)) rfl (by kernel_rfl) (by kernel_rfl) (by kernel_rfl) (fun _ _ _ h => h) (Or.inr ⟨by rfl, rfl⟩) hHeld ?_
          change RestIn _ _ _ _ _ _ _ 7 #[true, true, true, true, true, true, true, true, true, true, true, true, true, true, true, true, true, true, true, true, true, false, false, false, false, false, false, false] _ _
          try simp only [Act.put, List.setIfInBounds_toArray, List.set_cons_zero, List.set_cons_succ, List.getElem_toArray, List.getElem_cons_zero, List.getElem_cons_succ]
          refine rest_take (i := 21) (v := undef) all_wide (noDefers_of (by kernel_rfl)) rfl (by kernel_rfl) (by kernel_rfl) (by kernel_rfl) (fun _ _ _ h => h) (Or.inr ⟨by rfl, rfl⟩) hHeld ?_
          change RestIn _ _ _ _ _ _ _ 6 #[true, true, true, true, true, true, true, true, true, true, true, true, true, true, true, true, true, true, true, true, true, true, false, false, false, false, false, false] _ _
          try simp only [Act.put, List.setIfInBounds_toArray, List.set_cons_zero, List.set_cons_succ, List.getElem_toArray, List.getElem_cons_zero, List.getElem_cons_succ]
          refine rest_take (i := 22) (v := undef) all_wide (noDefers_of (by kernel_rfl)) rfl (by kernel_rfl) (by kernel_rfl) (by kernel_rfl) (fun _ _ _ h => h) (Or.inr ⟨by rfl, rfl⟩) hHeld ?_
          change RestIn _ _ _ _ _ _ _ 5 #[true, true, true, true, true, true, true, true, true, true, true, true, true, true, true, true, true, true, true, true, true, true, true, false, false, false, false, false] _ _
          try simp only [Act.put, List.setIfInBounds_toArray, List.set_cons_zero, List.set_cons_succ, List.getElem_toArray, List.getElem_cons_zero, List.getElem_cons_succ]
          refine rest_take (i := 23) (v := undef) all_wide (noDefers_of (by kernel_rfl)) rfl (by kernel_rfl) (by kernel_rfl) (by kernel_rfl) (fun _ _ _ h => h) (Or.inr ⟨by rfl, rfl⟩) hHeld ?_
          change RestIn _ _ _ _ _ _ _ 4 #[true, true, true, true, true, true, true, true, true, true, true, true, true, true, true, true, true, true, true, true, true, true, true, true, false, false, false, false] _ _
          try simp only [Act.put, List.setIfInBounds_toArray, List.set_cons_zero, List.set_cons_succ, List.getElem_toArray, List.getElem_cons_zero, List.getElem_cons_succ]
          refine rest_take (i := 24) (v := undef) all_wide (noDefers_of (by kernel_rfl)) rfl (by kernel_rfl) (by kernel_rfl) (by kernel_rfl) (fun _ _ _ h => h) (Or.inr ⟨by rfl, rfl⟩) hHeld ?_
          change RestIn _ _ _ _ _ _ _ 3 #[true, true, true, true, true, true, true, true, true, true, true, true, true, true, true, true, true, true, true, true, true, true, true, true, true, false, false, false] _ _
          try simp only [Act.put, List.setIfInBounds_toArray, List.set_cons_zero, List.set_cons_succ, List.getElem_toArray, List.getElem_cons_zero, List.getElem_cons_succ]
          refine rest_take (i := 25) (v := undef) all_wide (noDefers_of (by kernel_rfl)) rfl (by kernel_rfl) (by kernel_rfl) (by kernel_rfl) (fun _ _ _ h => h) (Or.inr ⟨by rfl, rfl⟩) hHeld ?_
          change RestIn _ _ _ _ _ _ _ 2 #[true, true, true, true, true, true, true, true, true, true, true, true, true, true, true, true, true, true, true, true, true, true, true, true, true, true, false, false] _ _
          try simp only [Act.put, List.setIfInBounds_toArray, List.set_cons_zero, List.set_cons_succ, List.getElem_toArray, List.getElem_cons_zero, List.getElem_cons_succ]
          refine rest_take (i := 26) (v := _) all_wide (noDefers_of (by kernel_rfl)) rfl (by kernel_rfl) (by kernel_rfl) (by kernel_rfl) (fun _ _ _ h => h) (Or.inl ⟨by rfl, by intro w hSw; clear hSw; go_simp; first | done | with_reducible rfl⟩) hHeld ?_
          change RestIn _ _ _ _ _ _ _ 1 #[true, true, true, true, true, true, true, true, true, true, true, true, true, true, true, true, true, true, true, true, true, true, true, true, true, true, true, false] _ _
          try simp only [Act.put, List.setIfInBounds_toArray, List.set_cons_zero, List.set_cons_succ, List.getElem_toArray, List.getElem_cons_zero, List.getElem_cons_succ]
          refine rest_take (i := 27) (v := _) all_wide (noDefers_of (by kernel_rfl)) rfl (by kernel_rfl) (by kernel_rfl) (by kernel_rfl) (fun _ _ _ h => h) (Or.inl ⟨by rfl, by intro w hSw; clear hSw; go_simp; first | done | with_reducible rfl⟩) hHeld ?_
          change RestIn _ _ _ _ _ _ _ 0 #[true, true, true, true, true, true, true, true, true, true, true, true, true, true, true, true, true, true, true, true, true, true, true, true, true, true, true, true] _ _
          try simp only [Act.put, List.setIfInBounds_toArray, List.set_cons_zero, List.set_cons_succ, List.getElem_toArray, List.getElem_cons_zero, List.getElem_cons_succ]
          refine rest_done (by kernel_rfl) ?_
          have hN := hHeld.2.2.2.2.2.2.2.2.2.2.2.2.2.2.2
          go_wp2
          go_roundw
          case rel => exact ⟨k + 1, by omega, by go_num, HA2, HB0.out.trans (hN.mono HB0.out.size)⟩
          case measure => simp [intOf]; omega
        case true =>
          have HIN : Hid (∀ W : World, Calls Try.prog 20 #[.int .i64 f.least, .int .i64 0, .int .i64 300] W fun e w' => e = .returned (.bool true) ∧ Below W.heap.size W w') := fun W => in_below h1 W
          have hle := inB_true.1 h1
          have hw60 : IntKind.i64.wrap (f.least + 60) = f.least + 60 := IntWalk.i64_in _ (by omega)
          obtain ⟨b2, hb2⟩ : ∃ b2, inB f.most (f.least + 60) 300 = b2 := ⟨_, rfl⟩
          have HIN2 : Hid (∀ W : World, Calls Try.prog 20 #[.int .i64 f.most, .int .i64 (f.least + 60), .int .i64 300] W fun e w' => e = .returned (.bool b2) ∧ Below W.heap.size W w') := fun W => in_below hb2 W
          have HLG : Hid (lg ⟨f, A, c⟩ = !b2) := lg_in hfw h1 hb2
          clear h1 hb2
          refine (wpIn_wide (n := 9)).1 ?_
          have hLast := trivial
          refine region_rest (S := (fun w' => w'.cell? ⟨b, off + k * 15, none⟩ = some (.int .i64 f.fly.pos.x.lo) ∧ w'.cell? ⟨b, off + k * 15 + 1, none⟩ = some (.int .i64 f.fly.pos.x.hi) ∧ w'.cell? ⟨b, off + k * 15 + 2, none⟩ = some (.int .i64 f.fly.pos.z.lo) ∧ w'.cell? ⟨b, off + k * 15 + 3, none⟩ = some (.int .i64 f.fly.pos.z.hi) ∧ w'.cell? ⟨b, off + k * 15 + 4, none⟩ = some (.int .i64 f.fly.speed.x.lo) ∧ w'.cell? ⟨b, off + k * 15 + 5, none⟩ = some (.int .i64 f.fly.speed.x.hi) ∧ w'.cell? ⟨b, off + k * 15 + 6, none⟩ = some (.int .i64 f.fly.speed.z.lo) ∧ w'.cell? ⟨b, off + k * 15 + 7, none⟩ = some (.int .i64 f.fly.speed.z.hi) ∧ w'.cell? ⟨b, off + k * 15 + 8, none⟩ = some (.int .i64 f.fly.mass) ∧ w'.cell? ⟨b, off + k * 15 + 9, none⟩ = some (.slice A f.cycle.length c) ∧ w'.cell? ⟨b, off + k * 15 + 10, none⟩ = some (.int .i64 f.reach) ∧ w'.cell? ⟨b, off + k * 15 + 11, none⟩ = some (.int .i64 f.soft) ∧ w'.cell? ⟨b, off + k * 15 + 12, none⟩ = some (.int .i64 f.bears) ∧ w'.cell? ⟨b, off + k * 15 + 13, none⟩ = some (.int .i64 f.least) ∧ w'.cell? ⟨b, off + k * 15 + 14, none⟩ = some (.int .i64 f.most) ∧ Below W0.heap.size W0 w')) hmx ?_ (fun hHeld => ?_)
          · exact ⟨x0, x1, x2, x3, x4, x5, x6, x7, x8, x9, x10, x11, x12, x13, x14, (Below.refl W0.heap.size W0).drew⟩
          change RestIn _ _ _ _ _ _ _ 28 #[false, false, false, false, false, false, false, false, false, false, false, false, false, false, false, false, false, false, false, false, false, false, false, false, false, false, false, false] _ (World.drew _)
          refine rest_take (i := 0) (v := _) all_wide (noDefers_of (by kernel_rfl)) rfl (by kernel_rfl) (by kernel_rfl) (by kernel_rfl) (fun _ _ _ h => h) (Or.inl ⟨by rfl, by intro w hSw; clear hSw; go_simp; first | done | with_reducible rfl⟩) hHeld ?_
          change RestIn _ _ _ _ _ _ _ 27 #[true, false, false, false, false, false, false, false, false, false, false, false, false, false, false, false, false, false, false, false, false, false, false, false, false, false, false, false] _ _
          try simp only [Act.put, List.setIfInBounds_toArray, List.set_cons_zero, List.set_cons_succ, List.getElem_toArray, List.getElem_cons_zero, List.getElem_cons_succ]
          refine rest_take (i := 1) (v := _) all_wide (noDefers_of (by kernel_rfl)) rfl (by kernel_rfl) (by kernel_rfl) (by kernel_rfl) (fun _ _ _ h => h) (Or.inl ⟨by rfl, by intro w hSw; clear hSw; go_simp; first | done | with_reducible rfl⟩) hHeld ?_
          change RestIn _ _ _ _ _ _ _ 26 #[true, true, false, false, false, false, false, false, false, false, false, false, false, false, false, false, false, false, false, false, false, false, false, false, false, false, false, false] _ _
          try simp only [Act.put, List.setIfInBounds_toArray, List.set_cons_zero, List.set_cons_succ, List.getElem_toArray, List.getElem_cons_zero, List.getElem_cons_succ]
          refine rest_take (i := 2) (v := _) all_wide (noDefers_of (by kernel_rfl)) rfl (by kernel_rfl) (by kernel_rfl) (by kernel_rfl) (fun _ _ _ h => h) (Or.inl ⟨by rfl, by intro w hSw; clear hSw; go_simp; first | done | with_reducible rfl⟩) hHeld ?_
          change RestIn _ _ _ _ _ _ _ 25 #[true, true, true, false, false, false, false, false, false, false, false, false, false, false, false, false, false, false, false, false, false, false, false, false, false, false, false, false] _ _
          try simp only [Act.put, List.setIfInBounds_toArray, List.set_cons_zero, List.set_cons_succ, List.getElem_toArray, List.getElem_cons_zero, List.getElem_cons_succ]
          refine rest_take (i := 3) (v := _) all_wide (noDefers_of (by kernel_rfl)) rfl (by kernel_rfl) (by kernel_rfl) (by kernel_rfl) (fun _ _ _ h => h) (Or.inl ⟨by rfl, by intro w hSw; (obtain ⟨q0, q1, q2, q3, q4, q5, q6, q7, q8, q9, q10, q11, q12, q13, q14, _⟩ := hSw); go_simp; first | done | with_reducible rfl⟩) hHeld ?_
          change RestIn _ _ _ _ _ _ _ 24 #[true, true, true, true, false, false, false, false, false, false, false, false, false, false, false, false, false, false, false, false, false, false, false, false, false, false, false, false] _ _
          try simp only [Act.put, List.setIfInBounds_toArray, List.set_cons_zero, List.set_cons_succ, List.getElem_toArray, List.getElem_cons_zero, List.getElem_cons_succ]
          refine rest_ready (rs := [4]) (by kernel_rfl) (by simp) ?_
          refine AllRest.cons rfl (fun K hK => ?_) AllRest.nil
          have hNow := (hHeld.2.2.2.2.2.2.2.2.2.2.2.2.2.2.2)
          clear hLast
          have hLast := hNow
          go_simp
          gi_wp2_with ((refine ⟨trivial, ?_⟩; gi_at_call 14; (with_reducible refine (callsIn_wide.2 (HFEW.out _)).mono ?_); rintro e wn ⟨rfl, hb⟩))
          refine hK.out _ _ ?_ (fun hHeld' => ?_)
          · exact ⟨cell_after hb hHeld.1, cell_after hb hHeld.2.1, cell_after hb hHeld.2.2.1, cell_after hb hHeld.2.2.2.1, cell_after hb hHeld.2.2.2.2.1, cell_after hb hHeld.2.2.2.2.2.1, cell_after hb hHeld.2.2.2.2.2.2.1, cell_after hb hHeld.2.2.2.2.2.2.2.1, cell_after hb hHeld.2.2.2.2.2.2.2.2.1, cell_after hb hHeld.2.2.2.2.2.2.2.2.2.1, cell_after hb hHeld.2.2.2.2.2.2.2.2.2.2.1, cell_after hb hHeld.2.2.2.2.2.2.2.2.2.2.2.1, cell_after hb hHeld.2.2.2.2.2.2.2.2.2.2.2.2.1, cell_after hb hHeld.2.2.2.2.2.2.2.2.2.2.2.2.2.1, cell_after hb hHeld.2.2.2.2.2.2.2.2.2.2.2.2.2.2.1, (hHeld.2.2.2.2.2.2.2.2.2.2.2.2.2.2.2).trans (hb.mono (hHeld.2.2.2.2.2.2.2.2.2.2.2.2.2.2.2).size)⟩
          clear hK K
          change RestIn _ _ _ _ _ _ _ 23 #[true, true, true, true, true, false, false, false, false, false, false, false, false, false, false, false, false, false, false, false, false, false, false, false, false, false, false, false] _ _
          try simp only [Act.put, List.setIfInBounds_toArray, List.set_cons_zero, List.set_cons_succ, List.getElem_toArray, List.getElem_cons_zero, List.getElem_cons_succ]
          clear hHeld
          have hHeld := hHeld'
          clear hHeld'
          have hNow := (hHeld.2.2.2.2.2.2.2.2.2.2.2.2.2.2.2)
          refine rest_take (i := 5) (v := _) all_wide (noDefers_of (by kernel_rfl)) rfl (by kernel_rfl) (by kernel_rfl) (by kernel_rfl) (fun _ _ _ h => h) (Or.inl ⟨by rfl, by intro w hSw; clear hSw; go_simp; first | done | with_reducible rfl⟩) hHeld ?_
          change RestIn _ _ _ _ _ _ _ 22 #[true, true, true, true, true, true, false, false, false, false, false, false, false, false, false, false, false, false, false, false, false, false, false, false, false, false, false, false] _ _
          try simp only [Act.put, List.setIfInBounds_toArray, List.set_cons_zero, List.set_cons_succ, List.getElem_toArray, List.getElem_cons_zero, List.getElem_cons_succ]
          refine rest_take (i := 6) (v := _) all_wide (noDefers_of (by kernel_rfl)) rfl (by kernel_rfl) (by kernel_rfl) (by kernel_rfl) (fun _ _ _ h => h) (Or.inl ⟨by rfl, by intro w hSw; clear hSw; go_simp; first | done | with_reducible rfl⟩) hHeld ?_
          change RestIn _ _ _ _ _ _ _ 21 #[true, true, true, true, true, true, true, false, false, false, false, false, false, false, false, false, false, false, false, false, false, false, false, false, false, false, false, false] _ _
          try simp only [Act.put, List.setIfInBounds_toArray, List.set_cons_zero, List.set_cons_succ, List.getElem_toArray, List.getElem_cons_zero, List.getElem_cons_succ]
          refine rest_take (i := 7) (v := _) all_wide (noDefers_of (by kernel_rfl)) rfl (by kernel_rfl) (by kernel_rfl) (by kernel_rfl) (fun _ _ _ h => h) (Or.inl ⟨by rfl, by intro w hSw; clear hSw; go_simp; first | done | with_reducible rfl⟩) hHeld ?_
          change RestIn _ _ _ _ _ _ _ 20 #[true, true, true, true, true, true, true, true, false, false, false, false, false, false, false, false, false, false, false, false, false, false, false, false, false, false, false, false] _ _
          try simp only [Act.put, List.setIfInBounds_toArray, List.set_cons_zero, List.set_cons_succ, List.getElem_toArray, List.getElem_cons_zero, List.getElem_cons_succ]
          refine rest_take (i := 8) (v := _) all_wide (noDefers_of (by kernel_rfl)) rfl (by kernel_rfl) (by kernel_rfl) (by kernel_rfl) (fun _ _ _ h => h) (Or.inl ⟨by rfl, by intro w hSw; clear hSw; go_simp; first | done | with_reducible rfl⟩) hHeld ?_
          change RestIn _ _ _ _ _ _ _ 19 #[true, true, true, true, true, true, true, true, true, false, false, false, false, false, false, false, false, false, false, false, false, false, false, false, false, false, false, false] _ _
          try simp only [Act.put, List.setIfInBounds_toArray, List.set_cons_zero, List.set_cons_succ, List.getElem_toArray, List.getElem_cons_zero, List.getElem_cons_succ]
          refine rest_take (i := 9) (v := _) all_wide (noDefers_of (by kernel_rfl)) rfl (by kernel_rfl) (by kernel_rfl) (by kernel_rfl) (fun _ _ _ h => h) (Or.inl ⟨by rfl, by intro w hSw; clear hSw; go_simp; first | done | with_reducible rfl⟩) hHeld ?_
          change RestIn _ _ _ _ _ _ _ 18 #[true, true, true, true, true, true, true, true, true, true, false, false, false, false, false, false, false, false, false, false, false, false, false, false, false, false, false, false] _ _
          try simp only [Act.put, List.setIfInBounds_toArray, List.set_cons_zero, List.set_cons_succ, List.getElem_toArray, List.getElem_cons_zero, List.getElem_cons_succ]
          refine rest_take (i := 10) (v := _) all_wide (noDefers_of (by kernel_rfl)) rfl (by kernel_rfl) (by kernel_rfl) (by kernel_rfl) (fun _ _ _ h => h) (Or.inl ⟨by rfl, by intro w hSw; clear hSw; go_simp; first | done | with_reducible rfl⟩) hHeld ?_
          change RestIn _ _ _ _ _ _ _ 17 #[true, true, true, true, true, true, true, true, true, true, true, false, false, false, false, false, false, false, false, false, false, false, false, false, false, false, false, false] _ _
          try simp only [Act.put, List.setIfInBounds_toArray, List.set_cons_zero, List.set_cons_succ, List.getElem_toArray, List.getElem_cons_zero, List.getElem_cons_succ]
          refine rest_take (i := 11) (v := _) all_wide (noDefers_of (by kernel_rfl)) rfl (by kernel_rfl) (by kernel_rfl) (by kernel_rfl) (fun _ _ _ h => h) (Or.inl ⟨by rfl, by intro w hSw; (obtain ⟨q0, q1, q2, q3, q4, q5, q6, q7, q8, q9, q10, q11, q12, q13, q14, _⟩ := hSw); go_simp; first | done | with_reducible rfl⟩) hHeld ?_
          change RestIn _ _ _ _ _ _ _ 16 #[true, true, true, true, true, true, true, true, true, true, true, true, false, false, false, false, false, false, false, false, false, false, false, false, false, false, false, false] _ _
          try simp only [Act.put, List.setIfInBounds_toArray, List.set_cons_zero, List.set_cons_succ, List.getElem_toArray, List.getElem_cons_zero, List.getElem_cons_succ]
          refine rest_ready (rs := [12]) (by kernel_rfl) (by simp) ?_
          refine AllRest.cons rfl (fun K hK => ?_) AllRest.nil
          have hNow := (hHeld.2.2.2.2.2.2.2.2.2.2.2.2.2.2.2)
          clear hLast
          have hLast := hNow
          go_simp
          gi_wp2_with ((refine ⟨trivial, ?_⟩; gi_at_call 20; (with_reducible refine (callsIn_wide.2 (HIN.out _)).mono ?_); rintro e wn ⟨rfl, hb⟩))
          refine hK.out _ _ ?_ (fun hHeld' => ?_)
          · exact ⟨cell_after hb hHeld.1, cell_after hb hHeld.2.1, cell_after hb hHeld.2.2.1, cell_after hb hHeld.2.2.2.1, cell_after hb hHeld.2.2.2.2.1, cell_after hb hHeld.2.2.2.2.2.1, cell_after hb hHeld.2.2.2.2.2.2.1, cell_after hb hHeld.2.2.2.2.2.2.2.1, cell_after hb hHeld.2.2.2.2.2.2.2.2.1, cell_after hb hHeld.2.2.2.2.2.2.2.2.2.1, cell_after hb hHeld.2.2.2.2.2.2.2.2.2.2.1, cell_after hb hHeld.2.2.2.2.2.2.2.2.2.2.2.1, cell_after hb hHeld.2.2.2.2.2.2.2.2.2.2.2.2.1, cell_after hb hHeld.2.2.2.2.2.2.2.2.2.2.2.2.2.1, cell_after hb hHeld.2.2.2.2.2.2.2.2.2.2.2.2.2.2.1, (hHeld.2.2.2.2.2.2.2.2.2.2.2.2.2.2.2).trans (hb.mono (hHeld.2.2.2.2.2.2.2.2.2.2.2.2.2.2.2).size)⟩
          clear hK K
          change RestIn _ _ _ _ _ _ _ 15 #[true, true, true, true, true, true, true, true, true, true, true, true, true, false, false, false, false, false, false, false, false, false, false, false, false, false, false, false] _ _
          try simp only [Act.put, List.setIfInBounds_toArray, List.set_cons_zero, List.set_cons_succ, List.getElem_toArray, List.getElem_cons_zero, List.getElem_cons_succ]
          clear hHeld
          have hHeld := hHeld'
          clear hHeld'
          have hNow := (hHeld.2.2.2.2.2.2.2.2.2.2.2.2.2.2.2)
          refine rest_take (i := 13) (v := _) all_wide (noDefers_of (by kernel_rfl)) rfl (by kernel_rfl) (by kernel_rfl) (by kernel_rfl) (fun _ _ _ h => h) (Or.inl ⟨by rfl, by intro w hSw; clear hSw; go_simp; first | done | with_reducible rfl⟩) hHeld ?_
          change RestIn _ _ _ _ _ _ _ 14 #[true, true, true, true, true, true, true, true, true, true, true, true, true, true, false, false, false, false, false, false, false, false, false, false, false, false, false, false] _ _
          try simp only [Act.put, List.setIfInBounds_toArray, List.set_cons_zero, List.set_cons_succ, List.getElem_toArray, List.getElem_cons_zero, List.getElem_cons_succ]
          refine rest_take (i := 14) (v := _) all_wide (noDefers_of (by kernel_rfl)) rfl (by kernel_rfl) (by kernel_rfl) (by kernel_rfl) (fun _ _ _ h => h) (Or.inl ⟨by rfl, by intro w hSw; clear hSw; go_simp; first | done | with_reducible rfl⟩) hHeld ?_
          change RestIn _ _ _ _ _ _ _ 13 #[true, true, true, true, true, true, true, true, true, true, true, true, true, true, true, false, false, false, false, false, false, false, false, false, false, false, false, false] _ _
          try simp only [Act.put, List.setIfInBounds_toArray, List.set_cons_zero, List.set_cons_succ, List.getElem_toArray, List.getElem_cons_zero, List.getElem_cons_succ]
          refine rest_take (i := 15) (v := _) all_wide (noDefers_of (by kernel_rfl)) rfl (by kernel_rfl) (by kernel_rfl) (by kernel_rfl) (fun _ _ _ h => h) (Or.inl ⟨by rfl, by intro w hSw; clear hSw; go_simp; first | done | with_reducible rfl⟩) hHeld ?_
          change RestIn _ _ _ _ _ _ _ 12 #[true, true, true, true, true, true, true, true, true, true, true, true, true, true, true, true, false, false, false, false, false, false, false, false, false, false, false, false] _ _
          try simp only [Act.put, List.setIfInBounds_toArray, List.set_cons_zero, List.set_cons_succ, List.getElem_toArray, List.getElem_cons_zero, List.getElem_cons_succ]
          refine rest_take (i := 16) (v := _) all_wide (noDefers_of (by kernel_rfl)) rfl (by kernel_rfl) (by kernel_rfl) (by kernel_rfl) (fun _ _ _ h => h) (Or.inl ⟨by rfl, by intro w hSw; clear hSw; go_simp; first | done | with_reducible rfl⟩) hHeld ?_
          change RestIn _ _ _ _ _ _ _ 11 #[true, true, true, true, true, true, true, true, true, true, true, true, true, true, true, true, true, false, false, false, false, false, false, false, false, false, false, false] _ _
          try simp only [Act.put, List.setIfInBounds_toArray, List.set_cons_zero, List.set_cons_succ, List.getElem_toArray, List.getElem_cons_zero, List.getElem_cons_succ]
          refine rest_take (i := 17) (v := _) all_wide (noDefers_of (by kernel_rfl)) rfl (by kernel_rfl) (by kernel_rfl) (by kernel_rfl) (fun _ _ _ h => h) (Or.inl ⟨by rfl, by intro w hSw; clear hSw; go_simp; first | done | with_reducible rfl⟩) hHeld ?_
          change RestIn _ _ _ _ _ _ _ 10 #[true, true, true, true, true, true, true, true, true, true, true, true, true, true, true, true, true, true, false, false, false, false, false, false, false, false, false, false] _ _
          try simp only [Act.put, List.setIfInBounds_toArray, List.set_cons_zero, List.set_cons_succ, List.getElem_toArray, List.getElem_cons_zero, List.getElem_cons_succ]
          refine rest_take (i := 18) (v := _) all_wide (noDefers_of (by kernel_rfl)) rfl (by kernel_rfl) (by kernel_rfl) (by kernel_rfl) (fun _ _ _ h => h) (Or.inl ⟨by rfl, by intro w hSw; (obtain ⟨q0, q1, q2, q3, q4, q5, q6, q7, q8, q9, q10, q11, q12, q13, q14, _⟩ := hSw); go_simp; first | done | with_reducible rfl⟩) hHeld ?_
          change RestIn _ _ _ _ _ _ _ 9 #[true, true, true, true, true, true, true, true, true, true, true, true, true, true, true, true, true, true, true, false, false, false, false, false, false, false, false, false] _ _
          try simp only [Act.put, List.setIfInBounds_toArray, List.set_cons_zero, List.set_cons_succ, List.getElem_toArray, List.getElem_cons_zero, List.getElem_cons_succ]
          refine rest_take (i := 19) (v := _) all_wide (noDefers_of (by kernel_rfl)) rfl (by kernel_rfl) (by kernel_rfl) (by kernel_rfl) (fun _ _ _ h => h) (Or.inl ⟨by rfl, by intro w hSw; clear hSw; go_simp; first | done | with_reducible rfl⟩) hHeld ?_
          change RestIn _ _ _ _ _ _ _ 8 #[true, true, true, true, true, true, true, true, true, true, true, true, true, true, true, true, true, true, true, true, false, false, false, false, false, false, false, false] _ _
          try simp only [Act.put, List.setIfInBounds_toArray, List.set_cons_zero, List.set_cons_succ, List.getElem_toArray, List.getElem_cons_zero, List.getElem_cons_succ]
          refine rest_take (i := 20) (v := _) all_wide (noDefers_of (by kernel_rfl)) rfl (by kernel_rfl) (by kernel_rfl) (by kernel_rfl) (fun _ _ _ h => h) (Or.inl ⟨by rfl, by intro w hSw; clear hSw; go_simp; first | done | with_reducible rfl⟩) hHeld ?_
          change RestIn _ _ _ _ _ _ _ 7 #[true, true, true, true, true, true, true, true, true, true, true, true, true, true, true, true, true, true, true, true, true, false, false, false, false, false, false, false] _ _
          try simp only [Act.put, List.setIfInBounds_toArray, List.set_cons_zero, List.set_cons_succ, List.getElem_toArray, List.getElem_cons_zero, List.getElem_cons_succ]
          refine rest_take (i := 21) (v := _) all_wide (noDefers_of (by kernel_rfl)) rfl (by kernel_rfl) (by kernel_rfl) (by kernel_rfl) (fun _ _ _ h => h) (Or.inl ⟨by rfl, by intro w hSw; clear hSw; go_simp; first | done | with_reducible rfl⟩) hHeld ?_
          change RestIn _ _ _ _ _ _ _ 6 #[true, true, true, true, true, true, true, true, true, true, true, true, true, true, true, true, true, true, true, true, true, true, false, false, false, false, false, false] _ _
          try simp only [Act.put, List.setIfInBounds_toArray, List.set_cons_zero, List.set_cons_succ, List.getElem_toArray, List.getElem_cons_zero, List.getElem_cons_succ]
          refine rest_take (i := 22) (v := _) all_wide (noDefers_of (by kernel_rfl)) rfl (by kernel_rfl) (by kernel_rfl) (by kernel_rfl) (fun _ _ _ h => h) (Or.inl ⟨by rfl, by intro w hSw; clear hSw; go_simp; first | done | with_reducible rfl⟩) hHeld ?_
          change RestIn _ _ _ _ _ _ _ 5 #[true, true, true, true, true, true, true, true, true, true, true, true, true, true, true, true, true, true, true, true, true, true, true, false, false, false, false, false] _ _
          try simp only [Act.put, List.setIfInBounds_toArray, List.set_cons_zero, List.set_cons_succ, List.getElem_toArray, List.getElem_cons_zero, List.getElem_cons_succ]
          refine rest_take (i := 23) (v := _) all_wide (noDefers_of (by kernel_rfl)) rfl (by kernel_rfl) (by kernel_rfl) (by kernel_rfl) (fun _ _ _ h => h) (Or.inl ⟨by rfl, by intro w hSw; (obtain ⟨q0, q1, q2, q3, q4, q5, q6, q7, q8, q9, q10, q11, q12, q13, q14, _⟩ := hSw); go_simp; first | done | with_reducible rfl⟩) hHeld ?_
          change RestIn _ _ _ _ _ _ _ 4 #[true, true, true, true, true, true, true, true, true, true, true, true, true, true, true, true, true, true, true, true, true, true, true, true, false, false, false, false] _ _
          try simp only [Act.put, List.setIfInBounds_toArray, List.set_cons_zero, List.set_cons_succ, List.getElem_toArray, List.getElem_cons_zero, List.getElem_cons_succ]
          refine rest_take (i := 24) (v := _) all_wide (noDefers_of (by kernel_rfl)) rfl (by kernel_rfl) (by kernel_rfl) (by kernel_rfl) (fun _ _ _ h => h) (Or.inl ⟨by rfl, by intro w hSw; clear hSw; go_simp; first | done | with_reducible rfl⟩) hHeld ?_
          change RestIn _ _ _ _ _ _ _ 3 #[true, true, true, true, true, true, true, true, true, true, true, true, true, true, true, true, true, true, true, true, true, true, true, true, true, false, false, false] _ _
          try simp only [Act.put, List.setIfInBounds_toArray, List.set_cons_zero, List.set_cons_succ, List.getElem_toArray, List.getElem_cons_zero, List.getElem_cons_succ]
          refine rest_ready (rs := [25]) (by kernel_rfl) (by simp) ?_
          refine AllRest.cons rfl (fun K hK => ?_) AllRest.nil
          have hNow := (hHeld.2.2.2.2.2.2.2.2.2.2.2.2.2.2.2)
          clear hLast
          have hLast := hNow
          go_simp
          gi_wp2_with ((refine ⟨trivial, ?_⟩; gi_at_call 20; (with_reducible refine (callsIn_wide.2 (HIN2.out _)).mono ?_); rintro e wn ⟨rfl, hb⟩))
          refine hK.out _ _ ?_ (fun hHeld' => ?_)
          · exact ⟨cell_after hb hHeld.1, cell_after hb hHeld.2.1, cell_after hb hHeld.2.2.1, cell_after hb hHeld.2.2.2.1, cell_after hb hHeld.2.2.2.2.1, cell_after hb hHeld.2.2.2.2.2.1, cell_after hb hHeld.2.2.2.2.2.2.1, cell_after hb hHeld.2.2.2.2.2.2.2.1, cell_after hb hHeld.2.2.2.2.2.2.2.2.1, cell_after hb hHeld.2.2.2.2.2.2.2.2.2.1, cell_after hb hHeld.2.2.2.2.2.2.2.2.2.2.1, cell_after hb hHeld.2.2.2.2.2.2.2.2.2.2.2.1, cell_after hb hHeld.2.2.2.2.2.2.2.2.2.2.2.2.1, cell_after hb hHeld.2.2.2.2.2.2.2.2.2.2.2.2.2.1, cell_after hb hHeld.2.2.2.2.2.2.2.2.2.2.2.2.2.2.1, (hHeld.2.2.2.2.2.2.2.2.2.2.2.2.2.2.2).trans (hb.mono (hHeld.2.2.2.2.2.2.2.2.2.2.2.2.2.2.2).size)⟩
          clear hK K
          change RestIn _ _ _ _ _ _ _ 2 #[true, true, true, true, true, true, true, true, true, true, true, true, true, true, true, true, true, true, true, true, true, true, true, true, true, true, false, false] _ _
          try simp only [Act.put, List.setIfInBounds_toArray, List.set_cons_zero, List.set_cons_succ, List.getElem_toArray, List.getElem_cons_zero, List.getElem_cons_succ]
          clear hHeld
          have hHeld := hHeld'
          clear hHeld'
          have hNow := (hHeld.2.2.2.2.2.2.2.2.2.2.2.2.2.2.2)
          refine rest_take (i := 26) (v := _) all_wide (noDefers_of (by kernel_rfl)) rfl (by kernel_rfl) (by kernel_rfl) (by kernel_rfl) (fun _ _ _ h => h) (Or.inl ⟨by rfl, by intro w hSw; clear hSw; go_simp; first | done | with_reducible rfl⟩) hHeld ?_
          change RestIn _ _ _ _ _ _ _ 1 #[true, true, true, true, true, true, true, true, true, true, true, true, true, true, true, true, true, true, true, true, true, true, true, true, true, true, true, false] _ _
          try simp only [Act.put, List.setIfInBounds_toArray, List.set_cons_zero, List.set_cons_succ, List.getElem_toArray, List.getElem_cons_zero, List.getElem_cons_succ]
          refine rest_take (i := 27) (v := _) all_wide (noDefers_of (by kernel_rfl)) rfl (by kernel_rfl) (by kernel_rfl) (by kernel_rfl) (fun _ _ _ h => h) (Or.inl ⟨by rfl, by intro w hSw; clear hSw; go_simp; first | done | with_reducible rfl⟩) hHeld ?_
          change RestIn _ _ _ _ _ _ _ 0 #[true, true, true, true, true, true, true, true, true, true, true, true, true, true, true, true, true, true, true, true, true, true, true, true, true, true, true, true] _ _
          try simp only [Act.put, List.setIfInBounds_toArray, List.set_cons_zero, List.set_cons_succ, List.getElem_toArray, List.getElem_cons_zero, List.getElem_cons_succ]
          refine rest_done (by kernel_rfl) ?_
          have hN := hHeld.2.2.2.2.2.2.2.2.2.2.2.2.2.2.2
          cases b2
          · have HA2 : Hid ((l.take (k + 1)).all lg = true) := all_snoc Hx.out HALL.out HLG.out
            clear HALL
            go_wp2
            go_roundw
            case rel => exact ⟨k + 1, by omega, by go_num, HA2, HB0.out.trans (hN.mono HB0.out.size)⟩
            case measure => simp [intOf]; omega
          · have HLF : Hid (lightB l = false) := by show _ = _; unfold lightB; rw [all_bad' Hx.out HLG.out]; rfl
            go_wp2
            go_ret
            exact ⟨ret_bool HLF.out.symm, HB0.out.trans (hN.mono HB0.out.size)⟩
end Go.Proofs.Ytbagfapalkmikaa
