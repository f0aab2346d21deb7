import Derived.Test.YthelogdgfhfdcaaCan9
namespace Go.Proofs.Ythelogdgfhfdcaa
open Go.RowKit

theorem headValid_any (h : Head) (A : Option Addr) (c : Nat) (w : World) (hg : RS encG 5 w w.heap.size A h.guys) (_hc : c ≤ maxLen) (hl : h.guys.length ≤ c) :
    Calls Try.prog 72 #[.agg #[.int .i64 h.area, .int .i64 h.bears, .slice A h.guys.length c]] w fun e w' => e = .returned (.bool h.ok) ∧ Below w.heap.size w w' := by
  have hlm : h.guys.length ≤ maxLen := Nat.le_trans hl _hc
  have hl' := hlm
  unfold maxLen at hl'
  have HK : Hid (h.ok = (inB h.area 0 1000 && (inB h.bears 0 10000000 && (decide (h.guys.length ≤ 8) && h.guys.all Guy.ok)))) := rfl
  have hg1 := hg.to ((Below.refl _ w).alloc (Nat.le_refl _) (.cells #[.int .i64 h.area, .int .i64 h.bears, .slice A h.guys.length c] 115))
  have hv := fun W h' => everyG_any A c h.guys W h' hlm
  clear hg hl
  by_cases h3 : h.guys.length ≤ 8
  · cases h1 : inB h.area 0 1000 <;> cases h2 : inB h.bears 0 10000000 <;> cases h4 : h.guys.all Guy.ok
    all_goals
      rw [h1, h2, h4] at HK
      rw [h4] at hv
      have Hv := Lib.hid hv
      clear hv
      go_enter Try.func72, Try.ntmps72
      go_wp2_with (first | (go_at_call 64; refine (within_any _ _ _ _).mono ?_; rintro e w' ⟨rfl, rfl⟩) | (go_at_call 96; refine (Hv.out _ hg1).mono ?_; rintro e w1 ⟨rfl, hb1⟩; obtain ⟨hc1, hf1⟩ := bcell hb1; have hz1 : w.heap.size < w1.heap.size := (by have := hb1.size; (try simp at this); omega)))
      go_ret
      refine ⟨ret_bool (by rw [HK.out]; simp [h3]), ?_⟩
      first
        | exact ((Below.refl _ _).alloc (Nat.le_refl _) _).trans (hb1.mono (by simp))
        | exact (Below.refl _ _).alloc (Nat.le_refl _) _
  · cases h1 : inB h.area 0 1000 <;> cases h2 : inB h.bears 0 10000000
    all_goals
      rw [h1, h2] at HK
      clear hv
      go_enter Try.func72, Try.ntmps72
      go_wp2_with ((go_at_call 64; refine (within_any _ _ _ _).mono ?_; rintro e w' ⟨rfl, rfl⟩))
      go_ret
      exact ⟨ret_bool (by rw [HK.out]; simp [h3]), (Below.refl _ _).alloc (Nat.le_refl _) _⟩

theorem everyH_any (A : Option Addr) (c : Nat) (l : List Head) (w : World) (hr : RH w w.heap.size A l) (hl : l.length ≤ maxLen) :
    Calls Try.prog 71 #[.slice A l.length c, .func (.func 72) #[] #[]] w fun e w' => e = .returned (.bool (l.all Head.ok)) ∧ Below w.heap.size w w' := by
  unfold maxLen at hl
  go_enter Try.func71, Try.ntmps71
  go_wp2
  go_loopw [9] (fun i wr => ∃ k : Nat, k ≤ l.length ∧ i = .int .i64 k ∧ (l.take k).all Head.ok = true ∧ Below w.heap.size w wr) (fun i _ => l.length - (intOf i).toNat)
  case atStart => exact ⟨0, Nat.zero_le _, rfl, rfl, Below.refl _ _⟩
  case round =>
    obtain ⟨k, hk, rfl, hall, hB⟩ := hrel
    have Hall := Lib.hid hall
    clear hall
    by_cases hlt : k < l.length
    · obtain ⟨x, hx⟩ := getElem?_lt hlt
      obtain ⟨b, off, A', c', rfl, hb, c0, c1, c2, hg1, hg2, hg⟩ := (hr.below hB (Nat.le_refl _)).at_ hx
      have Hx := Lib.hid hx
      have hbz := hB.size
      have hg' : RS encG 5 (wr.alloc (.cells #[.int .i64 x.area, .int .i64 x.bears, .slice A' x.guys.length c'] 115)) (wr.alloc (.cells #[.int .i64 x.area, .int .i64 x.bears, .slice A' x.guys.length c'] 115)).heap.size A' x.guys := (hg.more hbz).to ((Below.refl _ wr).alloc (Nat.le_refl _) _)
      clear hx hr
      cases h1 : x.ok
      all_goals
        have hv := fun W h => headValid_any x A' c' W h hg2 hg1
        rw [h1] at hv
        have Hv := Lib.hid hv
        clear hv
        go_wp2_with (go_at_call 72; refine (Hv.out _ hg').mono ?_; rintro e w1 ⟨rfl, hb1⟩)
      · go_ret
        exact ⟨ret_bool (all_bad Hx.out h1).symm, (hB.alloc hbz _).trans (hb1.mono (by simp; omega))⟩
      · go_roundw
        case rel => exact ⟨k + 1, by omega, by go_num, all_snoc Hx.out Hall.out h1, (hB.alloc hbz _).trans (hb1.mono (by simp; omega))⟩
        case measure => simp [intOf]; omega
    · go_wp2
      go_ret
      exact ⟨ret_bool (all_end hlt Hall.out).symm, hB⟩


/-- ErrArg, if a tent is not valid. -/
def tentE (t : List Head) : Int := if tentOk t then 0 else 1
theorem checkTent_any (A : Option Addr) (c : Nat) (t : List Head) (w : World) (hr : RH w w.heap.size A t) (hl : t.length ≤ maxLen) :
    Calls Try.prog 30 #[.slice A t.length c] w fun e w' => e = .returned (.int .i64 (tentE t)) ∧ Below w.heap.size w w' := by
  have hl' := hl
  unfold maxLen at hl'
  have HK : Hid (tentE t = if (decide (1 ≤ t.length) && (decide (t.length ≤ 12) && t.all Head.ok)) = true then 0 else 1) := rfl
  by_cases h1 : t.length < 1
  · go_enter Try.func30, Try.ntmps30
    go_wp2
    go_ret
    exact ⟨ret_int (by rw [HK.out, if_neg (by simp; omega)]), Below.refl _ _⟩
  · by_cases h2 : 12 < t.length
    · go_enter Try.func30, Try.ntmps30
      go_wp2
      go_ret
      exact ⟨ret_int (by rw [HK.out, if_neg (by simp; omega)]), Below.refl _ _⟩
    · have hv := fun W h => everyH_any A c t W h hl
      cases h3 : t.all Head.ok
      all_goals
        rw [h3] at hv
        have Hv := Lib.hid hv
        clear hv
        go_enter Try.func30, Try.ntmps30
        go_wp2_with ((go_at_call 71; refine (Hv.out _ hr).mono ?_; rintro e w1 ⟨rfl, hb1⟩; obtain ⟨hc1, hf1⟩ := bcell hb1))
        go_ret
      · exact ⟨ret_int (by rw [HK.out, if_neg (by simp [h3])]), hb1⟩
      · exact ⟨ret_int (by rw [HK.out, if_pos (by simp [h3]; omega)]), hb1⟩

def orM : List Int → Int
  | [] => 0
  | x :: xs => if x = 0 then orM xs else x
theorem or_any (b c : Nat) (l : List Int) (w : World) (hr : RS encI 1 w w.heap.size (some ⟨b, 0, none⟩) l) (hl : l.length ≤ 100) :
    Calls Try.prog 94 #[.slice (some ⟨b, 0, none⟩) l.length c] w fun e w' => e = .returned (.int .i64 (orM l)) ∧ Below w.heap.size w w' := by
  go_enter Try.func94, Try.ntmps94
  go_wp2
  go_loop [8] (fun i => ∃ k : Nat, k ≤ l.length ∧ i = .int .i64 k ∧ orM (l.drop k) = orM l) (fun i => l.length - (intOf i).toNat)
  case atStart => exact ⟨0, Nat.zero_le _, rfl, rfl⟩
  case round =>
    obtain ⟨k, hk, rfl, ho⟩ := hrel
    have Ho := Lib.hid ho
    clear ho
    by_cases hlt : k < l.length
    · obtain ⟨x, hx⟩ := getElem?_lt hlt
      obtain ⟨b', off, hA, hb, hc⟩ := hr.at_ hx
      obtain ⟨rfl, rfl⟩ : b = b' ∧ 0 = off := by simpa using hA
      have c0 := hc 0 _ rfl
      simp only [Nat.add_zero, Nat.mul_one, Nat.zero_add] at c0
      have Hx := Lib.hid hx
      clear hx hc hA hr
      by_cases h0 : x = 0
      · have e0 : (x != 0) = false := by simpa using h0
        have H0 := Lib.hid h0
        clear h0
        go_wp2
        go_round
        case rel => exact ⟨k + 1, by omega, by go_num, by rw [← Ho.out, drop_of_get Hx.out, orM, if_pos H0.out]⟩
        case measure => simp [intOf]; omega
      · have e0 : (x != 0) = true := by simpa using h0
        go_wp2
        go_ret
        exact ⟨ret_int (by rw [← Ho.out, drop_of_get Hx.out, orM, if_neg h0]), Below.refl _ _⟩
    · go_wp2
      go_ret
      exact ⟨ret_int (by rw [← Ho.out, List.drop_of_length_le (by omega)]; rfl), Below.refl _ _⟩
theorem or_made (W : World) (e : Nat) (l : List Int) : RS encI 1 (W.alloc (.cells (l.map (Value.int .i64)).toArray e)) (W.alloc (.cells (l.map (Value.int .i64)).toArray e)).heap.size (some ⟨W.heap.size, 0, none⟩) l := by
  refine .inr ⟨W.heap.size, 0, rfl, by simp, fun k x hk j v hv => ?_⟩
  have hb := (Blk.new W e (l.map (Value.int .i64)).toArray).cell (0 + k * 1 + j)
  rw [hb]
  cases j with
  | zero =>
    simp [encI] at hv
    simp [hk, hv]
  | succ j => simp [encI] at hv

/-- The error of tests and a tent, and of what comes behind. -/
def tentedE (l : List Tst) (t : List Head) : Int := orM [testsFault l, tentE t]
theorem checkTented_any (A : Option Addr) (c : Nat) (l : List Tst) (A' : Option Addr) (c' : Nat) (t : List Head) (w : World) (hr : RS encT 4 w w.heap.size A l) (hl : l.length ≤ maxLen) (ht : RH w w.heap.size A' t) (htl : t.length ≤ maxLen) :
    Calls Try.prog 69 #[.slice A l.length c, .slice A' t.length c'] w fun e w' => e = .returned (.int .i64 (firstE (tentedE l t) true l)) ∧ Below w.heap.size w w' := by
  have Hok : Hid (tentedE l t = 0 → ∀ x ∈ l, x.ok = true) := by
    intro h
    refine (testsFault_ok ?_).1
    unfold tentedE orM at h
    split at h
    · assumption
    · rename_i h1; exact absurd h h1
  go_enter Try.func69, Try.ntmps69
  go_wp2_with (first | (go_at_call 20; refine (checkTests_any A c l _ hr hl).mono ?_; rintro e w1 ⟨rfl, hb1⟩; obtain ⟨hc1, hf1⟩ := bcell hb1) | (go_at_call 30; refine (checkTent_any A' c' t _ (ht.to hb1) htl).mono ?_; rintro e w2 ⟨rfl, hb2⟩; obtain ⟨hc2, hf2⟩ := bcell hb2) | (go_at_call 94; refine (or_any w2.heap.size _ [testsFault l, tentE t] _ (or_made _ _ _) (by simp)).mono ?_; rintro e w3 ⟨rfl, hb3⟩) | (go_at_call 88; refine (firstError_any (tentedE l t) true A c l _ (((hr.to hb1).to hb2).to (((Below.refl _ _).alloc (Nat.le_refl _) _).trans (hb3.mono (by simp)))) hl Hok.out).mono ?_; rintro e w4 ⟨rfl, hb4⟩))
  go_ret
  exact ⟨rfl, sh_next (sh_next (sh_next hb1 hb2) (((Below.refl _ _).alloc (Nat.le_refl _) _).trans (hb3.mono (by simp)))) hb4⟩
end Go.Proofs.Ythelogdgfhfdcaa
