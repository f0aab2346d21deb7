import Derived.Test.YthelogdgfhfdcaaCan10
namespace Go.Proofs.Ythelogdgfhfdcaa
open Go.RowKit

def headB (t : List Head) (head : Int) : Bool := inB head 0 ((t.length : Int) - 1)
theorem tentedE_zero {l : List Tst} {t : List Head} (h : tentedE l t = 0) : testsFault l = 0 ∧ tentOk t = true := by
  unfold tentedE orM at h
  split at h
  · rename_i h1
    refine ⟨h1, ?_⟩
    unfold orM at h
    split at h
    · rename_i h2
      unfold tentE at h2
      split at h2
      · assumption
      · simp at h2
    · rename_i h2; exact absurd h h2
  · rename_i h1; exact absurd h h1
theorem tentedE_ok {l : List Tst} {t : List Head} (h : tentedE l t = 0) : (∀ x ∈ l, x.ok = true) ∧ ∀ x ∈ t, x.ok = true := by
  obtain ⟨h1, h2⟩ := tentedE_zero h
  refine ⟨(testsFault_ok h1).1, ?_⟩
  simp [tentOk] at h2
  exact h2.2.2

/-- The error of what asks for a head. -/
def headE (l : List Tst) (t : List Head) (head : Int) (inr : Bool) : Int := firstE (tentedE l t) (inr && headB t head) l
theorem checkHead_any (A : Option Addr) (c : Nat) (l : List Tst) (A' : Option Addr) (c' : Nat) (t : List Head) (head : Int) (inr : Bool) (w : World) (hr : RS encT 4 w w.heap.size A l) (hl : l.length ≤ maxLen) (ht : RH w w.heap.size A' t) (htl : t.length ≤ maxLen) :
    Calls Try.prog 74 #[.slice A l.length c, .slice A' t.length c', .int .i64 head, .bool inr] w fun e w' => e = .returned (.int .i64 (headE l t head inr)) ∧ Below w.heap.size w w' := by
  have Hok := Lib.hid (fun h => (tentedE_ok (l := l) (t := t) h).1)
  have htl' := htl
  unfold maxLen at htl'
  have HE : Hid (headE l t head inr = firstE (tentedE l t) (inr && headB t head) l) := rfl
  have HB : Hid (headB t head = inB head 0 ((t.length : Int) - 1)) := rfl
  cases inr
  · go_enter Try.func74, Try.ntmps74
    go_wp2_with (first | (go_at_call 20; refine (checkTests_any A c l _ hr hl).mono ?_; rintro e w1 ⟨rfl, hb1⟩; obtain ⟨hc1, hf1⟩ := bcell hb1) | (go_at_call 30; refine (checkTent_any A' c' t _ (ht.to hb1) htl).mono ?_; rintro e w2 ⟨rfl, hb2⟩; obtain ⟨hc2, hf2⟩ := bcell hb2) | (go_at_call 94; refine (or_any w2.heap.size _ [testsFault l, tentE t] _ (or_made _ _ _) (by simp)).mono ?_; rintro e w3 ⟨rfl, hb3⟩) | (go_at_call 88; refine (firstError_any (tentedE l t) false A c l _ (((hr.to hb1).to hb2).to (((Below.refl _ _).alloc (Nat.le_refl _) _).trans (hb3.mono (by simp)))) hl Hok.out).mono ?_; rintro e w4 ⟨rfl, hb4⟩))
    go_ret
    exact ⟨ret_int (by rw [HE.out]; simp), sh_next (sh_next (sh_next hb1 hb2) (((Below.refl _ _).alloc (Nat.le_refl _) _).trans (hb3.mono (by simp)))) hb4⟩
  · go_enter Try.func74, Try.ntmps74
    go_wp2_with (first | (go_at_call 20; refine (checkTests_any A c l _ hr hl).mono ?_; rintro e w1 ⟨rfl, hb1⟩; obtain ⟨hc1, hf1⟩ := bcell hb1) | (go_at_call 30; refine (checkTent_any A' c' t _ (ht.to hb1) htl).mono ?_; rintro e w2 ⟨rfl, hb2⟩; obtain ⟨hc2, hf2⟩ := bcell hb2) | (go_at_call 94; refine (or_any w2.heap.size _ [testsFault l, tentE t] _ (or_made _ _ _) (by simp)).mono ?_; rintro e w3 ⟨rfl, hb3⟩) | (go_at_call 64; refine (within_any _ _ _ _).mono ?_; rintro e w' ⟨rfl, rfl⟩) | (go_at_call 88; refine (firstError_any (tentedE l t) (headB t head) A c l _ (((hr.to hb1).to hb2).to (((Below.refl _ _).alloc (Nat.le_refl _) _).trans (hb3.mono (by simp)))) hl Hok.out).mono ?_; rintro e w4 ⟨rfl, hb4⟩))
    go_ret
    exact ⟨ret_int (by rw [HE.out]; simp), sh_next (sh_next (sh_next hb1 hb2) (((Below.refl _ _).alloc (Nat.le_refl _) _).trans (hb3.mono (by simp)))) hb4⟩
theorem checkHead_val (A : Option Addr) (c : Nat) {l : List Tst} (A' : Option Addr) (c' : Nat) {t : List Head} {head : Int} {inr : Bool} {z : Int} (hE : headE l t head inr = z) (w : World) (hr : RS encT 4 w w.heap.size A l) (hl : l.length ≤ maxLen) (ht : RH w w.heap.size A' t) (htl : t.length ≤ maxLen) :
    Calls Try.prog 74 #[.slice A l.length c, .slice A' t.length c', .int .i64 head, .bool inr] w fun e w' => e = .returned (.int .i64 z) ∧ Below w.heap.size w w' := by
  rw [← hE]; exact checkHead_any A c l A' c' t head inr w hr hl ht htl
theorem headE_zero {l : List Tst} {t : List Head} {head : Int} {inr : Bool} (h : headE l t head inr = 0) : inr = true ∧ (0 ≤ head ∧ head < t.length) ∧ (∀ x ∈ l, x.ok = true) ∧ (∀ x ∈ t, x.ok = true) ∧ fcF l = false := by
  unfold headE firstE at h
  split at h
  · rename_i h0
    split at h
    · rename_i h1
      obtain ⟨a, b⟩ := tentedE_ok h0
      simp only [Bool.and_eq_true] at h1
      have h2 := inB_true.1 h1.2
      refine ⟨h1.1, by omega, a, b, ?_⟩
      unfold agreeE at h
      cases hf : fcF l
      · rfl
      · rw [hf] at h; simp at h
    · simp at h
  · rename_i h0; exact absurd h h0

theorem checkWindF_any (v : Vec) (w : World) : Calls Try.prog 124 #[.agg #[.int .i64 v.x, .int .i64 v.y]] w fun e w' => e = .returned (.bool v.corner) ∧ Below w.heap.size w w' := by
  have sm : Sm 10000 := by unfold Sm; omega
  go_enter Try.func124, Try.ntmps124
  go_wp2_with ((go_at_call 75; refine (inside_any v 10000 _ sm).mono ?_; rintro e w1 ⟨rfl, hb1⟩; obtain ⟨hc1, hf1⟩ := bcell hb1))
  go_ret
  exact ⟨rfl, ((Below.refl _ _).alloc (Nat.le_refl _) _).trans (hb1.mono (by simp))⟩
theorem everyV_any (A : Option Addr) (c : Nat) (l : List Vec) (w : World) (hr : RS encV 2 w w.heap.size A l) (hl : l.length ≤ maxLen) :
    Calls Try.prog 125 #[.slice A l.length c, .func (.func 124) #[] #[]] w fun e w' => e = .returned (.bool (l.all Vec.corner)) ∧ Below w.heap.size w w' := by
  unfold maxLen at hl
  go_enter Try.func125, Try.ntmps125
  go_wp2
  go_loopw [9] (fun i wr => ∃ k : Nat, k ≤ l.length ∧ i = .int .i64 k ∧ (l.take k).all Vec.corner = true ∧ Below w.heap.size w wr) (fun i _ => l.length - (intOf i).toNat)
  case atStart => exact ⟨0, Nat.zero_le _, rfl, rfl, Below.refl _ _⟩
  case round =>
    obtain ⟨k, hk, rfl, hall, hB⟩ := hrel
    have Hall := Lib.hid hall
    clear hall
    by_cases hlt : k < l.length
    · obtain ⟨x, hx⟩ := getElem?_lt hlt
      obtain ⟨b, off, rfl, hb, hc⟩ := (hr.below hB (Nat.le_refl _)).at_ hx
      have c0 := hc 0 _ rfl
      have c1 := hc 1 _ rfl
      have Hx := Lib.hid hx
      have hbz := hB.size
      clear hx hc hr
      simp only [Nat.add_zero] at c0
      cases h1 : x.corner
      all_goals
        have hv := fun W => checkWindF_any x W
        rw [h1] at hv
        have Hv := Lib.hid hv
        clear hv
        go_wp2_with (go_at_call 124; refine (Hv.out _).mono ?_; rintro e w1 ⟨rfl, hb1⟩)
      · go_ret
        exact ⟨ret_bool (all_bad Hx.out h1).symm, (hB.alloc hbz _).trans (hb1.mono (by simp; omega))⟩
      · go_roundw
        case rel => exact ⟨k + 1, by omega, by go_num, all_snoc Hx.out Hall.out h1, (hB.alloc hbz _).trans (hb1.mono (by simp; omega))⟩
        case measure => simp [intOf]; omega
    · go_wp2
      go_ret
      exact ⟨ret_bool (all_end hlt Hall.out).symm, hB⟩


def windE (l : List Vec) : Int := if windOk l then 0 else 1
theorem checkWind_any (A : Option Addr) (c : Nat) (l : List Vec) (w : World) (hr : RS encV 2 w w.heap.size A l) (hl : l.length ≤ maxLen) :
    Calls Try.prog 112 #[.slice A l.length c] w fun e w' => e = .returned (.int .i64 (windE l)) ∧ Below w.heap.size w w' := by
  have hl' := hl
  unfold maxLen at hl'
  have HK : Hid (windE l = if (decide (1 ≤ l.length) && (decide (l.length ≤ 12) && l.all Vec.corner)) = true then 0 else 1) := rfl
  by_cases h1 : l.length < 1
  · go_enter Try.func112, Try.ntmps112
    go_wp2
    go_ret
    exact ⟨ret_int (by rw [HK.out, if_neg (by simp; omega)]), Below.refl _ _⟩
  · by_cases h2 : 12 < l.length
    · go_enter Try.func112, Try.ntmps112
      go_wp2
      go_ret
      exact ⟨ret_int (by rw [HK.out, if_neg (by simp; omega)]), Below.refl _ _⟩
    · have hv := fun W h => everyV_any A c l W h hl
      cases h3 : l.all Vec.corner
      all_goals
        rw [h3] at hv
        have Hv := Lib.hid hv
        clear hv
        go_enter Try.func112, Try.ntmps112
        go_wp2_with ((go_at_call 125; refine (Hv.out _ hr).mono ?_; rintro e w1 ⟨rfl, hb1⟩; obtain ⟨hc1, hf1⟩ := bcell hb1))
        go_ret
      · exact ⟨ret_int (by rw [HK.out, if_neg (by simp [h3])]), hb1⟩
      · exact ⟨ret_int (by rw [HK.out, if_pos (by simp [h3]; omega)]), hb1⟩
def windyE (l : List Tst) (t : List Head) (wind : List Vec) : Int := firstE (orM [testsFault l, tentE t, windE wind]) true l
theorem checkWindy_any (A : Option Addr) (c : Nat) (l : List Tst) (A' : Option Addr) (c' : Nat) (t : List Head) (A2 : Option Addr) (c2 : Nat) (wind : List Vec) (w : World) (hr : RS encT 4 w w.heap.size A l) (hl : l.length ≤ maxLen) (ht : RH w w.heap.size A' t) (htl : t.length ≤ maxLen) (hw : RS encV 2 w w.heap.size A2 wind) (hwl : wind.length ≤ maxLen) :
    Calls Try.prog 82 #[.slice A l.length c, .slice A' t.length c', .slice A2 wind.length c2] w fun e w' => e = .returned (.int .i64 (windyE l t wind)) ∧ Below w.heap.size w w' := by
  have Hok : Hid (orM [testsFault l, tentE t, windE wind] = 0 → ∀ x ∈ l, x.ok = true) := by
    intro h
    refine (testsFault_ok ?_).1
    unfold orM at h
    split at h
    · assumption
    · rename_i h1; exact absurd h h1
  go_enter Try.func82, Try.ntmps82
  go_wp2_with (first | (go_at_call 20; refine (checkTests_any A c l _ hr hl).mono ?_; rintro e w1 ⟨rfl, hb1⟩; obtain ⟨hc1, hf1⟩ := bcell hb1) | (go_at_call 30; refine (checkTent_any A' c' t _ (ht.to hb1) htl).mono ?_; rintro e w2 ⟨rfl, hb2⟩; obtain ⟨hc2, hf2⟩ := bcell hb2) | (go_at_call 112; refine (checkWind_any A2 c2 wind _ ((hw.to hb1).to hb2) hwl).mono ?_; rintro e w5 ⟨rfl, hb5⟩; obtain ⟨hc5, hf5⟩ := bcell hb5) | (go_at_call 94; refine (or_any w5.heap.size _ [testsFault l, tentE t, windE wind] _ (or_made _ _ _) (by simp)).mono ?_; rintro e w3 ⟨rfl, hb3⟩) | (go_at_call 88; refine (firstError_any (orM [testsFault l, tentE t, windE wind]) true A c l _ ((((hr.to hb1).to hb2).to hb5).to (((Below.refl _ _).alloc (Nat.le_refl _) _).trans (hb3.mono (by simp)))) hl Hok.out).mono ?_; rintro e w4 ⟨rfl, hb4⟩))
  go_ret
  exact ⟨rfl, sh_next (sh_next (sh_next (sh_next hb1 hb2) hb5) (((Below.refl _ _).alloc (Nat.le_refl _) _).trans (hb3.mono (by simp)))) hb4⟩
end Go.Proofs.Ythelogdgfhfdcaa
