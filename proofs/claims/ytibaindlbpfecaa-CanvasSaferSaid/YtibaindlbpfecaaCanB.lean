import Derived.Test.YtibaindlbpfecaaCanA
import Derived.Test.YtibaindlbpfecaaBase
import Derived.Deep.RegionLaw

namespace Go.Proofs.Ytibaindlbpfecaa
open Go.RowKit

set_option maxHeartbeats 2000000 in
theorem guyValid_any (g : Guy) (w : World) : Calls Try.prog 116 #[.agg #[.int .i64 g.x, .int .i64 g.y, .int .i64 g.down, .int .i64 g.soil, .int .i64 g.depth]] w fun e w' => e = .returned (.bool g.ok) ∧ Below w.heap.size w w' := by
  have HI : Hid (∀ v : Vec, v.insideB 5000 = (inB v.x (-5000) 5000 && inB v.y (-5000) 5000)) := fun _ => rfl
  have key : ∀ (b1 b2 b3 b4 : Bool) (P : Prop) [Decidable P], Vec.insideB ⟨g.x, g.y⟩ 5000 = b1 → inB g.down 0 5000 = b2 → inB g.soil 0 9 = b3 → inB g.depth 1 3000 = b4 → (P ↔ (g.x ≠ 0 ∨ g.y ≠ 0)) → g.ok = (decide P && (b1 && (b2 && (b3 && b4)))) := by
    intro b1 b2 b3 b4 P _ h1 h2 h3 h4 h5
    have h6 : decide P = (decide (g.x ≠ 0) || decide (g.y ≠ 0)) := by rw [Bool.eq_iff_iff]; simp [h5]
    subst h1 h2 h3 h4
    rw [h6]
    unfold Guy.ok Vec.insideB
    simp only
    generalize inB g.x (-5000) 5000 = a1
    generalize inB g.y (-5000) 5000 = a2
    generalize (decide (g.x ≠ 0) || decide (g.y ≠ 0)) = a3
    generalize inB g.down 0 5000 = a4
    generalize inB g.soil 0 9 = a5
    generalize inB g.depth 1 3000 = a6
    cases a1 <;> cases a2 <;> cases a3 <;> rfl
  have Key := Lib.hid key
  clear key HI
  have sm : Sm 5000 := by unfold Sm; omega
  by_cases hx : g.x = 0 ∧ g.y = 0
  · have e1 : (g.x == 0) = true := by simpa using hx.1
    have e2 : (g.y == 0) = true := by simpa using hx.2
    have HX := Lib.hid hx
    clear hx
    go_enter Try.func116, Try.ntmps116
    go_wp2_with (first | (go_at_call 90; refine (pull_any g _).mono ?_; rintro e w1 ⟨rfl, hb1⟩; obtain ⟨hc1, hf1⟩ := bcell hb1))
    go_ret
    exact ⟨ret_bool (by rw [Key.out _ _ _ _ False rfl rfl rfl rfl (by simp [HX.out])]; rfl), ((Below.refl _ _).alloc (Nat.le_refl _) _).trans (hb1.mono (by simp))⟩
  · have HX := Lib.hid hx
    have ee : (g.x == 0) = false ∨ ((g.x == 0) = true ∧ (g.y == 0) = false) := by simp; omega
    clear hx
    cases h1 : Vec.insideB ⟨g.x, g.y⟩ 5000 <;> cases h2 : inB g.down 0 5000 <;> cases h3 : inB g.soil 0 9 <;> cases h4 : inB g.depth 1 3000 <;> rcases ee with e1 | ⟨e1, e2⟩
    all_goals
      have HK := Lib.hid (Key.out _ _ _ _ True h1 h2 h3 h4 (by simp; have := HX.out; omega))
      go_enter Try.func116, Try.ntmps116
      have tok1 : True := trivial
      go_wp2_with (first | (go_at_call 90; have := tok1; clear this tok1; refine (pull_any g _).mono ?_; rintro e w1 ⟨rfl, hb1⟩; obtain ⟨hc1, hf1⟩ := bcell hb1; have hz1 : w.heap.size < w1.heap.size := (by have := hb1.size; (try simp at this); omega)) | (go_at_call 90; refine (pull_any g _).mono ?_; rintro e w3 ⟨rfl, hb3⟩; obtain ⟨hc3, hf3⟩ := bcell hb3; have hz3 : w.heap.size < w3.heap.size := (by have := hb3.size; (try simp at this); omega)) | (go_at_call 62; refine (inside_any ⟨g.x, g.y⟩ 5000 _ sm).mono ?_; rintro e w2 ⟨rfl, hb2⟩; obtain ⟨hc2, hf2⟩ := bcell hb2; have hz2 : w.heap.size < w2.heap.size := (by have := hb2.size; (try simp at this); omega)) | (go_at_call 70; refine (isSoil_any _ _).mono ?_; rintro e w' ⟨rfl, rfl⟩) | (go_at_call 71; refine (isDepth_any _ _).mono ?_; rintro e w' ⟨rfl, rfl⟩) | (go_at_call 73; refine (within_any _ _ _ _).mono ?_; rintro e w' ⟨rfl, rfl⟩))
      go_ret
      exact ⟨ret_bool (by rw [HK.out]; rfl), (((Below.refl _ _).alloc (Nat.le_refl _) _).trans ((sh_next (sh_next hb1 hb3) hb2).mono (by simp)))⟩

theorem everyG_any (A : Option Addr) (c : Nat) (l : List Guy) (w : World) (hr : RS encG 5 w w.heap.size A l) (hl : l.length ≤ maxLen) :
    Calls Try.prog 115 #[.slice A l.length c, .func (.func 116) #[] #[]] w fun e w' => e = .returned (.bool (l.all Guy.ok)) ∧ Below w.heap.size w w' := by
  unfold maxLen at hl
  go_enter Try.func115, Try.ntmps115
  go_wp2
  go_loopw [9] (fun i wr => ∃ k : Nat, k ≤ l.length ∧ i = .int .i64 k ∧ (l.take k).all Guy.ok = true ∧ Below w.heap.size w wr) (fun i _ => l.length - (intOf i).toNat)
  case atStart => exact ⟨0, Nat.zero_le _, rfl, rfl, Below.refl _ _⟩
  case round =>
    obtain ⟨k, hk, rfl, hall, hB⟩ := hrel
    have Hall := Lib.hid hall
    clear hall
    by_cases hlt : k < l.length
    · obtain ⟨x, hx⟩ := getElem?_lt hlt
      obtain ⟨b, off, rfl, hb, hc⟩ := (hr.below hB (Nat.le_refl _)).at_ hx
      have c0 := hc 0 _ rfl
      have c1 := hc 1 _ rfl
      have c2 := hc 2 _ rfl
      have c3 := hc 3 _ rfl
      have c4 := hc 4 _ rfl
      have Hx := Lib.hid hx
      have hbz := hB.size
      clear hx hc hr
      simp only [Nat.add_zero] at c0
      cases h1 : Guy.ok x
      all_goals
        have hv := fun W => guyValid_any x W
        rw [h1] at hv
        have Hv := Lib.hid hv
        clear hv
        go_wp2_with (go_at_call 116; refine (Hv.out _).mono ?_; rintro e w1 ⟨rfl, hb1⟩)
      · go_ret
        exact ⟨ret_bool (all_bad Hx.out h1).symm, (hB.alloc hbz _).trans (hb1.mono (by simp; omega))⟩
      · go_roundw
        case rel => exact ⟨k + 1, by omega, by go_num, all_snoc Hx.out Hall.out h1, (hB.alloc hbz _).trans (hb1.mono (by simp; omega))⟩
        case measure => simp [intOf]; omega
    · go_wp2
      go_ret
      exact ⟨ret_bool (all_end hlt Hall.out).symm, hB⟩

end Go.Proofs.Ytibaindlbpfecaa

namespace Go.Proofs.Ytibaindlbpfecaa
open Go.RowKit

theorem headValid_any (h : Head) (A : Option Addr) (c : Nat) (w : World) (hg : RS encG 5 w w.heap.size A h.guys) (_hc : c ≤ maxLen) (hl : h.guys.length ≤ c) :
    Calls Try.prog 82 #[.agg #[.int .i64 h.area, .int .i64 h.bears, .slice A h.guys.length c]] w fun e w' => e = .returned (.bool h.ok) ∧ Below w.heap.size w w' := by
  have hlm : h.guys.length ≤ maxLen := Nat.le_trans hl _hc
  have hl' := hlm
  unfold maxLen at hl'
  have HK : Hid (h.ok = (inB h.area 0 1000 && (inB h.bears 0 10000000 && (decide (h.guys.length ≤ 8) && h.guys.all Guy.ok)))) := rfl
  have hg1 := hg.to ((Below.refl _ w).alloc (Nat.le_refl _) (.cells #[.int .i64 h.area, .int .i64 h.bears, .slice A h.guys.length c] 43))
  have hv := fun W h' => everyG_any A c h.guys W h' hlm
  clear hg hl
  by_cases h3 : h.guys.length ≤ 8
  · cases h1 : inB h.area 0 1000 <;> cases h2 : inB h.bears 0 10000000 <;> cases h4 : h.guys.all Guy.ok
    all_goals
      rw [h1, h2, h4] at HK
      rw [h4] at hv
      have Hv := Lib.hid hv
      clear hv
      go_enter Try.func82, Try.ntmps82
      go_wp2_with (first | (go_at_call 73; refine (within_any _ _ _ _).mono ?_; rintro e w' ⟨rfl, rfl⟩) | (go_at_call 115; refine (Hv.out _ hg1).mono ?_; rintro e w1 ⟨rfl, hb1⟩; obtain ⟨hc1, hf1⟩ := bcell hb1; have hz1 : w.heap.size < w1.heap.size := (by have := hb1.size; (try simp at this); omega)))
      go_ret
      refine ⟨ret_bool (by rw [HK.out]; simp [h3]), ?_⟩
      first
        | exact ((Below.refl _ _).alloc (Nat.le_refl _) _).trans (hb1.mono (by simp))
        | exact (Below.refl _ _).alloc (Nat.le_refl _) _
  · cases h1 : inB h.area 0 1000 <;> cases h2 : inB h.bears 0 10000000
    all_goals
      rw [h1, h2] at HK
      clear hv
      go_enter Try.func82, Try.ntmps82
      go_wp2_with ((go_at_call 73; refine (within_any _ _ _ _).mono ?_; rintro e w' ⟨rfl, rfl⟩))
      go_ret
      exact ⟨ret_bool (by rw [HK.out]; simp [h3]), (Below.refl _ _).alloc (Nat.le_refl _) _⟩

theorem everyH_any (A : Option Addr) (c : Nat) (l : List Head) (w : World) (hr : RH w w.heap.size A l) (hl : l.length ≤ maxLen) :
    Calls Try.prog 81 #[.slice A l.length c, .func (.func 82) #[] #[]] w fun e w' => e = .returned (.bool (l.all Head.ok)) ∧ Below w.heap.size w w' := by
  unfold maxLen at hl
  go_enter Try.func81, Try.ntmps81
  go_wp2
  go_loopw [9] (fun i wr => ∃ k : Nat, k ≤ l.length ∧ i = .int .i64 k ∧ (l.take k).all Head.ok = true ∧ Below w.heap.size w wr) (fun i _ => l.length - (intOf i).toNat)
  case atStart => exact ⟨0, Nat.zero_le _, rfl, rfl, Below.refl _ _⟩
  case round =>
    obtain ⟨k, hk, rfl, hall, hB⟩ := hrel
    have Hall := Lib.hid hall
    clear hall
    by_cases hlt : k < l.length
    · obtain ⟨x, hx⟩ := getElem?_lt hlt
      obtain ⟨b, off, A', c', rfl, hb, c0, c1, c2, hg1, hg2, hg⟩ := (hr.below hB (Nat.le_refl _)).at_ hx
      have Hx := Lib.hid hx
      have hbz := hB.size
      have hg' : RS encG 5 (wr.alloc (.cells #[.int .i64 x.area, .int .i64 x.bears, .slice A' x.guys.length c'] 43)) (wr.alloc (.cells #[.int .i64 x.area, .int .i64 x.bears, .slice A' x.guys.length c'] 43)).heap.size A' x.guys := (hg.more hbz).to ((Below.refl _ wr).alloc (Nat.le_refl _) _)
      clear hx hr
      cases h1 : x.ok
      all_goals
        have hv := fun W h => headValid_any x A' c' W h hg2 hg1
        rw [h1] at hv
        have Hv := Lib.hid hv
        clear hv
        go_wp2_with (go_at_call 82; refine (Hv.out _ hg').mono ?_; rintro e w1 ⟨rfl, hb1⟩)
      · go_ret
        exact ⟨ret_bool (all_bad Hx.out h1).symm, (hB.alloc hbz _).trans (hb1.mono (by simp; omega))⟩
      · go_roundw
        case rel => exact ⟨k + 1, by omega, by go_num, all_snoc Hx.out Hall.out h1, (hB.alloc hbz _).trans (hb1.mono (by simp; omega))⟩
        case measure => simp [intOf]; omega
    · go_wp2
      go_ret
      exact ⟨ret_bool (all_end hlt Hall.out).symm, hB⟩


/-- ErrArg, if a tent is not valid. -/
def tentE (t : List Head) : Int := if tentOk t then 0 else 1
theorem checkTent_any (A : Option Addr) (c : Nat) (t : List Head) (w : World) (hr : RH w w.heap.size A t) (hl : t.length ≤ maxLen) :
    Calls Try.prog 44 #[.slice A t.length c] w fun e w' => e = .returned (.int .i64 (tentE t)) ∧ Below w.heap.size w w' := by
  have hl' := hl
  unfold maxLen at hl'
  have HK : Hid (tentE t = if (decide (1 ≤ t.length) && (decide (t.length ≤ 12) && t.all Head.ok)) = true then 0 else 1) := rfl
  by_cases h1 : t.length < 1
  · go_enter Try.func44, Try.ntmps44
    go_wp2
    go_ret
    exact ⟨ret_int (by rw [HK.out, if_neg (by simp; omega)]), Below.refl _ _⟩
  · by_cases h2 : 12 < t.length
    · go_enter Try.func44, Try.ntmps44
      go_wp2
      go_ret
      exact ⟨ret_int (by rw [HK.out, if_neg (by simp; omega)]), Below.refl _ _⟩
    · have hv := fun W h => everyH_any A c t W h hl
      cases h3 : t.all Head.ok
      all_goals
        rw [h3] at hv
        have Hv := Lib.hid hv
        clear hv
        go_enter Try.func44, Try.ntmps44
        go_wp2_with ((go_at_call 81; refine (Hv.out _ hr).mono ?_; rintro e w1 ⟨rfl, hb1⟩; obtain ⟨hc1, hf1⟩ := bcell hb1))
        go_ret
      · exact ⟨ret_int (by rw [HK.out, if_neg (by simp [h3])]), hb1⟩
      · exact ⟨ret_int (by rw [HK.out, if_pos (by simp [h3]; omega)]), hb1⟩

def orM : List Int → Int
  | [] => 0
  | x :: xs => if x = 0 then orM xs else x
theorem or_any (b c : Nat) (l : List Int) (w : World) (hr : RS encI 1 w w.heap.size (some ⟨b, 0, none⟩) l) (hl : l.length ≤ 100) :
    Calls Try.prog 89 #[.slice (some ⟨b, 0, none⟩) l.length c] w fun e w' => e = .returned (.int .i64 (orM l)) ∧ Below w.heap.size w w' := by
  go_enter Try.func89, Try.ntmps89
  go_wp2
  go_loop [8] (fun i => ∃ k : Nat, k ≤ l.length ∧ i = .int .i64 k ∧ orM (l.drop k) = orM l) (fun i => l.length - (intOf i).toNat)
  case atStart => exact ⟨0, Nat.zero_le _, rfl, rfl⟩
  case round =>
    obtain ⟨k, hk, rfl, ho⟩ := hrel
    have Ho := Lib.hid ho
    clear ho
    by_cases hlt : k < l.length
    · obtain ⟨x, hx⟩ := getElem?_lt hlt
      obtain ⟨b', off, hA, hb, hc⟩ := hr.at_ hx
      obtain ⟨rfl, rfl⟩ : b = b' ∧ 0 = off := by simpa using hA
      have c0 := hc 0 _ rfl
      simp only [Nat.add_zero, Nat.mul_one, Nat.zero_add] at c0
      have Hx := Lib.hid hx
      clear hx hc hA hr
      by_cases h0 : x = 0
      · have e0 : (x != 0) = false := by simpa using h0
        have H0 := Lib.hid h0
        clear h0
        go_wp2
        go_round
        case rel => exact ⟨k + 1, by omega, by go_num, by rw [← Ho.out, drop_of_get Hx.out, orM, if_pos H0.out]⟩
        case measure => simp [intOf]; omega
      · have e0 : (x != 0) = true := by simpa using h0
        go_wp2
        go_ret
        exact ⟨ret_int (by rw [← Ho.out, drop_of_get Hx.out, orM, if_neg h0]), Below.refl _ _⟩
    · go_wp2
      go_ret
      exact ⟨ret_int (by rw [← Ho.out, List.drop_of_length_le (by omega)]; rfl), Below.refl _ _⟩
theorem or_made (W : World) (e : Nat) (l : List Int) : RS encI 1 (W.alloc (.cells (l.map (Value.int .i64)).toArray e)) (W.alloc (.cells (l.map (Value.int .i64)).toArray e)).heap.size (some ⟨W.heap.size, 0, none⟩) l := by
  refine .inr ⟨W.heap.size, 0, rfl, by simp, fun k x hk j v hv => ?_⟩
  have hb := (Blk.new W e (l.map (Value.int .i64)).toArray).cell (0 + k * 1 + j)
  rw [hb]
  cases j with
  | zero =>
    simp [encI] at hv
    simp [hk, hv]
  | succ j => simp [encI] at hv

/-- The error of tests and a tent, and of what comes behind. -/
def tentedE (l : List Tst) (t : List Head) : Int := orM [testsFault l, tentE t]
theorem checkTented_any (A : Option Addr) (c : Nat) (l : List Tst) (A' : Option Addr) (c' : Nat) (t : List Head) (w : World) (hr : RS encT 4 w w.heap.size A l) (hl : l.length ≤ maxLen) (ht : RH w w.heap.size A' t) (htl : t.length ≤ maxLen) :
    Calls Try.prog 85 #[.slice A l.length c, .slice A' t.length c'] w fun e w' => e = .returned (.int .i64 (firstE (tentedE l t) true l)) ∧ Below w.heap.size w w' := by
  have Hok : Hid (tentedE l t = 0 → ∀ x ∈ l, x.ok = true) := by
    intro h
    refine (testsFault_ok ?_).1
    unfold tentedE orM at h
    split at h
    · assumption
    · rename_i h1; exact absurd h h1
  go_enter Try.func85, Try.ntmps85
  go_wp2_with (first | (go_at_call 45; refine (checkTests_any A c l _ hr hl).mono ?_; rintro e w1 ⟨rfl, hb1⟩; obtain ⟨hc1, hf1⟩ := bcell hb1) | (go_at_call 44; refine (checkTent_any A' c' t _ (ht.to hb1) htl).mono ?_; rintro e w2 ⟨rfl, hb2⟩; obtain ⟨hc2, hf2⟩ := bcell hb2) | (go_at_call 89; refine (or_any w2.heap.size _ [testsFault l, tentE t] _ (or_made _ _ _) (by simp)).mono ?_; rintro e w3 ⟨rfl, hb3⟩) | (go_at_call 88; refine (firstError_any (tentedE l t) true A c l _ (((hr.to hb1).to hb2).to (((Below.refl _ _).alloc (Nat.le_refl _) _).trans (hb3.mono (by simp)))) hl Hok.out).mono ?_; rintro e w4 ⟨rfl, hb4⟩))
  go_ret
  exact ⟨rfl, sh_next (sh_next (sh_next hb1 hb2) (((Below.refl _ _).alloc (Nat.le_refl _) _).trans (hb3.mono (by simp)))) hb4⟩
end Go.Proofs.Ytibaindlbpfecaa

namespace Go.Proofs.Ytibaindlbpfecaa
open Go.RowKit

def headB (t : List Head) (head : Int) : Bool := inB head 0 ((t.length : Int) - 1)
theorem tentedE_zero {l : List Tst} {t : List Head} (h : tentedE l t = 0) : testsFault l = 0 ∧ tentOk t = true := by
  unfold tentedE orM at h
  split at h
  · rename_i h1
    refine ⟨h1, ?_⟩
    unfold orM at h
    split at h
    · rename_i h2
      unfold tentE at h2
      split at h2
      · assumption
      · simp at h2
    · rename_i h2; exact absurd h h2
  · rename_i h1; exact absurd h h1
theorem tentedE_ok {l : List Tst} {t : List Head} (h : tentedE l t = 0) : (∀ x ∈ l, x.ok = true) ∧ ∀ x ∈ t, x.ok = true := by
  obtain ⟨h1, h2⟩ := tentedE_zero h
  refine ⟨(testsFault_ok h1).1, ?_⟩
  simp [tentOk] at h2
  exact h2.2.2

/-- The error of what asks for a head. -/
def headE (l : List Tst) (t : List Head) (head : Int) (inr : Bool) : Int := firstE (tentedE l t) (inr && headB t head) l
theorem checkHead_any (A : Option Addr) (c : Nat) (l : List Tst) (A' : Option Addr) (c' : Nat) (t : List Head) (head : Int) (inr : Bool) (w : World) (hr : RS encT 4 w w.heap.size A l) (hl : l.length ≤ maxLen) (ht : RH w w.heap.size A' t) (htl : t.length ≤ maxLen) :
    Calls Try.prog 61 #[.slice A l.length c, .slice A' t.length c', .int .i64 head, .bool inr] w fun e w' => e = .returned (.int .i64 (headE l t head inr)) ∧ Below w.heap.size w w' := by
  have Hok := Lib.hid (fun h => (tentedE_ok (l := l) (t := t) h).1)
  have htl' := htl
  unfold maxLen at htl'
  have HE : Hid (headE l t head inr = firstE (tentedE l t) (inr && headB t head) l) := rfl
  have HB : Hid (headB t head = inB head 0 ((t.length : Int) - 1)) := rfl
  cases inr
  · go_enter Try.func61, Try.ntmps61
    go_wp2_with (first | (go_at_call 45; refine (checkTests_any A c l _ hr hl).mono ?_; rintro e w1 ⟨rfl, hb1⟩; obtain ⟨hc1, hf1⟩ := bcell hb1) | (go_at_call 44; refine (checkTent_any A' c' t _ (ht.to hb1) htl).mono ?_; rintro e w2 ⟨rfl, hb2⟩; obtain ⟨hc2, hf2⟩ := bcell hb2) | (go_at_call 89; refine (or_any w2.heap.size _ [testsFault l, tentE t] _ (or_made _ _ _) (by simp)).mono ?_; rintro e w3 ⟨rfl, hb3⟩) | (go_at_call 88; refine (firstError_any (tentedE l t) false A c l _ (((hr.to hb1).to hb2).to (((Below.refl _ _).alloc (Nat.le_refl _) _).trans (hb3.mono (by simp)))) hl Hok.out).mono ?_; rintro e w4 ⟨rfl, hb4⟩))
    go_ret
    exact ⟨ret_int (by rw [HE.out]; simp), sh_next (sh_next (sh_next hb1 hb2) (((Below.refl _ _).alloc (Nat.le_refl _) _).trans (hb3.mono (by simp)))) hb4⟩
  · go_enter Try.func61, Try.ntmps61
    go_wp2_with (first | (go_at_call 45; refine (checkTests_any A c l _ hr hl).mono ?_; rintro e w1 ⟨rfl, hb1⟩; obtain ⟨hc1, hf1⟩ := bcell hb1) | (go_at_call 44; refine (checkTent_any A' c' t _ (ht.to hb1) htl).mono ?_; rintro e w2 ⟨rfl, hb2⟩; obtain ⟨hc2, hf2⟩ := bcell hb2) | (go_at_call 89; refine (or_any w2.heap.size _ [testsFault l, tentE t] _ (or_made _ _ _) (by simp)).mono ?_; rintro e w3 ⟨rfl, hb3⟩) | (go_at_call 73; refine (within_any _ _ _ _).mono ?_; rintro e w' ⟨rfl, rfl⟩) | (go_at_call 88; refine (firstError_any (tentedE l t) (headB t head) A c l _ (((hr.to hb1).to hb2).to (((Below.refl _ _).alloc (Nat.le_refl _) _).trans (hb3.mono (by simp)))) hl Hok.out).mono ?_; rintro e w4 ⟨rfl, hb4⟩))
    go_ret
    exact ⟨ret_int (by rw [HE.out]; simp), sh_next (sh_next (sh_next hb1 hb2) (((Below.refl _ _).alloc (Nat.le_refl _) _).trans (hb3.mono (by simp)))) hb4⟩
theorem checkHead_val (A : Option Addr) (c : Nat) {l : List Tst} (A' : Option Addr) (c' : Nat) {t : List Head} {head : Int} {inr : Bool} {z : Int} (hE : headE l t head inr = z) (w : World) (hr : RS encT 4 w w.heap.size A l) (hl : l.length ≤ maxLen) (ht : RH w w.heap.size A' t) (htl : t.length ≤ maxLen) :
    Calls Try.prog 61 #[.slice A l.length c, .slice A' t.length c', .int .i64 head, .bool inr] w fun e w' => e = .returned (.int .i64 z) ∧ Below w.heap.size w w' := by
  rw [← hE]; exact checkHead_any A c l A' c' t head inr w hr hl ht htl
theorem headE_zero {l : List Tst} {t : List Head} {head : Int} {inr : Bool} (h : headE l t head inr = 0) : inr = true ∧ (0 ≤ head ∧ head < t.length) ∧ (∀ x ∈ l, x.ok = true) ∧ (∀ x ∈ t, x.ok = true) ∧ fcF l = false := by
  unfold headE firstE at h
  split at h
  · rename_i h0
    split at h
    · rename_i h1
      obtain ⟨a, b⟩ := tentedE_ok h0
      simp only [Bool.and_eq_true] at h1
      have h2 := inB_true.1 h1.2
      refine ⟨h1.1, by omega, a, b, ?_⟩
      unfold agreeE at h
      cases hf : fcF l
      · rfl
      · rw [hf] at h; simp at h
    · simp at h
  · rename_i h0; exact absurd h h0

theorem checkWindF_any (v : Vec) (w : World) : Calls Try.prog 125 #[.agg #[.int .i64 v.x, .int .i64 v.y]] w fun e w' => e = .returned (.bool v.corner) ∧ Below w.heap.size w w' := by
  have sm : Sm 10000 := by unfold Sm; omega
  go_enter Try.func125, Try.ntmps125
  go_wp2_with ((go_at_call 62; refine (inside_any v 10000 _ sm).mono ?_; rintro e w1 ⟨rfl, hb1⟩; obtain ⟨hc1, hf1⟩ := bcell hb1))
  go_ret
  exact ⟨rfl, ((Below.refl _ _).alloc (Nat.le_refl _) _).trans (hb1.mono (by simp))⟩
theorem everyV_any (A : Option Addr) (c : Nat) (l : List Vec) (w : World) (hr : RS encV 2 w w.heap.size A l) (hl : l.length ≤ maxLen) :
    Calls Try.prog 126 #[.slice A l.length c, .func (.func 125) #[] #[]] w fun e w' => e = .returned (.bool (l.all Vec.corner)) ∧ Below w.heap.size w w' := by
  unfold maxLen at hl
  go_enter Try.func126, Try.ntmps126
  go_wp2
  go_loopw [9] (fun i wr => ∃ k : Nat, k ≤ l.length ∧ i = .int .i64 k ∧ (l.take k).all Vec.corner = true ∧ Below w.heap.size w wr) (fun i _ => l.length - (intOf i).toNat)
  case atStart => exact ⟨0, Nat.zero_le _, rfl, rfl, Below.refl _ _⟩
  case round =>
    obtain ⟨k, hk, rfl, hall, hB⟩ := hrel
    have Hall := Lib.hid hall
    clear hall
    by_cases hlt : k < l.length
    · obtain ⟨x, hx⟩ := getElem?_lt hlt
      obtain ⟨b, off, rfl, hb, hc⟩ := (hr.below hB (Nat.le_refl _)).at_ hx
      have c0 := hc 0 _ rfl
      have c1 := hc 1 _ rfl
      have Hx := Lib.hid hx
      have hbz := hB.size
      clear hx hc hr
      simp only [Nat.add_zero] at c0
      cases h1 : x.corner
      all_goals
        have hv := fun W => checkWindF_any x W
        rw [h1] at hv
        have Hv := Lib.hid hv
        clear hv
        go_wp2_with (go_at_call 125; refine (Hv.out _).mono ?_; rintro e w1 ⟨rfl, hb1⟩)
      · go_ret
        exact ⟨ret_bool (all_bad Hx.out h1).symm, (hB.alloc hbz _).trans (hb1.mono (by simp; omega))⟩
      · go_roundw
        case rel => exact ⟨k + 1, by omega, by go_num, all_snoc Hx.out Hall.out h1, (hB.alloc hbz _).trans (hb1.mono (by simp; omega))⟩
        case measure => simp [intOf]; omega
    · go_wp2
      go_ret
      exact ⟨ret_bool (all_end hlt Hall.out).symm, hB⟩


def windE (l : List Vec) : Int := if windOk l then 0 else 1
theorem checkWind_any (A : Option Addr) (c : Nat) (l : List Vec) (w : World) (hr : RS encV 2 w w.heap.size A l) (hl : l.length ≤ maxLen) :
    Calls Try.prog 114 #[.slice A l.length c] w fun e w' => e = .returned (.int .i64 (windE l)) ∧ Below w.heap.size w w' := by
  have hl' := hl
  unfold maxLen at hl'
  have HK : Hid (windE l = if (decide (1 ≤ l.length) && (decide (l.length ≤ 12) && l.all Vec.corner)) = true then 0 else 1) := rfl
  by_cases h1 : l.length < 1
  · go_enter Try.func114, Try.ntmps114
    go_wp2
    go_ret
    exact ⟨ret_int (by rw [HK.out, if_neg (by simp; omega)]), Below.refl _ _⟩
  · by_cases h2 : 12 < l.length
    · go_enter Try.func114, Try.ntmps114
      go_wp2
      go_ret
      exact ⟨ret_int (by rw [HK.out, if_neg (by simp; omega)]), Below.refl _ _⟩
    · have hv := fun W h => everyV_any A c l W h hl
      cases h3 : l.all Vec.corner
      all_goals
        rw [h3] at hv
        have Hv := Lib.hid hv
        clear hv
        go_enter Try.func114, Try.ntmps114
        go_wp2_with ((go_at_call 126; refine (Hv.out _ hr).mono ?_; rintro e w1 ⟨rfl, hb1⟩; obtain ⟨hc1, hf1⟩ := bcell hb1))
        go_ret
      · exact ⟨ret_int (by rw [HK.out, if_neg (by simp [h3])]), hb1⟩
      · exact ⟨ret_int (by rw [HK.out, if_pos (by simp [h3]; omega)]), hb1⟩
def windyE (l : List Tst) (t : List Head) (wind : List Vec) : Int := firstE (orM [testsFault l, tentE t, windE wind]) true l
theorem checkWindy_any (A : Option Addr) (c : Nat) (l : List Tst) (A' : Option Addr) (c' : Nat) (t : List Head) (A2 : Option Addr) (c2 : Nat) (wind : List Vec) (w : World) (hr : RS encT 4 w w.heap.size A l) (hl : l.length ≤ maxLen) (ht : RH w w.heap.size A' t) (htl : t.length ≤ maxLen) (hw : RS encV 2 w w.heap.size A2 wind) (hwl : wind.length ≤ maxLen) :
    Calls Try.prog 80 #[.slice A l.length c, .slice A' t.length c', .slice A2 wind.length c2] w fun e w' => e = .returned (.int .i64 (windyE l t wind)) ∧ Below w.heap.size w w' := by
  have Hok : Hid (orM [testsFault l, tentE t, windE wind] = 0 → ∀ x ∈ l, x.ok = true) := by
    intro h
    refine (testsFault_ok ?_).1
    unfold orM at h
    split at h
    · assumption
    · rename_i h1; exact absurd h h1
  go_enter Try.func80, Try.ntmps80
  go_wp2_with (first | (go_at_call 45; refine (checkTests_any A c l _ hr hl).mono ?_; rintro e w1 ⟨rfl, hb1⟩; obtain ⟨hc1, hf1⟩ := bcell hb1) | (go_at_call 44; refine (checkTent_any A' c' t _ (ht.to hb1) htl).mono ?_; rintro e w2 ⟨rfl, hb2⟩; obtain ⟨hc2, hf2⟩ := bcell hb2) | (go_at_call 114; refine (checkWind_any A2 c2 wind _ ((hw.to hb1).to hb2) hwl).mono ?_; rintro e w5 ⟨rfl, hb5⟩; obtain ⟨hc5, hf5⟩ := bcell hb5) | (go_at_call 89; refine (or_any w5.heap.size _ [testsFault l, tentE t, windE wind] _ (or_made _ _ _) (by simp)).mono ?_; rintro e w3 ⟨rfl, hb3⟩) | (go_at_call 88; refine (firstError_any (orM [testsFault l, tentE t, windE wind]) true A c l _ ((((hr.to hb1).to hb2).to hb5).to (((Below.refl _ _).alloc (Nat.le_refl _) _).trans (hb3.mono (by simp)))) hl Hok.out).mono ?_; rintro e w4 ⟨rfl, hb4⟩))
  go_ret
  exact ⟨rfl, sh_next (sh_next (sh_next (sh_next hb1 hb2) hb5) (((Below.refl _ _).alloc (Nat.le_refl _) _).trans (hb3.mono (by simp)))) hb4⟩
end Go.Proofs.Ytibaindlbpfecaa

namespace Go.Proofs.Ytibaindlbpfecaa
open Go.RowKit
theorem only_drewN {a w : World} {row : Option Nat} (h : a.grownBy w row) (n : Nat) : a.grownBy (w.drewN n) row := ⟨h.os, h.tape, h.output, h.size, h.block⟩
theorem only_drew {a w : World} {row : Option Nat} (h : a.grownBy w row) : a.grownBy w.drew row := ⟨h.os, h.tape, h.output, h.size, h.block⟩
theorem only_alloc {a w : World} {row : Option Nat} (h : a.grownBy w row) (o : Obj) : a.grownBy (w.alloc o) row :=
  ⟨h.os, h.tape, h.output, Nat.le_trans h.size (by simp), fun i hi hne => (Below.heap_alloc w o i (Nat.lt_of_lt_of_le hi h.size)).trans (h.block i hi hne)⟩
theorem only_setCell {a w : World} {g : Nat} (h : a.grownBy w (some g)) {p : Addr} (hp : p.block = g ∨ a.heap.size ≤ p.block) (u : Value) : a.grownBy (w.setCell p u) (some g) :=
  ⟨h.os, h.tape, h.output, by simpa [World.setCell] using h.size, fun i hi hne => (Below.heap_setCell w p u i (by
    rintro rfl
    rcases hp with hp | hp
    · exact hne (by rw [hp])
    · omega)).trans (h.block i hi hne)⟩
theorem only_below {a w w' : World} {row : Option Nat} (h : a.grownBy w row) (hb : Below w.heap.size w w') : a.grownBy w' row :=
  ⟨hb.os.trans h.os, hb.tape.trans h.tape, hb.output.trans h.output, Nat.le_trans h.size hb.size, fun i hi hne => (hb.block i (Nat.lt_of_lt_of_le hi h.size)).trans (h.block i hi hne)⟩
theorem only_append {a w w' : World} {g : Nat} {v : Value} {e sz n : Nat} {xs : List Value} (h : a.grownBy w (some g)) (hown : w.ownsRow a.heap.size e sz v n xs) (hg : w.grownBy w' v.ownBlock) : a.grownBy w' (some g) :=
  ⟨hg.os.trans h.os, hg.tape.trans h.tape, hg.output.trans h.output, Nat.le_trans h.size hg.size, fun i hi hne =>
    (hg.block i (Nat.lt_of_lt_of_le hi h.size) (fun e => by have := (hown.lt i e.symm).1; omega)).trans (h.block i hi hne)⟩
theorem below_of_only {B g : Nat} {a0 a w : World} (hb : Below B a0 a) (h : a.grownBy w (some g)) (hg : B ≤ g) (hB : B ≤ a.heap.size) : Below B a0 w :=
  ⟨h.os.trans hb.os, h.tape.trans hb.tape, h.output.trans hb.output, Nat.le_trans hb.size h.size, fun k hk => (h.block k (by omega) (by simp <;> omega)).trans (hb.block k hk)⟩
theorem RS.only {α : Type} {enc : α → List Value} {sz : Nat} {w w' : World} {B g : Nat} {A : Option Addr} {l : List α} (h : RS enc sz w B A l) (hg : w.grownBy w' (some g)) (hB : B ≤ w.heap.size) (hne : ∀ ad, A = some ad → ad.block ≠ g) : RS enc sz w' B A l := by
  rcases h with rfl | ⟨b, off, rfl, hlt, hc⟩
  · exact .inl rfl
  · have := hne _ rfl
    exact .inr ⟨b, off, rfl, hlt, fun k x hk j v hv => (World.cell?_of_block (hg.block b (by omega) (by simpa using this))).trans (hc k x hk j v hv)⟩
theorem own_fresh {w : World} {B e sz n c : Nat} {A : Option Addr} {xs : List Value} (h : w.ownsRow B e sz (.slice A n c) n xs) : ∀ ad, A = some ad → B ≤ ad.block := by
  rintro ad rfl
  exact (h.lt ad.block rfl).1

theorem app_belowL {B B' e sz n : Nat} {a w w1 : World} {v : Value} {xs : List Value} (h : Below B' a w) (hle : B' ≤ B) (hB : B' ≤ w.heap.size) (hown : w.ownsRow B e sz v n xs) (hg : w.grownBy w1 v.ownBlock) : Below B' a w1 :=
  h.grown hg hB (fun k hk => Nat.le_trans hle (hown.lt k hk).1)
theorem totalG_any (A : Option Addr) (c : Nat) (l : List Guy) (w : World) (hr : RS encG 5 w w.heap.size A l) (hl : l.length ≤ 100) (hd : ∀ g ∈ l, 0 ≤ g.down ∧ g.down ≤ 5000) :
    Calls Try.prog 108 #[.slice A l.length c, .func (.func 109) #[] #[]] w fun e w' => e = .returned (.int .i64 (l.foldl (fun n g => n + g.down) 0)) ∧ Below w.heap.size w w' := by
  have Hd := Lib.hid hd
  clear hd
  go_enter Try.func108, Try.ntmps108
  go_wp2
  go_loopw [5, 10] (fun n i wr => ∃ (k : Nat) (m : Int), k ≤ l.length ∧ i = .int .i64 k ∧ n = .int .i64 m ∧ (l.take k).foldl (fun n g => n + g.down) 0 = m ∧ 0 ≤ m ∧ m ≤ 5000 * k ∧ Below w.heap.size w wr) (fun _ i _ => l.length - (intOf i).toNat)
  case atStart => exact ⟨0, 0, Nat.zero_le _, rfl, rfl, rfl, by omega, by omega, Below.refl _ _⟩
  case round =>
    obtain ⟨k, m, hk, rfl, rfl, hfold, hm1, hm2, hB⟩ := hrel
    have Hfold := Lib.hid hfold
    clear hfold
    have hbz := hB.size
    by_cases hlt : k < l.length
    · obtain ⟨x, hx⟩ := getElem?_lt hlt
      obtain ⟨d1, d2⟩ := Hd.out x (List.mem_of_getElem? hx)
      obtain ⟨b, off, rfl, hb, hc⟩ := (hr.below hB (Nat.le_refl _)).at_ hx
      obtain ⟨c0, c1, c2, c3, c4⟩ := five_cells hc
      have Hx := Lib.hid hx
      clear hx hc hr
      go_wp2_with ((go_at_call 109; refine (presses_any x _).mono ?_; rintro e w1 ⟨rfl, hb1⟩; obtain ⟨hc1, hf1⟩ := bcell hb1))
      refine ⟨⟨k + 1, m + x.down, by omega, by go_num, rfl, by rw [foldl_snoc Hx.out, Hfold.out], by omega, by omega, (hB.alloc hbz _).trans (hb1.mono (by simp <;> omega))⟩, by simp [intOf]; omega⟩
    · go_wp2
      go_ret
      exact ⟨ret_int (by rw [← Hfold.out, foldl_end hlt]), hB⟩

theorem down_any (h : Head) (A : Option Addr) (c : Nat) (w : World) (hr : RS encG 5 w w.heap.size A h.guys) (hh : h.ok = true) :
    Calls Try.prog 76 #[.agg #[.int .i64 h.area, .int .i64 h.bears, .slice A h.guys.length c]] w fun e w' => e = .returned (.int .i64 (downM h)) ∧ Below w.heap.size w w' := by
  have hd := Lib.hid (fun g hg => (Guy.ok_iff.1 (Head.guys_ok hh g hg)).2.2.2.1)
  have hl := Head.guys_le hh
  have hr1 := hr.to ((Below.refl _ w).alloc (Nat.le_refl _) (.cells #[.int .i64 h.area, .int .i64 h.bears, .slice A h.guys.length c] 43))
  clear hr hh
  go_enter Try.func76, Try.ntmps76
  go_wp2_with ((go_at_call 108; refine (totalG_any A c h.guys _ hr1 (by omega) hd.out).mono ?_; rintro e w1 ⟨rfl, hb1⟩; obtain ⟨hc1, hf1⟩ := bcell hb1; have hz1 : w.heap.size < w1.heap.size := (by have := hb1.size; (try simp at this); omega)))
  go_ret
  exact ⟨rfl, ((Below.refl _ _).alloc (Nat.le_refl _) _).trans (hb1.mono (by simp))⟩

theorem infoI : (Try.prog.info? 3).map (fun i => (i.zero, i.size, i.bytes)) = some (some (.int .i64 0), 1, 8) := by kernel_rfl
theorem infoCV : (Try.prog.info? 58).map (fun i => (i.zero, i.size, i.bytes)) = some (some (.agg #[.int .i64 0, .int .i64 0]), 2, 16) := by kernel_rfl

/-- The parts of a head's guys. -/
def partsM (l : List Tst) (h : Head) : List Int := h.guys.map (Guy.part l)
theorem partsM_length {l : List Tst} {h : Head} : (partsM l h).length = h.guys.length := by simp [partsM]
def PartsPost (l : List Tst) (h : Head) (w : World) (e : Ending) (w' : World) : Prop :=
  ∃ A1 c1, e = .returned (.slice A1 h.guys.length c1) ∧ RS encI 1 w' w'.heap.size A1 (partsM l h) ∧ (∀ ad, A1 = some ad → w.heap.size ≤ ad.block) ∧ h.guys.length ≤ c1 ∧ c1 ≤ maxLen ∧ Below w.heap.size w w'
set_option maxRecDepth 100000 in
set_option maxHeartbeats 600000 in
theorem partsOf_any (A : Option Addr) (c : Nat) (l : List Tst) (A' : Option Addr) (c' : Nat) (h : Head) (w : World) (hr : RS encT 4 w w.heap.size A l) (hl : l.length ≤ maxLen) (hok : ∀ x ∈ l, x.ok = true) (hh : h.ok = true) (hg : RS encG 5 w w.heap.size A' h.guys) :
    Calls Try.prog 86 #[.slice A l.length c, .agg #[.int .i64 h.area, .int .i64 h.bears, .slice A' h.guys.length c']] w (PartsPost l h w) := by
  obtain ⟨i0, hi0, hz0, hz1, hz2⟩ := info_parts infoI
  have hgl := Head.guys_le hh
  have Hgs := Lib.hid (Head.guys_ok hh)
  have Hok := Lib.hid hok
  clear hh hok
  go_enter Try.func86, Try.ntmps86
  go_wp2
  go_loopw [5, 11] (fun v i wr => ∃ k : Nat, k ≤ h.guys.length ∧ i = .int .i64 k ∧ wr.ownsRow (w.heap.size + 1) 3 1 v k (((partsM l h).take k).flatMap encI) ∧ Below w.heap.size w wr ∧ w.heap.size < wr.heap.size) (fun _ i _ => h.guys.length - (intOf i).toNat)
  case atStart => exact ⟨0, Nat.zero_le _, rfl, World.ownsRow_nil _ _ _ _, (Below.refl _ _).alloc (Nat.le_refl _) _, by simp⟩
  case round =>
    obtain ⟨k, hk, rfl, hown, hB, hBz⟩ := hrel
    by_cases hlt : k < h.guys.length
    · obtain ⟨g, hgk⟩ := getElem?_lt hlt
      have gok := Lib.hid (Hgs.out g (List.mem_of_getElem? hgk))
      obtain ⟨b, off, rfl, hb, hc⟩ := (hg.below hB (Nat.le_refl _)).at_ hgk
      obtain ⟨c0, c1, c2, c3, c4⟩ := five_cells hc
      have hrr := ((hr.below hB (Nat.le_refl _)).more hB.size).to ((Below.refl _ wr).alloc (Nat.le_refl _) (.cells #[.int .i64 g.x, .int .i64 g.y, .int .i64 g.down, .int .i64 g.soil, .int .i64 g.depth] 45))
      have HF : Hid ((partsM l h)[k]? = some (g.part l)) := by
        show (h.guys.map (Guy.part l))[k]? = _
        rw [List.getElem?_map, hgk]; rfl
      clear hgk hc hg hr
      go_wp2_with fail
      refine (part_any _ _ _ _ g hrr hl Hok.out gok.out).mono ?_
      rintro e w1 ⟨rfl, hb1⟩
      have hown1 := own_below (hown.alloc _) hb1
      have hBw := (hB.alloc (by omega) (.cells #[.int .i64 g.x, .int .i64 g.y, .int .i64 g.down, .int .i64 g.soil, .int .i64 g.depth] 45)).trans (hb1.mono (by simp <;> omega))
      have hy1 := hb1.size
      go_wp2_with (at_builtin; refine wpList_append_own _ rfl _ _ 50 rfl (w.heap.size + 1) 3 i0 (.int .i64 0) 1 8 Try.underlying50 hi0 hz0 hz1 hz2 rfl (by decide) _ _ _ rfl (hown1.alloc _) ⟨w1.heap.size, 0, none⟩ 1 1 [.int .i64 (g.part l)] rfl rfl ?c1 ?c2 ?c3 ?c4 ?c5 ?_)
      case c1 => exact cell_one_new _ _ _
      case c2 => simp [Value.oneCell']
      case c3 => unfold maxLen; omega
      case c4 => omega
      case c5 => simp at hy1 ⊢; omega
      intro v2 w2 hown2 hgrow2 _
      have hB2 := app_belowL (hBw.alloc (by simp at hy1; omega) (.cells #[.int .i64 (g.part l)] 3)) (Nat.le_succ _) (by simp at hy1 ⊢; omega) (hown1.alloc _) hgrow2
      have hy2 := hgrow2.size
      rw [World.size_alloc] at hy2 hy1
      go_wp2
      refine ⟨⟨k + 1, by omega, by go_num, ?_, hB2, by omega⟩, by simp [intOf]; omega⟩
      rw [flat_snoc HF.out]
      exact hown2
    · go_wp2
      obtain ⟨A1, c1, rfl, hc1, hc2⟩ := own_slice hown
      obtain rfl : k = h.guys.length := by omega
      go_ret
      rw [List.take_of_length_le (by rw [partsM_length]; omega)] at hown
      exact ⟨A1, c1, rfl, RS.of_own (enc := encI) (sz := 1) (fun _ => rfl) hown partsM_length.symm, fun ad ha => by have := own_fresh hown ad ha; omega, hc1, hc2, hB⟩
end Go.Proofs.Ytibaindlbpfecaa

namespace Go.Proofs.Ytibaindlbpfecaa
open Go.RowKit

/-- What a measured head is in a slot: its own cells, its guys' slice, its forces' slice. -/
def MeasPost (l : List Tst) (h : Head) (A' : Option Addr) (c' : Nat) (w : World) (e : Ending) (w' : World) : Prop :=
  ∃ A1 c1, e = .returned (.agg #[.int .i64 h.area, .int .i64 h.bears, .slice A' h.guys.length c', .slice A1 h.guys.length c1]) ∧ RS encV 2 w' w'.heap.size A1 (forcesM l h) ∧ h.guys.length ≤ c1 ∧ c1 ≤ maxLen ∧ Below w.heap.size w w'

set_option maxRecDepth 100000 in
set_option maxHeartbeats 2000000 in
theorem measure_any (A : Option Addr) (c : Nat) (l : List Tst) (A' : Option Addr) (c' : Nat) (h : Head) (w : World) (hr : RS encT 4 w w.heap.size A l) (hl : l.length ≤ maxLen) (hok : ∀ x ∈ l, x.ok = true) (hh : h.ok = true) (hg : RS encG 5 w w.heap.size A' h.guys) :
    Calls Try.prog 63 #[.slice A l.length c, .agg #[.int .i64 h.area, .int .i64 h.bears, .slice A' h.guys.length c']] w (MeasPost l h A' c' w) := by
  obtain ⟨i0, hi0, hz0, hz1, hz2⟩ := info_parts infoCV
  have hgl := Head.guys_le hh
  have Hgs := Lib.hid (Head.guys_ok hh)
  have Hh := Lib.hid hh
  have Hok := Lib.hid hok
  have hB3 := (((Below.refl w.heap.size w).alloc (Nat.le_refl _) (.cells #[.int .i64 h.area, .int .i64 h.bears, .slice A' h.guys.length c'] 43)).alloc (by simp) (.cells #[.int .i64 0, .int .i64 0, .slice none 0 0, .slice none 0 0] 125)).alloc (by simp <;> omega) (.cells #[.int .i64 h.area, .int .i64 h.bears, .slice A' h.guys.length c', .slice none 0 0] 125)
  have hr3 := (hr.below hB3 (Nat.le_refl _)).more hB3.size
  have hg3 := (hg.below hB3 (Nat.le_refl _)).more hB3.size
  clear hh hok
  go_enter Try.func63, Try.ntmps63
  go_wp2_with fail
  refine (partsOf_any A c l A' c' h _ hr3 hl Hok.out Hh.out hg3).mono ?_
  rintro e wp ⟨A1, c1, rfl, hp, hpf, hc1, hc2, hbp⟩
  obtain ⟨hcp, hfp⟩ := bcell hbp
  have hyp := hbp.size
  simp only [World.size_alloc] at hyp hpf
  have hBp : Below w.heap.size w wp := hB3.trans (hbp.mono (by simp <;> omega))
  have kh := (((Blk.new w 43 #[.int .i64 h.area, .int .i64 h.bears, .slice A' h.guys.length c']).alloc (.cells #[.int .i64 0, .int .i64 0, .slice none 0 0, .slice none 0 0] 125)).alloc (.cells #[.int .i64 h.area, .int .i64 h.bears, .slice A' h.guys.length c', .slice none 0 0] 125)).below hbp (by simp <;> omega)
  have kr := ((Blk.new (w.alloc (.cells #[.int .i64 h.area, .int .i64 h.bears, .slice A' h.guys.length c'] 43)) 125 #[.int .i64 0, .int .i64 0, .slice none 0 0, .slice none 0 0]).alloc (.cells #[.int .i64 h.area, .int .i64 h.bears, .slice A' h.guys.length c', .slice none 0 0] 125)).below hbp (by simp <;> omega)
  have km := (Blk.new ((w.alloc (.cells #[.int .i64 h.area, .int .i64 h.bears, .slice A' h.guys.length c'] 43)).alloc (.cells #[.int .i64 0, .int .i64 0, .slice none 0 0, .slice none 0 0] 125)) 125 #[.int .i64 h.area, .int .i64 h.bears, .slice A' h.guys.length c', .slice none 0 0]).below hbp (by simp <;> omega)
  simp only [World.size_alloc] at kr km
  have hgw : RS encG 5 wp w.heap.size A' h.guys := hg.below hBp (Nat.le_refl _)
  clear hcp hfp hbp hr3 hg3 hr hg hB3
  go_wp2
  go_loopw [14] (fun i wr => ∃ (k : Nat) (v : Value), k ≤ h.guys.length ∧ i = .int .i64 k ∧ wr.ownsRow wp.heap.size 58 2 v k (((forcesM l h).take k).flatMap encV) ∧ Blk wr (w.heap.size + 1 + 1) 125 #[.int .i64 h.area, .int .i64 h.bears, .slice A' h.guys.length c', v] ∧ wp.grownBy wr (some (w.heap.size + 1 + 1))) (fun i _ => h.guys.length - (intOf i).toNat)
  case atStart => exact ⟨0, .slice none 0 0, Nat.zero_le _, rfl, World.ownsRow_nil _ _ _ _, km, World.grownBy.refl _ _⟩
  case round =>
    obtain ⟨k, v, hk, rfl, hown, hM, hO⟩ := hrel
    have hM0 := hM.cell 0
    have hM1 := hM.cell 1
    have hM2 := hM.cell 2
    have hM3 := hM.cell 3
    have hMf := hM.frozen 3
    have hMz := hM.lt
    simp at hM0 hM1 hM2 hM3
    have hH := kh.grown hO (by simp <;> omega)
    have hH2 := hH.cell 2
    have hHz := hH.lt
    simp at hH2
    by_cases hlt : k < h.guys.length
    · obtain ⟨g, hgk⟩ := getElem?_lt hlt
      have gok := Hgs.out g (List.mem_of_getElem? hgk)
      have gb := force_vb Hok.out gok
      obtain ⟨b, off, rfl, hb, hc⟩ := (hgw.only hO (by omega) (by
        rintro ad rfl e
        rcases hgw with h0 | ⟨b, off, h1, h2, _⟩
        · rw [h0] at hlt; simp at hlt
        · injection h1 with h1; subst h1; simp at e; omega)).at_ hgk
      obtain ⟨c0, c1, c2, c3, c4⟩ := five_cells hc
      have HF : Hid ((forcesM l h)[k]? = some (g.force l)) := by
        show (h.guys.map (Guy.force l))[k]? = _
        rw [List.getElem?_map, hgk]; rfl
      have hpk : (partsM l h)[k]? = some (g.part l) := by
        show (h.guys.map (Guy.part l))[k]? = _
        rw [List.getElem?_map, hgk]; rfl
      obtain ⟨b2, off2, rfl, hb2, hp2⟩ := (hp.only hO (Nat.le_refl _) (fun ad ha e => by have := hpf ad ha; omega)).at_ hpk
      have p0 := hp2 0 _ rfl
      simp only [Nat.add_zero, Nat.mul_one] at p0
      have hOz := hO.size
      have hbz : b < wr.heap.size := by omega
      have gb1 := gb.1
      have gb2 := gb.2
      simp only [Guy.force] at gb1 gb2
      have s1 : Sm (g.part l * g.x) := by unfold Sm; omega
      have s2 : Sm (g.part l * g.y) := by unfold Sm; omega
      clear hgk hc hp2 hpk hp hgw gok gb gb1 gb2 hH kh
      go_wp2
      go_region_law (first | (refine step_append_lies _ (by rfl) _ _ _ (by rfl) wp.heap.size 58 i0 _ 2 16 Try.underlying38 hi0 hz0 hz1 hz2 rfl (by omega) v k _ (by rfl) (hown2.alloc _) ⟨w2.heap.size, 0, none⟩ 1 1 [.int .i64 (g.part l * g.x), .int .i64 (g.part l * g.y)] (by rfl) (by rfl) (World.news_of_block (cs := #[.int .i64 (g.part l * g.x), .int .i64 (g.part l * g.y)]) (t := 58) (fr := (0, 0)) (heap_alloc_new w2 _)) (by simp [Value.oneCell']) (by omega) (by unfold maxLen; omega) (by omega) (by simp <;> omega) (w2.heap.size + 1) (by simp) ?_; intro gg cap w3 hown3 hgrow hat hlt3; have hM' := (hM2.alloc (.cells #[.int .i64 (g.part l * g.x), .int .i64 (g.part l * g.y)] 58)).grown hgrow hgM; have r3 := hM'.cell 3; have rf := hM'.frozen 3; have rz := hM'.lt; simp at r3) | (go_simp; go_at_call 90; refine (pull_any g _).mono ?_; rintro e w1 ⟨rfl, hb1⟩; obtain ⟨hc1, hf1⟩ := bcell hb1; have m1 : w1.cell? ⟨w.heap.size + 1 + 1, 3, none⟩ = some v := (hc1 _ _ hMz).trans hM3; clear hc1 hf1; have hg1 : w.heap.size + 1 + 1 < w1.heap.size := (by have := hb1.size; simp at this; omega); have hh1 : w.heap.size < w1.heap.size := (by omega); have hb1' : b < w1.heap.size := (by have := hb1.size; simp at this; omega)) | (go_simp; go_at_call 91; refine (times_any ⟨g.x, g.y⟩ (g.part l) _ s1 s2).mono ?_; rintro e w2 ⟨rfl, hb2⟩; obtain ⟨hc2, hf2⟩ := bcell hb2; have m2 : w2.cell? ⟨w.heap.size + 1 + 1, 3, none⟩ = some v := (hc2 _ _ hg1).trans m1; clear hc2 hf2; have hg2 : w.heap.size + 1 + 1 < w2.heap.size := (by have := hb2.size; omega); have hown2 := own_below (own_below (w := wr.drew) hown hb1) hb2; have hM2 := (Blk.below (w := wr.drew) hM hb1 hMz).below hb2 hg1; have hz2' : wp.heap.size ≤ w2.heap.size := (by have h1 := hb1.size; have h2 := hb2.size; simp at h1; omega); have hgM : some (w.heap.size + 1 + 1) ≠ v.ownBlock := (fun e => by have := (hown.lt _ e.symm).1; omega)))
      all_goals go_wp2
      all_goals
        refine ⟨⟨k + 1, .slice (some ⟨gg, 0, none⟩) (k + 1) cap, by omega, by go_num, ?_, (show Blk _ _ _ #[_, _, _, _] from by simpa using hM'.set_ 3 _), only_setCell (only_append (only_alloc (only_below (only_below (only_drew hO) hb1) hb2) _) (hown2.alloc _) hgrow) (.inl rfl) _⟩, by simp [intOf]; omega⟩
        rw [flat_snoc HF.out]
        exact ownsRow_setCell_below hown3 (by show w.heap.size + 1 + 1 < _; omega) _
    · have hR := kr.grown hO (by simp <;> omega)
      have hBw := below_of_only hBp hO (by omega) (by omega)
      obtain ⟨A2, c2', rfl, hc3, hc4⟩ := own_slice hown
      obtain rfl : k = h.guys.length := by omega
      rw [List.take_of_length_le (by rw [forcesM_length]; omega)] at hown
      have hR0 := hR.cell 0
      have hR1 := hR.cell 1
      have hR2 := hR.cell 2
      have hR3 := hR.cell 3
      have hRf0 := hR.frozen 0
      have hRf1 := hR.frozen 1
      have hRf2 := hR.frozen 2
      have hRf3 := hR.frozen 3
      have hRz := hR.lt
      simp at hR0 hR1 hR2 hR3
      go_wp2
      have bf := (((hR.set_ 0 (.int .i64 h.area)).set_ 1 (.int .i64 h.bears)).set_ 2 (.slice A' h.guys.length c')).set_ 3 (.slice A2 h.guys.length c2')
      have v0 := bf.cell 0
      have v1 := bf.cell 1
      have v2 := bf.cell 2
      have v3 := bf.cell 3
      simp at v0 v1 v2 v3
      refine bodyPost_ret (v := .agg #[.int .i64 h.area, .int .i64 h.bears, .slice A' h.guys.length c', .slice A2 h.guys.length c2']) (by simp [results, Try.results63, go_sem, v0, v1, v2, v3]) rfl ⟨A2, c2', rfl, ?_, hc3, hc4, ?_⟩
      · refine RS.of_own (enc := encV) (sz := 2) (fun _ => rfl) (base := wp.heap.size) (e := 58) (c := c2') ?_ forcesM_length.symm
        exact ownsRow_setCell_below (ownsRow_setCell_below (ownsRow_setCell_below (ownsRow_setCell_below hown (by show w.heap.size + 1 < _; omega) _) (by show w.heap.size + 1 < _; omega) _) (by show w.heap.size + 1 < _; omega) _) (by show w.heap.size + 1 < _; omega) _
      · exact (((hBw.setCell (by show w.heap.size ≤ w.heap.size + 1; omega) _).setCell (by show w.heap.size ≤ w.heap.size + 1; omega) _).setCell (by show w.heap.size ≤ w.heap.size + 1; omega) _).setCell (by show w.heap.size ≤ w.heap.size + 1; omega) _
end Go.Proofs.Ytibaindlbpfecaa

namespace Go.Proofs.Ytibaindlbpfecaa
open Go.RowKit

theorem pushed_any (h : Head) (A1 A2 : Option Addr) (c1 c2 : Nat) (f : List Vec) (push : Vec) (w : World) (s1 : Sm (h.area * push.x)) (s2 : Sm (h.area * push.y)) :
    Calls Try.prog 100 #[.agg #[.int .i64 h.area, .int .i64 h.bears, .slice A2 h.guys.length c2, .slice A1 f.length c1], .agg #[.int .i64 push.x, .int .i64 push.y]] w fun e w' => e = .returned (.agg #[.int .i64 (push.times h.area).x, .int .i64 (push.times h.area).y]) ∧ Below w.heap.size w w' := by
  go_enter Try.func100, Try.ntmps100
  go_wp2_with ((go_at_call 91; refine (times_any push h.area _ s1 s2).mono ?_; rintro e w1 ⟨rfl, hb1⟩; obtain ⟨hc1, hf1⟩ := bcell hb1; have hz1 : w.heap.size < w1.heap.size := (by have := hb1.size; (try simp at this); omega)))
  have hB := (((Below.refl w.heap.size w).alloc (Nat.le_refl _) (.cells #[.int .i64 h.area, .int .i64 h.bears, .slice A2 h.guys.length c2, .slice A1 f.length c1] 125)).alloc (by simp) (.cells #[.int .i64 push.x, .int .i64 push.y] 58)).alloc (by simp <;> omega) (.cells #[.int .i64 0, .int .i64 0] 58)
  have hK := (Blk.new ((w.alloc (.cells #[.int .i64 h.area, .int .i64 h.bears, .slice A2 h.guys.length c2, .slice A1 f.length c1] 125)).alloc (.cells #[.int .i64 push.x, .int .i64 push.y] 58)) 58 #[.int .i64 0, .int .i64 0]).below hb1 (by simp)
  simp only [World.size_alloc] at hK
  have hKz := hK.lt
  have k0 := hK.cell 0
  have k1 := hK.cell 1
  have f0 := hK.frozen 0
  have f1 := hK.frozen 1
  simp at k0 k1
  have bf := (hK.set_ 0 (.int .i64 (push.times h.area).x)).set_ 1 (.int .i64 (push.times h.area).y)
  have v0 := bf.cell 0
  have v1 := bf.cell 1
  simp at v0 v1
  exact bodyPost_ret (v := .agg #[.int .i64 (push.times h.area).x, .int .i64 (push.times h.area).y]) (by simp [results, Try.results100, go_sem, v0, v1]) rfl ⟨rfl, ((hB.trans (hb1.mono hB.size)).setCell (by show w.heap.size ≤ w.heap.size + 1 + 1; omega) _).setCell (by show w.heap.size ≤ w.heap.size + 1 + 1; omega) _⟩

theorem totalV_any (A : Option Addr) (c : Nat) (f : List Vec) (way : Vec) (w : World) (hr : RS encV 2 w w.heap.size A f) (hl : f.length ≤ 100) (hf : ∀ v ∈ f, VB v 500000) (hw : VB way 1000000) :
    Calls Try.prog 122 #[.slice A f.length c, .func (.func 123) #[.agg #[.int .i64 way.x, .int .i64 way.y]] #[]] w fun e w' => e = .returned (.int .i64 (helpM f way)) ∧ Below w.heap.size w w' := by
  have Hf := Lib.hid hf
  have Hw := Lib.hid hw
  clear hf hw
  go_enter Try.func122, Try.ntmps122
  go_wp2
  go_loopw [5, 10] (fun n i wr => ∃ (k : Nat) (m : Int), k ≤ f.length ∧ i = .int .i64 k ∧ n = .int .i64 m ∧ (f.take k).foldl (fun n v => n + max 0 (-(way.dot v))) 0 = m ∧ 0 ≤ m ∧ m ≤ 1000000000000 * k ∧ Below w.heap.size w wr) (fun _ i _ => f.length - (intOf i).toNat)
  case atStart => exact ⟨0, 0, Nat.zero_le _, rfl, rfl, rfl, by omega, by omega, Below.refl _ _⟩
  case round =>
    obtain ⟨k, m, hk, rfl, rfl, hfold, hm1, hm2, hB⟩ := hrel
    have Hfold := Lib.hid hfold
    clear hfold
    have hbz := hB.size
    by_cases hlt : k < f.length
    · obtain ⟨v, hv⟩ := getElem?_lt hlt
      have vb := Hf.out v (List.mem_of_getElem? hv)
      have db := Hw.out.dot' vb
      obtain ⟨s1, s2⟩ := Hw.out.sm vb (by omega)
      have Hv := Lib.hid hv
      obtain ⟨b, off, rfl, hb, hc⟩ := (hr.below hB (Nat.le_refl _)).at_ hv
      have c0 := hc 0 _ rfl
      have c1 := hc 1 _ rfl
      simp only [Nat.add_zero] at c0
      have x1 : 0 ≤ max 0 (-(way.dot v)) := by omega
      have x2 : max 0 (-(way.dot v)) ≤ 1000000000000 := by omega
      have db' := Lib.hid db
      clear hv hc vb hr db
      go_wp2_with ((go_at_call 123; refine (help_any way v _ (by have := db'.out; omega) s1 s2).mono ?_; rintro e w1 ⟨rfl, hb1⟩; obtain ⟨hc1, hf1⟩ := bcell hb1))
      refine ⟨⟨k + 1, m + max 0 (-(way.dot v)), by omega, by go_num, rfl, by rw [foldl_snoc Hv.out, Hfold.out], by omega, by omega, (hB.alloc hbz _).trans (hb1.mono (by simp <;> omega))⟩, by simp [intOf]; omega⟩
    · go_wp2
      go_ret
      exact ⟨ret_int (by unfold helpM; rw [← Hfold.out, foldl_end hlt]), hB⟩

theorem strength_any (h : Head) (A1 A2 : Option Addr) (c1 c2 : Nat) (f : List Vec) (way : Vec) (w : World) (hr : RS encV 2 w w.heap.size A1 f) (hl : f.length ≤ 100) (hf : ∀ v ∈ f, VB v 500000) (hw : VB way 1000000) :
    Calls Try.prog 103 #[.agg #[.int .i64 h.area, .int .i64 h.bears, .slice A2 h.guys.length c2, .slice A1 f.length c1], .agg #[.int .i64 way.x, .int .i64 way.y]] w fun e w' => e = .returned (.int .i64 (helpM f way)) ∧ Below w.heap.size w w' := by
  have Hf := Lib.hid hf
  have Hw := Lib.hid hw
  have hB := ((Below.refl w.heap.size w).alloc (Nat.le_refl _) (.cells #[.int .i64 h.area, .int .i64 h.bears, .slice A2 h.guys.length c2, .slice A1 f.length c1] 125)).alloc (by simp) (.cells #[.int .i64 way.x, .int .i64 way.y] 58)
  have hr1 := (hr.below hB (Nat.le_refl _)).more hB.size
  clear hf hw
  go_enter Try.func103, Try.ntmps103
  go_wp2_with ((go_at_call 122; refine (totalV_any A1 c1 f way _ hr1 hl Hf.out Hw.out).mono ?_; rintro e w1 ⟨rfl, hb1⟩; obtain ⟨hc1, hf1⟩ := bcell hb1; have hz1 : w.heap.size < w1.heap.size := (by have := hb1.size; (try simp at this); omega)))
  go_ret
  exact ⟨rfl, hB.trans (hb1.mono hB.size)⟩

theorem weakIn_any (h : Head) (A1 A2 : Option Addr) (c1 c2 : Nat) (f : List Vec) (push way : Vec) (w : World) (hr : RS encV 2 w w.heap.size A1 f) (hl : f.length ≤ 100) (hf : ∀ v ∈ f, VB v 500000) (hw : VB way 1000000) (ha : 0 ≤ h.area ∧ h.area ≤ 1000) (hp : VB push 100000000) :
    Calls Try.prog 68 #[.agg #[.int .i64 h.area, .int .i64 h.bears, .slice A2 h.guys.length c2, .slice A1 f.length c1], .agg #[.int .i64 push.x, .int .i64 push.y], .agg #[.int .i64 way.x, .int .i64 way.y]] w fun e w' => e = .returned (.bool (weakInB f (push.times h.area) way)) ∧ Below w.heap.size w w' := by
  have hpt := hp.times (n := h.area) (q := 1000) (by omega)
  obtain ⟨s1, s2⟩ := hw.sm hpt (by omega)
  have p1 : Sm (h.area * push.x) := by have := hpt.1; simp only [Vec.times] at this; unfold Sm; omega
  have p2 : Sm (h.area * push.y) := by have := hpt.2; simp only [Vec.times] at this; unfold Sm; omega
  have HW2 : Hid (weakInB f (push.times h.area) way = decide (helpM f way < way.dot (push.times h.area))) := rfl
  have Hf := Lib.hid hf
  have Hw := Lib.hid hw
  clear hf hw hpt hp
  go_enter Try.func68, Try.ntmps68
  go_wp2
  refine name_world (motive := fun W => Code.wp _ _ _ _ W) _ ?_
  intro W0 hW
  have hWc := hW.cell
  have hWz := hW.size
  have hWb := hW.below (((Below.refl w.heap.size w).alloc (Nat.le_refl _) _).alloc (by simp) _ |>.alloc (by simp <;> omega) _)
  have hr0 := (hr.below hWb (Nat.le_refl _)).more hWb.size
  simp only [World.size_alloc] at hWz
  go_region_held3 (fun w' => (∀ b o, b < W0.heap.size → w'.cell? ⟨b, o, none⟩ = W0.cell? ⟨b, o, none⟩) ∧ Below W0.heap.size W0 w') (first | with_reducible exact sh_refl _ | (with_reducible refine sh_of ?_; with_reducible assumption) | (with_reducible refine sh_alloc ?_ _; with_reducible assumption) | with_reducible exact sh_first _ _)
    (first | (go_at_call 100; go_split_ands; have hS1 : Below W0.heap.size W0 _ := (by with_reducible assumption); refine (pushed_any h A1 A2 c1 c2 f push _ p1 p2).mono ?_; rintro e w1 ⟨rfl, hb1⟩; have hB1 := sh_next hS1 hb1) | (go_at_call 102; go_split_ands; have hS2 : Below W0.heap.size W0 _ := (by with_reducible assumption); refine (dot_any way (push.times h.area) _ s1 s2).mono ?_; rintro e w2 ⟨rfl, hb2⟩; have hB2 := sh_next hS2 hb2) | (go_at_call 103; go_split_ands; have hS3 : Below W0.heap.size W0 _ := (by with_reducible assumption); refine (strength_any h A1 A2 c1 c2 f way _ (hr0.to hS3) hl Hf.out Hw.out).mono ?_; rintro e w3 ⟨rfl, hb3⟩; have hB3 := sh_next hS3 hb3))
  go_wp2
  go_ret
  exact ⟨ret_bool (by rw [HW2.out]), hWb.trans (hB3.mono hWb.size)⟩
end Go.Proofs.Ytibaindlbpfecaa

namespace Go.Proofs.Ytibaindlbpfecaa
open Go.RowKit

def vecZ : Vec := ⟨0, 0⟩
def turnsM (f : List Vec) : List Vec := f.flatMap fun v => [v.turned, v.turned.times (-1)]
/-- The directions that decide, after the forces f, in an array of twenty. -/
def waysL (f : List Vec) : List Vec := [⟨1, 0⟩, ⟨0, 1⟩, ⟨-1, 0⟩, ⟨0, -1⟩] ++ turnsM f ++ List.replicate (16 - 2 * f.length) vecZ
theorem turnsM_length (f : List Vec) : (turnsM f).length = 2 * f.length := by
  induction f with
  | nil => rfl
  | cons a f ih => simp [turnsM] at *; omega
theorem waysL_length {f : List Vec} (h : f.length ≤ 8) : (waysL f).length = 20 := by simp [waysL, turnsM_length]; omega
theorem turnsM_snoc {f : List Vec} {k : Nat} {v : Vec} (h : f[k]? = some v) : turnsM (f.take (k + 1)) = turnsM (f.take k) ++ [v.turned, v.turned.times (-1)] := by
  unfold turnsM; rw [List.take_add_one, h]; simp
theorem set_two {α : Type} (P : List α) (x y z z' : α) (R : List α) (n : Nat) (hn : n = P.length) : ((P ++ z :: z' :: R).set n x).set (n + 1) y = P ++ x :: y :: R := by
  subst hn
  rw [List.set_append_right _ _ (Nat.le_refl _), List.set_append_right _ _ (by omega)]
  simp
theorem waysL_step {f : List Vec} {k : Nat} {v : Vec} (hf : f.length ≤ 8) (h : f[k]? = some v) :
    ((waysL (f.take k)).set (4 + 2 * k) v.turned).set (4 + 2 * k + 1) (v.turned.times (-1)) = waysL (f.take (k + 1)) := by
  have hk := lt_of_getElem? h
  unfold waysL
  rw [turnsM_snoc h, List.length_take, List.length_take, Nat.min_eq_left (by omega), Nat.min_eq_left (by omega), show 16 - 2 * k = (16 - 2 * (k + 1)) + 1 + 1 from by omega, List.replicate_succ, List.replicate_succ,
    set_two _ _ _ _ _ _ _ (by simp [turnsM_length, Nat.min_eq_left (show k ≤ f.length by omega)]; omega)]
  simp
theorem flat_set (L : List Vec) (i : Nat) (v : Vec) (hi : i < L.length) : (L.set i v).flatMap encV = ((L.flatMap encV).set (i * 2) (.int .i64 v.x)).set (i * 2 + 1) (.int .i64 v.y) := by
  induction L generalizing i with
  | nil => simp at hi
  | cons a L ih =>
    cases i with
    | zero => rfl
    | succ i =>
      simp only [List.set_cons_succ, List.flatMap_cons, encV, List.cons_append, List.nil_append]
      rw [ih i (by simpa using hi), show (i + 1) * 2 = i * 2 + 1 + 1 from by omega]
      simp
theorem flat_len2 (L : List Vec) : (L.flatMap encV).length = L.length * 2 := by
  induction L with
  | nil => rfl
  | cons a L ih => simp [encV] at *; omega
theorem blk_set2 {w : World} {g t : Nat} {L : List Vec} (h : Blk w g t (L.flatMap encV).toArray) (i : Nat) (v : Vec) (hi : i < L.length) :
    Blk ((w.setCell ⟨g, i * 2, none⟩ (.int .i64 v.x)).setCell ⟨g, i * 2 + 1, none⟩ (.int .i64 v.y)) g t ((L.set i v).flatMap encV).toArray := by
  have := (h.set_ (i * 2) (.int .i64 v.x)).set_ (i * 2 + 1) (.int .i64 v.y)
  rw [flat_set L i v hi]
  simpa using this

theorem blk_setCells {g t : Nat} : ∀ (vs : List Value) (o : Nat) (w : World) (cs : Array Value), Blk w g t cs → o + vs.length ≤ cs.size →
    Blk (w.setCells g o vs) g t (cs.toList.take o ++ vs ++ cs.toList.drop (o + vs.length)).toArray
  | [], o, w, cs, h, _ => by simpa [World.setCells] using h
  | v :: vs, o, w, cs, h, hl => by
    have h1 := blk_setCells vs (o + 1) _ _ (h.set_ o v) (by simp at hl ⊢; omega)
    unfold World.setCells
    have e : ((cs.setIfInBounds o v).toList.take (o + 1) ++ vs ++ (cs.setIfInBounds o v).toList.drop (o + 1 + vs.length)) = cs.toList.take o ++ v :: vs ++ cs.toList.drop (o + (v :: vs).length) := by
      have hlt : o < cs.toList.length := by simp at hl ⊢; omega
      rw [Array.toList_setIfInBounds, List.take_set, List.drop_set_of_lt (by omega), List.take_succ_eq_append_getElem hlt, List.set_append_right _ _ (by rw [List.length_take]; omega), List.length_take, Nat.min_eq_left (by omega)]
      simp only [Nat.sub_self, List.set_cons_zero, List.append_assoc, List.cons_append, List.nil_append, List.length_cons]
      rw [show o + 1 + vs.length = o + (vs.length + 1) from by omega]
    rw [e] at h1
    exact h1
theorem blk_whole {w : World} {g t : Nat} {cs cells : Array Value} (h : Blk w g t cs) (hs : cells.size = cs.size) : Blk (w.setCells g 0 cells.toList) g t cells := by
  have := blk_setCells cells.toList 0 w cs h (by simp [hs])
  rw [List.take_zero, List.nil_append, List.drop_of_length_le (by simp [hs]), List.append_nil] at this
  simpa using this
theorem setCells_far {g k : Nat} (hk : k ≠ g) : ∀ (vs : List Value) (o : Nat) (w : World), (w.setCells g o vs).heap[k]? = w.heap[k]?
  | [], _, _ => rfl
  | v :: vs, o, w => (setCells_far hk vs (o + 1) _).trans (Below.heap_setCell w ⟨g, o, none⟩ v k hk)
theorem Blk.farCells {w : World} {g g' t : Nat} {cs : Array Value} (h : Blk w g t cs) (hk : g ≠ g') (o : Nat) (vs : List Value) : Blk (w.setCells g' o vs) g t cs := (setCells_far hk vs o w).trans h
theorem below_setCells {B g : Nat} (hg : B ≤ g) : ∀ (vs : List Value) (o : Nat) (a w : World), Below B a w → Below B a (w.setCells g o vs)
  | [], _, _, _, h => h
  | v :: vs, o, a, _, h => below_setCells hg vs (o + 1) a _ (h.setCell (p := ⟨g, o, none⟩) hg v)
theorem Blk.there {w : World} {g t : Nat} {cs : Array Value} (h : Blk w g t cs) {n : Nat} (hn : n ≤ cs.size) : w.there g 0 n := fun j hj => by
  rw [h.cell, h.frozen, Nat.zero_add]
  exact ⟨by rw [Array.getElem?_eq_getElem (by omega)]; rfl, rfl⟩
theorem one_flat (L : List Vec) : (L.flatMap encV).toArray.all (·.oneCell') = true := by
  refine all_oneCell_toArray fun v hv => ?_
  obtain ⟨a, _, h⟩ := List.mem_flatMap.1 hv
  simp only [encV, List.mem_cons, List.not_mem_nil, or_false] at h
  rcases h with rfl | rfl <;> rfl
theorem Blk.two {w : World} {g t : Nat} {L : List Vec} (h : Blk w g t (L.flatMap encV).toArray) (hL : L.length = 20) (i : Nat) (hi : i < 20) :
    (∃ z0 z1, w.cell? ⟨g, i * 2, none⟩ = some z0 ∧ w.cell? ⟨g, i * 2 + 1, none⟩ = some z1) ∧ w.frozen? ⟨g, i * 2, none⟩ = false ∧ w.frozen? ⟨g, i * 2 + 1, none⟩ = false := by
  have key : ∀ X, X < 40 → ∃ z, w.cell? ⟨g, X, none⟩ = some z := fun X hX => ⟨_, (h.cell X).trans (Array.getElem?_eq_getElem (by simp only [List.size_toArray]; rw [flat_len2, hL]; omega))⟩
  obtain ⟨z0, y0⟩ := key (i * 2) (by omega)
  obtain ⟨z1, y1⟩ := key (i * 2 + 1) (by omega)
  exact ⟨⟨z0, z1, y0, y1⟩, h.frozen _, h.frozen _⟩
theorem size177 : (Try.prog.info? 173).map (·.size) = some 40 := by kernel_rfl

set_option maxRecDepth 100000 in
set_option maxHeartbeats 1000000 in
theorem ways_any (h : Head) (A1 A2 : Option Addr) (c1 c2 : Nat) (f : List Vec) (w : World) (hr : RS encV 2 w w.heap.size A1 f) (hl : f.length ≤ 8) (hf : ∀ v ∈ f, VB v 500000) :
    Calls Try.prog 110 #[.agg #[.int .i64 h.area, .int .i64 h.bears, .slice A2 h.guys.length c2, .slice A1 f.length c1]] w fun e w' => e = .returned (.agg ((waysL f).flatMap encV).toArray) ∧ Below w.heap.size w w' := by
  have Hf := Lib.hid hf
  clear hf
  go_enter Try.func110, Try.ntmps110
  go_upto_region 2 with (refine wpList_store_mid rfl 173 _ _ rfl _ 0 ((waysL []).flatMap encV).toArray rfl rfl ?h1 (by kernel_rfl) ?h2 ?_)
  case h2 => exact one_flat _
  case h1 =>
    have := Blk.new ((w.alloc (.cells #[.int .i64 h.area, .int .i64 h.bears, .slice A2 h.guys.length c2, .slice A1 f.length c1] 125)).alloc (.cells ((List.replicate 20 vecZ).flatMap encV).toArray 173)) 173 ((List.replicate 20 vecZ).flatMap encV).toArray
    simp only [World.size_alloc] at this
    exact this.there (by decide)
  have kM0 := ((Blk.new w 125 #[.int .i64 h.area, .int .i64 h.bears, .slice A2 h.guys.length c2, .slice A1 f.length c1]).alloc (.cells ((List.replicate 20 vecZ).flatMap encV).toArray 173)).alloc (.cells ((List.replicate 20 vecZ).flatMap encV).toArray 173)
  have kR0 := (Blk.new (w.alloc (.cells #[.int .i64 h.area, .int .i64 h.bears, .slice A2 h.guys.length c2, .slice A1 f.length c1] 125)) 173 ((List.replicate 20 vecZ).flatMap encV).toArray).alloc (.cells ((List.replicate 20 vecZ).flatMap encV).toArray 173)
  have kW0 := Blk.new ((w.alloc (.cells #[.int .i64 h.area, .int .i64 h.bears, .slice A2 h.guys.length c2, .slice A1 f.length c1] 125)).alloc (.cells ((List.replicate 20 vecZ).flatMap encV).toArray 173)) 173 ((List.replicate 20 vecZ).flatMap encV).toArray
  have hB0 := (((Below.refl w.heap.size w).alloc (Nat.le_refl _) (.cells #[.int .i64 h.area, .int .i64 h.bears, .slice A2 h.guys.length c2, .slice A1 f.length c1] 125)).alloc (by simp) (.cells ((List.replicate 20 vecZ).flatMap encV).toArray 173)).alloc (by simp <;> omega) (.cells ((List.replicate 20 vecZ).flatMap encV).toArray 173)
  simp only [World.size_alloc] at kR0 kW0
  have kM1 := kM0.farCells (g' := w.heap.size + 1 + 1) (by omega) 0 ((waysL []).flatMap encV)
  have kR1 := kR0.farCells (g' := w.heap.size + 1 + 1) (by omega) 0 ((waysL []).flatMap encV)
  have kW1 := blk_whole (cells := ((waysL []).flatMap encV).toArray) kW0 (by decide)
  have hB1 := below_setCells (g := w.heap.size + 1 + 1) (by omega) ((waysL []).flatMap encV) 0 _ _ hB0
  clear kM0 kR0 kW0 hB0
  refine name_world (motive := fun W => Code.wp _ _ _ _ W) _ ?_
  intro W0 hW
  have hWb := hW.below hB1
  have kM := hW.blk kM1
  have kR := hW.blk kR1
  have kW := hW.blk kW1
  clear hW hB1 kM1 kR1 kW1
  have hr0 := (hr.below hWb (Nat.le_refl _)).more hWb.size
  have q0 := kM.cell 0
  have q1 := kM.cell 1
  have q2 := kM.cell 2
  have q3 := kM.cell 3
  have qz := kM.lt
  simp at q0 q1 q2 q3
  go_wp2
  go_loopw [14] (fun i wr => ∃ k : Nat, k ≤ f.length ∧ i = .int .i64 k ∧ Blk wr (w.heap.size + 1 + 1) 173 ((waysL (f.take k)).flatMap encV).toArray ∧ W0.grownBy wr (some (w.heap.size + 1 + 1))) (fun i _ => f.length - (intOf i).toNat)
  case atStart => exact ⟨0, Nat.zero_le _, rfl, kW, World.grownBy.refl _ _⟩
  case round =>
    obtain ⟨k, hk, rfl, hK, hO⟩ := hrel
    have hOz := hO.size
    have kz := hK.lt
    by_cases hlt : k < f.length
    · obtain ⟨v, hv⟩ := getElem?_lt hlt
      have vb := Hf.out v (List.mem_of_getElem? hv)
      have s1 : Sm v.y := by have := vb.2; unfold Sm; omega
      have s2 : Sm (-1 * v.turned.x) := by have := vb.2; simp only [Vec.turned]; unfold Sm; omega
      have s3 : Sm (-1 * v.turned.y) := by have := vb.1; simp only [Vec.turned]; unfold Sm; omega
      have HL : Hid ((waysL (f.take k)).length = 20) := waysL_length (by rw [List.length_take]; omega)
      have hle : (waysL (f.take k)).length = 20 := HL.out
      obtain ⟨b, off, rfl, hb, hc⟩ := (hr0.only hO (Nat.le_refl _) (by
        rintro ad rfl e
        rcases hr with h0 | ⟨b, off, h1, h2, _⟩
        · rw [h0] at hlt; simp at hlt
        · injection h1 with h1; subst h1; simp at e; omega)).at_ hv
      have c0 := hc 0 _ rfl
      have c1 := hc 1 _ rfl
      simp only [Nat.add_zero] at c0
      have hbz : b < wr.heap.size := by omega
      have Hv := Lib.hid hv
      clear hv hc hr0 hr vb
      go_wp2_with fail
      refine (turned_any v _ s1).mono ?_
      rintro e w1 ⟨rfl, hb1⟩
      have hK1 := (hK.alloc (.cells #[.int .i64 v.x, .int .i64 v.y] 58)).below hb1 (by simp; omega)
      have hV1 := (Blk.new wr 58 #[.int .i64 v.x, .int .i64 v.y]).below hb1 (by simp)
      have hy1 := hb1.size
      rw [World.size_alloc] at hy1
      obtain ⟨⟨z0, z1, y0, y1⟩, g0, g1⟩ := hK1.two hle (4 + 2 * k) (by omega)
      have x0 := hV1.cell 0
      have x1 := hV1.cell 1
      simp at x0 x1
      have hne : wr.heap.size ≠ w.heap.size + 1 + 1 := by omega
      have hK2 := blk_set2 hK1 (4 + 2 * k) v.turned (by omega)
      have hV2 := (hV1.far (p := ⟨w.heap.size + 1 + 1, (4 + 2 * k) * 2, none⟩) hne (.int .i64 v.turned.x)).far (p := ⟨w.heap.size + 1 + 1, (4 + 2 * k) * 2 + 1, none⟩) hne (.int .i64 v.turned.y)
      have hO2 := only_setCell (only_setCell (only_below (only_alloc hO (.cells #[.int .i64 v.x, .int .i64 v.y] 58)) hb1) (p := ⟨w.heap.size + 1 + 1, (4 + 2 * k) * 2, none⟩) (.inl rfl) (.int .i64 v.turned.x)) (p := ⟨w.heap.size + 1 + 1, (4 + 2 * k) * 2 + 1, none⟩) (.inl rfl) (.int .i64 v.turned.y)
      have u0 := hV2.cell 0
      have u1 := hV2.cell 1
      simp at u0 u1
      have K2 := Lib.hid hK2
      have O2 := Lib.hid hO2
      clear hK2 hV2 hO2 hK1 hV1 hK
      go_wp2_with fail
      refine (turned_any v _ s1).mono ?_
      rintro e w2 ⟨rfl, hb2⟩
      go_wp2_with fail
      refine (times_any v.turned (-1) _ s2 s3).mono ?_
      rintro e w3 ⟨rfl, hb3⟩
      have hz2 := hb2.size
      have hz3 := hb3.size
      simp only [World.size_setCell] at hz2
      have hK3 := (K2.out.below hb2 (by simp; omega)).below hb3 (by omega)
      obtain ⟨⟨z2, z3, y2, y3⟩, g2, g3⟩ := hK3.two (by simp [hle]) (5 + 2 * k) (by omega)
      have hK4 := blk_set2 hK3 (5 + 2 * k) (v.turned.times (-1)) (by simp [hle]; omega)
      have hO4 := only_setCell (only_setCell (only_below (only_below O2.out hb2) hb3) (p := ⟨w.heap.size + 1 + 1, (5 + 2 * k) * 2, none⟩) (.inl rfl) (.int .i64 (v.turned.times (-1)).x)) (p := ⟨w.heap.size + 1 + 1, (5 + 2 * k) * 2 + 1, none⟩) (.inl rfl) (.int .i64 (v.turned.times (-1)).y)
      rw [show 5 + 2 * k = 4 + 2 * k + 1 from by omega, waysL_step hl Hv.out] at hK4
      rw [show 5 + 2 * k = 4 + 2 * k + 1 from by omega] at hO4
      have K4 := Lib.hid hK4
      have O4 := Lib.hid hO4
      clear hK3 hK4 hO4
      go_wp2
      rw [show 5 + 2 * k = 4 + 2 * k + 1 from by omega]
      exact ⟨⟨k + 1, by omega, by go_num, K4.out, O4.out⟩, by simp [intOf]; omega⟩
    · have hR := kR.grown hO (by simp)
      rw [List.take_of_length_le (by omega)] at hK
      have hBw := below_of_only hWb hO (by omega) (by omega)
      have hz : ((waysL f).flatMap encV).toArray.size = 40 := by simp only [List.size_toArray]; rw [flat_len2, waysL_length hl]
      have hz2 : ((List.replicate 20 vecZ).flatMap encV).toArray.size = 40 := by decide
      go_wp2_with (first | refine wpList_load_row rfl 173 _ rfl _ rfl _ _ _ _ hK Try.underlying173 rfl (size177.trans (congrArg some hz.symm)) ?_ | refine wpList_store_mid rfl 173 _ _ rfl _ 0 ((waysL f).flatMap encV).toArray rfl rfl (hR.there (by omega)) (size177.trans (congrArg some hz.symm)) (one_flat _) ?_)
      have bf := blk_whole (cells := ((waysL f).flatMap encV).toArray) hR (by omega)
      exact bodyPost_ret (v := .agg ((waysL f).flatMap encV).toArray) (results_cell_row Try.results110 _ _ _ _ _ _ _ rfl bf Try.underlying173 rfl (size177.trans (congrArg some hz.symm))) rfl ⟨rfl, below_setCells (by omega) _ 0 _ _ hBw⟩
end Go.Proofs.Ytibaindlbpfecaa
