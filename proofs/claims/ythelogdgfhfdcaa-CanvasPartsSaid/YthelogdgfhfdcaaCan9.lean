import Derived.Test.YthelogdgfhfdcaaCan2
import Derived.Test.YthelogdgfhfdcaaCan6
import Derived.Test.YthelogdgfhfdcaaHeads
namespace Go.Proofs.Ythelogdgfhfdcaa
open Go.RowKit

set_option maxHeartbeats 2000000 in
theorem guyValid_any (g : Guy) (w : World) : Calls Try.prog 97 #[.agg #[.int .i64 g.x, .int .i64 g.y, .int .i64 g.down, .int .i64 g.soil, .int .i64 g.depth]] w fun e w' => e = .returned (.bool g.ok) ∧ Below w.heap.size w w' := by
  have HI : Hid (∀ v : Vec, v.insideB 5000 = (inB v.x (-5000) 5000 && inB v.y (-5000) 5000)) := fun _ => rfl
  have key : ∀ (b1 b2 b3 b4 : Bool) (P : Prop) [Decidable P], Vec.insideB ⟨g.x, g.y⟩ 5000 = b1 → inB g.down 0 5000 = b2 → inB g.soil 0 9 = b3 → inB g.depth 1 3000 = b4 → (P ↔ (g.x ≠ 0 ∨ g.y ≠ 0)) → g.ok = (decide P && (b1 && (b2 && (b3 && b4)))) := by
    intro b1 b2 b3 b4 P _ h1 h2 h3 h4 h5
    have h6 : decide P = (decide (g.x ≠ 0) || decide (g.y ≠ 0)) := by rw [Bool.eq_iff_iff]; simp [h5]
    subst h1 h2 h3 h4
    rw [h6]
    unfold Guy.ok Vec.insideB
    simp only
    generalize inB g.x (-5000) 5000 = a1
    generalize inB g.y (-5000) 5000 = a2
    generalize (decide (g.x ≠ 0) || decide (g.y ≠ 0)) = a3
    generalize inB g.down 0 5000 = a4
    generalize inB g.soil 0 9 = a5
    generalize inB g.depth 1 3000 = a6
    cases a1 <;> cases a2 <;> cases a3 <;> rfl
  have Key := Lib.hid key
  clear key HI
  have sm : Sm 5000 := by unfold Sm; omega
  by_cases hx : g.x = 0 ∧ g.y = 0
  · have e1 : (g.x == 0) = true := by simpa using hx.1
    have e2 : (g.y == 0) = true := by simpa using hx.2
    have HX := Lib.hid hx
    clear hx
    go_enter Try.func97, Try.ntmps97
    go_wp2_with (first | (go_at_call 98; refine (pull_any g _).mono ?_; rintro e w1 ⟨rfl, hb1⟩; obtain ⟨hc1, hf1⟩ := bcell hb1))
    go_ret
    exact ⟨ret_bool (by rw [Key.out _ _ _ _ False rfl rfl rfl rfl (by simp [HX.out])]; rfl), ((Below.refl _ _).alloc (Nat.le_refl _) _).trans (hb1.mono (by simp))⟩
  · have HX := Lib.hid hx
    have ee : (g.x == 0) = false ∨ ((g.x == 0) = true ∧ (g.y == 0) = false) := by simp; omega
    clear hx
    cases h1 : Vec.insideB ⟨g.x, g.y⟩ 5000 <;> cases h2 : inB g.down 0 5000 <;> cases h3 : inB g.soil 0 9 <;> cases h4 : inB g.depth 1 3000 <;> rcases ee with e1 | ⟨e1, e2⟩
    all_goals
      have HK := Lib.hid (Key.out _ _ _ _ True h1 h2 h3 h4 (by simp; have := HX.out; omega))
      go_enter Try.func97, Try.ntmps97
      have tok1 : True := trivial
      go_wp2_with (first | (go_at_call 98; have := tok1; clear this tok1; refine (pull_any g _).mono ?_; rintro e w1 ⟨rfl, hb1⟩; obtain ⟨hc1, hf1⟩ := bcell hb1; have hz1 : w.heap.size < w1.heap.size := (by have := hb1.size; (try simp at this); omega)) | (go_at_call 98; refine (pull_any g _).mono ?_; rintro e w3 ⟨rfl, hb3⟩; obtain ⟨hc3, hf3⟩ := bcell hb3; have hz3 : w.heap.size < w3.heap.size := (by have := hb3.size; (try simp at this); omega)) | (go_at_call 75; refine (inside_any ⟨g.x, g.y⟩ 5000 _ sm).mono ?_; rintro e w2 ⟨rfl, hb2⟩; obtain ⟨hc2, hf2⟩ := bcell hb2; have hz2 : w.heap.size < w2.heap.size := (by have := hb2.size; (try simp at this); omega)) | (go_at_call 61; refine (isSoil_any _ _).mono ?_; rintro e w' ⟨rfl, rfl⟩) | (go_at_call 62; refine (isDepth_any _ _).mono ?_; rintro e w' ⟨rfl, rfl⟩) | (go_at_call 64; refine (within_any _ _ _ _).mono ?_; rintro e w' ⟨rfl, rfl⟩))
      go_ret
      exact ⟨ret_bool (by rw [HK.out]; rfl), (((Below.refl _ _).alloc (Nat.le_refl _) _).trans ((sh_next (sh_next hb1 hb3) hb2).mono (by simp)))⟩

theorem everyG_any (A : Option Addr) (c : Nat) (l : List Guy) (w : World) (hr : RS encG 5 w w.heap.size A l) (hl : l.length ≤ maxLen) :
    Calls Try.prog 96 #[.slice A l.length c, .func (.func 97) #[] #[]] w fun e w' => e = .returned (.bool (l.all Guy.ok)) ∧ Below w.heap.size w w' := by
  unfold maxLen at hl
  go_enter Try.func96, Try.ntmps96
  go_wp2
  go_loopw [9] (fun i wr => ∃ k : Nat, k ≤ l.length ∧ i = .int .i64 k ∧ (l.take k).all Guy.ok = true ∧ Below w.heap.size w wr) (fun i _ => l.length - (intOf i).toNat)
  case atStart => exact ⟨0, Nat.zero_le _, rfl, rfl, Below.refl _ _⟩
  case round =>
    obtain ⟨k, hk, rfl, hall, hB⟩ := hrel
    have Hall := Lib.hid hall
    clear hall
    by_cases hlt : k < l.length
    · obtain ⟨x, hx⟩ := getElem?_lt hlt
      obtain ⟨b, off, rfl, hb, hc⟩ := (hr.below hB (Nat.le_refl _)).at_ hx
      have c0 := hc 0 _ rfl
      have c1 := hc 1 _ rfl
      have c2 := hc 2 _ rfl
      have c3 := hc 3 _ rfl
      have c4 := hc 4 _ rfl
      have Hx := Lib.hid hx
      have hbz := hB.size
      clear hx hc hr
      simp only [Nat.add_zero] at c0
      cases h1 : Guy.ok x
      all_goals
        have hv := fun W => guyValid_any x W
        rw [h1] at hv
        have Hv := Lib.hid hv
        clear hv
        go_wp2_with (go_at_call 97; refine (Hv.out _).mono ?_; rintro e w1 ⟨rfl, hb1⟩)
      · go_ret
        exact ⟨ret_bool (all_bad Hx.out h1).symm, (hB.alloc hbz _).trans (hb1.mono (by simp; omega))⟩
      · go_roundw
        case rel => exact ⟨k + 1, by omega, by go_num, all_snoc Hx.out Hall.out h1, (hB.alloc hbz _).trans (hb1.mono (by simp; omega))⟩
        case measure => simp [intOf]; omega
    · go_wp2
      go_ret
      exact ⟨ret_bool (all_end hlt Hall.out).symm, hB⟩

end Go.Proofs.Ythelogdgfhfdcaa
