import Derived.Test.YthelogdgfhfdcaaCan19
namespace Go.Proofs.Ythelogdgfhfdcaa
open Go.RowKit

theorem RS.of_blk {α : Type} {enc : α → List Value} {sz : Nat} (hs : ∀ x, (enc x).length = sz) {w : World} {g t : Nat} {l : List α} (h : Blk w g t (l.flatMap enc).toArray) : RS enc sz w w.heap.size (some ⟨g, 0, none⟩) l := by
  refine .inr ⟨g, 0, rfl, h.lt, fun k x hk j v hv => ?_⟩
  have := h.cell (k * sz + j)
  rw [Nat.zero_add, this]
  simpa using flat_get hs l k x hk j v hv

theorem partIn_any (n : Int) (b : Nat) (whole : Int) (w : World) (hc : w.cell? ⟨b, 0, none⟩ = some (.int .i64 whole)) :
    Calls Try.prog 106 #[.int .i64 n, .pointer (some ⟨b, 0, none⟩)] w fun e w' => e = .returned (.bool (inB n 0 whole)) ∧ w = w' := by
  have hz := World.block_lt_of_cell? w _ hc
  simp at hz
  go_enter Try.func106, Try.ntmps106
  go_wp2_with ((go_at_call 64; refine (within_any _ _ _ _).mono ?_; rintro e w' ⟨rfl, rfl⟩))
  go_ret
  exact ⟨rfl, rfl⟩

theorem everyI_any (A : Option Addr) (c : Nat) (l : List Int) (b : Nat) (whole : Int) (w : World) (hr : RS encI 1 w w.heap.size A l) (hl : l.length ≤ maxLen) (hb : w.cell? ⟨b, 0, none⟩ = some (.int .i64 whole)) :
    Calls Try.prog 107 #[.slice A l.length c, .func (.func 106) #[] #[.pointer (some ⟨b, 0, none⟩)]] w fun e w' => e = .returned (.bool (l.all (inB · 0 whole))) ∧ w = w' := by
  unfold maxLen at hl
  go_enter Try.func107, Try.ntmps107
  go_wp2
  go_loop [9] (fun i => ∃ k : Nat, k ≤ l.length ∧ i = .int .i64 k ∧ (l.take k).all (inB · 0 whole) = true) (fun i => l.length - (intOf i).toNat)
  case atStart => exact ⟨0, Nat.zero_le _, rfl, rfl⟩
  case round =>
    obtain ⟨k, hk, rfl, hall⟩ := hrel
    have Hall := Lib.hid hall
    clear hall
    by_cases hlt : k < l.length
    · obtain ⟨x, hx⟩ := getElem?_lt hlt
      obtain ⟨b', off, rfl, hb', hc⟩ := hr.at_ hx
      have c0 := hc 0 _ rfl
      simp only [Nat.add_zero, Nat.mul_one] at c0
      have Hx := Lib.hid hx
      clear hx hc hr
      cases h1 : inB x 0 whole
      all_goals
        go_wp2_with (go_at_call 106; refine (partIn_any x b whole _ hb).mono ?_; rintro e w1 ⟨rfl, rfl⟩)
      · go_ret
        exact ⟨ret_bool (all_bad Hx.out h1).symm, rfl⟩
      · go_round
        case rel => exact ⟨k + 1, by omega, by go_num, all_snoc Hx.out Hall.out h1⟩
        case measure => simp [intOf]; omega
    · go_wp2
      go_ret
      exact ⟨ret_bool (all_end hlt Hall.out).symm, rfl⟩

def plusStep (a : Vec) (x : Vec × Int) : Vec := a.plus (x.1.times x.2)
/-- What the forces give at their parts, and the push at the whole. -/
def balSum (p : Vec) (f : List Vec) (whole : Int) (parts : List Int) : Vec := (List.zip f parts).foldl plusStep (p.times whole)
def balByB (p : Vec) (f : List Vec) (whole : Int) (parts : List Int) : Bool :=
  inB whole 1 500000000000 && (decide (parts.length = f.length) && (parts.all (inB · 0 whole) && decide (balSum p f whole parts = vecZ)))
theorem sumV_two (a b : Vec) : sumV [a, b] = a.plus b := by simp [sumV, Vec.plus, vecZ]
end Go.Proofs.Ythelogdgfhfdcaa
