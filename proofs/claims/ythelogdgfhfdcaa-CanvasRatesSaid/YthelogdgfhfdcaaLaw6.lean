import Derived.Test.YthelogdgfhfdcaaLaw5
import Derived.Test.YthelogdgfhfdcaaRef5
namespace Go.Proofs.Ythelogdgfhfdcaa
open Go.RowKit

def holdsE (l : List Tst) (soil depth : Int) : Int := stakeE l (inB soil 0 9 && inB depth 1 3000)
theorem HoldsAll (A : Option Addr) (c : Nat) (l : List Tst) (soil depth : Int) (w : World) (hr : RS encT 4 w w.heap.size A l) (hl : l.length ≤ maxLen) {lo hi eh : Int} (he : holdsE l soil depth = eh) (h0 : eh = 0 → holdsM l soil depth = (lo, hi)) (h1 : eh ≠ 0 → lo = 0 ∧ hi = 0) :
    Calls Try.prog 18 #[.slice A l.length c, .int .i64 soil, .int .i64 depth] w fun e w' => e = .returned (.tuple #[.agg #[.int .i64 lo, .int .i64 hi], .int .i64 eh]) ∧ Below w.heap.size w w' := by
  by_cases hz : eh = 0
  · have := Holds_ok A c l soil depth w hr hl (he.trans hz)
    rw [h0 hz] at this
    rw [hz]; exact this
  · obtain ⟨rfl, rfl⟩ := h1 hz
    exact Holds_err A c l soil depth eh w hr hl he hz
theorem deepM_le (l : List Tst) (soil force : Int) : 0 ≤ deepM l soil force ∧ deepM l soil force ≤ 3000 := by
  have := deepFrom_spec l soil force 3000 1 (by omega)
  unfold deepM
  rcases this with ⟨h, _⟩ | ⟨h1, h2, _⟩ <;> omega
theorem agree_vals (l : List Tst) : agreeE l = 0 ∨ agreeE l = 9 := by unfold agreeE; split <;> simp
/-- What the program's calls on a stake say, beside what the reference's do. -/
theorem stakes_math (l : List Tst) (soil depth force : Int) :
    (testsFault l ≠ 0 → clashE l = testsFault l ∧ holdsE l soil depth = testsFault l ∧ deepE l soil force = testsFault l ∧ deepV l soil force = 0) ∧
    (testsFault l = 0 → clashE l = (if fclA l < 0 then 7 else 0) ∧ fcI l = (if fclA l < 0 then 0 else fclA l) ∧ fcK l = (if fclA l < 0 then 0 else fclB l) ∧
      holdsE l soil depth = (if (inB soil 0 9 && inB depth 1 3000) = true then agreeE l else 2) ∧
      deepE l soil force = (if (inB soil 0 9 && inB force 0 5000) = true then (if agreeE l = 0 then (if deepM l soil force = 0 then 7 else 0) else agreeE l) else 2) ∧
      deepV l soil force = (if deepE l soil force = 0 then deepM l soil force else 0)) := by
  constructor
  · intro hz
    have h1 : ∀ b, stakeE l b = testsFault l := by intro b; unfold stakeE firstE; rw [if_neg hz]
    refine ⟨by unfold clashE; rw [if_neg hz], h1 _, ?_, ?_⟩
    · unfold deepE; rw [h1, if_neg hz]
    · unfold deepV deepE; rw [h1, if_neg hz, if_neg hz]
  · intro hz
    have h1 : ∀ b, stakeE l b = if b = true then agreeE l else 2 := by intro b; unfold stakeE firstE; rw [if_pos hz]
    have hd : deepE l soil force = (if (inB soil 0 9 && inB force 0 5000) = true then (if agreeE l = 0 then (if deepM l soil force = 0 then 7 else 0) else agreeE l) else 2) := by
      have hdm := deepM_le l soil force
      have hr : deepR l soil force = 3000 ↔ deepM l soil force = 0 := by
        unfold deepR; split <;> omega
      unfold deepE
      rw [h1]
      by_cases hb : (inB soil 0 9 && inB force 0 5000) = true
      · rw [if_pos hb, if_pos hb]
        by_cases ha : agreeE l = 0
        · rw [if_pos ha, if_pos ha]
          by_cases hm : deepM l soil force = 0
          · rw [if_pos (hr.2 hm), if_pos hm]
          · rw [if_neg (fun h => hm (hr.1 h)), if_neg hm]
        · rw [if_neg ha, if_neg ha]
      · rw [if_neg hb, if_neg hb, if_neg (by omega)]
    refine ⟨?_, ?_, ?_, h1 _, hd, ?_⟩
    · unfold clashE fcF fclA; rw [if_pos hz]; cases fcl l <;> simp <;> omega
    · unfold fcI fclA; cases fcl l <;> simp <;> omega
    · unfold fcK fclA fclB; cases fcl l <;> simp <;> omega
    · unfold deepV
      by_cases h0 : deepE l soil force = 0
      · rw [if_pos h0, if_pos h0]
        rw [hd] at h0
        unfold deepR
        split at h0
        · split at h0
          · split at h0
            · omega
            · rename_i h; rw [if_neg h]; omega
          · rename_i h; exact absurd h0 h
        · omega
      · rw [if_neg h0, if_neg h0]
end Go.Proofs.Ythelogdgfhfdcaa
