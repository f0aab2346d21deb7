import Derived.Test.YthelogdgfhfdcaaLaw2
import Derived.Test.YthelogdgfhfdcaaCan32
import Derived.Test.YthelogdgfhfdcaaCan33
import Derived.Test.YthelogdgfhfdcaaCan5
namespace Go.Proofs.Ythelogdgfhfdcaa
open Go.RowKit
def head4 : Head := ⟨100, 2000, guysM⟩
def f4 : List Vec := [⟨56000, 0⟩, ⟨0, 56000⟩, ⟨-56000, 0⟩, ⟨0, -56000⟩]
theorem wk_forces : forcesM soilM head4 = f4 := by decide +kernel
theorem wk_holds : holdsM soilM 0 700 = (560, 839) := by decide +kernel
theorem wk_stake : stakeE soilM (inB 0 0 9 && inB 700 1 3000) = 0 := by decide +kernel
theorem wk_parts : partsT soilM fourM = [[56, 56, 56, 56]] := by decide +kernel
theorem wk_partsE : partsE soilM fourM = 0 := by decide +kernel
theorem wk_reachE : headE soilM fourM ((0 : Nat) : Int) (wayIn ⟨3, 4⟩) = 0 := by decide +kernel
theorem wk_reach : reachM 100 f4 ⟨3, 4⟩ = 140 := by decide +kernel
theorem wk_balE : headE soilM fourM ((0 : Nat) : Int) (Vec.corner ⟨-300, 100⟩) = 0 := by decide +kernel
theorem wk_bal : findBal (Vec.times ⟨-300, 100⟩ 100) f4 = some (3136000000, [1680000000, 0, 0, 560000000]) := by decide +kernel
theorem wk_balBy : balByB (Vec.times ⟨-300, 100⟩ 100) f4 3136000000 [1680000000, 0, 0, 560000000] = true := by decide +kernel
theorem four_get : fourM[0]? = some head4 := rfl

theorem wk_Holds (A : Option Addr) (c : Nat) (w : World) (hr : RS encT 4 w w.heap.size A soilM) :
    Calls Try.prog 18 #[.slice A soilM.length c, .int .i64 0, .int .i64 700] w fun e w' => e = .returned (.tuple #[.agg #[.int .i64 560, .int .i64 839], .int .i64 0]) ∧ Below w.heap.size w w' := by
  have := Holds_ok A c soilM 0 700 w hr (by decide) wk_stake
  rw [wk_holds] at this
  exact this
def WkParts (w : World) (e : Ending) (w' : World) : Prop := ∃ A1 c1, e = .returned (.tuple #[.slice A1 1 c1, .int .i64 0]) ∧ RR w' w'.heap.size A1 [[56, 56, 56, 56]] ∧ 1 ≤ c1 ∧ c1 ≤ maxLen ∧ Below w.heap.size w w'
theorem wk_Parts (A : Option Addr) (c : Nat) (A' : Option Addr) (c' : Nat) (w : World) (hr : RS encT 4 w w.heap.size A soilM) (ht : RH w w.heap.size A' fourM) :
    Calls Try.prog 29 #[.slice A soilM.length c, .slice A' fourM.length c'] w (WkParts w) := by
  refine (Parts_ok A c soilM A' c' fourM w hr (by decide) ht (by decide) wk_partsE).mono ?_
  rintro e w' ⟨A1, c1, rfl, h1, h2, h3, h4⟩
  rw [wk_parts] at h1
  exact ⟨A1, c1, rfl, h1, h2, h3, h4⟩
theorem wk_Reach (A : Option Addr) (c : Nat) (A' : Option Addr) (c' : Nat) (w : World) (hr : RS encT 4 w w.heap.size A soilM) (ht : RH w w.heap.size A' fourM) :
    Calls Try.prog 51 #[.slice A soilM.length c, .slice A' fourM.length c', .int .i64 0, .agg #[.int .i64 3, .int .i64 4]] w fun e w' => e = .returned (.tuple #[.int .i64 140, .int .i64 0]) ∧ Below w.heap.size w w' := by
  have := Reach_ok A c soilM A' c' fourM 0 head4 four_get ⟨3, 4⟩ f4 wk_forces w hr (by decide) ht (by decide) wk_reachE
  rw [show head4.area = 100 from rfl, wk_reach] at this
  exact this
def WkBal (w : World) (e : Ending) (w' : World) : Prop := ∃ A c, e = .returned (.tuple #[.agg #[.int .i64 3136000000, .slice A 4 c], .int .i64 0]) ∧ RS encI 1 w' w'.heap.size A [1680000000, 0, 0, 560000000] ∧ 4 ≤ c ∧ c ≤ maxLen ∧ Below w.heap.size w w'
theorem wk_Balanced (A : Option Addr) (c : Nat) (A' : Option Addr) (c' : Nat) (w : World) (hr : RS encT 4 w w.heap.size A soilM) (ht : RH w w.heap.size A' fourM) :
    Calls Try.prog 36 #[.slice A soilM.length c, .slice A' fourM.length c', .int .i64 0, .agg #[.int .i64 (-300), .int .i64 100]] w (WkBal w) := by
  refine (Balanced_ok A c soilM A' c' fourM 0 head4 four_get ⟨-300, 100⟩ f4 wk_forces w hr (by decide) ht (by decide) wk_balE).mono ?_
  unfold BalancedPost
  rw [show head4.area = 100 from rfl, wk_bal]
  rintro e w' ⟨A, c, rfl, h1, h2, h3, h4⟩
  exact ⟨A, c, rfl, h1, h2, h3, h4⟩
theorem wk_Prove (A : Option Addr) (c : Nat) (A' : Option Addr) (c' : Nat) (A3 : Option Addr) (c3 : Nat) (w : World) (hr : RS encT 4 w w.heap.size A soilM) (ht : RH w w.heap.size A' fourM) (hp : RS encI 1 w w.heap.size A3 [1680000000, 0, 0, 560000000]) :
    Calls Try.prog 45 #[.slice A soilM.length c, .slice A' fourM.length c', .int .i64 0, .agg #[.int .i64 (-300), .int .i64 100], .agg #[.int .i64 3136000000, .slice A3 4 c3]] w fun e w' => e = .returned (.bool true) ∧ Below w.heap.size w w' := by
  have := ProveBalance_ok A c soilM A' c' fourM 0 head4 four_get ⟨-300, 100⟩ 3136000000 A3 c3 [1680000000, 0, 0, 560000000] f4 wk_forces w hr (by decide) ht (by decide) hp (by decide) wk_balE
  rw [show head4.area = 100 from rfl, wk_balBy] at this
  exact this
theorem wk_ints (A1 A2 : Option Addr) (c1 c2 : Nat) (w : World) (ha : RS encI 1 w w.heap.size A1 [56, 56, 56, 56]) (hb : RS encI 1 w w.heap.size A2 [56, 56, 56, 56]) :
    Calls Try.prog 33 #[.slice A1 4 c1, .slice A2 4 c2] w fun e w' => e = .returned (.bool true) ∧ Below w.heap.size w w' :=
  ints_any A1 A2 c1 c2 [56, 56, 56, 56] [56, 56, 56, 56] w ha hb (by decide) (by decide)
end Go.Proofs.Ythelogdgfhfdcaa
