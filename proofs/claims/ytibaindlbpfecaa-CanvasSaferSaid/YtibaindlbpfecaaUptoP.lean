import Derived.Test.YtibaindlbpfecaaMeans
import Derived.Test.YtibaindlbpfecaaReaches

namespace Go.Proofs.Ytibaindlbpfecaa
open Go.RowKit

theorem stands_one {l : List Tst} {h : Head} {wind : List Vec} : standsB l [h] wind = true ↔ ∀ p ∈ wind, badB h.area (forcesM l h) p = false := by
  unfold standsB
  rw [List.all_eq_true]
  constructor
  · intro hs; exact headStands_iff.1 (hs h (by simp))
  · intro hs x hx; rw [List.mem_singleton] at hx; subst hx; exact headStands_iff.2 hs
/-- One head of a tent, as a tent of its own. -/
theorem RH.one {w : World} {B : Nat} {A : Option Addr} {t : List Head} (h : RH w B A t) {k : Nat} {x : Head} (hk : t[k]? = some x) : ∃ b off, A = some ⟨b, off, none⟩ ∧ RH w B (some ⟨b, off + k * 3, none⟩) [x] := by
  obtain ⟨b, off, A', c', rfl, hb, x0, x1, x2, hg1, hg2, hg⟩ := h.at_ hk
  refine ⟨b, off, rfl, .inr ⟨b, off + k * 3, rfl, hb, fun j y hj => ?_⟩⟩
  cases j with
  | zero =>
    simp at hj
    subst hj
    exact ⟨A', c', by simpa using x0, by simpa using x1, by simpa using x2, hg1, hg2, hg⟩
  | succ j => simp at hj
theorem tent_one {l : List Tst} {t : List Head} {k : Nat} {x : Head} (h : faultE l t = 0) (hk : t[k]? = some x) : faultE l [x] = 0 := by
  obtain ⟨h1, h2⟩ := testsFault_zero h
  have hx : x.ok = true := by
    simp only [tentOk, Bool.and_eq_true, List.all_eq_true] at h2
    exact h2.2.2 x (List.mem_of_getElem? hk)
  unfold faultE
  rw [if_pos h1, if_pos (by simp [tentOk, hx])]
theorem windy_one {l : List Tst} {t : List Head} {wind : List Vec} {k : Nat} {x : Head} (h : faultE l t = 0) (ha : agreeE l = 0) (hk : t[k]? = some x) (hw : windOk wind = true) : windyE l [x] wind = 0 := by
  rw [windy_eq, if_pos (tent_one h hk), if_pos hw, ha]
theorem windOk_mk {wind : List Vec} (h1 : 1 ≤ wind.length) (h2 : wind.length ≤ 12) (h3 : ∀ v ∈ wind, VB v 10000) : windOk wind = true := by
  simp only [windOk, Bool.and_eq_true, decide_eq_true_eq, List.all_eq_true]
  exact ⟨h1, h2, fun v hv => Vec.corner_iff.2 (h3 v hv)⟩
theorem mod11 {x : Int} (h : -128 ≤ x ∧ x ≤ 127) : -10 ≤ x.tmod 11 ∧ x.tmod 11 ≤ 10 := by
  by_cases h0 : 0 ≤ x
  · rw [Int.tmod_eq_emod_of_nonneg h0]; omega
  · rw [show x = -(-x) from by omega, Int.neg_tmod, Int.tmod_eq_emod_of_nonneg (by omega)]; omega

theorem rs_drew {α : Type} {enc : α → List Value} {sz B : Nat} {w : World} {A : Option Addr} {l : List α} (h : RS enc sz w B A l) : RS enc sz w.drew B A l := h
theorem rmul {r u : Int} (h0 : 0 ≤ r) (h1 : r ≤ 1000) (hu : -10 ≤ u ∧ u ≤ 10) : (-10000 ≤ r * u ∧ r * u ≤ 10000) ∧ IntKind.i64.wrap (r * u) = r * u := by
  have := mulb (p := 1000) (q := 10) (show -1000 ≤ r ∧ r ≤ 1000 by omega) hu
  exact ⟨by omega, IntWalk.i64_in _ (by omega)⟩
theorem askR {l : List Tst} {t : List Head} {k : Nat} {h : Head} {way : Vec} (hf : faultE l t = 0) (ha : agreeE l = 0) (hk : t[k]? = some h) (hv : VB way 10) (hne : ¬ (way.x = 0 ∧ way.y = 0)) : headE l t k (wayIn way) = 0 := by
  have hw : wayIn way = true := by
    rw [wayIn_eq, Vec.corner_iff.2 (hv.mono (by omega)), decide_eq_false hne]; rfl
  have hl := lt_of_getElem? hk
  rw [headE_eq, if_pos hf, hw, if_pos (by simp only [Bool.true_and]; unfold headB; rw [inB_true]; omega), ha]

end Go.Proofs.Ytibaindlbpfecaa
