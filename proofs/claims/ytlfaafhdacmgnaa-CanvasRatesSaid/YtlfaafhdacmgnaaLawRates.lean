/- Rates that agree with tests, as plain mathematics; and the law CanvasRates where it says no early. -/
import Derived.Test.YtlfaafhdacmgnaaLawB
import Derived.Test.YtlfaafhdacmgnaaBase
namespace Go.Proofs.Ytlfaafhdacmgnaa

theorem find1_none_iff {α : Type} {p : α → Bool} : ∀ {l : List α} {k : Nat}, find1 p l k = none → ∀ x ∈ l, p x = false
  | [], _, _, x, hx => by simp at hx
  | y :: ys, k, h, x, hx => by
    rw [find1] at h
    by_cases hp : p y = true
    · rw [if_pos hp] at h; cases h
    · rw [if_neg hp] at h
      rcases List.mem_cons.1 hx with rfl | hx
      · simpa using hp
      · exact find1_none_iff h x hx
theorem fclFrom_none {l : List Tst} : ∀ {r : List Tst} {i : Nat}, fclFrom l r i = none → ∀ a ∈ r, ∀ b ∈ l, clashB a b = false
  | [], _, _, a, ha, _, _ => by simp at ha
  | y :: ys, i, h, a, ha, b, hb => by
    rw [fclFrom] at h
    split at h
    · cases h
    · rename_i hn
      rcases List.mem_cons.1 ha with rfl | ha
      · exact find1_none_iff hn b hb
      · exact fclFrom_none h a ha b hb
theorem no_clash {l : List Tst} (h : fcl l = none) {a b : Tst} (ha : a ∈ l) (hb : b ∈ l) (h1 : a.held = true) (h2 : b.held = false) (h3 : a.soil = b.soil) : a.force * b.depth < b.force * a.depth := by
  have := fclFrom_none h a ha b hb
  simp only [clashB, h1, h2, h3, Bool.true_and, Bool.not_false, decide_true] at this
  have := of_decide_eq_false this
  omega

theorem floor_le {x d m : Int} (hd : 0 < d) (h : x < (m + 1) * d) : x / d ≤ m := by
  have := (Int.ediv_lt_iff_lt_mul hd).2 h
  omega
theorem le_floor {x d m : Int} (hd : 0 < d) (h : m * d ≤ x) : m ≤ x / d := (Int.le_ediv_iff_mul_le hd).2 h
theorem floor_mul {x d : Int} (hd : 0 < d) : x / d * d ≤ x := Int.ediv_mul_le x (by omega)
theorem lt_cdiv {x d m : Int} (hd : 0 < d) (h : m * d < x) : m ≤ cdiv x d - 1 := by
  unfold cdiv
  have : m + 1 ≤ (x + d - 1) / d := le_floor hd (by rw [Int.add_mul, Int.one_mul]; omega)
  omega

/-- What a held test asks of Lo, against what one that broke asks of Hi. -/
theorem held_broke {fa da fb db d : Int} (hda : 0 < da) (hdb : 0 < db) (hd : 0 < d) (h : fa * db < fb * da) : fa * d / da ≤ cdiv (fb * d) db - 1 := by
  refine lt_cdiv hdb ?_
  have h1 : fa * d / da * da ≤ fa * d := floor_mul hda
  have h2 : fa * d / da * da * db ≤ fa * d * db := Int.mul_le_mul_of_nonneg_right h1 (by omega)
  have h3 : fa * db * d < fb * da * d := Int.mul_lt_mul_of_pos_right h hd
  have h4 : fa * d / da * db * da < fb * d * da := by
    calc fa * d / da * db * da = fa * d / da * da * db := by rw [Int.mul_right_comm]
      _ ≤ fa * d * db := h2
      _ = fa * db * d := by rw [Int.mul_right_comm]
      _ < fb * da * d := h3
      _ = fb * d * da := by rw [Int.mul_right_comm]
  exact Int.lt_of_mul_lt_mul_right h4 (by omega)
/-- A rate a/b that a held test agrees with holds at least what it tells. -/
theorem rate_lo {f dt d a b : Int} (hdt : 0 < dt) (hd : 0 ≤ d) (hb : 0 < b) (h : f * b ≤ a * dt) : f * d / dt ≤ a * d / b := by
  refine le_floor hb ?_
  have h1 : f * d / dt * dt ≤ f * d := floor_mul hdt
  have h2 : f * d / dt * dt * b ≤ f * d * b := Int.mul_le_mul_of_nonneg_right h1 (by omega)
  have h3 : f * b * d ≤ a * dt * d := Int.mul_le_mul_of_nonneg_right h hd
  have h4 : f * d / dt * b * dt ≤ a * d * dt := by
    calc f * d / dt * b * dt = f * d / dt * dt * b := by rw [Int.mul_right_comm]
      _ ≤ f * d * b := h2
      _ = f * b * d := by rw [Int.mul_right_comm]
      _ ≤ a * dt * d := h3
      _ = a * d * dt := by rw [Int.mul_right_comm]
  exact Int.le_of_mul_le_mul_right h4 hdt
theorem rate_hi {f dt d a b : Int} (hdt : 0 < dt) (hd : 0 < d) (hb : 0 < b) (h : a * dt < f * b) : a * d / b ≤ cdiv (f * d) dt - 1 := by
  refine lt_cdiv hdt ?_
  have h1 : a * d / b * b ≤ a * d := floor_mul hb
  have h2 : a * d / b * b * dt ≤ a * d * dt := Int.mul_le_mul_of_nonneg_right h1 (by omega)
  have h3 : a * dt * d < f * b * d := Int.mul_lt_mul_of_pos_right h hd
  have h4 : a * d / b * dt * b < f * d * b := by
    calc a * d / b * dt * b = a * d / b * b * dt := by rw [Int.mul_right_comm]
      _ ≤ a * d * dt := h2
      _ = a * dt * d := by rw [Int.mul_right_comm]
      _ < f * b * d := h3
      _ = f * d * b := by rw [Int.mul_right_comm]
  exact Int.lt_of_mul_lt_mul_right h4 (by omega)

theorem fold_lo_le {soil d m : Int} : ∀ (l : List Tst) (r : Int × Int), (∀ x ∈ l, x.soil = soil → x.held = true → x.force * d / x.depth ≤ m) → r.1 ≤ m → (l.foldl (holdsStep soil d) r).1 ≤ m
  | [], _, _, hr => hr
  | x :: xs, r, h, hr => by
    refine fold_lo_le xs _ (fun y hy => h y (by simp [hy])) ?_
    unfold holdsStep
    split
    · rename_i hs
      cases hh : x.held with
      | true => simp; have := h x (by simp) hs hh; omega
      | false => simpa using hr
    · exact hr
theorem fold_hi_ge {soil d m : Int} : ∀ (l : List Tst) (r : Int × Int), (∀ x ∈ l, x.soil = soil → x.held = false → m ≤ cdiv (x.force * d) x.depth - 1) → m ≤ r.2 → m ≤ (l.foldl (holdsStep soil d) r).2
  | [], _, _, hr => hr
  | x :: xs, r, h, hr => by
    refine fold_hi_ge xs _ (fun y hy => h y (by simp [hy])) ?_
    unfold holdsStep
    split
    · rename_i hs
      cases hh : x.held with
      | true => simpa using hr
      | false => simp; have := h x (by simp) hs hh; omega
    · exact hr
theorem holds_min {l : List Tst} {soil d : Int} (hl : ∀ x ∈ l, x.ok = true) (hc : fcl l = none) (h1 : 1 ≤ d) : min (holdsM l soil d).1 10000000 ≤ (holdsM l soil d).2 := by
  refine fold_hi_ge l _ (fun x hx hs hh => ?_) (by simp only; omega)
  obtain ⟨_, ⟨x1, x2⟩, x3, x4⟩ := Tst.ok_iff.1 (hl x hx)
  have : (holdsM l soil d).1 ≤ cdiv (x.force * d) x.depth - 1 := by
    refine fold_lo_le l _ (fun y hy hs' hh' => ?_) ?_
    · obtain ⟨_, ⟨y1, y2⟩, y3, y4⟩ := Tst.ok_iff.1 (hl y hy)
      exact held_broke (by omega) (by omega) (by omega) (no_clash hc hy hx hh' hh (hs'.trans hs.symm))
    · refine lt_cdiv (by omega) ?_
      have := Int.mul_pos (show 0 < x.force by omega) (show 0 < d by omega)
      simp only [Int.zero_mul]; exact this
  omega
def agreeStep (soil a b : Int) (x : Tst) : Bool := decide (x.soil ≠ soil) || (decide (x.force * b ≤ a * x.depth) == x.held)
theorem rate_in {l : List Tst} {soil d a b : Int} (hl : ∀ x ∈ l, x.ok = true) (h1 : 1 ≤ d) (hb : 0 < b) (ha : 0 ≤ a) (hag : l.all (agreeStep soil a b) = true) : (holdsM l soil d).1 ≤ a * d / b ∧ min (a * d / b) 10000000 ≤ (holdsM l soil d).2 := by
  have key : ∀ x ∈ l, x.soil = soil → (decide (x.force * b ≤ a * x.depth)) = x.held := fun x hx hs => by
    have := List.all_eq_true.1 hag x hx
    simp only [agreeStep, hs, ne_eq, not_true_eq_false, decide_false, Bool.false_or, beq_iff_eq] at this
    exact this
  constructor
  · refine fold_lo_le l _ (fun x hx hs hh => ?_) (Int.ediv_nonneg (Int.mul_nonneg ha (by omega)) (by omega))
    obtain ⟨_, ⟨x1, x2⟩, x3, x4⟩ := Tst.ok_iff.1 (hl x hx)
    have := key x hx hs
    rw [hh] at this
    exact rate_lo (by omega) (by omega) hb (of_decide_eq_true this)
  · refine fold_hi_ge l _ (fun x hx hs hh => ?_) (by simp only; omega)
    obtain ⟨_, ⟨x1, x2⟩, x3, x4⟩ := Tst.ok_iff.1 (hl x hx)
    have := key x hx hs
    rw [hh] at this
    have h5 := of_decide_eq_false this
    have := rate_hi (d := d) (show 0 < x.depth by omega) (by omega) hb (show a * x.depth < x.force * b by omega)
    omega
theorem holds_less {l : List Tst} {soil d : Int} {k : Nat} (hk : l.length = k + 1) : (holdsM (l.take k) soil d).1 ≤ (holdsM l soil d).1 ∧ (holdsM l soil d).2 ≤ (holdsM (l.take k) soil d).2 := by
  have hx : l[k]? = some (l[k]'(by omega)) := List.getElem?_eq_getElem (by omega)
  have hl : l = l.take k ++ [l[k]'(by omega)] := by
    have h0 : l.take (k + 1) = l := List.take_of_length_le (by omega)
    rw [List.take_add_one, hx] at h0
    exact h0.symm
  have h1 : holdsM l soil d = holdsStep soil d (holdsM (l.take k) soil d) (l[k]'(by omega)) := by
    conv => lhs; rw [hl]
    unfold holdsM
    rw [List.foldl_append]; rfl
  rw [h1]
  unfold holdsStep
  split
  · split
    · simp only; omega
    · simp only; omega
  · omega
theorem fcl_take {l : List Tst} {k : Nat} (h : fcl l = none) : fcl (l.take k) = none := by
  have key : ∀ (r : List Tst) (i : Nat), (∀ a ∈ r, a ∈ l) → fclFrom (l.take k) r i = none := by
    intro r
    induction r with
    | nil => intro i _; rfl
    | cons a r ih =>
      intro i hr
      rw [fclFrom, find1_none (fun b hb => fclFrom_none h a (hr a (by simp)) b (List.mem_of_mem_take hb))]
      exact ih (i + 1) (fun b hb => hr b (by simp [hb]))
  exact key _ _ (fun a ha => List.mem_of_mem_take ha)
open Go.RowKit

theorem RS.take {α : Type} {enc : α → List Value} {sz B : Nat} {w : World} {A : Option Addr} {l : List α} (h : RS enc sz w B A l) (k : Nat) : RS enc sz w B A (l.take k) := by
  rcases h with rfl | ⟨b, off, hA, hb, hc⟩
  · exact .inl (by simp)
  · refine .inr ⟨b, off, hA, hb, fun i x hx => hc i x ?_⟩
    rw [List.getElem?_take] at hx
    split at hx
    · exact hx
    · cases hx
theorem agree_zero {l : List Tst} (h : agreeE l = 0) : fcl l = none := by
  unfold agreeE fcF at h
  cases hf : fcl l with
  | none => rfl
  | some p => rw [hf] at h; simp at h
theorem holdsE_zero {l : List Tst} {soil depth : Int} (hz : testsFault l = 0) (ha : agreeE l = 0) (h1 : inB soil 0 9 = true) (h2 : inB depth 1 3000 = true) : holdsE l soil depth = 0 := by
  unfold holdsE stakeE firstE
  rw [if_pos hz, h1, h2, ha]; rfl
theorem testsFault_take {l : List Tst} {k : Nat} (h : testsFault l = 0) : testsFault (l.take k) = 0 := by
  obtain ⟨h1, h2⟩ := testsFault_ok h
  unfold testsFault
  rw [if_neg (by rw [List.length_take]; omega), if_pos]
  rw [List.all_eq_true]
  exact fun x hx => h1 x (List.mem_of_mem_take hx)
theorem agree_take {l : List Tst} {k : Nat} (h : agreeE l = 0) : agreeE (l.take k) = 0 := by
  unfold agreeE fcF
  rw [fcl_take (agree_zero h)]; rfl

set_option maxRecDepth 100000 in
set_option maxHeartbeats 1000000 in
theorem rates_not (A : Option Addr) (c : Nat) (l : List Tst) (soil depth n d : Int) (w : World) (hr : RS encT 4 w w.heap.size A l) (hl : l.length ≤ maxLen) (hno : ¬ (testsFault l = 0 ∧ agreeE l = 0 ∧ inB soil 0 9 = true ∧ inB depth 1 3000 = true)) :
    Calls Try.prog 10 #[.slice A l.length c, .int .i64 soil, .int .i64 depth, .int .u16 n, .int .u16 d] w fun e w' => e = .returned (.bool true) ∧ Below w.heap.size w w' := by
  by_cases hz : testsFault l = 0
  · have e1 : (testsFault l != 0) = false := by simpa using hz
    have Hok := Lib.hid (testsFault_ok hz).1
    by_cases ha : agreeE l = 0
    · have e2 : (agreeE l != 0) = false := by simpa using ha
      cases h1 : inB soil 0 9 <;> cases h2 : inB depth 1 3000
      case true.true => exact absurd ⟨hz, ha, h1, h2⟩ hno
      all_goals
        have K1 := Lib.hid h1
        have K2 := Lib.hid h2
        have Hl := Lib.hid hl
        have HZ := Lib.hid hz
        have HA := Lib.hid ha
        clear h1 h2 hno hz ha hl
        go_enter Try.func10, Try.ntmps10
        go_wp2_with (first | (go_at_call 49; refine (testsFault_any A c l _ _ hr Hl.out).mono ?_; rintro e w' ⟨rfl, rfl⟩) | (go_at_call 31; refine (clashing_any A c l _ hr Hl.out Hok.out).mono ?_; rintro e w1 ⟨rfl, hb1⟩; obtain ⟨hc1, hf1⟩ := bcell hb1) | (go_at_call 23; (with_reducible refine (in_val K1.out _).mono ?_); rintro e w' ⟨rfl, rfl⟩) | (go_at_call 23; (with_reducible refine (in_val K2.out _).mono ?_); rintro e w' ⟨rfl, rfl⟩) | (go_at_call 16; refine (wakes_any _).mono ?_; rintro e w2 ⟨rfl, hb2⟩; obtain ⟨hc2, hf2⟩ := bcell hb2))
        go_ret
        exact ⟨rfl, sh_next hb1 hb2⟩
    · have e2 : (agreeE l != 0) = true := by simpa using ha
      have Hl := Lib.hid hl
      have HZ := Lib.hid hz
      have HA := Lib.hid ha
      clear hno hz ha hl
      go_enter Try.func10, Try.ntmps10
      go_wp2_with (first | (go_at_call 49; refine (testsFault_any A c l _ _ hr Hl.out).mono ?_; rintro e w' ⟨rfl, rfl⟩) | (go_at_call 31; refine (clashing_any A c l _ hr Hl.out Hok.out).mono ?_; rintro e w1 ⟨rfl, hb1⟩; obtain ⟨hc1, hf1⟩ := bcell hb1) | (go_at_call 16; refine (wakes_any _).mono ?_; rintro e w2 ⟨rfl, hb2⟩; obtain ⟨hc2, hf2⟩ := bcell hb2))
      go_ret
      exact ⟨rfl, sh_next hb1 hb2⟩
  · have e1 : (testsFault l != 0) = true := by simpa using hz
    have Hl := Lib.hid hl
    have HZ := Lib.hid hz
    clear hno hz hl
    go_enter Try.func10, Try.ntmps10
    go_wp2_with (first | (go_at_call 49; refine (testsFault_any A c l _ _ hr Hl.out).mono ?_; rintro e w' ⟨rfl, rfl⟩) | (go_at_call 16; refine (wakes_any _).mono ?_; rintro e w2 ⟨rfl, hb2⟩; obtain ⟨hc2, hf2⟩ := bcell hb2))
    go_ret
    exact ⟨rfl, hb2⟩
end Go.Proofs.Ytlfaafhdacmgnaa
