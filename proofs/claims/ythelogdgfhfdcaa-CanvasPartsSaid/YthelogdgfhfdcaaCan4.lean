import Derived.Test.YthelogdgfhfdcaaCan3
namespace Go.Proofs.Ythelogdgfhfdcaa
open Go.RowKit

/-- sort.Search over the closure of leastDepth: what the closure answers is told by p; r is the first place with true. -/
theorem searchD_any (n r : Int) (p : Int → Bool) (q1 q2 q3 : Value) (w : World) (hn : 0 ≤ r ∧ r ≤ n ∧ n ≤ 1000000000)
    (h1 : ∀ h, 0 ≤ h → h < r → p h = false) (h2 : ∀ h, r ≤ h → h < n → p h = true)
    (hf : ∀ (h : Int) (W : World) (b : Bool), 0 ≤ h → h < n → Below w.heap.size w W → p h = b → Calls Try.prog 91 #[.int .i64 h, q1, q2, q3] W fun e W' => e = .returned (.bool b) ∧ Below W.heap.size W W') :
    Calls Try.prog 90 #[.int .i64 n, .func (.func 91) #[] #[q1, q2, q3]] w fun e w' => e = .returned (.int .i64 r) ∧ Below w.heap.size w w' := by
  have H1 := Lib.hid h1
  have H2 := Lib.hid h2
  have Hf := Lib.hid hf
  clear h1 h2 hf
  go_enter Try.func90, Try.ntmps90
  go_wp2
  go_loopw [5, 6] (fun i j wr => ∃ a b : Int, i = .int .i64 a ∧ j = .int .i64 b ∧ 0 ≤ a ∧ a ≤ r ∧ r ≤ b ∧ b ≤ n ∧ Below w.heap.size w wr) (fun i j _ => (intOf j - intOf i).toNat)
  case atStart => exact ⟨0, n, rfl, rfl, by omega, by omega, by omega, by omega, Below.refl _ _⟩
  case round =>
    obtain ⟨a, b, rfl, rfl, ha, har, hrb, hbn, hB⟩ := hrel
    by_cases hlt : a < b
    · have hm1 : a ≤ (a + b) / 2 := by omega
      have hm2 : (a + b) / 2 < b := by omega
      by_cases hp : (a + b) / 2 < r
      · have Hv := Lib.hid (fun W hW => Hf.out ((a + b) / 2) W false (by omega) (by omega) hW (H1.out _ (by omega) hp))
        go_wp2_with (go_at_call 91; refine (Hv.out _ hB).mono ?_; rintro e w1 ⟨rfl, hb1⟩)
        refine ⟨⟨(a + b) / 2 + 1, b, rfl, rfl, by omega, by omega, by omega, by omega, hB.trans (hb1.mono hB.size)⟩, by simp [intOf]; omega⟩
      · have Hv := Lib.hid (fun W hW => Hf.out ((a + b) / 2) W true (by omega) (by omega) hW (H2.out _ (by omega) (by omega)))
        go_wp2_with (go_at_call 91; refine (Hv.out _ hB).mono ?_; rintro e w1 ⟨rfl, hb1⟩)
        refine ⟨⟨a, (a + b) / 2, rfl, rfl, by omega, by omega, by omega, by omega, hB.trans (hb1.mono hB.size)⟩, by simp [intOf]; omega⟩
    · go_wp2
      go_ret
      exact ⟨ret_int (by omega), hB⟩
/-- sort.Search over the closure of length: what the closure answers is told by p; r is the first place with true. -/
theorem searchL_any (n r : Int) (p : Int → Bool) (q1 : Value) (w : World) (hn : 0 ≤ r ∧ r ≤ n ∧ n ≤ 1000000000)
    (h1 : ∀ h, 0 ≤ h → h < r → p h = false) (h2 : ∀ h, r ≤ h → h < n → p h = true)
    (hf : ∀ (h : Int) (W : World) (b : Bool), 0 ≤ h → h < n → Below w.heap.size w W → p h = b → Calls Try.prog 127 #[.int .i64 h, q1] W fun e W' => e = .returned (.bool b) ∧ Below W.heap.size W W') :
    Calls Try.prog 90 #[.int .i64 n, .func (.func 127) #[] #[q1]] w fun e w' => e = .returned (.int .i64 r) ∧ Below w.heap.size w w' := by
  have H1 := Lib.hid h1
  have H2 := Lib.hid h2
  have Hf := Lib.hid hf
  clear h1 h2 hf
  go_enter Try.func90, Try.ntmps90
  go_wp2
  go_loopw [5, 6] (fun i j wr => ∃ a b : Int, i = .int .i64 a ∧ j = .int .i64 b ∧ 0 ≤ a ∧ a ≤ r ∧ r ≤ b ∧ b ≤ n ∧ Below w.heap.size w wr) (fun i j _ => (intOf j - intOf i).toNat)
  case atStart => exact ⟨0, n, rfl, rfl, by omega, by omega, by omega, by omega, Below.refl _ _⟩
  case round =>
    obtain ⟨a, b, rfl, rfl, ha, har, hrb, hbn, hB⟩ := hrel
    by_cases hlt : a < b
    · have hm1 : a ≤ (a + b) / 2 := by omega
      have hm2 : (a + b) / 2 < b := by omega
      by_cases hp : (a + b) / 2 < r
      · have Hv := Lib.hid (fun W hW => Hf.out ((a + b) / 2) W false (by omega) (by omega) hW (H1.out _ (by omega) hp))
        go_wp2_with (go_at_call 127; refine (Hv.out _ hB).mono ?_; rintro e w1 ⟨rfl, hb1⟩)
        refine ⟨⟨(a + b) / 2 + 1, b, rfl, rfl, by omega, by omega, by omega, by omega, hB.trans (hb1.mono hB.size)⟩, by simp [intOf]; omega⟩
      · have Hv := Lib.hid (fun W hW => Hf.out ((a + b) / 2) W true (by omega) (by omega) hW (H2.out _ (by omega) (by omega)))
        go_wp2_with (go_at_call 127; refine (Hv.out _ hB).mono ?_; rintro e w1 ⟨rfl, hb1⟩)
        refine ⟨⟨a, (a + b) / 2, rfl, rfl, by omega, by omega, by omega, by omega, hB.trans (hb1.mono hB.size)⟩, by simp [intOf]; omega⟩
    · go_wp2
      go_ret
      exact ⟨ret_int (by omega), hB⟩

theorem leastDepthF_any (A : Option Addr) (c : Nat) (l : List Tst) (soil force above : Int) (w : World) (B : Nat) (hr : RS encT 4 w w.heap.size A l) (hl : l.length ≤ maxLen) (hok : ∀ x ∈ l, x.ok = true)
    (ha : 0 ≤ above ∧ above < 3000) (hB : B + 2 < w.heap.size) (k1 : w.cell? ⟨B, 0, none⟩ = some (.slice A l.length c)) (k2 : w.cell? ⟨B + 1, 0, none⟩ = some (.int .i64 soil)) (k3 : w.cell? ⟨B + 2, 0, none⟩ = some (.int .i64 force)) :
    Calls Try.prog 91 #[.int .i64 above, .pointer (some ⟨B, 0, none⟩), .pointer (some ⟨B + 1, 0, none⟩), .pointer (some ⟨B + 2, 0, none⟩)] w fun e w' => e = .returned (.bool (decide (force ≤ (holdsM l soil (above + 1)).1))) ∧ Below w.heap.size w w' := by
  have z1 : B < w.heap.size := by omega
  have z2 : B + 1 < w.heap.size := by omega
  go_enter Try.func91, Try.ntmps91
  go_wp2
  refine name_world (motive := fun W => Code.wp _ _ _ _ W) _ ?_
  intro W0 hW
  have hWc := hW.cell
  have hWz := hW.size
  have hWb := hW.below (Below.refl w.heap.size w)
  have hr0 : RS encT 4 W0 W0.heap.size A l := by rw [hW.eq.out]; exact hr
  have s1 : IntKind.i64.wrap (above + 1) = above + 1 := IntWalk.i64_in _ (by omega)
  go_region_held3 (fun w' => (∀ b o, b < W0.heap.size → w'.cell? ⟨b, o, none⟩ = W0.cell? ⟨b, o, none⟩) ∧ Below W0.heap.size W0 w') (first | with_reducible exact sh_refl _ | (with_reducible refine sh_of ?_; with_reducible assumption) | (with_reducible refine sh_alloc ?_ _; with_reducible assumption) | with_reducible exact sh_first _ _)
    (first | (go_at_call 63; go_split_ands; have hS1 : Below W0.heap.size W0 _ := (by with_reducible assumption); refine (holds_any A c l _ soil (above + 1) (hr0.to hS1) hl hok (by omega) (by omega)).mono ?_; rintro e w1 ⟨rfl, hb1⟩; have hB1 := sh_next hS1 hb1))
  go_wp2
  go_ret
  exact ⟨rfl, hWb.trans (hB1.mono hWb.size)⟩
end Go.Proofs.Ythelogdgfhfdcaa
