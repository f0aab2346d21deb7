import Derived.Test.YtmhnbchfmddhcaaSureM
import Derived.Test.YtmhnbchfmddhcaaRefG

/- Whether all numbers of a list are in another one; a range within another one, by words. -/
namespace Go.Proofs.Ytmhnbchfmddhcaa
open Go.RowKit Go.Shelf
theorem mem_take_succ {b : List Int} {k : Nat} {x y : Int} (h : b[k]? = some y) : decide (x ∈ b.take (k + 1)) = (decide (x ∈ b.take k) || (x == y)) := by
  rw [take_snoc' h, Bool.eq_iff_iff]
  simp
set_option linter.unusedSimpArgs false in
set_option maxRecDepth 100000 in
set_option maxHeartbeats 8000000 in
theorem within_any (A1 A2 : Option Addr) (c1 c2 : Nat) (a b : List Int) (w : World) (ha : RS encI 1 w w.heap.size A1 a) (hb : RS encI 1 w w.heap.size A2 b) (hal : a.length ≤ 1000) (hbl : b.length ≤ 1000) (hsub : ∀ x ∈ a, x ∈ b) :
    Calls Try.prog 38 #[.slice A1 a.length c1, .slice A2 b.length c2] w fun e w' => e = .returned (.bool true) ∧ Below w.heap.size w w' := by
  have HSUB := Lib.hid hsub
  clear hsub
  have hmx : Try.prog.follows .mixedOrders = true := by kernel_rfl
  go_enter Try.func38, Try.ntmps38
  go_wp2
  go_loopw [5] (fun i wr => ∃ k : Nat, k ≤ a.length ∧ i = .int .i64 k ∧ Below w.heap.size w wr) (fun i _ => a.length - (intOf i).toNat)
  case atStart => exact ⟨0, Nat.zero_le _, rfl, Below.refl _ _⟩
  case round =>
    obtain ⟨i, hi, rfl, hB⟩ := hrel
    obtain ⟨wo, hwo⟩ : ∃ x, x = wr := ⟨_, rfl⟩
    subst hwo
    by_cases hlt : i < a.length
    case neg =>
      obtain rfl : i = a.length := by omega
      go_wp2
      go_ret
      exact ⟨rfl, hB⟩
    case pos =>
      have hltI : (i : Int) < (a.length : Int) := by omega
      have hltD : decide ((i : Int) < (a.length : Int)) = true := decide_eq_true hltI
      obtain ⟨x, hx⟩ := getElem?_lt hlt
      have hxb := HSUB.out x (List.mem_of_getElem? hx)
      obtain ⟨q1, o1, rfl, hq1, hc1⟩ := (ha.below hB (Nat.le_refl _)).at_ hx
      have e1 := hc1 0 _ rfl
      simp only [Nat.add_zero, Nat.mul_one] at e1
      have E1 := Lib.hid e1
      have HXB := Lib.hid hxb
      have HX := Lib.hid hx
      clear hc1 e1 hxb hx
      have hb0 := hb.to hB
      go_wp2
      go_loopw [6, 7] (fun s j wr => ∃ k : Nat, k ≤ b.length ∧ j = .int .i64 k ∧ s = .bool (decide (x ∈ b.take k)) ∧ Below wo.heap.size wo wr) (fun _ j _ => b.length - (intOf j).toNat)
      case atStart => exact ⟨0, Nat.zero_le _, rfl, by simp, Below.refl _ _⟩
      case round =>
        obtain ⟨k, hk, rfl, rfl, hB2⟩ := hrel
        by_cases hkl : k < b.length
        case neg =>
          obtain rfl : k = b.length := by omega
          have hall : decide (x ∈ b.take b.length) = true := by rw [List.take_length]; exact decide_eq_true HXB.out
          rw [hall]
          go_wp2
          go_roundw
          case rel => exact ⟨i + 1, by omega, by go_num, hB.trans (hB2.mono hB.size)⟩
          case measure => simp [intOf]; omega
        case pos =>
          have hklI : (k : Int) < (b.length : Int) := by omega
          obtain ⟨y, hy⟩ := getElem?_lt hkl
          have HS := Lib.hid (mem_take_succ (x := x) hy)
          obtain ⟨q2, o2, hA2, hq2, hc2⟩ := (hb0.to hB2).at_ hy
          subst hA2
          have e2 := hc2 0 _ rfl
          simp only [Nat.add_zero, Nat.mul_one] at e2
          have e1 := cell_after hB2 E1.out
          have HY := Lib.hid hy
          clear hc2 hy
          obtain ⟨d, hd⟩ : ∃ d, decide (x ∈ b.take k) = d := ⟨_, rfl⟩
          rw [hd] at HS
          rw [hd]
          clear hd
          cases d
          · go_upto_region 8 with fail
            refine name_world (motive := fun W => Code.wp _ _ _ _ W) _ ?_
            intro W0 hW
            have hWc := hW.cell
            have hWz := hW.size
            have hWb := hW.below (hB2)
            have k1 := cell_after (hW.below (Below.refl _ _)) e1
            have k2 := cell_after (hW.below (Below.refl _ _)) e2
            clear hW hWc hWz e1 e2
            refine (wpIn_wide (n := 9)).1 ?_
            have hLast := trivial
            refine region_rest (S := (fun w' => w'.cell? ⟨q1, o1 + i, none⟩ = some (.int .i64 x) ∧ w'.cell? ⟨q2, o2 + k, none⟩ = some (.int .i64 y) ∧ Below W0.heap.size W0 w')) hmx ?_ (fun hHeld => ?_)
            · exact ⟨k1, k2, (Below.refl W0.heap.size W0).drew⟩
            change RestIn _ _ _ _ _ _ _ 13 #[false, false, false, false, false, false, false, false, false, false, false, false, false] _ (World.drew _)
            refine rest_take (i := 0) (v := _) all_wide (noDefers_of (by kernel_rfl)) rfl (by kernel_rfl) (by kernel_rfl) (by kernel_rfl) (fun _ _ _ h => h) (Or.inl ⟨by rfl, by intro w hSw; clear hSw; go_simp; first | done | with_reducible rfl⟩) hHeld ?_
            change RestIn _ _ _ _ _ _ _ 12 #[true, false, false, false, false, false, false, false, false, false, false, false, false] _ _
            try simp only [Act.put, List.setIfInBounds_toArray, List.set_cons_zero, List.set_cons_succ, List.getElem_toArray, List.getElem_cons_zero, List.getElem_cons_succ]
            refine rest_take (i := 1) (v := _) all_wide (noDefers_of (by kernel_rfl)) rfl (by kernel_rfl) (by kernel_rfl) (by kernel_rfl) (fun _ _ _ h => h) (Or.inl ⟨by rfl, by intro w hSw; clear hSw; go_simp; first | done | with_reducible rfl⟩) hHeld ?_
            change RestIn _ _ _ _ _ _ _ 11 #[true, true, false, false, false, false, false, false, false, false, false, false, false] _ _
            try simp only [Act.put, List.setIfInBounds_toArray, List.set_cons_zero, List.set_cons_succ, List.getElem_toArray, List.getElem_cons_zero, List.getElem_cons_succ]
            refine rest_take (i := 2) (v := _) all_wide (noDefers_of (by kernel_rfl)) rfl (by kernel_rfl) (by kernel_rfl) (by kernel_rfl) (fun _ _ _ h => h) (Or.inl ⟨by rfl, by intro w hSw; clear hSw; go_simp; first | done | with_reducible rfl⟩) hHeld ?_
            change RestIn _ _ _ _ _ _ _ 10 #[true, true, true, false, false, false, false, false, false, false, false, false, false] _ _
            try simp only [Act.put, List.setIfInBounds_toArray, List.set_cons_zero, List.set_cons_succ, List.getElem_toArray, List.getElem_cons_zero, List.getElem_cons_succ]
            refine rest_take (i := 3) (v := _) all_wide (noDefers_of (by kernel_rfl)) rfl (by kernel_rfl) (by kernel_rfl) (by kernel_rfl) (fun _ _ _ h => h) (Or.inl ⟨by rfl, by intro w hSw; clear hSw; go_simp; first | done | with_reducible rfl⟩) hHeld ?_
            change RestIn _ _ _ _ _ _ _ 9 #[true, true, true, true, false, false, false, false, false, false, false, false, false] _ _
            try simp only [Act.put, List.setIfInBounds_toArray, List.set_cons_zero, List.set_cons_succ, List.getElem_toArray, List.getElem_cons_zero, List.getElem_cons_succ]
            refine rest_take (i := 4) (v := _) all_wide (noDefers_of (by kernel_rfl)) rfl (by kernel_rfl) (by kernel_rfl) (by kernel_rfl) (fun _ _ _ h => h) (Or.inl ⟨by rfl, by intro w hSw; clear hSw; go_simp; first | done | with_reducible rfl⟩) hHeld ?_
            change RestIn _ _ _ _ _ _ _ 8 #[true, true, true, true, true, false, false, false, false, false, false, false, false] _ _
            try simp only [Act.put, List.setIfInBounds_toArray, List.set_cons_zero, List.set_cons_succ, List.getElem_toArray, List.getElem_cons_zero, List.getElem_cons_succ]
            refine rest_take (i := 5) (v := _) all_wide (noDefers_of (by kernel_rfl)) rfl (by kernel_rfl) (by kernel_rfl) (by kernel_rfl) (fun _ _ _ h => h) (Or.inl ⟨by rfl, by intro w hSw; (obtain ⟨q0, q1, _⟩ := hSw); go_simp; first | done | with_reducible rfl⟩) hHeld ?_
            change RestIn _ _ _ _ _ _ _ 7 #[true, true, true, true, true, true, false, false, false, false, false, false, false] _ _
            try simp only [Act.put, List.setIfInBounds_toArray, List.set_cons_zero, List.set_cons_succ, List.getElem_toArray, List.getElem_cons_zero, List.getElem_cons_succ]
            refine rest_take (i := 6) (v := _) all_wide (noDefers_of (by kernel_rfl)) rfl (by kernel_rfl) (by kernel_rfl) (by kernel_rfl) (fun _ _ _ h => h) (Or.inl ⟨by rfl, by intro w hSw; clear hSw; go_simp; first | done | with_reducible rfl⟩) hHeld ?_
            change RestIn _ _ _ _ _ _ _ 6 #[true, true, true, true, true, true, true, false, false, false, false, false, false] _ _
            try simp only [Act.put, List.setIfInBounds_toArray, List.set_cons_zero, List.set_cons_succ, List.getElem_toArray, List.getElem_cons_zero, List.getElem_cons_succ]
            refine rest_take (i := 7) (v := _) all_wide (noDefers_of (by kernel_rfl)) rfl (by kernel_rfl) (by kernel_rfl) (by kernel_rfl) (fun _ _ _ h => h) (Or.inl ⟨by rfl, by intro w hSw; clear hSw; go_simp; first | done | with_reducible rfl⟩) hHeld ?_
            change RestIn _ _ _ _ _ _ _ 5 #[true, true, true, true, true, true, true, true, false, false, false, false, false] _ _
            try simp only [Act.put, List.setIfInBounds_toArray, List.set_cons_zero, List.set_cons_succ, List.getElem_toArray, List.getElem_cons_zero, List.getElem_cons_succ]
            refine rest_take (i := 8) (v := _) all_wide (noDefers_of (by kernel_rfl)) rfl (by kernel_rfl) (by kernel_rfl) (by kernel_rfl) (fun _ _ _ h => h) (Or.inl ⟨by rfl, by intro w hSw; clear hSw; go_simp; first | done | with_reducible rfl⟩) hHeld ?_
            change RestIn _ _ _ _ _ _ _ 4 #[true, true, true, true, true, true, true, true, true, false, false, false, false] _ _
            try simp only [Act.put, List.setIfInBounds_toArray, List.set_cons_zero, List.set_cons_succ, List.getElem_toArray, List.getElem_cons_zero, List.getElem_cons_succ]
            refine rest_take (i := 9) (v := _) all_wide (noDefers_of (by kernel_rfl)) rfl (by kernel_rfl) (by kernel_rfl) (by kernel_rfl) (fun _ _ _ h => h) (Or.inl ⟨by rfl, by intro w hSw; (obtain ⟨q0, q1, _⟩ := hSw); go_simp; first | done | with_reducible rfl⟩) hHeld ?_
            change RestIn _ _ _ _ _ _ _ 3 #[true, true, true, true, true, true, true, true, true, true, false, false, false] _ _
            try simp only [Act.put, List.setIfInBounds_toArray, List.set_cons_zero, List.set_cons_succ, List.getElem_toArray, List.getElem_cons_zero, List.getElem_cons_succ]
            refine rest_take (i := 10) (v := _) all_wide (noDefers_of (by kernel_rfl)) rfl (by kernel_rfl) (by kernel_rfl) (by kernel_rfl) (fun _ _ _ h => h) (Or.inl ⟨by rfl, by intro w hSw; clear hSw; go_simp; first | done | with_reducible rfl⟩) hHeld ?_
            change RestIn _ _ _ _ _ _ _ 2 #[true, true, true, true, true, true, true, true, true, true, true, false, false] _ _
            try simp only [Act.put, List.setIfInBounds_toArray, List.set_cons_zero, List.set_cons_succ, List.getElem_toArray, List.getElem_cons_zero, List.getElem_cons_succ]
            refine rest_take (i := 11) (v := _) all_wide (noDefers_of (by kernel_rfl)) rfl (by kernel_rfl) (by kernel_rfl) (by kernel_rfl) (fun _ _ _ h => h) (Or.inl ⟨by rfl, by intro w hSw; clear hSw; go_simp; first | done | with_reducible rfl⟩) hHeld ?_
            change RestIn _ _ _ _ _ _ _ 1 #[true, true, true, true, true, true, true, true, true, true, true, true, false] _ _
            try simp only [Act.put, List.setIfInBounds_toArray, List.set_cons_zero, List.set_cons_succ, List.getElem_toArray, List.getElem_cons_zero, List.getElem_cons_succ]
            refine rest_take (i := 12) (v := _) all_wide (noDefers_of (by kernel_rfl)) rfl (by kernel_rfl) (by kernel_rfl) (by kernel_rfl) (fun _ _ _ h => h) (Or.inl ⟨by rfl, by intro w hSw; clear hSw; go_simp; first | done | with_reducible rfl⟩) hHeld ?_
            change RestIn _ _ _ _ _ _ _ 0 #[true, true, true, true, true, true, true, true, true, true, true, true, true] _ _
            try simp only [Act.put, List.setIfInBounds_toArray, List.set_cons_zero, List.set_cons_succ, List.getElem_toArray, List.getElem_cons_zero, List.getElem_cons_succ]
            refine rest_done (by kernel_rfl) ?_
            go_wp2
            go_roundw
            case rel => exact ⟨k + 1, by omega, by go_num, by rw [HS.out]; simp, hWb.trans (hHeld.2.2.mono hWb.size)⟩
            case measure => simp [intOf]; omega
          · go_upto_region 8 with fail
            refine name_world (motive := fun W => Code.wp _ _ _ _ W) _ ?_
            intro W0 hW
            have hWc := hW.cell
            have hWz := hW.size
            have hWb := hW.below (hB2)
            clear hW hWc hWz e1 e2
            refine (wpIn_wide (n := 9)).1 ?_
            have hLast := trivial
            refine region_rest (S := (fun w' => Below W0.heap.size W0 w')) hmx ?_ (fun hHeld => ?_)
            · exact (Below.refl W0.heap.size W0).drew
            change RestIn _ _ _ _ _ _ _ 13 #[false, false, false, false, false, false, false, false, false, false, false, false, false] _ (World.drew _)
            refine rest_take (i := 0) (v := _) all_wide (noDefers_of (by kernel_rfl)) rfl (by kernel_rfl) (by kernel_rfl) (by kernel_rfl) (fun _ _ _ h => h) (Or.inl ⟨by rfl, by intro w hSw; clear hSw; go_simp; first | done | with_reducible rfl⟩) hHeld ?_
            change RestIn _ _ _ _ _ _ _ 12 #[true, false, false, false, false, false, false, false, false, false, false, false, false] _ _
            try simp only [Act.put, List.setIfInBounds_toArray, List.set_cons_zero, List.set_cons_succ, List.getElem_toArray, List.getElem_cons_zero, List.getElem_cons_succ]
            refine rest_take (i := 1) (v := _) all_wide (noDefers_of (by kernel_rfl)) rfl (by kernel_rfl) (by kernel_rfl) (by kernel_rfl) (fun _ _ _ h => h) (Or.inl ⟨by rfl, by intro w hSw; clear hSw; go_simp; first | done | with_reducible rfl⟩) hHeld ?_
            change RestIn _ _ _ _ _ _ _ 11 #[true, true, false, false, false, false, false, false, false, false, false, false, false] _ _
            try simp only [Act.put, List.setIfInBounds_toArray, List.set_cons_zero, List.set_cons_succ, List.getElem_toArray, List.getElem_cons_zero, List.getElem_cons_succ]
            refine rest_take (i := 2) (v := undef) all_wide (noDefers_of (by kernel_rfl)) rfl (by kernel_rfl) (by kernel_rfl) (by kernel_rfl) (fun _ _ _ h => h) (Or.inr ⟨by rfl, rfl⟩) hHeld ?_
            change RestIn _ _ _ _ _ _ _ 10 #[true, true, true, false, false, false, false, false, false, false, false, false, false] _ _
            try simp only [Act.put, List.setIfInBounds_toArray, List.set_cons_zero, List.set_cons_succ, List.getElem_toArray, List.getElem_cons_zero, List.getElem_cons_succ]
            refine rest_take (i := 3) (v := undef) all_wide (noDefers_of (by kernel_rfl)) rfl (by kernel_rfl) (by kernel_rfl) (by kernel_rfl) (fun _ _ _ h => h) (Or.inr ⟨by rfl, rfl⟩) hHeld ?_
            change RestIn _ _ _ _ _ _ _ 9 #[true, true, true, true, false, false, false, false, false, false, false, false, false] _ _
            try simp only [Act.put, List.setIfInBounds_toArray, List.set_cons_zero, List.set_cons_succ, List.getElem_toArray, List.getElem_cons_zero, List.getElem_cons_succ]
            refine rest_take (i := 4) (v := undef) all_wide (noDefers_of (by kernel_rfl)) rfl (by kernel_rfl) (by kernel_rfl) (by kernel_rfl) (fun _ _ _ h => h) (Or.inr ⟨by rfl, rfl⟩) hHeld ?_
            change RestIn _ _ _ _ _ _ _ 8 #[true, true, true, true, true, false, false, false, false, false, false, false, false] _ _
            try simp only [Act.put, List.setIfInBounds_toArray, List.set_cons_zero, List.set_cons_succ, List.getElem_toArray, List.getElem_cons_zero, List.getElem_cons_succ]
            refine rest_take (i := 5) (v := undef) all_wide (noDefers_of (by kernel_rfl)) rfl (by kernel_rfl) (by kernel_rfl) (by kernel_rfl) (fun _ _ _ h => h) (Or.inr ⟨by rfl, rfl⟩) hHeld ?_
            change RestIn _ _ _ _ _ _ _ 7 #[true, true, true, true, true, true, false, false, false, false, false, false, false] _ _
            try simp only [Act.put, List.setIfInBounds_toArray, List.set_cons_zero, List.set_cons_succ, List.getElem_toArray, List.getElem_cons_zero, List.getElem_cons_succ]
            refine rest_take (i := 6) (v := undef) all_wide (noDefers_of (by kernel_rfl)) rfl (by kernel_rfl) (by kernel_rfl) (by kernel_rfl) (fun _ _ _ h => h) (Or.inr ⟨by rfl, rfl⟩) hHeld ?_
            change RestIn _ _ _ _ _ _ _ 6 #[true, true, true, true, true, true, true, false, false, false, false, false, false] _ _
            try simp only [Act.put, List.setIfInBounds_toArray, List.set_cons_zero, List.set_cons_succ, List.getElem_toArray, List.getElem_cons_zero, List.getElem_cons_succ]
            refine rest_take (i := 7) (v := undef) all_wide (noDefers_of (by kernel_rfl)) rfl (by kernel_rfl) (by kernel_rfl) (by kernel_rfl) (fun _ _ _ h => h) (Or.inr ⟨by rfl, rfl⟩) hHeld ?_
            change RestIn _ _ _ _ _ _ _ 5 #[true, true, true, true, true, true, true, true, false, false, false, false, false] _ _
            try simp only [Act.put, List.setIfInBounds_toArray, List.set_cons_zero, List.set_cons_succ, List.getElem_toArray, List.getElem_cons_zero, List.getElem_cons_succ]
            refine rest_take (i := 8) (v := undef) all_wide (noDefers_of (by kernel_rfl)) rfl (by kernel_rfl) (by kernel_rfl) (by kernel_rfl) (fun _ _ _ h => h) (Or.inr ⟨by rfl, rfl⟩) hHeld ?_
            change RestIn _ _ _ _ _ _ _ 4 #[true, true, true, true, true, true, true, true, true, false, false, false, false] _ _
            try simp only [Act.put, List.setIfInBounds_toArray, List.set_cons_zero, List.set_cons_succ, List.getElem_toArray, List.getElem_cons_zero, List.getElem_cons_succ]
            refine rest_take (i := 9) (v := undef) all_wide (noDefers_of (by kernel_rfl)) rfl (by kernel_rfl) (by kernel_rfl) (by kernel_rfl) (fun _ _ _ h => h) (Or.inr ⟨by rfl, rfl⟩) hHeld ?_
            change RestIn _ _ _ _ _ _ _ 3 #[true, true, true, true, true, true, true, true, true, true, false, false, false] _ _
            try simp only [Act.put, List.setIfInBounds_toArray, List.set_cons_zero, List.set_cons_succ, List.getElem_toArray, List.getElem_cons_zero, List.getElem_cons_succ]
            refine rest_take (i := 10) (v := undef) all_wide (noDefers_of (by kernel_rfl)) rfl (by kernel_rfl) (by kernel_rfl) (by kernel_rfl) (fun _ _ _ h => h) (Or.inr ⟨by rfl, rfl⟩) hHeld ?_
            change RestIn _ _ _ _ _ _ _ 2 #[true, true, true, true, true, true, true, true, true, true, true, false, false] _ _
            try simp only [Act.put, List.setIfInBounds_toArray, List.set_cons_zero, List.set_cons_succ, List.getElem_toArray, List.getElem_cons_zero, List.getElem_cons_succ]
            refine rest_take (i := 11) (v := _) all_wide (noDefers_of (by kernel_rfl)) rfl (by kernel_rfl) (by kernel_rfl) (by kernel_rfl) (fun _ _ _ h => h) (Or.inl ⟨by rfl, by intro w hSw; clear hSw; go_simp; first | done | with_reducible rfl⟩) hHeld ?_
            change RestIn _ _ _ _ _ _ _ 1 #[true, true, true, true, true, true, true, true, true, true, true, true, false] _ _
            try simp only [Act.put, List.setIfInBounds_toArray, List.set_cons_zero, List.set_cons_succ, List.getElem_toArray, List.getElem_cons_zero, List.getElem_cons_succ]
            refine rest_take (i := 12) (v := _) all_wide (noDefers_of (by kernel_rfl)) rfl (by kernel_rfl) (by kernel_rfl) (by kernel_rfl) (fun _ _ _ h => h) (Or.inl ⟨by rfl, by intro w hSw; clear hSw; go_simp; first | done | with_reducible rfl⟩) hHeld ?_
            change RestIn _ _ _ _ _ _ _ 0 #[true, true, true, true, true, true, true, true, true, true, true, true, true] _ _
            try simp only [Act.put, List.setIfInBounds_toArray, List.set_cons_zero, List.set_cons_succ, List.getElem_toArray, List.getElem_cons_zero, List.getElem_cons_succ]
            refine rest_done (by kernel_rfl) ?_
            go_wp2
            go_roundw
            case rel => exact ⟨k + 1, by omega, by go_num, by rw [HS.out]; simp, hWb.trans (hHeld.mono hWb.size)⟩
            case measure => simp [intOf]; omega

set_option linter.unusedSimpArgs false in
set_option maxHeartbeats 4000000 in
theorem narrow_any (r : Rng) (a b : Int) (w : World) (ha : 0 ≤ a ∧ a ≤ 255) (hb : 0 ≤ b ∧ b ≤ 255) (h : r.lo ≤ r.hi) (h1 : -10000000 ≤ r.lo) (h2 : r.hi ≤ 10000000) :
    Calls Try.prog 37 #[.agg #[.int .i64 r.lo, .int .i64 r.hi], .int .u8 a, .int .u8 b] w fun e w' => e = .returned (.agg #[.int .i64 (narrowI r a b).lo, .int .i64 (narrowI r a b).hi]) ∧ Below w.heap.size w w' := by
  obtain ⟨a1, a2⟩ := ha
  obtain ⟨b1, b2⟩ := hb
  obtain ⟨n1, n2, n3⟩ := narrowI_in (r := r) (a := a) (b := b) h
  obtain ⟨lo, hlo⟩ : ∃ x, (narrowI r a b).lo = x := ⟨_, rfl⟩
  obtain ⟨hi, hhi⟩ : ∃ x, (narrowI r a b).hi = x := ⟨_, rfl⟩
  have e1 : r.lo + a.tmod (r.hi - r.lo + 1) = lo := by rw [Int.tmod_eq_emod_of_nonneg a1]; exact hlo
  have e2 : lo + b.tmod (r.hi - lo + 1) = hi := by rw [Int.tmod_eq_emod_of_nonneg b1, ← hhi, ← hlo]; rfl
  rw [hlo, hhi] at n2
  rw [hlo] at n1
  rw [hhi] at n3
  obtain ⟨q, hq⟩ : ∃ q, a.tmod (r.hi - r.lo + 1) = q := ⟨_, rfl⟩
  obtain ⟨p, hp⟩ : ∃ p, b.tmod (r.hi - lo + 1) = p := ⟨_, rfl⟩
  rw [hq] at e1
  rw [hp] at e2
  have hz1 : ¬ (r.hi - r.lo + 1) = 0 := by omega
  have hz2 : ((r.hi - r.lo + 1) == 0) = false := by simp; omega
  have hz3 : ¬ (r.hi - lo + 1) = 0 := by omega
  have hz4 : ((r.hi - lo + 1) == 0) = false := by simp; omega
  have kX := (Blk.new w 23 #[.int .i64 r.lo, .int .i64 r.hi]).alloc (.cells #[.int .i64 0, .int .i64 0] 23)
  have kR := Blk.new (w.alloc (.cells #[.int .i64 r.lo, .int .i64 r.hi] 23)) 23 #[.int .i64 0, .int .i64 0]
  simp only [World.size_alloc] at kR
  have hB0 := ((Below.refl w.heap.size w).alloc (Nat.le_refl _) (.cells #[.int .i64 r.lo, .int .i64 r.hi] 23)).alloc (by simp) (.cells #[.int .i64 0, .int .i64 0] 23)
  rw [hlo, hhi]
  clear hlo hhi
  go_enter Try.func37, Try.ntmps37
  go_upto_region 1 with fail
  refine name_world (motive := fun W => Code.wp _ _ _ _ W) _ ?_
  intro W0 hW
  have hWc := hW.cell
  have hWz := hW.size
  have hWb := hW.below (hB0)
  have kX := hW.blk kX
  have kR := hW.blk kR
  clear hW hWc hWz hB0
  have x0 := kX.cell 0; have x1 := kX.cell 1; simp at x0 x1
  have r0 := kR.cell 0; have rf0 := kR.frozen 0; have r1 := kR.cell 1; have rf1 := kR.frozen 1; have rl := kR.lt; simp at r0 r1
  have hlx := kX.lt
  go_quiet (fail)
  go_upto_region 2 with fail
  refine name_world (motive := fun W => Code.wp _ _ _ _ W) _ ?_
  intro W0 hW
  have hWc := hW.cell
  have hWz := hW.size
  have hWb := hW.below (below_drewN hWb _)
  have kX := hW.blk (kX.drewN _)
  have kR := hW.blk (kR.drewN _)
  clear hW hWc hWz
  have x0 := kX.cell 0; have x1 := kX.cell 1; simp at x0 x1
  have r0 := kR.cell 0; have rf0 := kR.frozen 0; have r1 := kR.cell 1; have rf1 := kR.frozen 1; have rl := kR.lt; simp at r0 r1
  have hlx := kX.lt
  go_wp2
  have v0 := (kR.set_ 0 (.int .i64 lo)).cell 0
  have v1 := ((kR.set_ 0 (.int .i64 lo)).set_ 1 (.int .i64 hi)).cell 1
  have v2 := ((kR.set_ 0 (.int .i64 lo)).set_ 1 (.int .i64 hi)).cell 0
  simp at v0 v1 v2
  refine bodyPost_ret (v := .agg #[.int .i64 lo, .int .i64 hi]) (by simp [results, Try.results37, go_sem, v0, v1, v2]) rfl ⟨rfl, ?_⟩
  repeat' (first | with_reducible exact hWb | with_reducible exact below_drewN hWb _ | with_reducible refine Below.setCell ?_ (by simp <;> omega) _)
end Go.Proofs.Ytmhnbchfmddhcaa
