import Derived.Test.YthelogdgfhfdcaaRef4
import Derived.Test.YthelogdgfhfdcaaMathC
namespace Go.Proofs.Ythelogdgfhfdcaa
open Go.RowKit

theorem VB.sm {v u : Vec} {p q : Int} (hv : VB v p) (hu : VB u q) (h : p * q ≤ 2000000000000000000) : Sm (v.x * u.x) ∧ Sm (v.y * u.y) := by
  obtain ⟨h1, h2⟩ := hv.dot hu
  unfold Sm; omega

theorem in_val {n lo hi : Int} {b : Bool} (h : inB n lo hi = b) (w : World) :
    Calls Try.prog 23 #[.int .i64 n, .int .i64 lo, .int .i64 hi] w fun e w' => e = .returned (.bool b) ∧ w = w' := by rw [← h]; exact in_any n lo hi w

theorem quiet_lb {P : Program} {f : FuncId} {args : Array Value} {w : World} {n : Nat} {b c : Bool}
    (h : Calls P f args (w.drewN n) fun e w' => e = .returned (.bool b) ∧ w.drewN n = w') (hb : b = c) : Calls P f args (w.drewN n) fun e w'' => e = .returned (.bool c) ∧ ∃ m, w'' = w.drewN m :=
  h.mono fun _ _ ⟨he, hm⟩ => ⟨by rw [he, hb], n, hm.symm⟩

theorem refHelp_any (A : Option Addr) (c : Nat) (f : List Vec) (way : Vec) (w : World) (hr : RS encV 2 w w.heap.size A f) (hl : f.length ≤ 100) (hf : ∀ v ∈ f, VB v 500000) (hw : VB way 1000000) :
    Calls Try.prog 79 #[.slice A f.length c, .agg #[.int .i64 way.x, .int .i64 way.y]] w fun e w' => e = .returned (.int .i64 (helpM f way)) ∧ Below w.heap.size w w' := by
  have Hf := Lib.hid hf
  have Hw := Lib.hid hw
  clear hf hw
  go_enter Try.func79, Try.ntmps79
  go_wp2
  go_loopw [5, 6] (fun n i wr => ∃ (k : Nat) (m : Int), k ≤ f.length ∧ i = .int .i64 k ∧ n = .int .i64 m ∧ (f.take k).foldl (fun n v => n + max 0 (-(way.dot v))) 0 = m ∧ 0 ≤ m ∧ m ≤ 1000000000000 * k ∧ Below w.heap.size w wr ∧ Blk wr w.heap.size 69 #[.int .i64 way.x, .int .i64 way.y]) (fun _ i _ => f.length - (intOf i).toNat)
  case atStart => exact ⟨0, 0, Nat.zero_le _, rfl, rfl, rfl, by omega, by omega, (Below.refl _ _).alloc (Nat.le_refl _) _, Blk.new _ _ _⟩
  case round =>
    obtain ⟨k, m, hk, rfl, rfl, hfold, hm1, hm2, hB, hK⟩ := hrel
    have Hfold := Lib.hid hfold
    clear hfold
    have k0 := hK.cell 0
    have k1 := hK.cell 1
    have kz := hK.lt
    simp at k0 k1
    by_cases hlt : k < f.length
    · obtain ⟨v, hv⟩ := getElem?_lt hlt
      have vb := Hf.out v (List.mem_of_getElem? hv)
      have db := Hw.out.dot' vb
      obtain ⟨s1, s2⟩ := Hw.out.sm vb (by omega)
      have Hv := Lib.hid hv
      obtain ⟨b, off, rfl, hb, hc⟩ := (hr.below hB (Nat.le_refl _)).at_ hv
      have c0 := hc 0 _ rfl
      have c1 := hc 1 _ rfl
      simp only [Nat.add_zero] at c0
      clear hv hc vb hr
      have d1 : IntKind.i64.wrap (-(way.dot v)) = -(way.dot v) := IntWalk.i64_in _ (by omega)
      have d2 : IntKind.i64.wrap (m + if way.dot v < 0 then -way.dot v else 0) = m + max 0 (-(way.dot v)) := by rw [IntWalk.i64_in _ (by split <;> omega)]; split <;> omega
      have hbz : b < wr.heap.size := by have := hB.size; omega
      go_wp2
      refine name_world (motive := fun W => Code.wp _ _ _ _ W) _ ?_
      intro W0 hW
      have hWc := hW.cell
      have hWz := hW.size
      have hWb := hW.below (hB)
      go_region_held3 (fun w' => (∀ b o, b < W0.heap.size → w'.cell? ⟨b, o, none⟩ = W0.cell? ⟨b, o, none⟩) ∧ Below W0.heap.size W0 w') (first | exact sh_refl _ | exact sh_of (by assumption) | exact sh_alloc (by assumption) _)
        (first | (go_at_call 78; go_split_ands; have hS1 : Below W0.heap.size W0 _ := (by assumption); refine (refDot_any way v _ s1 s2).mono ?_; rintro e w1 ⟨rfl, hb1⟩; have hB1 := sh_next hS1 hb1))
      go_wp2
      go_roundw
      case rel =>
        have hB2 := hWb.trans (hB1.mono hWb.size)
        exact ⟨k + 1, m + max 0 (-(way.dot v)), by omega, by go_num, rfl, by rw [foldl_snoc Hv.out, Hfold.out], by omega, by omega, hB2, (hW.blk hK).below hB1 (hW.blk hK).lt⟩
      case measure => simp [intOf]; omega
    · go_wp2
      go_ret
      exact ⟨ret_int (by unfold helpM; rw [← Hfold.out, foldl_end hlt]), hB⟩

set_option maxHeartbeats 1000000 in
theorem refIsWeak_any (A : Option Addr) (c : Nat) (f : List Vec) (push way : Vec) (w : World) (hr : RS encV 2 w w.heap.size A f) (hl : f.length ≤ 100) (hf : ∀ v ∈ f, VB v 500000) (hp : VB push 1000000000000) :
    Calls Try.prog 44 #[.slice A f.length c, .agg #[.int .i64 push.x, .int .i64 push.y], .agg #[.int .i64 way.x, .int .i64 way.y]] w fun e w' => e = .returned (.bool (inB way.x (-1000000) 1000000 && (inB way.y (-1000000) 1000000 && weakInB f push way))) ∧ Below w.heap.size w w' := by
  have Hf := Lib.hid hf
  have Hp := Lib.hid hp
  clear hf hp
  have HW2 : Hid (weakInB f push way = decide (helpM f way < way.dot push)) := rfl
  cases h1 : inB way.x (-1000000) 1000000 <;> cases h2 : inB way.y (-1000000) 1000000
  case true.true =>
    have hw : VB way 1000000 := ⟨inB_true.1 h1, inB_true.1 h2⟩
    obtain ⟨s1, s2⟩ := hw.sm Hp.out (by omega)
    have Hw := Lib.hid hw
    clear hw
    go_enter Try.func44, Try.ntmps44
    go_wp2_with (go_at_call 23; refine (in_any _ _ _ _).mono ?_; rintro e w' ⟨rfl, rfl⟩)
    refine name_world (motive := fun W => Code.wp _ _ _ _ W) _ ?_
    intro W0 hW
    have hWc := hW.cell
    have hWz := hW.size
    have hWb := hW.below (((Below.refl w.heap.size w).alloc (Nat.le_refl _) _).alloc (by simp) _)
    have hr0 := (hr.below hWb (Nat.le_refl _)).more hWb.size
    simp only [World.size_alloc] at hWz
    go_region_held3 (fun w' => (∀ b o, b < W0.heap.size → w'.cell? ⟨b, o, none⟩ = W0.cell? ⟨b, o, none⟩) ∧ Below W0.heap.size W0 w') (first | exact sh_refl _ | exact sh_of (by assumption) | exact sh_alloc (by assumption) _)
      (first | (go_at_call 23; refine (in_any _ _ _ _).mono ?_; rintro e w3 ⟨rfl, rfl⟩) | (go_at_call 78; go_split_ands; have hS1 : Below W0.heap.size W0 _ := (by assumption); refine (refDot_any way push _ s1 s2).mono ?_; rintro e w1 ⟨rfl, hb1⟩; have hB1 := sh_next hS1 hb1) | (go_at_call 79; go_split_ands; have hS2 : Below W0.heap.size W0 _ := (by assumption); refine (refHelp_any _ _ f way _ (hr0.to hS2) hl Hf.out Hw.out).mono ?_; rintro e w2 ⟨rfl, hb2⟩; have hB2 := sh_next hS2 hb2))
    go_wp2
    go_ret
    exact ⟨ret_bool (by rw [HW2.out]; simp), hWb.trans (hB2.mono hWb.size)⟩
  all_goals
    go_enter Try.func44, Try.ntmps44
    go_wp2_with (go_at_call 23; refine (in_any _ _ _ _).mono ?_; rintro e w' ⟨rfl, rfl⟩)
    go_quiet ((go_at_call 23; first | (refine quiet_lb (in_any _ _ _ _) (c := false) ?_; (simp [*]; done)) | (refine quiet_lb (in_any _ _ _ _) (c := true) ?_; (simp [*]; done))))
    go_wp2
    go_ret
    exact ⟨ret_bool (by simp), below_drewN (((Below.refl _ _).alloc (Nat.le_refl _) _).alloc (by simp) _) _⟩
end Go.Proofs.Ythelogdgfhfdcaa
