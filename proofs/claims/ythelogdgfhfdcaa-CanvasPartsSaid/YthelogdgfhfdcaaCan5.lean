import Derived.Test.YthelogdgfhfdcaaCan4
import Derived.Test.YthelogdgfhfdcaaMathD
namespace Go.Proofs.Ythelogdgfhfdcaa
open Go.RowKit

theorem leastDepth_any (A : Option Addr) (c : Nat) (l : List Tst) (soil force : Int) (w : World) (hr : RS encT 4 w w.heap.size A l) (hl : l.length ≤ maxLen) (hok : ∀ x ∈ l, x.ok = true) :
    Calls Try.prog 65 #[.slice A l.length c, .int .i64 soil, .int .i64 force] w fun e w' => e = .returned (.int .i64 (deepR l soil force + 1)) ∧ Below w.heap.size w w' := by
  obtain ⟨⟨r1, r2⟩, r3, r4⟩ := deepR_spec (soil := soil) (force := force) hok
  have R3 := Lib.hid r3
  have R4 := Lib.hid r4
  have Hok := Lib.hid hok
  clear r3 r4 hok
  go_enter Try.func65, Try.ntmps65
  go_wp2_with fail
  refine (searchD_any 3000 (deepR l soil force) (fun h => decide (force ≤ (holdsM l soil (h + 1)).1)) _ _ _ _ ⟨r1, r2, by omega⟩ R3.out R4.out ?_).mono ?_
  · intro h W b h0 h1 hB hp
    subst hp
    have hz := hB.size
    simp only [World.size_alloc] at hz
    refine leastDepthF_any A c l soil force h W w.heap.size ?_ hl Hok.out ⟨h0, h1⟩ (by omega) ?_ ?_ ?_
    · exact (((hr.below ((((Below.refl _ _).alloc (Nat.le_refl _) _).alloc (by simp) _).alloc (by simp; omega) _) (Nat.le_refl _)).more (by simp; omega)).to hB)
    · rw [hB.cell (p := ⟨w.heap.size, 0, none⟩) (by simp; omega), World.cell?_alloc_lt _ _ _ (by simp; omega), World.cell?_alloc_lt _ _ _ (by simp)]
      simp
    · rw [hB.cell (p := ⟨w.heap.size + 1, 0, none⟩) (by simp), World.cell?_alloc_lt _ _ _ (by simp)]
      have := (Blk.new (w.alloc (.cells #[.slice A l.length c] 28)) 3 #[.int .i64 soil]).cell 0
      rw [World.size_alloc] at this
      exact this
    · rw [hB.cell (p := ⟨w.heap.size + 2, 0, none⟩) (by simp)]
      simpa using (Blk.new ((w.alloc (.cells #[.slice A l.length c] 28)).alloc (.cells #[.int .i64 soil] 3)) 3 #[.int .i64 force]).cell 0
  · rintro e w1 ⟨rfl, hb1⟩
    go_wp2
    go_ret
    refine ⟨ret_int (by omega), ((((Below.refl _ _).alloc (Nat.le_refl _) _).alloc (by simp) _).alloc (by simp; omega) _).trans (hb1.mono (by simp; omega))⟩

/-- The errors of the calls with a stake. -/
def stakeE (l : List Tst) (inr : Bool) : Int := firstE (testsFault l) inr l
theorem stakeE_zero {l : List Tst} {inr : Bool} (h : stakeE l inr = 0) : inr = true ∧ testsFault l = 0 ∧ fcF l = false := by
  unfold stakeE firstE at h
  split at h
  · rename_i h0
    split at h
    · rename_i h1
      refine ⟨h1, h0, ?_⟩
      unfold agreeE at h
      cases hf : fcF l
      · rfl
      · rw [hf] at h; simp at h
    · simp at h
  · rename_i h0; exact absurd h h0

theorem checkStake_val (A : Option Addr) (c : Nat) {l : List Tst} {b : Bool} {z : Int} (hE : stakeE l b = z) (w : World) (hr : RS encT 4 w w.heap.size A l) (hl : l.length ≤ maxLen) :
    Calls Try.prog 60 #[.slice A l.length c, .bool b] w fun e w' => e = .returned (.int .i64 z) ∧ Below w.heap.size w w' := by
  rw [← hE]; exact checkStake_any A c l b w hr hl
theorem Holds_ok (A : Option Addr) (c : Nat) (l : List Tst) (soil depth : Int) (w : World) (hr : RS encT 4 w w.heap.size A l) (hl : l.length ≤ maxLen) (hE : stakeE l (inB soil 0 9 && inB depth 1 3000) = 0) :
    Calls Try.prog 18 #[.slice A l.length c, .int .i64 soil, .int .i64 depth] w fun e w' => e = .returned (.tuple #[.agg #[.int .i64 (holdsM l soil depth).1, .int .i64 (holdsM l soil depth).2], .int .i64 0]) ∧ Below w.heap.size w w' := by
  obtain ⟨hin, htf, _⟩ := stakeE_zero hE
  simp only [Bool.and_eq_true] at hin
  obtain ⟨h1, h2⟩ := hin
  have hok := (testsFault_ok htf).1
  obtain ⟨d1, d2⟩ := inB_true.1 h2
  have hv : ∀ W, RS encT 4 W W.heap.size A l → Calls Try.prog 60 #[.slice A l.length c, .bool true] W fun e W' => e = .returned (.int .i64 0) ∧ Below W.heap.size W W' := by
    intro W h; rw [h1, h2] at hE; rw [← hE]; exact checkStake_any A c l true W h hl
  have Hv := Lib.hid hv
  have Hok := Lib.hid hok
  have hr1 := hr.to ((Below.refl _ w).alloc (Nat.le_refl _) (.cells #[.int .i64 0, .int .i64 0] 31))
  clear hE htf hok hv
  go_enter Try.func18, Try.ntmps18
  go_wp2_with (first | (go_at_call 61; refine (isSoil_any _ _).mono ?_; rintro e w' ⟨rfl, rfl⟩) | (go_at_call 62; refine (isDepth_any _ _).mono ?_; rintro e w' ⟨rfl, rfl⟩) | (go_at_call 60; refine (Hv.out _ hr1).mono ?_; rintro e w1 ⟨rfl, hb1⟩; obtain ⟨hc1, hf1⟩ := bcell hb1; have hz1 : w.heap.size < w1.heap.size := (by have := hb1.size; (try simp at this); omega)) | (go_at_call 63; refine (holds_any A c l _ soil depth (hr1.to hb1) hl Hok.out d1 d2).mono ?_; rintro e w2 ⟨rfl, hb2⟩; obtain ⟨hc2, hf2⟩ := bcell hb2; have hz2 : w.heap.size < w2.heap.size := (by have := hb2.size; (try simp at this); omega)))
  have bk := ((Blk.new w 31 #[.int .i64 0, .int .i64 0]).below hb1 (by simp)).below hb2 hz1
  have bf := (bk.set_ 0 (.int .i64 (holdsM l soil depth).1)).set_ 1 (.int .i64 (holdsM l soil depth).2)
  have v0 := bf.cell 0
  have v1 := bf.cell 1
  simp at v0 v1
  refine bodyPost_ret (v := .tuple #[.agg #[.int .i64 (holdsM l soil depth).1, .int .i64 (holdsM l soil depth).2], .int .i64 0]) (by simp [results, Try.results18, go_sem, v0, v1]) rfl ⟨rfl, ?_⟩
  have hB := ((Below.refl w.heap.size w).alloc (Nat.le_refl _) (.cells #[.int .i64 0, .int .i64 0] 31)).trans (hb1.mono (by simp))
  exact ((hB.trans (hb2.mono (by omega))).setCell (Nat.le_refl _) _).setCell (Nat.le_refl _) _

theorem Holds_err (A : Option Addr) (c : Nat) (l : List Tst) (soil depth z : Int) (w : World) (hr : RS encT 4 w w.heap.size A l) (hl : l.length ≤ maxLen) (hE : stakeE l (inB soil 0 9 && inB depth 1 3000) = z) (hz : z ≠ 0) :
    Calls Try.prog 18 #[.slice A l.length c, .int .i64 soil, .int .i64 depth] w fun e w' => e = .returned (.tuple #[.agg #[.int .i64 0, .int .i64 0], .int .i64 z]) ∧ Below w.heap.size w w' := by
  have e0 : (z != 0) = true := by simpa using hz
  cases h1 : inB soil 0 9 <;> cases h2 : inB depth 1 3000
  all_goals
    rw [h1, h2] at hE
    have hv := fun W h => checkStake_val A c hE W h hl
    have Hv := Lib.hid hv
    have hr1 := hr.to ((Below.refl _ w).alloc (Nat.le_refl _) (.cells #[.int .i64 0, .int .i64 0] 31))
    clear hE hv
    go_enter Try.func18, Try.ntmps18
    go_wp2_with (first | (go_at_call 61; refine (isSoil_any _ _).mono ?_; rintro e w' ⟨rfl, rfl⟩) | (go_at_call 62; refine (isDepth_any _ _).mono ?_; rintro e w' ⟨rfl, rfl⟩) | (go_at_call 60; refine (Hv.out _ hr1).mono ?_; rintro e w1 ⟨rfl, hb1⟩; obtain ⟨hc1, hf1⟩ := bcell hb1; have hz1 : w.heap.size < w1.heap.size := (by have := hb1.size; (try simp at this); omega)))
    have bk := (Blk.new w 31 #[.int .i64 0, .int .i64 0]).below hb1 (by simp)
    have bf := (bk.set_ 0 (.int .i64 0)).set_ 1 (.int .i64 0)
    have v0 := bf.cell 0
    have v1 := bf.cell 1
    simp at v0 v1
    refine bodyPost_ret (v := .tuple #[.agg #[.int .i64 0, .int .i64 0], .int .i64 z]) (by simp [results, Try.results18, go_sem, v0, v1]) rfl ⟨rfl, ?_⟩
    have hB := ((Below.refl w.heap.size w).alloc (Nat.le_refl _) (.cells #[.int .i64 0, .int .i64 0] 31)).trans (hb1.mono (by simp))
    exact (hB.setCell (Nat.le_refl _) _).setCell (Nat.le_refl _) _

/-- The error of Deep: none, or the depth that the search finds is too great. -/
def deepE (l : List Tst) (soil force : Int) : Int :=
  if stakeE l (inB soil 0 9 && inB force 0 5000) = 0 then (if deepR l soil force = 3000 then 7 else 0) else stakeE l (inB soil 0 9 && inB force 0 5000)
def deepV (l : List Tst) (soil force : Int) : Int := if deepE l soil force = 0 then deepR l soil force + 1 else 0

theorem Deep_any (A : Option Addr) (c : Nat) (l : List Tst) (soil force : Int) (w : World) (hr : RS encT 4 w w.heap.size A l) (hl : l.length ≤ maxLen) :
    Calls Try.prog 19 #[.slice A l.length c, .int .i64 soil, .int .i64 force] w fun e w' => e = .returned (.tuple #[.int .i64 (deepV l soil force), .int .i64 (deepE l soil force)]) ∧ Below w.heap.size w w' := by
  have HE : Hid (deepE l soil force = if stakeE l (inB soil 0 9 && inB force 0 5000) = 0 then (if deepR l soil force = 3000 then 7 else 0) else stakeE l (inB soil 0 9 && inB force 0 5000)) := rfl
  obtain ⟨z, hz⟩ : ∃ z, stakeE l (inB soil 0 9 && inB force 0 5000) = z := ⟨_, rfl⟩
  rw [hz] at HE
  by_cases h0 : z = 0
  · subst h0
    obtain ⟨hin, htf, _⟩ := stakeE_zero hz
    simp only [Bool.and_eq_true] at hin
    obtain ⟨h1, h2⟩ := hin
    have hok := (testsFault_ok htf).1
    obtain ⟨⟨r1, r2⟩, _⟩ := deepR_spec (soil := soil) (force := force) hok
    have hv : ∀ W, RS encT 4 W W.heap.size A l → Calls Try.prog 60 #[.slice A l.length c, .bool true] W fun e W' => e = .returned (.int .i64 0) ∧ Below W.heap.size W W' := by
      intro W h; rw [h1, h2] at hz; rw [← hz]; exact checkStake_any A c l true W h hl
    have Hv := Lib.hid hv
    have Hok := Lib.hid hok
    clear hz htf hok hv
    by_cases hd : deepR l soil force = 3000
    · have HD := Lib.hid hd
      have hdd : 3000 < deepR l soil force + 1 := by omega
      clear hd
      go_enter Try.func19, Try.ntmps19
      go_wp2_with (first | (go_at_call 61; refine (isSoil_any _ _).mono ?_; rintro e w' ⟨rfl, rfl⟩) | (go_at_call 64; refine (within_any _ _ _ _).mono ?_; rintro e w' ⟨rfl, rfl⟩) | (go_at_call 60; refine (Hv.out _ hr).mono ?_; rintro e w1 ⟨rfl, hb1⟩; obtain ⟨hc1, hf1⟩ := bcell hb1) | (go_at_call 65; refine (leastDepth_any A c l soil force _ (hr.to hb1) hl Hok.out).mono ?_; rintro e w2 ⟨rfl, hb2⟩; obtain ⟨hc2, hf2⟩ := bcell hb2))
      go_ret2
      exact ⟨by simp [deepV, HE.out, HD.out], sh_next hb1 hb2⟩
    · have HD := Lib.hid hd
      have hdd : ¬ 3000 < deepR l soil force + 1 := by omega
      clear hd
      go_enter Try.func19, Try.ntmps19
      go_wp2_with (first | (go_at_call 61; refine (isSoil_any _ _).mono ?_; rintro e w' ⟨rfl, rfl⟩) | (go_at_call 64; refine (within_any _ _ _ _).mono ?_; rintro e w' ⟨rfl, rfl⟩) | (go_at_call 60; refine (Hv.out _ hr).mono ?_; rintro e w1 ⟨rfl, hb1⟩; obtain ⟨hc1, hf1⟩ := bcell hb1) | (go_at_call 65; refine (leastDepth_any A c l soil force _ (hr.to hb1) hl Hok.out).mono ?_; rintro e w2 ⟨rfl, hb2⟩; obtain ⟨hc2, hf2⟩ := bcell hb2))
      go_ret2
      exact ⟨by simp [deepV, HE.out, HD.out], sh_next hb1 hb2⟩
  · have e0 : (z != 0) = true := by simpa using h0
    have H0 := Lib.hid h0
    clear h0
    cases h1 : inB soil 0 9 <;> cases h2 : inB force 0 5000
    all_goals
      rw [h1, h2] at hz
      have hv := fun W h => checkStake_val A c hz W h hl
      have Hv := Lib.hid hv
      clear hz hv
      go_enter Try.func19, Try.ntmps19
      go_wp2_with (first | (go_at_call 61; refine (isSoil_any _ _).mono ?_; rintro e w' ⟨rfl, rfl⟩) | (go_at_call 64; refine (within_any _ _ _ _).mono ?_; rintro e w' ⟨rfl, rfl⟩) | (go_at_call 60; refine (Hv.out _ hr).mono ?_; rintro e w1 ⟨rfl, hb1⟩; obtain ⟨hc1, hf1⟩ := bcell hb1))
      go_ret2
      exact ⟨by simp [deepV, HE.out, H0.out], hb1⟩

def clashE (l : List Tst) : Int := if testsFault l = 0 then (if fcF l then 0 else 7) else testsFault l
theorem fcF_none {l : List Tst} (h : fcF l = false) : fcI l = 0 ∧ fcK l = 0 := by
  unfold fcF at h; unfold fcI fcK
  cases hf : fcl l with
  | none => exact ⟨rfl, rfl⟩
  | some p => rw [hf] at h; simp at h
theorem Clash_any (A : Option Addr) (c : Nat) (l : List Tst) (w : World) (hr : RS encT 4 w w.heap.size A l) (hl : l.length ≤ maxLen) :
    Calls Try.prog 16 #[.slice A l.length c] w fun e w' => e = .returned (.tuple #[.int .i64 (if testsFault l = 0 then fcI l else 0), .int .i64 (if testsFault l = 0 then fcK l else 0), .int .i64 (clashE l)]) ∧ Below w.heap.size w w' := by
  have HE : Hid (clashE l = if testsFault l = 0 then (if fcF l then 0 else 7) else testsFault l) := rfl
  obtain ⟨z, hz⟩ : ∃ z, testsFault l = z := ⟨_, rfl⟩
  have hv : ∀ W, RS encT 4 W W.heap.size A l → Calls Try.prog 20 #[.slice A l.length c] W fun e W' => e = .returned (.int .i64 z) ∧ Below W.heap.size W W' := by
    intro W h; rw [← hz]; exact checkTests_any A c l W h hl
  have Hv := Lib.hid hv
  rw [hz] at HE ⊢
  by_cases h0 : z = 0
  · subst h0
    have Hok := Lib.hid (testsFault_ok hz).1
    clear hz hv
    have hv2 := fun W h => firstClash_any A c l W h hl Hok.out
    cases h1 : fcF l
    all_goals
      rw [h1] at hv2
      have Hv2 := Lib.hid hv2
      clear hv2
      go_enter Try.func16, Try.ntmps16
      go_wp2_with (first | (go_at_call 20; refine (Hv.out _ hr).mono ?_; rintro e w1 ⟨rfl, hb1⟩; obtain ⟨hc1, hf1⟩ := bcell hb1) | (go_at_call 59; refine (Hv2.out _ (hr.to hb1)).mono ?_; rintro e w2 ⟨rfl, hb2⟩; obtain ⟨hc2, hf2⟩ := bcell hb2))
      go_ret3
    · exact ⟨by simp [HE.out, h1, fcF_none h1], sh_next hb1 hb2⟩
    · exact ⟨by simp [HE.out, h1], sh_next hb1 hb2⟩
  · have e0 : (z != 0) = true := by simpa using h0
    have H0 := Lib.hid h0
    clear h0 hz hv
    go_enter Try.func16, Try.ntmps16
    go_wp2_with ((go_at_call 20; refine (Hv.out _ hr).mono ?_; rintro e w1 ⟨rfl, hb1⟩; obtain ⟨hc1, hf1⟩ := bcell hb1))
    go_ret3
    exact ⟨by simp [HE.out, H0.out], hb1⟩
end Go.Proofs.Ythelogdgfhfdcaa
