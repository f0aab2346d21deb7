import Derived.Test.YthelogdgfhfdcaaCan25
import Derived.Test.YthelogdgfhfdcaaCan26
namespace Go.Proofs.Ythelogdgfhfdcaa
open Go.RowKit

set_option maxRecDepth 100000 in
set_option maxHeartbeats 1000000 in
theorem Reach_err (A : Option Addr) (c : Nat) (l : List Tst) (A' : Option Addr) (c' : Nat) (t : List Head) (head : Int) (way : Vec) (z : Int) (hz : z ≠ 0) (w : World) (hr : RS encT 4 w w.heap.size A l) (hl : l.length ≤ maxLen) (ht : RH w w.heap.size A' t) (htl : t.length ≤ maxLen) (hE : headE l t head (wayIn way) = z) :
    Calls Try.prog 51 #[.slice A l.length c, .slice A' t.length c', .int .i64 head, .agg #[.int .i64 way.x, .int .i64 way.y]] w fun e w' => e = .returned (.tuple #[.int .i64 0, .int .i64 z]) ∧ Below w.heap.size w w' := by
  have e0 : (z != 0) = true := by simpa using hz
  have sm : Sm 10000 := by unfold Sm; omega
  have hB1 := (Below.refl w.heap.size w).alloc (Nat.le_refl _) (.cells #[.int .i64 way.x, .int .i64 way.y] 74)
  have hr1 := (hr.below hB1 (Nat.le_refl _)).more hB1.size
  have ht1 := (ht.below hB1 (Nat.le_refl _)).more hB1.size
  have hv := fun W hr ht => checkHead_val A c A' c' hE W hr hl ht htl
  clear hr ht hE hz
  by_cases hx : way.x = 0 ∧ way.y = 0
  · have e1 : (way.x == 0) = true := by simpa using hx.1
    have e2 : (way.y == 0) = true := by simpa using hx.2
    rw [show wayIn way = false by simp [wayIn, vecZ_iff, hx]] at hv
    have Hv := Lib.hid hv
    clear hv hx
    go_enter Try.func51, Try.ntmps51
    go_wp2_with ((go_at_call 74; refine (Hv.out _ hr1 ht1).mono ?_; rintro e w2 ⟨rfl, hb2⟩; obtain ⟨hc2, hf2⟩ := bcell hb2; have hz2 : w.heap.size < w2.heap.size := (by have := hb2.size; (try simp at this); omega)))
    go_ret2
    exact ⟨rfl, hB1.trans (hb2.mono (by simp))⟩
  · have ee : (way.x == 0) = false ∨ ((way.x == 0) = true ∧ (way.y == 0) = false) := by simp; omega
    have hw : wayIn way = way.insideB 10000 := by simp [wayIn, vecZ_iff, hx]
    rw [hw] at hv
    cases hb : way.insideB 10000
    all_goals
      rw [hb] at hv
      have Hb := Lib.hid hb
      have Hv := Lib.hid hv
      clear hv hw hb hx
      rcases ee with e1 | ⟨e1, e2⟩
      all_goals
        go_enter Try.func51, Try.ntmps51
        go_wp2_with (first | (go_at_call 75; refine (inside_r Hb.out _ sm).mono ?_; rintro e w1 ⟨rfl, hb1⟩; obtain ⟨hc1, hf1⟩ := bcell hb1; have hz1 : w.heap.size < w1.heap.size := (by have := hb1.size; (try simp at this); omega)) | (go_at_call 74; refine (Hv.out _ (hr1.to hb1) (ht1.to hb1)).mono ?_; rintro e w2 ⟨rfl, hb2⟩; obtain ⟨hc2, hf2⟩ := bcell hb2; have hz2 : w.heap.size < w2.heap.size := (by have := hb2.size; (try simp at this); omega)))
        go_ret2
        exact ⟨rfl, (hB1.trans (hb1.mono (by simp))).trans (hb2.mono (by omega))⟩

theorem corner_r {v : Vec} {b : Bool} (hb : v.corner = b) (w : World) :
    Calls Try.prog 75 #[.agg #[.int .i64 v.x, .int .i64 v.y], .int .i64 10000] w fun e w' => e = .returned (.bool b) ∧ Below w.heap.size w w' := inside_r hb w (by unfold Sm; omega)

/-- What holds where a head is asked for and tests, tent and push are right. -/
theorem asked_ok {l : List Tst} {t : List Head} {k : Nat} {b : Bool} (hE : headE l t k b = 0) {h : Head} (hk : t[k]? = some h) {f : List Vec} (hf : forcesM l h = f) :
    b = true ∧ (∀ x ∈ l, x.ok = true) ∧ h.ok = true ∧ (0 ≤ h.area ∧ h.area ≤ 1000) ∧ f.length ≤ 8 ∧ ∀ v ∈ f, VB v 500000 := by
  obtain ⟨hin, _, hok, hhok, _⟩ := headE_zero hE
  have hhk := hhok h (List.mem_of_getElem? hk)
  obtain ⟨h1, h2⟩ := forces_in hf hok hhk
  exact ⟨hin, hok, hhk, Head.area_in hhk, h1, h2⟩
theorem headE_get {l : List Tst} {t : List Head} {head : Int} {b : Bool} (hE : headE l t head b = 0) : ∃ (k : Nat) (h : Head), head = k ∧ t[k]? = some h := by
  obtain ⟨_, ⟨h0, h1⟩, _⟩ := headE_zero hE
  obtain ⟨k, rfl⟩ := Int.eq_ofNat_of_zero_le h0
  obtain ⟨h, hh⟩ := getElem?_lt (l := t) (k := k) (by omega)
  exact ⟨k, h, rfl, hh⟩

theorem headE_vals (l : List Tst) (t : List Head) (head : Int) (b : Bool) : headE l t head b = 0 ∨ headE l t head b = 1 ∨ headE l t head b = 2 ∨ headE l t head b = 3 ∨ headE l t head b = 9 := by
  have h1 : testsFault l = 0 ∨ testsFault l = 1 ∨ testsFault l = 3 := by unfold testsFault; split <;> (try split) <;> simp
  have h2 : tentE t = 0 ∨ tentE t = 1 := by unfold tentE; split <;> simp
  have h3 : agreeE l = 0 ∨ agreeE l = 9 := by unfold agreeE; split <;> simp
  have h4 : tentedE l t = 0 ∨ tentedE l t = 1 ∨ tentedE l t = 3 := by
    simp only [tentedE, orM]
    rcases h1 with h1 | h1 | h1 <;> rcases h2 with h2 | h2 <;> simp [h1, h2]
  simp only [headE, firstE]
  rcases h4 with h4 | h4 | h4 <;> rw [h4]
  · rw [if_pos rfl]
    split
    · rcases h3 with h3 | h3 <;> simp [h3]
    · simp
  · simp
  · simp

end Go.Proofs.Ythelogdgfhfdcaa
