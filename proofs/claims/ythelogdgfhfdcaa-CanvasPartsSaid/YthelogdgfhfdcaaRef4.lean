import Derived.Test.YthelogdgfhfdcaaRef3
import Derived.Test.YthelogdgfhfdcaaMathD
namespace Go.Proofs.Ythelogdgfhfdcaa
open Go.RowKit


/-- Far from the bounds of an int. -/
def Sm (z : Int) : Prop := -4000000000000000000 ≤ z ∧ z ≤ 4000000000000000000
theorem Sm.wrap {z : Int} (h : Sm z) : IntKind.i64.wrap z = z := IntWalk.i64_in _ (by unfold Sm at h; omega)

theorem refTimes_any (v : Vec) (n : Int) (w : World) (h1 : Sm (n * v.x)) (h2 : Sm (n * v.y)) :
    Calls Try.prog 42 #[.agg #[.int .i64 v.x, .int .i64 v.y], .int .i64 n] w fun e w' => e = .returned (.agg #[.int .i64 (v.times n).x, .int .i64 (v.times n).y]) ∧ Below w.heap.size w w' := by
  unfold Sm at h1 h2
  go_enter Try.func42, Try.ntmps42
  go_wp2
  exact bodyPost_ret (v := .agg #[.int .i64 (n * v.x), .int .i64 (n * v.y)]) (by simp [results, Try.results42, go_sem]) rfl ⟨rfl, ((Below.refl _ _).alloc (Nat.le_refl _) _).alloc (by simp) _⟩

theorem refDot_any (v u : Vec) (w : World) (h1 : Sm (v.x * u.x)) (h2 : Sm (v.y * u.y)) :
    Calls Try.prog 78 #[.agg #[.int .i64 v.x, .int .i64 v.y], .agg #[.int .i64 u.x, .int .i64 u.y]] w fun e w' => e = .returned (.int .i64 (v.dot u)) ∧ Below w.heap.size w w' := by
  unfold Sm at h1 h2
  go_enter Try.func78, Try.ntmps78
  go_wp2
  go_ret
  exact ⟨rfl, ((Below.refl _ _).alloc (Nat.le_refl _) _).alloc (by simp) _⟩

theorem refCorner_any (v : Vec) (w : World) :
    Calls Try.prog 39 #[.agg #[.int .i64 v.x, .int .i64 v.y]] w fun e w' => e = .returned (.bool v.corner) ∧ Below w.heap.size w w' := by
  have HC : Hid (v.corner = (inB v.x (-10000) 10000 && inB v.y (-10000) 10000)) := rfl
  cases h1 : inB v.x (-10000) 10000 <;> cases h2 : inB v.y (-10000) 10000
  all_goals
    rw [h1, h2] at HC
    go_enter Try.func39, Try.ntmps39
    go_wp2_with (go_at_call 23; refine (in_any _ _ _ _).mono ?_; rintro e w' ⟨rfl, rfl⟩)
    go_ret
    exact ⟨ret_bool HC.out.symm, (Below.refl _ _).alloc (Nat.le_refl _) _⟩

theorem refRightGuy_any (g : Guy) (w : World) :
    Calls Try.prog 58 #[.agg #[.int .i64 g.x, .int .i64 g.y, .int .i64 g.down, .int .i64 g.soil, .int .i64 g.depth]] w fun e w' => e = .returned (.bool g.ok) ∧ Below w.heap.size w w' := by
  go_enter Try.func58, Try.ntmps58
  go_wp2_with (go_at_call 23; refine (in_any _ _ _ _).mono ?_; rintro e w' ⟨rfl, rfl⟩)
  all_goals
    go_ret
    exact ⟨ret_bool (by first | (simp [Guy.ok, *]; done) | (simp_all [Guy.ok, inB])), (Below.refl _ _).alloc (Nat.le_refl _) _⟩

theorem refOverloaded_any (A : Option Addr) (c : Nat) (h : Head) (hh : h.ok = true) (w : World) (hr : RS encG 5 w w.heap.size A h.guys) :
    Calls Try.prog 32 #[.agg #[.int .i64 h.area, .int .i64 h.bears, .slice A h.guys.length c]] w fun e w' => e = .returned (.bool (decide (h.bears < downM h))) ∧ Below w.heap.size w w' := by
  have hl : h.guys.length ≤ 8 := by have := hh; simp [Head.ok] at this; exact this.2.2.1
  have hgs : ∀ g ∈ h.guys, g.ok = true := by have := hh; simp [Head.ok] at this; exact this.2.2.2
  have Hgs := Lib.hid hgs
  clear hgs hh
  go_enter Try.func32, Try.ntmps32
  go_wp2
  have hr' := (hr.below (((Below.refl _ _).alloc (Nat.le_refl _) _)) (Nat.le_refl _) : RS encG 5 (w.alloc (.cells #[.int .i64 h.area, .int .i64 h.bears, .slice A h.guys.length c] 62)) w.heap.size A h.guys)
  go_loop [3, 4] (fun n i => ∃ (k : Nat) (m : Int), k ≤ h.guys.length ∧ i = .int .i64 k ∧ n = .int .i64 m ∧ (h.guys.take k).foldl (fun n g => n + g.down) 0 = m ∧ 0 ≤ m ∧ m ≤ 5000 * k) (fun _ i => h.guys.length - (intOf i).toNat)
  case atStart => exact ⟨0, 0, Nat.zero_le _, rfl, rfl, rfl, by omega, by omega⟩
  case round =>
    obtain ⟨k, m, hk, rfl, rfl, hfold, hm1, hm2⟩ := hrel
    have Hfold := Lib.hid hfold
    clear hfold
    by_cases hlt : k < h.guys.length
    · obtain ⟨g, hg⟩ := getElem?_lt hlt
      obtain ⟨_, _, _, ⟨g1, g2⟩, _⟩ := Guy.ok_iff.1 (Hgs.out g (List.mem_of_getElem? hg))
      obtain ⟨b, off, rfl, hb, hc⟩ := hr'.at_ hg
      have c2 := hc 2 _ rfl
      have c2' : w.cell? ⟨b, off + k * 5 + 2, none⟩ = some (.int .i64 g.down) := (World.cell?_alloc_lt _ _ _ (by show b < w.heap.size; omega)).symm.trans c2
      have Hg := Lib.hid hg
      clear hg hc c2 hr' hr
      go_wp2
      go_round
      case rel => exact ⟨k + 1, m + g.down, by omega, by go_num, rfl, by rw [foldl_snoc Hg.out, Hfold.out], by omega, by omega⟩
      case measure => simp [intOf]; omega
    · go_wp2
      go_ret
      exact ⟨ret_bool (by unfold downM; rw [← Hfold.out, foldl_end hlt]), (Below.refl _ _).alloc (Nat.le_refl _) _⟩

set_option maxRecDepth 20000 in
theorem refDeep_any (A : Option Addr) (c : Nat) (l : List Tst) (w : World) (soil force : Int) (hr : RS encT 4 w w.heap.size A l) (hl : l.length ≤ maxLen) (hok : ∀ x ∈ l, x.ok = true) :
    Calls Try.prog 24 #[.slice A l.length c, .int .i64 soil, .int .i64 force] w fun e w' => e = .returned (.int .i64 (deepM l soil force)) ∧ Below w.heap.size w w' := by
  go_enter Try.func24, Try.ntmps24
  go_wp2
  go_loopw [7] (fun i wr => ∃ k : Nat, k ≤ 3000 ∧ i = .int .i64 ((k : Int) + 1) ∧ deepFrom l soil force (3000 - k) ((k : Int) + 1) = deepM l soil force ∧ Below w.heap.size w wr) (fun i _ => 3001 - (intOf i).toNat)
  case atStart => exact ⟨0, Nat.zero_le _, rfl, rfl, Below.refl _ _⟩
  case round =>
    obtain ⟨k, hk, rfl, hd, hB⟩ := hrel
    have Hd := Lib.hid hd
    clear hd
    by_cases hlt : k < 3000
    · have hrr := (hr.below hB (Nat.le_refl _)).more hB.size
      by_cases hf : force ≤ (holdsM l soil ((k : Int) + 1)).1
      · go_wp2_with (go_at_call 25; refine (refHolds_any _ _ _ _ _ _ hrr hl hok (by omega) (by omega)).mono ?_; rintro e w1 ⟨rfl, hb1⟩)
        go_ret
        exact ⟨ret_int (by rw [← Hd.out, show 3000 - k = (3000 - (k + 1)) + 1 from by omega, deepFrom, if_pos hf]), hB.trans (hb1.mono hB.size)⟩
      · go_wp2_with (go_at_call 25; refine (refHolds_any _ _ _ _ _ _ hrr hl hok (by omega) (by omega)).mono ?_; rintro e w1 ⟨rfl, hb1⟩)
        go_roundw
        case rel => exact ⟨k + 1, by omega, by go_num, by rw [← Hd.out, show 3000 - k = (3000 - (k + 1)) + 1 from by omega, deepFrom, if_neg (by omega)]; rfl, hB.trans (hb1.mono hB.size)⟩
        case measure => simp [intOf]; omega
    · go_wp2
      go_ret
      exact ⟨ret_int (by rw [← Hd.out, show 3000 - k = 0 from by omega]; rfl), hB⟩
end Go.Proofs.Ythelogdgfhfdcaa
