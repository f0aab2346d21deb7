import Derived.Test.YthelogdgfhfdcaaCan18
import Derived.Deep.OwnRows
namespace Go.Proofs.Ythelogdgfhfdcaa
open Go.RowKit

/-- Part i of a balance. -/
def Shr.part (s : Shr) (full : Nat) (first second : Int) (i : Nat) : Int :=
  if full.testBit i then s.whole else if (i : Int) = first then s.first else if (i : Int) = second then s.second else 0
def Shr.parts (s : Shr) (n : Nat) (full : Nat) (first second : Int) : List Int := (List.range n).map (s.part full first second)
theorem Shr.parts_length {s : Shr} {n full : Nat} {a b : Int} : (s.parts n full a b).length = n := by simp [Shr.parts]
theorem Shr.parts_get {s : Shr} {n full : Nat} {a b : Int} {k : Nat} {x : Int} (h : (s.parts n full a b)[k]? = some x) : k < n ∧ x = s.part full a b k := by
  have hk := lt_of_getElem? h
  rw [Shr.parts_length] at hk
  rw [Shr.parts, List.getElem?_map, List.getElem?_range hk] at h
  exact ⟨hk, by simpa using h.symm⟩
/-- Cells of the first k parts, and zeros behind. -/
def Row (s : Shr) (n full : Nat) (a b : Int) (k : Nat) (cs : Array Value) : Prop := cs.size = n ∧ ∀ j, j < n → cs[j]? = some (.int .i64 (if j < k then s.part full a b j else 0))
theorem Row.zero (s : Shr) (n full : Nat) (a b : Int) : Row s n full a b 0 (madeCells #[.int .i64 0] n) := by
  refine ⟨size_madeCells _ _, fun j hj => ?_⟩
  simp [madeCells, hj, Nat.mod_one]
theorem Row.set_ {s : Shr} {n full : Nat} {a b : Int} {k : Nat} {cs : Array Value} (h : Row s n full a b k cs) {v : Int} (hv : v = s.part full a b k) : Row s n full a b (k + 1) (cs.setIfInBounds k (.int .i64 v)) := by
  refine ⟨by simp [h.1], fun j hj => ?_⟩
  rw [Array.getElem?_setIfInBounds]
  by_cases e : k = j
  · subst e; rw [if_pos rfl, if_pos (by rw [h.1]; exact hj), if_pos (by omega), hv]
  · rw [if_neg e, h.2 j hj]
    by_cases hlt : j < k
    · rw [if_pos hlt, if_pos (by omega)]
    · rw [if_neg hlt, if_neg (by omega)]
theorem Row.skip {s : Shr} {n full : Nat} {a b : Int} {k : Nat} {cs : Array Value} (h : Row s n full a b k cs) (hv : s.part full a b k = 0) : Row s n full a b (k + 1) cs := by
  refine ⟨h.1, fun j hj => ?_⟩
  rw [h.2 j hj]
  by_cases e : j = k
  · subst e; rw [if_neg (by omega), if_pos (by omega), hv]
  · by_cases hlt : j < k
    · rw [if_pos hlt, if_pos (by omega)]
    · rw [if_neg hlt, if_neg (by omega)]

def BalPost (whole : Int) (parts : List Int) (w : World) (e : Ending) (w' : World) : Prop :=
  ∃ A c, e = .returned (.agg #[.int .i64 whole, .slice A parts.length c]) ∧ RS encI 1 w' w'.heap.size A parts ∧ (∀ ad, A = some ad → w.heap.size ≤ ad.block) ∧ parts.length ≤ c ∧ c ≤ maxLen ∧ Below w.heap.size w w'
theorem Blk_new {w : World} {g t : Nat} {cs : Array Value} (h : g = w.heap.size) : Blk (w.alloc (.cells cs t)) g t cs := by subst h; exact Blk.new _ _ _
def zerosOf (n : Nat) : Array Value := madeCells #[.int .i64 0] n
set_option maxRecDepth 100000 in
set_option maxHeartbeats 8000000 in
theorem shareBalance_any (s : Shr) (n full : Nat) (first second : Int) (w : World) (hn : n ≤ 60) (hf : full < 65536) :
    Calls Try.prog 105 #[.agg #[.int .i64 s.first, .int .i64 s.second, .int .i64 s.whole], .int .i64 n, .int .i64 full, .int .i64 first, .int .i64 second] w (BalPost s.whole (s.parts n full first second) w) := by
  obtain ⟨i0, hi0, hz0, hz1, hz2⟩ := info_parts infoI
  have hmk : ∀ w : World, (Instr.makeSlice 48 (.int .i64 (n : Int)) (.int .i64 (n : Int))).run Try.prog w = .ok (.slice (some ⟨w.heap.size, 0, none⟩) n n) (w.alloc (.cells (zerosOf n) 3)) :=
    fun w => run_make_row 48 3 i0 (.int .i64 0) Try.underlying48 hi0 hz0 hz1 rfl .i64 .i64 n (by rw [hz2]; omega) (by omega) w
  go_enter Try.func105, Try.ntmps105
  go_upto_region 1 with fail
  go_cut [11] (fun s11 wx => ∃ X Y : Nat, s11 = .pointer (some ⟨Y, 0, none⟩) ∧ w.heap.size + 2 ≤ X ∧ w.heap.size + 2 ≤ Y ∧ X ≠ Y ∧ Blk wx X 3 (zerosOf n) ∧ Blk wx Y 71 #[.int .i64 s.whole, .slice (some ⟨X, 0, none⟩) n n] ∧ Blk wx w.heap.size 169 #[.int .i64 s.first, .int .i64 s.second, .int .i64 s.whole] ∧ Blk wx (w.heap.size + 1) 71 #[.int .i64 0, .slice none 0 0] ∧ Below w.heap.size w wx)
  case first =>
    go_region
    all_goals
      go_wp2_with fail
      go_meet
    · refine ⟨w.heap.size + 1 + 1, w.heap.size + 1 + 1 + 1, rfl, by omega, by omega, by omega, ?_, ?_, ?_, ?_, ?_⟩
      rotate_right
      · exact ((((Below.refl _ _).alloc (Nat.le_refl _) _).alloc (by simp) _).alloc (by simp <;> omega) _).alloc (by simp <;> omega) _ |>.drew
      all_goals (refine Blk.drew ?_; repeat (first | exact Blk_new (by simp <;> omega) | refine Blk.alloc ?_ _))
    · refine ⟨w.heap.size + 1 + 1 + 1, w.heap.size + 1 + 1, rfl, by omega, by omega, by omega, ?_, ?_, ?_, ?_, ?_⟩
      rotate_right
      · exact ((((Below.refl _ _).alloc (Nat.le_refl _) _).alloc (by simp) _).alloc (by simp <;> omega) _).alloc (by simp <;> omega) _ |>.drew
      all_goals (refine Blk.drew ?_; repeat (first | exact Blk_new (by simp <;> omega) | refine Blk.alloc ?_ _))
  case rest =>
    obtain ⟨X, Y, rfl, hX, hY, hXY, bX, bY, bS, bR, hB⟩ := hcut
    have hXz := bX.lt
    have hYz := bY.lt
    have y1 := bY.cell 1
    simp at y1
    go_wp2
    go_loopw [21] (fun i wr => ∃ (k : Nat) (cs : Array Value), k ≤ n ∧ i = .int .i64 k ∧ Row s n full first second k cs ∧ Blk wr X 3 cs ∧ Blk wr Y 71 #[.int .i64 s.whole, .slice (some ⟨X, 0, none⟩) n n] ∧ Blk wr w.heap.size 169 #[.int .i64 s.first, .int .i64 s.second, .int .i64 s.whole] ∧ Blk wr (w.heap.size + 1) 71 #[.int .i64 0, .slice none 0 0] ∧ Below w.heap.size w wr) (fun i _ => n - (intOf i).toNat)
    case atStart => exact ⟨0, _, Nat.zero_le _, rfl, Row.zero _ _ _ _ _, bX, bY, bS, bR, hB⟩
    case round =>
      clear bX bY bS bR hB hXz hYz y1
      obtain ⟨k, cs, hk, rfl, hrow, bX, bY, bS, bR, hB⟩ := hrel
      have hXz := bX.lt
      have hYz := bY.lt
      have hSz := bS.lt
      have y0 := bY.cell 0
      have y1 := bY.cell 1
      have s0 := bS.cell 0
      have s1 := bS.cell 1
      have s2 := bS.cell 2
      simp at y0 y1 s0 s1 s2
      by_cases hlt : k < n
      · have xk := bX.cell k
        rw [hrow.2 k hlt] at xk
        have xf := bX.frozen k
        have hn2 : k < 64 := by omega
        have Hrow := Lib.hid hrow
        clear hrow
        cases hbit : full.testBit k with
        | true =>
          have HP : Hid (s.whole = s.part full first second k) := by show _ = _; simp [Shr.part, hbit]
          go_wp2_with ((go_at_call 102; refine (has_any full k _ hf hn2).mono ?_; rintro e w' ⟨rfl, rfl⟩))
          exact ⟨⟨k + 1, _, by omega, by go_num, Hrow.out.set_ HP.out, bX.set_ k _, bY.far (by simp; omega) _, bS.far (by simp; omega) _, bR.far (by simp; omega) _, hB.setCell (by show w.heap.size ≤ X; omega) _⟩, by simp [intOf]; omega⟩
        | false =>
          by_cases h1 : (k : Int) = first
          · have HP : Hid (s.first = s.part full first second k) := by show _ = _; simp [Shr.part, hbit, h1]
            have e1 : ((k : Int) == first) = true := by simpa using h1
            clear h1
            go_wp2_with ((go_at_call 102; refine (has_any full k _ hf hn2).mono ?_; rintro e w' ⟨rfl, rfl⟩))
            exact ⟨⟨k + 1, _, by omega, by go_num, Hrow.out.set_ HP.out, bX.set_ k _, bY.far (by simp; omega) _, bS.far (by simp; omega) _, bR.far (by simp; omega) _, hB.setCell (by show w.heap.size ≤ X; omega) _⟩, by simp [intOf]; omega⟩
          · have e1 : ((k : Int) == first) = false := by simpa using h1
            by_cases h2 : (k : Int) = second
            · have HP : Hid (s.second = s.part full first second k) := by show _ = _; simp only [Shr.part, hbit, if_neg h1, if_pos h2]; simp
              have e2 : ((k : Int) == second) = true := by simpa using h2
              clear h2
              go_wp2_with ((go_at_call 102; refine (has_any full k _ hf hn2).mono ?_; rintro e w' ⟨rfl, rfl⟩))
              exact ⟨⟨k + 1, _, by omega, by go_num, Hrow.out.set_ HP.out, bX.set_ k _, bY.far (by simp; omega) _, bS.far (by simp; omega) _, bR.far (by simp; omega) _, hB.setCell (by show w.heap.size ≤ X; omega) _⟩, by simp [intOf]; omega⟩
            · have HP : Hid (s.part full first second k = 0) := by show _ = _; simp only [Shr.part, hbit, if_neg h1, if_neg h2]; simp
              have e2 : ((k : Int) == second) = false := by simpa using h2
              go_wp2_with ((go_at_call 102; refine (has_any full k _ hf hn2).mono ?_; rintro e w' ⟨rfl, rfl⟩))
              exact ⟨⟨k + 1, _, by omega, by go_num, Hrow.out.skip HP.out, bX, bY, bS, bR, hB⟩, by simp [intOf]; omega⟩
      · obtain rfl : k = n := by omega
        have r0 := bR.cell 0
        have r1 := bR.cell 1
        have f0 := bR.frozen 0
        have f1 := bR.frozen 1
        have rz := bR.lt
        simp at r0 r1
        go_wp2
        have bf := (bR.set_ 0 (.int .i64 s.whole)).set_ 1 (.slice (some ⟨X, 0, none⟩) k k)
        have v0 := bf.cell 0
        have v1 := bf.cell 1
        simp at v0 v1
        refine bodyPost_ret (v := .agg #[.int .i64 s.whole, .slice (some ⟨X, 0, none⟩) k k]) (by simp [results, Try.results105, go_sem, v0, v1]) rfl ⟨some ⟨X, 0, none⟩, k, by rw [Shr.parts_length], ?_, fun ad e => (by cases e; show w.heap.size ≤ X; omega), by rw [Shr.parts_length]; omega, by unfold maxLen; omega, ?_⟩
        · refine .inr ⟨X, 0, rfl, by simpa using hXz, fun j x hx i v hv => ?_⟩
          obtain ⟨hj, rfl⟩ := Shr.parts_get hx
          have hb := ((bX.far (p := ⟨w.heap.size + 1, 0, none⟩) (by simp; omega) (.int .i64 s.whole)).far (p := ⟨w.heap.size + 1, 1, none⟩) (by simp; omega) (.slice (some ⟨X, 0, none⟩) k k)).cell j
          rcases i with _ | i
          · simp [encI] at hv
            subst hv
            rw [hrow.2 j hj, if_pos hj] at hb
            simpa using hb
          · simp [encI] at hv
        · exact (hB.setCell (by show w.heap.size ≤ w.heap.size + 1; omega) _).setCell (by show w.heap.size ≤ w.heap.size + 1; omega) _
end Go.Proofs.Ythelogdgfhfdcaa
