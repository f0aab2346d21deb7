import Derived.Test.YthelogdgfhfdcaaCan16
import Derived.Test.YthelogdgfhfdcaaCan7
namespace Go.Proofs.Ythelogdgfhfdcaa
open Go.RowKit

/-- Within the bounds of an int, with room for one. -/
def Lg (z : Int) : Prop := -9000000000000000000 ≤ z ∧ z ≤ 9000000000000000000
theorem timesL_any (v : Vec) (n : Int) (w : World) (h1 : Lg (n * v.x)) (h2 : Lg (n * v.y)) :
    Calls Try.prog 99 #[.agg #[.int .i64 v.x, .int .i64 v.y], .int .i64 n] w fun e w' => e = .returned (.agg #[.int .i64 (v.times n).x, .int .i64 (v.times n).y]) ∧ Below w.heap.size w w' := by
  unfold Lg at h1 h2
  go_enter Try.func99, Try.ntmps99
  go_wp2
  exact bodyPost_ret (v := .agg #[.int .i64 (n * v.x), .int .i64 (n * v.y)]) (by simp [results, Try.results99, go_sem]) rfl ⟨rfl, ((Below.refl _ _).alloc (Nat.le_refl _) _).alloc (by simp) _⟩

def Vec.plus (v u : Vec) : Vec := ⟨v.x + u.x, v.y + u.y⟩
def sumV (f : List Vec) : Vec := f.foldl Vec.plus vecZ
theorem vec_eta (v : Vec) (x y : Int) (h1 : v.x = x) (h2 : v.y = y) : v = ⟨x, y⟩ := by cases v; simp at *; exact ⟨h1, h2⟩
set_option maxHeartbeats 600000 in
theorem sum_any (A : Option Addr) (c : Nat) (f : List Vec) (w : World) (hr : RS encV 2 w w.heap.size A f) (hl : f.length ≤ 100) (hs : ∀ k, k ≤ f.length → Lg (sumV (f.take k)).x ∧ Lg (sumV (f.take k)).y) :
    Calls Try.prog 109 #[.slice A f.length c] w fun e w' => e = .returned (.agg #[.int .i64 (sumV f).x, .int .i64 (sumV f).y]) ∧ Below w.heap.size w w' := by
  have Hs := Lib.hid hs
  clear hs
  go_enter Try.func109, Try.ntmps109
  go_wp2
  go_loopw [8] (fun i wr => ∃ (k : Nat) (x y : Int), k ≤ f.length ∧ i = .int .i64 k ∧ sumV (f.take k) = ⟨x, y⟩ ∧ Below w.heap.size w wr ∧ Blk wr w.heap.size 74 #[.int .i64 0, .int .i64 0] ∧ Blk wr (w.heap.size + 1) 74 #[.int .i64 x, .int .i64 y]) (fun i _ => f.length - (intOf i).toNat)
  case atStart =>
    exact ⟨0, 0, 0, Nat.zero_le _, rfl, rfl, ((Below.refl _ _).alloc (Nat.le_refl _) _).alloc (by simp) _, (Blk.new _ _ _).alloc _, by simpa using Blk.new (w.alloc (.cells #[.int .i64 0, .int .i64 0] 74)) 74 #[.int .i64 0, .int .i64 0]⟩
  case round =>
    obtain ⟨k, x, y, hk, rfl, hfold, hB, b0, b1⟩ := hrel
    have Hfold := Lib.hid hfold
    clear hfold
    have s0 := b0.cell 0
    have s1 := b0.cell 1
    have f0 := b0.frozen 0
    have f1 := b0.frozen 1
    have r0 := b1.cell 0
    have r1 := b1.cell 1
    have g0 := b1.frozen 0
    have g1 := b1.frozen 1
    have z := b1.lt
    simp at s0 s1 r0 r1
    by_cases hlt : k < f.length
    · obtain ⟨v, hv⟩ := getElem?_lt hlt
      have hn : sumV (f.take (k + 1)) = ⟨x + v.x, y + v.y⟩ := by
        rw [sumV, foldl_snoc hv, ← sumV, Hfold.out]; rfl
      have n1 := (Hs.out (k + 1) (by omega)).1
      have n2 := (Hs.out (k + 1) (by omega)).2
      rw [hn] at n1 n2
      simp only [Lg] at n1 n2
      have HN := Lib.hid hn
      obtain ⟨b, off, rfl, hb, hc⟩ := (hr.below hB (Nat.le_refl _)).at_ hv
      have c0 := hc 0 _ rfl
      have c1 := hc 1 _ rfl
      simp only [Nat.add_zero] at c0
      have v1 : IntKind.i64.wrap (x + v.x) = x + v.x := IntWalk.i64_in _ (by omega)
      have v2 : IntKind.i64.wrap (y + v.y) = y + v.y := IntWalk.i64_in _ (by omega)
      clear hv hc hr hn
      go_wp2
      refine ⟨⟨k + 1, _, _, by omega, by go_num, HN.out, ((hB.setCell (by show w.heap.size ≤ w.heap.size + 1; omega) _).setCell (by show w.heap.size ≤ w.heap.size + 1; omega) _).alloc (by have := hB.size; simp; omega) _, ((b0.far (by simp) _).far (by simp) _).alloc _, ?_⟩, by simp [intOf]; omega⟩
      show Blk _ _ _ #[_, _]
      simpa using ((b1.set_ 0 (.int .i64 (x + v.x))).set_ 1 (.int .i64 (y + v.y))).alloc (.cells #[.int .i64 v.x, .int .i64 v.y] 74)
    · go_wp2
      have bf := (b0.set_ 0 (.int .i64 x)).set_ 1 (.int .i64 y)
      have v0 := bf.cell 0
      have v1 := bf.cell 1
      simp at v0 v1
      refine bodyPost_ret (v := .agg #[.int .i64 x, .int .i64 y]) (by simp [results, Try.results109, go_sem, v0, v1]) rfl ⟨?_, ?_⟩
      · have hf : sumV f = ⟨x, y⟩ := by rw [← Hfold.out, List.take_of_length_le (by omega)]
        rw [hf]
      · exact (hB.setCell (Nat.le_refl _) _).setCell (Nat.le_refl _) _

def Shr.ok (s : Shr) (a b : Bool) : Bool := decide (0 < s.whole) && (inPartB s.first s.whole a && inPartB s.second s.whole b)
theorem allowed_any (s : Shr) (a b : Bool) (w : World) : Calls Try.prog 104 #[.agg #[.int .i64 s.first, .int .i64 s.second, .int .i64 s.whole], .bool a, .bool b] w fun e w' => e = .returned (.bool (s.ok a b)) ∧ Below w.heap.size w w' := by
  have HC : Hid (s.ok a b = (decide (0 < s.whole) && (inPartB s.first s.whole a && inPartB s.second s.whole b))) := rfl
  by_cases h0 : 0 < s.whole
  · cases h1 : inPartB s.first s.whole a
    all_goals
      go_enter Try.func104, Try.ntmps104
      go_wp2_with ((go_at_call 121; refine (inPart_any _ _ _ _).mono ?_; rintro e w' ⟨rfl, rfl⟩))
      go_ret
      exact ⟨ret_bool (by rw [HC.out]; simp [*]), (Below.refl _ _).alloc (Nat.le_refl _) _⟩
  · go_enter Try.func104, Try.ntmps104
    go_wp2_with ((go_at_call 121; refine (inPart_any _ _ _ _).mono ?_; rintro e w' ⟨rfl, rfl⟩))
    go_ret
    exact ⟨ret_bool (by rw [HC.out, decide_eq_false (by omega : ¬ 0 < s.whole)]; rfl), (Below.refl _ _).alloc (Nat.le_refl _) _⟩
end Go.Proofs.Ythelogdgfhfdcaa
