import Derived.Test.YtibaindlbpfecaaCanB
import Derived.Test.YtibaindlbpfecaaCanA
import Derived.Deep.OwnRows
import Derived.RangeFuncNested
import Derived.RangeFuncBound
import Derived.RangeFuncCalls
import Derived.RangeFuncLeaves
import Derived.RangeFuncFrom
import Derived.Shelf.Abstract
import Derived.Shelf.RegionOpen
import Derived.OwnWalkIn
import Derived.TacticsInMore
import Derived.LoopNIn
import Derived.LoopIn
import Derived.Maps.OwnIn
import Derived.Deep.Upon

namespace Go.Proofs.Ytibaindlbpfecaa
open Go.RowKit

theorem flat_take {L : List Vec} {k : Nat} {v : Vec} (h : L[k]? = some v) : ((L.flatMap encV).drop (k * 2)).take 2 = [.int .i64 v.x, .int .i64 v.y] := by
  have key : ∀ (L : List Vec) (k : Nat), L[k]? = some v → ((L.flatMap encV).drop (k * 2)).take 2 = [.int .i64 v.x, .int .i64 v.y] := by
    intro L
    induction L with
    | nil => intro k h; simp at h
    | cons a L ih =>
      intro k h
      cases k with
      | zero => simp at h; subst h; rfl
      | succ k =>
        rw [List.flatMap_cons, show (k + 1) * 2 = (encV a).length + k * 2 from by simp [encV]; omega, List.drop_append, List.drop_of_length_le (by omega), List.nil_append, Nat.add_sub_cancel_left]
        exact ih k (by simpa using h)
  exact key L k h
theorem index_ways {L : List Vec} {k : Nat} {v : Vec} (hL : L.length = 20) (h : L[k]? = some v) (w : World) :
    (Instr.index 173 (.agg (L.flatMap encV).toArray) (.int .i64 k)).run Try.prog w = .ok (.agg #[.int .i64 v.x, .int .i64 v.y]) w := by
  have hk := lt_of_getElem? h
  simp [Instr.index, go_sem]
  rw [if_pos (by omega), flat_take h]

def reachStep (area : Int) (f : List Vec) (way : Vec) (most : Int) (d : Vec) : Int :=
  if 0 < d.dot (way.times area) then min most (helpM f d / d.dot (way.times area)) else most
/-- The greatest multiple of a direction, up to 10000, that no direction of the forces forbids. -/
def reachM (area : Int) (f : List Vec) (way : Vec) : Int := (waysL f).foldl (reachStep area f way) 10000
theorem waysL_vb {f : List Vec} {p : Int} (hp : 1 ≤ p) (hf : ∀ v ∈ f, VB v p) : ∀ v ∈ waysL f, VB v p := by
  intro v hv
  simp only [waysL, turnsM, List.mem_append, List.mem_cons, List.not_mem_nil, or_false, List.mem_flatMap, List.mem_replicate] at hv
  rcases hv with ((rfl | rfl | rfl | rfl) | ⟨a, ha, rfl | rfl⟩) | ⟨_, rfl⟩
  · unfold VB; simp only; omega
  · unfold VB; simp only; omega
  · unfold VB; simp only; omega
  · unfold VB; simp only; omega
  · exact (hf a ha).turned
  · exact (hf a ha).turned.neg
  · unfold VB vecZ; simp only; omega

theorem helpM_le {f : List Vec} {way : Vec} (hf : ∀ v ∈ f, VB v 500000) (hw : VB way 1000000) : helpM f way ≤ 1000000000000 * f.length := by
  have key : ∀ (f : List Vec) (n : Int), (∀ v ∈ f, VB v 500000) → f.foldl (fun n v => n + max 0 (-(way.dot v))) n ≤ n + 1000000000000 * f.length := by
    intro f
    induction f with
    | nil => intro n _; simp
    | cons a f ih =>
      intro n h
      have h1 := hw.dot' (h a (by simp))
      have h2 := ih (n + max 0 (-(way.dot a))) (fun v hv => h v (by simp [hv]))
      simp only [List.foldl_cons, List.length_cons]
      omega
  have := key f 0 hf
  unfold helpM
  omega
set_option maxRecDepth 100000 in
set_option maxHeartbeats 1000000 in
theorem reach_any (h : Head) (A1 A2 : Option Addr) (c1 c2 : Nat) (f : List Vec) (way : Vec) (w : World) (hr : RS encV 2 w w.heap.size A1 f) (hl : f.length ≤ 8) (hf : ∀ v ∈ f, VB v 500000) (ha : 0 ≤ h.area ∧ h.area ≤ 1000) (hw : VB way 10000) :
    Calls Try.prog 77 #[.agg #[.int .i64 h.area, .int .i64 h.bears, .slice A2 h.guys.length c2, .slice A1 f.length c1], .agg #[.int .i64 way.x, .int .i64 way.y]] w fun e w' => e = .returned (.int .i64 (reachM h.area f way)) ∧ Below w.heap.size w w' := by
  have hpt := hw.times (n := h.area) (q := 1000) (by omega)
  have p1 : Sm (h.area * way.x) := by have := hpt.1; simp only [Vec.times] at this; unfold Sm; omega
  have p2 : Sm (h.area * way.y) := by have := hpt.2; simp only [Vec.times] at this; unfold Sm; omega
  have Hpt := Lib.hid hpt
  have Hf := Lib.hid hf
  have Hwl := Lib.hid (waysL_vb (by omega) hf)
  have HL : Hid ((waysL f).length = 20) := waysL_length hl
  have hB := ((Below.refl w.heap.size w).alloc (Nat.le_refl _) (.cells #[.int .i64 h.area, .int .i64 h.bears, .slice A2 h.guys.length c2, .slice A1 f.length c1] 125)).alloc (by simp) (.cells #[.int .i64 way.x, .int .i64 way.y] 58)
  have hr1 := (hr.below hB (Nat.le_refl _)).more hB.size
  clear hf hpt
  go_enter Try.func77, Try.ntmps77
  go_wp2_with fail
  refine (ways_any h A1 A2 c1 c2 f _ hr1 hl Hf.out).mono ?_
  rintro e wo ⟨rfl, hbo⟩
  have kM := ((Blk.new w 125 #[.int .i64 h.area, .int .i64 h.bears, .slice A2 h.guys.length c2, .slice A1 f.length c1]).alloc (.cells #[.int .i64 way.x, .int .i64 way.y] 58)).below hbo (by simp <;> omega)
  have kV := (Blk.new (w.alloc (.cells #[.int .i64 h.area, .int .i64 h.bears, .slice A2 h.guys.length c2, .slice A1 f.length c1] 125)) 58 #[.int .i64 way.x, .int .i64 way.y]).below hbo (by simp)
  have hro := hr1.to hbo
  have hBo := hB.trans (hbo.mono hB.size)
  simp only [World.size_alloc] at kV
  clear hbo hr1 hr hB
  go_wp2
  go_loopw [5, 11] (fun m i wr => ∃ (k : Nat) (most : Int), k ≤ 20 ∧ i = .int .i64 k ∧ m = .int .i64 most ∧ ((waysL f).take k).foldl (reachStep h.area f way) 10000 = most ∧ Below wo.heap.size wo wr) (fun _ i _ => 20 - (intOf i).toNat)
  case atStart => exact ⟨0, 10000, by omega, rfl, rfl, rfl, Below.refl _ _⟩
  case round =>
    obtain ⟨k, most, hk, rfl, rfl, hfold, hB⟩ := hrel
    have Hfold := Lib.hid hfold
    clear hfold
    have hbz := hB.size
    by_cases hlt : k < 20
    · obtain ⟨d, hd⟩ := getElem?_lt (l := waysL f) (k := k) (by rw [HL.out]; exact hlt)
      have db := Hwl.out d (List.mem_of_getElem? hd)
      obtain ⟨s1, s2⟩ := db.sm Hpt.out (by omega)
      have hdd := db.dot' Hpt.out
      have hix := index_ways HL.out hd
      have Hd := Lib.hid hd
      have hh0 := helpM_nonneg (f := f) (way := d)
      have kMw := kM.below hB kM.lt
      have kVw := kV.below hB kV.lt
      have m0 := kMw.cell 0
      have m1 := kMw.cell 1
      have m2 := kMw.cell 2
      have m3 := kMw.cell 3
      have n0 := kVw.cell 0
      have n1 := kVw.cell 1
      simp at m0 m1 m2 m3 n0 n1
      have mz := kMw.lt
      have nz := kVw.lt
      have hrr := (hro.to hB).to ((Below.refl _ wr).alloc (Nat.le_refl _) (.cells #[.int .i64 d.x, .int .i64 d.y] 58))
      have HS : Hid (reachStep h.area f way most d = if 0 < d.dot (way.times h.area) then min most (helpM f d / d.dot (way.times h.area)) else most) := rfl
      have Hdd := Lib.hid hdd
      clear hd hdd kMw kVw kM kV hro
      go_wp2
      refine name_world (motive := fun W => Code.wp _ _ _ _ W) _ ?_
      intro W0 hW
      have hWc := hW.cell
      have hWz := hW.size
      have hWb := hW.below ((Below.refl wr.heap.size wr).alloc (Nat.le_refl _) (.cells #[.int .i64 d.x, .int .i64 d.y] 58))
      have hrW : RS encV 2 W0 W0.heap.size A1 f := by rw [hW.eq.out]; exact hrr
      rw [World.size_alloc] at hWz
      have mz' : w.heap.size < W0.heap.size := by omega
      have nz' : w.heap.size + 1 < W0.heap.size := by omega
      have dz' : wr.heap.size < W0.heap.size := by omega
      clear hWz
      have hhle := helpM_le Hf.out ((Hwl.out d (List.mem_of_getElem? Hd.out)).mono (by omega : (500000 : Int) ≤ 1000000))
      go_region_held3 (fun w' => (∀ b o, b < W0.heap.size → w'.cell? ⟨b, o, none⟩ = W0.cell? ⟨b, o, none⟩) ∧ Below W0.heap.size W0 w') (first | with_reducible exact sh_refl _ | (with_reducible refine sh_of ?_; with_reducible assumption) | (with_reducible refine sh_alloc ?_ _; with_reducible assumption) | with_reducible exact sh_first _ _)
        (first | (go_at_call 100; go_split_ands; have hS1 : Below W0.heap.size W0 _ := (by with_reducible assumption); refine (pushed_any h A1 A2 c1 c2 f way _ p1 p2).mono ?_; rintro e w1 ⟨rfl, hb1⟩; have hB1 := sh_next hS1 hb1) | (go_at_call 102; go_split_ands; have hS2 : Below W0.heap.size W0 _ := (by with_reducible assumption); refine (dot_any d (way.times h.area) _ s1 s2).mono ?_; rintro e w2 ⟨rfl, hb2⟩; have hB2 := sh_next hS2 hb2))
      have hB3 := hB.trans (hWb.mono hbz) |>.trans (hB2.mono (by have := hWb.size; omega))
      have hz2 := hB2.size
      by_cases ho : 0 < d.dot (way.times h.area)
      · have e0 : (d.dot (way.times h.area) == 0) = false := by simp; omega
        have e1 : d.dot (way.times h.area) ≠ 0 := by omega
        have hdb := Hdd.out
        have q0 := IntWalk.tdiv_le (helpM f d) (d.dot (way.times h.area)) hh0 (by omega)
        have hr2 := hrW.to hB2
        have hvb := (Hwl.out d (List.mem_of_getElem? Hd.out)).mono (by omega : (500000 : Int) ≤ 1000000)
        have Hvb := Lib.hid hvb
        clear hvb
        go_wp2_with (go_at_call 103; refine (strength_any h A1 A2 c1 c2 f d _ hr2 (by omega) Hf.out Hvb.out).mono ?_; rintro e w4 ⟨rfl, hb4⟩)
        all_goals
          refine ⟨⟨k + 1, _, by omega, by go_num, rfl, ?_, hB3.trans (hb4.mono (by have := hB3.size; omega))⟩, by simp [intOf]; omega⟩
          rw [foldl_snoc Hd.out, Hfold.out, HS.out, if_pos ho]
          omega
      · go_wp2
        refine ⟨⟨k + 1, most, by omega, by go_num, rfl, ?_, hB3⟩, by simp [intOf]; omega⟩
        rw [foldl_snoc Hd.out, Hfold.out, HS.out, if_neg (by omega)]
    · go_wp2
      go_ret
      obtain rfl : k = 20 := by omega
      exact ⟨ret_int (by unfold reachM; rw [← Hfold.out, foldl_end (by rw [HL.out]; omega)]), hBo.trans (hB.mono hBo.size)⟩
end Go.Proofs.Ytibaindlbpfecaa

namespace Go.Proofs.Ytibaindlbpfecaa
open Go.RowKit

/-- Within the bounds of an int, with room for one. -/
def Lg (z : Int) : Prop := -9000000000000000000 ≤ z ∧ z ≤ 9000000000000000000
theorem timesL_any (v : Vec) (n : Int) (w : World) (h1 : Lg (n * v.x)) (h2 : Lg (n * v.y)) :
    Calls Try.prog 91 #[.agg #[.int .i64 v.x, .int .i64 v.y], .int .i64 n] w fun e w' => e = .returned (.agg #[.int .i64 (v.times n).x, .int .i64 (v.times n).y]) ∧ Below w.heap.size w w' := by
  unfold Lg at h1 h2
  go_enter Try.func91, Try.ntmps91
  go_wp2
  exact bodyPost_ret (v := .agg #[.int .i64 (n * v.x), .int .i64 (n * v.y)]) (by simp [results, Try.results91, go_sem]) rfl ⟨rfl, ((Below.refl _ _).alloc (Nat.le_refl _) _).alloc (by simp) _⟩

def Vec.plus (v u : Vec) : Vec := ⟨v.x + u.x, v.y + u.y⟩
def sumV (f : List Vec) : Vec := f.foldl Vec.plus vecZ
theorem vec_eta (v : Vec) (x y : Int) (h1 : v.x = x) (h2 : v.y = y) : v = ⟨x, y⟩ := by cases v; simp at *; exact ⟨h1, h2⟩
set_option maxHeartbeats 600000 in
theorem sum_any (A : Option Addr) (c : Nat) (f : List Vec) (w : World) (hr : RS encV 2 w w.heap.size A f) (hl : f.length ≤ 100) (hs : ∀ k, k ≤ f.length → Lg (sumV (f.take k)).x ∧ Lg (sumV (f.take k)).y) :
    Calls Try.prog 101 #[.slice A f.length c] w fun e w' => e = .returned (.agg #[.int .i64 (sumV f).x, .int .i64 (sumV f).y]) ∧ Below w.heap.size w w' := by
  have Hs := Lib.hid hs
  clear hs
  go_enter Try.func101, Try.ntmps101
  go_wp2
  go_loopw [8] (fun i wr => ∃ (k : Nat) (x y : Int), k ≤ f.length ∧ i = .int .i64 k ∧ sumV (f.take k) = ⟨x, y⟩ ∧ Below w.heap.size w wr ∧ Blk wr w.heap.size 58 #[.int .i64 0, .int .i64 0] ∧ Blk wr (w.heap.size + 1) 58 #[.int .i64 x, .int .i64 y]) (fun i _ => f.length - (intOf i).toNat)
  case atStart =>
    exact ⟨0, 0, 0, Nat.zero_le _, rfl, rfl, ((Below.refl _ _).alloc (Nat.le_refl _) _).alloc (by simp) _, (Blk.new _ _ _).alloc _, by simpa using Blk.new (w.alloc (.cells #[.int .i64 0, .int .i64 0] 58)) 58 #[.int .i64 0, .int .i64 0]⟩
  case round =>
    obtain ⟨k, x, y, hk, rfl, hfold, hB, b0, b1⟩ := hrel
    have Hfold := Lib.hid hfold
    clear hfold
    have s0 := b0.cell 0
    have s1 := b0.cell 1
    have f0 := b0.frozen 0
    have f1 := b0.frozen 1
    have r0 := b1.cell 0
    have r1 := b1.cell 1
    have g0 := b1.frozen 0
    have g1 := b1.frozen 1
    have z := b1.lt
    simp at s0 s1 r0 r1
    by_cases hlt : k < f.length
    · obtain ⟨v, hv⟩ := getElem?_lt hlt
      have hn : sumV (f.take (k + 1)) = ⟨x + v.x, y + v.y⟩ := by
        rw [sumV, foldl_snoc hv, ← sumV, Hfold.out]; rfl
      have n1 := (Hs.out (k + 1) (by omega)).1
      have n2 := (Hs.out (k + 1) (by omega)).2
      rw [hn] at n1 n2
      simp only [Lg] at n1 n2
      have HN := Lib.hid hn
      obtain ⟨b, off, rfl, hb, hc⟩ := (hr.below hB (Nat.le_refl _)).at_ hv
      have c0 := hc 0 _ rfl
      have c1 := hc 1 _ rfl
      simp only [Nat.add_zero] at c0
      have v1 : IntKind.i64.wrap (x + v.x) = x + v.x := IntWalk.i64_in _ (by omega)
      have v2 : IntKind.i64.wrap (y + v.y) = y + v.y := IntWalk.i64_in _ (by omega)
      clear hv hc hr hn
      go_wp2
      refine ⟨⟨k + 1, _, _, by omega, by go_num, HN.out, ((hB.setCell (by show w.heap.size ≤ w.heap.size + 1; omega) _).setCell (by show w.heap.size ≤ w.heap.size + 1; omega) _).alloc (by have := hB.size; simp; omega) _, ((b0.far (by simp) _).far (by simp) _).alloc _, ?_⟩, by simp [intOf]; omega⟩
      show Blk _ _ _ #[_, _]
      simpa using ((b1.set_ 0 (.int .i64 (x + v.x))).set_ 1 (.int .i64 (y + v.y))).alloc (.cells #[.int .i64 v.x, .int .i64 v.y] 58)
    · go_wp2
      have bf := (b0.set_ 0 (.int .i64 x)).set_ 1 (.int .i64 y)
      have v0 := bf.cell 0
      have v1 := bf.cell 1
      simp at v0 v1
      refine bodyPost_ret (v := .agg #[.int .i64 x, .int .i64 y]) (by simp [results, Try.results101, go_sem, v0, v1]) rfl ⟨?_, ?_⟩
      · have hf : sumV f = ⟨x, y⟩ := by rw [← Hfold.out, List.take_of_length_le (by omega)]
        rw [hf]
      · exact (hB.setCell (Nat.le_refl _) _).setCell (Nat.le_refl _) _

def Shr.ok (s : Shr) (a b : Bool) : Bool := decide (0 < s.whole) && (inPartB s.first s.whole a && inPartB s.second s.whole b)
theorem allowed_any (s : Shr) (a b : Bool) (w : World) : Calls Try.prog 96 #[.agg #[.int .i64 s.first, .int .i64 s.second, .int .i64 s.whole], .bool a, .bool b] w fun e w' => e = .returned (.bool (s.ok a b)) ∧ Below w.heap.size w w' := by
  have HC : Hid (s.ok a b = (decide (0 < s.whole) && (inPartB s.first s.whole a && inPartB s.second s.whole b))) := rfl
  by_cases h0 : 0 < s.whole
  · cases h1 : inPartB s.first s.whole a
    all_goals
      go_enter Try.func96, Try.ntmps96
      go_wp2_with ((go_at_call 121; refine (inPart_any _ _ _ _).mono ?_; rintro e w' ⟨rfl, rfl⟩))
      go_ret
      exact ⟨ret_bool (by rw [HC.out]; simp [*]), (Below.refl _ _).alloc (Nat.le_refl _) _⟩
  · go_enter Try.func96, Try.ntmps96
    go_wp2_with ((go_at_call 121; refine (inPart_any _ _ _ _).mono ?_; rintro e w' ⟨rfl, rfl⟩))
    go_ret
    exact ⟨ret_bool (by rw [HC.out, decide_eq_false (by omega : ¬ 0 < s.whole)]; rfl), (Below.refl _ _).alloc (Nat.le_refl _) _⟩
end Go.Proofs.Ytibaindlbpfecaa

namespace Go.Proofs.Ytibaindlbpfecaa
open Go.RowKit

theorem sumV_vb {f : List Vec} {q : Int} (hf : ∀ v ∈ f, VB v q) : VB (sumV f) (q * f.length) := by
  have key : ∀ (f : List Vec) (a : Vec) (p : Int), (∀ v ∈ f, VB v q) → VB a p → VB (f.foldl Vec.plus a) (p + q * f.length) := by
    intro f
    induction f with
    | nil => intro a p _ ha; simpa using ha
    | cons v f ih =>
      intro a p hv ha
      have h1 := hv v (by simp)
      have h2 := ih (a.plus v) (p + q) (fun u hu => hv u (by simp [hu])) (by unfold VB Vec.plus at *; simp only; omega)
      rw [List.foldl_cons, List.length_cons]
      exact h2.mono (by push_cast; rw [Int.mul_add]; omega)
  exact (key f vecZ 0 hf (by unfold VB vecZ; simp)).mono (by omega)
theorem sumV_lg {f : List Vec} {q : Int} (hq : 0 ≤ q) (hl : q * f.length ≤ 4000000000000000000) (hf : ∀ v ∈ f, VB v q) (k : Nat) : Lg (sumV (f.take k)).x ∧ Lg (sumV (f.take k)).y := by
  have h := sumV_vb (fun v hv => hf v (List.mem_of_mem_take hv)) (f := f.take k)
  have hle : (f.take k).length ≤ f.length := by rw [List.length_take]; omega
  have h2 : q * (f.take k).length ≤ q * f.length := Int.mul_le_mul_of_nonneg_left (by omega) hq
  unfold VB at h; unfold Lg; omega

/-- The forces whose bit is set, the first of them having the bit i. -/
def fullFrom (s : Nat) : Nat → List Vec → List Vec
  | _, [] => []
  | i, v :: f => (if s.testBit i then [v] else []) ++ fullFrom s (i + 1) f
theorem fullFrom_snoc {s : Nat} : ∀ (f : List Vec) (i k : Nat) (v : Vec), f[k]? = some v → fullFrom s i (f.take (k + 1)) = fullFrom s i (f.take k) ++ (if s.testBit (i + k) then [v] else []) := by
  intro f
  induction f with
  | nil => intro i k v h; simp at h
  | cons a f ih =>
    intro i k v h
    cases k with
    | zero => simp at h; subst h; simp [fullFrom]
    | succ k =>
      have := ih (i + 1) k v (by simpa using h)
      simp only [List.take_succ_cons, fullFrom, List.append_assoc]
      rw [this, show i + 1 + k = i + (k + 1) from by omega]
theorem fullFrom_mem {s : Nat} : ∀ (f : List Vec) (i : Nat) (v : Vec), v ∈ fullFrom s i f → v ∈ f := by
  intro f
  induction f with
  | nil => intro i v h; simp [fullFrom] at h
  | cons a f ih =>
    intro i v h
    simp only [fullFrom, List.mem_append] at h
    rcases h with h | h
    · split at h
      · simp at h; simp [h]
      · simp at h
    · exact List.mem_cons_of_mem _ (ih _ _ h)
theorem fullFrom_len {s : Nat} : ∀ (f : List Vec) (i : Nat), (fullFrom s i f).length ≤ f.length := by
  intro f
  induction f with
  | nil => intro i; simp [fullFrom]
  | cons a f ih =>
    intro i
    have := ih (i + 1)
    simp only [fullFrom, List.length_append, List.length_cons]
    split <;> simp <;> omega
/-- What is left to the others where those of the set s pull fully against p. -/
def restM (s : Nat) (p : Vec) (f : List Vec) : Vec := (sumV (p :: fullFrom s 0 f)).times (-1)
theorem restM_vb {s : Nat} {p : Vec} {f : List Vec} (hp : VB p 10000000) (hf : ∀ v ∈ f, VB v 500000) (hl : f.length ≤ 8) : VB (restM s p f) 100000000 := by
  have hlen := fullFrom_len (s := s) f 0
  have := sumV_vb (f := p :: fullFrom s 0 f) (q := 10000000) (by
    intro v hv
    simp only [List.mem_cons] at hv
    rcases hv with rfl | hv
    · exact hp
    · exact (hf v (fullFrom_mem _ _ _ hv)).mono (by omega))
  exact (this.mono (by simp only [List.length_cons]; push_cast; omega)).neg

set_option maxRecDepth 100000 in
set_option maxHeartbeats 1000000 in
theorem rest_any (h : Head) (A1 A2 : Option Addr) (c1 c2 : Nat) (f : List Vec) (push : Vec) (s : Nat) (w : World) (hr : RS encV 2 w w.heap.size A1 f) (hl : f.length ≤ 8) (hf : ∀ v ∈ f, VB v 500000) (ha : 0 ≤ h.area ∧ h.area ≤ 1000) (hp : VB push 10000) (hs : s < 65536) :
    Calls Try.prog 93 #[.agg #[.int .i64 h.area, .int .i64 h.bears, .slice A2 h.guys.length c2, .slice A1 f.length c1], .agg #[.int .i64 push.x, .int .i64 push.y], .int .i64 s] w fun e w' => e = .returned (.agg #[.int .i64 (restM s (push.times h.area) f).x, .int .i64 (restM s (push.times h.area) f).y]) ∧ Below w.heap.size w w' := by
  obtain ⟨i0, hi0, hz0, hz1, hz2⟩ := info_parts infoCV
  have hpt := hp.times (n := h.area) (q := 1000) (by omega)
  have p1 : Sm (h.area * push.x) := by have := hpt.1; simp only [Vec.times] at this; unfold Sm; omega
  have p2 : Sm (h.area * push.y) := by have := hpt.2; simp only [Vec.times] at this; unfold Sm; omega
  have Hpt := Lib.hid hpt
  have Hf := Lib.hid hf
  have hB0 := (((Below.refl w.heap.size w).alloc (Nat.le_refl _) (.cells #[.int .i64 h.area, .int .i64 h.bears, .slice A2 h.guys.length c2, .slice A1 f.length c1] 125)).alloc (by simp) (.cells #[.int .i64 push.x, .int .i64 push.y] 58)).alloc (by simp <;> omega) (.cells #[.int .i64 0, .int .i64 0] 58)
  clear hf hp hpt
  go_enter Try.func93, Try.ntmps93
  go_wp2_with fail
  refine (pushed_any h A1 A2 c1 c2 f push _ p1 p2).mono ?_
  rintro e w1 ⟨rfl, hb1⟩
  have kM := (((Blk.new w 125 #[.int .i64 h.area, .int .i64 h.bears, .slice A2 h.guys.length c2, .slice A1 f.length c1]).alloc (.cells #[.int .i64 push.x, .int .i64 push.y] 58)).alloc (.cells #[.int .i64 0, .int .i64 0] 58)).below hb1 (by simp <;> omega)
  have kR := (Blk.new ((w.alloc (.cells #[.int .i64 h.area, .int .i64 h.bears, .slice A2 h.guys.length c2, .slice A1 f.length c1] 125)).alloc (.cells #[.int .i64 push.x, .int .i64 push.y] 58)) 58 #[.int .i64 0, .int .i64 0]).below hb1 (by simp)
  simp only [World.size_alloc] at kR
  have hB1 := hB0.trans (hb1.mono hB0.size)
  have hz1' : w.heap.size + 3 ≤ w1.heap.size := by have := hb1.size; simp at this; omega
  have HP : Hid (Blk w1 w.heap.size 125 #[.int .i64 h.area, .int .i64 h.bears, .slice A2 h.guys.length c2, .slice A1 f.length c1]) := kM
  have m1 := kM.cell 3
  have m1z := kM.lt
  simp at m1
  clear hb1 kM
  go_wp2
  go_loopw [7, 17] (fun v i wr => ∃ k : Nat, k ≤ f.length ∧ i = .int .i64 k ∧ wr.ownsRow w1.heap.size 58 2 v (push.times h.area :: fullFrom s 0 (f.take k)).length ((push.times h.area :: fullFrom s 0 (f.take k)).flatMap encV) ∧ Below w1.heap.size w1 wr) (fun _ i _ => f.length - (intOf i).toNat)
  case atStart =>
    refine ⟨0, Nat.zero_le _, rfl, ⟨by simp [fullFrom, encV], .inr ⟨w1.heap.size, 1, _, rfl, Nat.le_refl _, by simpa using heap_alloc_new w1 _, by simp [fullFrom], by unfold maxLen; omega, rfl, rfl⟩⟩, (Below.refl _ _).alloc (Nat.le_refl _) _⟩
  case round =>
    obtain ⟨k, hk, rfl, hown, hB⟩ := hrel
    have hBw := hB1.trans (hB.mono hB1.size)
    have hzr := hB.size
    have kMr := HP.out.below hB m1z
    have m2 := kMr.cell 3
    have m2z := kMr.lt
    simp at m2
    have hlen := fullFrom_len (s := s) (f.take k) 0
    have hlen2 : (f.take k).length ≤ f.length := by rw [List.length_take]; omega
    by_cases hlt : k < f.length
    · obtain ⟨v, hv⟩ := getElem?_lt hlt
      have hsn := fullFrom_snoc (s := s) f 0 k v hv
      rw [Nat.zero_add] at hsn
      obtain ⟨b, off, rfl, hb, hc⟩ := (hr.below hBw (Nat.le_refl _)).at_ hv
      have c0 := hc 0 _ rfl
      have c1 := hc 1 _ rfl
      simp only [Nat.add_zero] at c0
      have Hsn := Lib.hid hsn
      have hk64 : k < 64 := by omega
      clear hv hc hr hsn
      cases hbit : s.testBit k with
      | true =>
        have hs2 := Hsn.out
        rw [hbit, if_pos rfl] at hs2
        have Hs2 := Lib.hid hs2
        clear hs2
        go_wp2_with (first | (go_at_call 94; refine (has_any s k _ hs hk64).mono ?_; rintro e w' ⟨rfl, rfl⟩) | (at_builtin; refine wpList_append_own _ rfl _ _ 38 rfl w1.heap.size 58 i0 _ 2 16 Try.underlying38 hi0 hz0 hz1 hz2 rfl (by decide) _ _ _ rfl ((hown.alloc _).alloc _) ⟨wr.heap.size + 1, 0, none⟩ 1 1 [.int .i64 v.x, .int .i64 v.y] rfl rfl ?c1 ?c2 ?c3 ?c4 ?c5 ?_))
        case c1 => exact World.news_of_block (cs := #[.int .i64 v.x, .int .i64 v.y]) (t := 58) (fr := (0, 0)) (by simpa using heap_alloc_new (wr.alloc (.cells #[.int .i64 v.x, .int .i64 v.y] 58)) (.cells #[.int .i64 v.x, .int .i64 v.y] 58))
        case c2 => simp [Value.oneCell']
        case c3 => simp only [List.length_cons]; unfold maxLen; omega
        case c4 => simp only [List.length_cons]; omega
        case c5 => simp <;> omega
        intro v2 w2 hown2 hgrow2 _
        have hB2 := app_belowL ((hB.alloc hzr (.cells #[.int .i64 v.x, .int .i64 v.y] 58)).alloc (by simp <;> omega) (.cells #[.int .i64 v.x, .int .i64 v.y] 58)) (Nat.le_refl _) (by simp <;> omega) ((hown.alloc _).alloc _) hgrow2
        go_wp2
        refine ⟨⟨k + 1, by omega, by go_num, ?_, hB2⟩, by simp [intOf]; omega⟩
        rw [Hs2.out]
        simpa [encV] using hown2
      | false =>
        have hs2 := Hsn.out
        rw [hbit, if_neg (by simp), List.append_nil] at hs2
        have Hs2 := Lib.hid hs2
        clear hs2
        go_wp2_with ((go_at_call 94; refine (has_any s k _ hs hk64).mono ?_; rintro e w' ⟨rfl, rfl⟩))
        refine ⟨⟨k + 1, by omega, by go_num, ?_, hB.alloc hzr _⟩, by simp [intOf]; omega⟩
        rw [Hs2.out]
        exact hown.alloc _
    · obtain rfl : k = f.length := by omega
      rw [List.take_of_length_le (by omega)] at hown hlen
      obtain ⟨A3, c3, rfl, _⟩ := own_slice hown
      have hrs : RS encV 2 wr wr.heap.size A3 (push.times h.area :: fullFrom s 0 f) := RS.of_own (enc := encV) (sz := 2) (fun _ => rfl) hown rfl
      have hall : ∀ v ∈ push.times h.area :: fullFrom s 0 f, VB v 10000000 := by
        intro v hv
        simp only [List.mem_cons] at hv
        rcases hv with rfl | hv
        · exact Hpt.out
        · exact (Hf.out v (fullFrom_mem _ _ _ hv)).mono (by omega)
      have hsum := sumV_vb hall
      simp only [List.length_cons] at hsum
      have HR : Hid (restM s (push.times h.area) f = (sumV (push.times h.area :: fullFrom s 0 f)).times (-1)) := rfl
      have hlg := fun k (_ : k ≤ (push.times h.area :: fullFrom s 0 f).length) => sumV_lg (q := 10000000) (by omega) (by simp only [List.length_cons]; push_cast; omega) hall k
      have Hlg := Lib.hid hlg
      have t1 : Sm (-1 * (sumV (push.times h.area :: fullFrom s 0 f)).x) := by have := hsum.1; unfold Sm; push_cast at this; omega
      have t2 : Sm (-1 * (sumV (push.times h.area :: fullFrom s 0 f)).y) := by have := hsum.2; unfold Sm; push_cast at this; omega
      have hrl : (push.times h.area :: fullFrom s 0 f).length ≤ 100 := by simp only [List.length_cons]; omega
      have kRr := kR.below hB (by omega)
      clear hsum hlg hall hown kMr m2 hlen hr
      go_wp2_with (first | (go_at_call 101; refine (sum_any A3 c3 _ _ hrs hrl Hlg.out).mono ?_; rintro e w2 ⟨rfl, hb2⟩) | (go_at_call 91; refine (times_any (sumV (push.times h.area :: fullFrom s 0 f)) (-1) _ t1 t2).mono ?_; rintro e w3 ⟨rfl, hb3⟩; have kRz := (kRr.below hb2 (by omega)).below hb3 (by have := hb2.size; omega); have q0 := kRz.cell 0; have q1 := kRz.cell 1; have q2 := kRz.frozen 0; have q3 := kRz.frozen 1; have q4 := kRz.lt; simp at q0 q1))
      have bf := (kRz.set_ 0 (.int .i64 ((sumV (push.times h.area :: fullFrom s 0 f)).times (-1)).x)).set_ 1 (.int .i64 ((sumV (push.times h.area :: fullFrom s 0 f)).times (-1)).y)
      have v0 := bf.cell 0
      have v1 := bf.cell 1
      simp at v0 v1
      refine bodyPost_ret (v := .agg #[.int .i64 ((sumV (push.times h.area :: fullFrom s 0 f)).times (-1)).x, .int .i64 ((sumV (push.times h.area :: fullFrom s 0 f)).times (-1)).y]) (by simp [results, Try.results93, go_sem, v0, v1]) rfl ⟨?_, ?_⟩
      · rw [HR.out]
      · exact (((hBw.trans (hb2.mono hBw.size)).trans (hb3.mono (by have := hBw.size; have := hb2.size; omega))).setCell (by show w.heap.size ≤ w.heap.size + 1 + 1; omega) _).setCell (by show w.heap.size ≤ w.heap.size + 1 + 1; omega) _
end Go.Proofs.Ytibaindlbpfecaa

namespace Go.Proofs.Ytibaindlbpfecaa
open Go.RowKit

/-- Part i of a balance. -/
def Shr.part (s : Shr) (full : Nat) (first second : Int) (i : Nat) : Int :=
  if full.testBit i then s.whole else if (i : Int) = first then s.first else if (i : Int) = second then s.second else 0
def Shr.parts (s : Shr) (n : Nat) (full : Nat) (first second : Int) : List Int := (List.range n).map (s.part full first second)
theorem Shr.parts_length {s : Shr} {n full : Nat} {a b : Int} : (s.parts n full a b).length = n := by simp [Shr.parts]
theorem Shr.parts_get {s : Shr} {n full : Nat} {a b : Int} {k : Nat} {x : Int} (h : (s.parts n full a b)[k]? = some x) : k < n ∧ x = s.part full a b k := by
  have hk := lt_of_getElem? h
  rw [Shr.parts_length] at hk
  rw [Shr.parts, List.getElem?_map, List.getElem?_range hk] at h
  exact ⟨hk, by simpa using h.symm⟩
/-- Cells of the first k parts, and zeros behind. -/
def Row (s : Shr) (n full : Nat) (a b : Int) (k : Nat) (cs : Array Value) : Prop := cs.size = n ∧ ∀ j, j < n → cs[j]? = some (.int .i64 (if j < k then s.part full a b j else 0))
theorem Row.zero (s : Shr) (n full : Nat) (a b : Int) : Row s n full a b 0 (madeCells #[.int .i64 0] n) := by
  refine ⟨size_madeCells _ _, fun j hj => ?_⟩
  simp [madeCells, hj, Nat.mod_one]
theorem Row.set_ {s : Shr} {n full : Nat} {a b : Int} {k : Nat} {cs : Array Value} (h : Row s n full a b k cs) {v : Int} (hv : v = s.part full a b k) : Row s n full a b (k + 1) (cs.setIfInBounds k (.int .i64 v)) := by
  refine ⟨by simp [h.1], fun j hj => ?_⟩
  rw [Array.getElem?_setIfInBounds]
  by_cases e : k = j
  · subst e; rw [if_pos rfl, if_pos (by rw [h.1]; exact hj), if_pos (by omega), hv]
  · rw [if_neg e, h.2 j hj]
    by_cases hlt : j < k
    · rw [if_pos hlt, if_pos (by omega)]
    · rw [if_neg hlt, if_neg (by omega)]
theorem Row.skip {s : Shr} {n full : Nat} {a b : Int} {k : Nat} {cs : Array Value} (h : Row s n full a b k cs) (hv : s.part full a b k = 0) : Row s n full a b (k + 1) cs := by
  refine ⟨h.1, fun j hj => ?_⟩
  rw [h.2 j hj]
  by_cases e : j = k
  · subst e; rw [if_neg (by omega), if_pos (by omega), hv]
  · by_cases hlt : j < k
    · rw [if_pos hlt, if_pos (by omega)]
    · rw [if_neg hlt, if_neg (by omega)]

/-- A list of numbers in a block of its own: none of its cells is frozen. -/
def RSF (w : World) (B : Nat) (A : Option Addr) (l : List Int) : Prop := RS encI 1 w B A l ∧ (l = [] ∨ ∃ (g : Nat) (cs : Array Value), A = some ⟨g, 0, none⟩ ∧ g < B ∧ Blk w g 3 cs)
theorem RSF.nil {w : World} {B : Nat} {A : Option Addr} : RSF w B A [] := ⟨.inl rfl, .inl rfl⟩
theorem RSF.below {w w' : World} {B B' : Nat} {A : Option Addr} {l : List Int} (h : RSF w B A l) (hb : Below B' w w') (hB : B ≤ B') : RSF w' B A l := by
  refine ⟨h.1.below hb hB, ?_⟩
  rcases h.2 with h | ⟨g, cs, h1, h2, h3⟩
  · exact .inl h
  · exact .inr ⟨g, cs, h1, h2, h3.below hb (by omega)⟩
theorem RSF.more {w : World} {B B' : Nat} {A : Option Addr} {l : List Int} (h : RSF w B A l) (hB : B ≤ B') : RSF w B' A l := by
  refine ⟨h.1.more hB, ?_⟩
  rcases h.2 with h | ⟨g, cs, h1, h2, h3⟩
  · exact .inl h
  · exact .inr ⟨g, cs, h1, by omega, h3⟩
theorem RSF.to {w w' : World} {A : Option Addr} {l : List Int} (h : RSF w w.heap.size A l) (hb : Below w.heap.size w w') : RSF w' w'.heap.size A l := (h.below hb (Nat.le_refl _)).more hb.size
def BalPost (whole : Int) (parts : List Int) (w : World) (e : Ending) (w' : World) : Prop :=
  ∃ A c, e = .returned (.agg #[.int .i64 whole, .slice A parts.length c]) ∧ RSF w' w'.heap.size A parts ∧ (∀ ad, A = some ad → w.heap.size ≤ ad.block) ∧ parts.length ≤ c ∧ c ≤ maxLen ∧ Below w.heap.size w w'
theorem Blk_new {w : World} {g t : Nat} {cs : Array Value} (h : g = w.heap.size) : Blk (w.alloc (.cells cs t)) g t cs := by subst h; exact Blk.new _ _ _
def zerosOf (n : Nat) : Array Value := madeCells #[.int .i64 0] n
set_option maxRecDepth 100000 in
set_option maxHeartbeats 8000000 in
theorem shareBalance_any (s : Shr) (n full : Nat) (first second : Int) (w : World) (hn : n ≤ 60) (hf : full < 65536) :
    Calls Try.prog 97 #[.agg #[.int .i64 s.first, .int .i64 s.second, .int .i64 s.whole], .int .i64 n, .int .i64 full, .int .i64 first, .int .i64 second] w (BalPost s.whole (s.parts n full first second) w) := by
  obtain ⟨i0, hi0, hz0, hz1, hz2⟩ := info_parts infoI
  have hmk : ∀ w : World, (Instr.makeSlice 50 (.int .i64 (n : Int)) (.int .i64 (n : Int))).run Try.prog w = .ok (.slice (some ⟨w.heap.size, 0, none⟩) n n) (w.alloc (.cells (zerosOf n) 3)) :=
    fun w => run_make_row 50 3 i0 (.int .i64 0) Try.underlying50 hi0 hz0 hz1 rfl .i64 .i64 n (by rw [hz2]; omega) (by omega) w
  go_enter Try.func97, Try.ntmps97
  go_upto_region 1 with fail
  go_cut [11] (fun s11 wx => ∃ X Y : Nat, s11 = .pointer (some ⟨Y, 0, none⟩) ∧ w.heap.size + 2 ≤ X ∧ w.heap.size + 2 ≤ Y ∧ X ≠ Y ∧ Blk wx X 3 (zerosOf n) ∧ Blk wx Y 55 #[.int .i64 s.whole, .slice (some ⟨X, 0, none⟩) n n] ∧ Blk wx w.heap.size 161 #[.int .i64 s.first, .int .i64 s.second, .int .i64 s.whole] ∧ Blk wx (w.heap.size + 1) 55 #[.int .i64 0, .slice none 0 0] ∧ Below w.heap.size w wx)
  case first =>
    go_region
    all_goals
      go_wp2_with fail
      go_meet
    · refine ⟨w.heap.size + 1 + 1, w.heap.size + 1 + 1 + 1, rfl, by omega, by omega, by omega, ?_, ?_, ?_, ?_, ?_⟩
      rotate_right
      · exact ((((Below.refl _ _).alloc (Nat.le_refl _) _).alloc (by simp) _).alloc (by simp <;> omega) _).alloc (by simp <;> omega) _ |>.drew
      all_goals (refine Blk.drew ?_; repeat (first | exact Blk_new (by simp <;> omega) | refine Blk.alloc ?_ _))
    · refine ⟨w.heap.size + 1 + 1 + 1, w.heap.size + 1 + 1, rfl, by omega, by omega, by omega, ?_, ?_, ?_, ?_, ?_⟩
      rotate_right
      · exact ((((Below.refl _ _).alloc (Nat.le_refl _) _).alloc (by simp) _).alloc (by simp <;> omega) _).alloc (by simp <;> omega) _ |>.drew
      all_goals (refine Blk.drew ?_; repeat (first | exact Blk_new (by simp <;> omega) | refine Blk.alloc ?_ _))
  case rest =>
    obtain ⟨X, Y, rfl, hX, hY, hXY, bX, bY, bS, bR, hB⟩ := hcut
    have hXz := bX.lt
    have hYz := bY.lt
    have y1 := bY.cell 1
    simp at y1
    go_wp2
    go_loopw [21] (fun i wr => ∃ (k : Nat) (cs : Array Value), k ≤ n ∧ i = .int .i64 k ∧ Row s n full first second k cs ∧ Blk wr X 3 cs ∧ Blk wr Y 55 #[.int .i64 s.whole, .slice (some ⟨X, 0, none⟩) n n] ∧ Blk wr w.heap.size 161 #[.int .i64 s.first, .int .i64 s.second, .int .i64 s.whole] ∧ Blk wr (w.heap.size + 1) 55 #[.int .i64 0, .slice none 0 0] ∧ Below w.heap.size w wr) (fun i _ => n - (intOf i).toNat)
    case atStart => exact ⟨0, _, Nat.zero_le _, rfl, Row.zero _ _ _ _ _, bX, bY, bS, bR, hB⟩
    case round =>
      clear bX bY bS bR hB hXz hYz y1
      obtain ⟨k, cs, hk, rfl, hrow, bX, bY, bS, bR, hB⟩ := hrel
      have hXz := bX.lt
      have hYz := bY.lt
      have hSz := bS.lt
      have y0 := bY.cell 0
      have y1 := bY.cell 1
      have s0 := bS.cell 0
      have s1 := bS.cell 1
      have s2 := bS.cell 2
      simp at y0 y1 s0 s1 s2
      by_cases hlt : k < n
      · have xk := bX.cell k
        rw [hrow.2 k hlt] at xk
        have xf := bX.frozen k
        have hn2 : k < 64 := by omega
        have Hrow := Lib.hid hrow
        clear hrow
        cases hbit : full.testBit k with
        | true =>
          have HP : Hid (s.whole = s.part full first second k) := by show _ = _; simp [Shr.part, hbit]
          go_wp2_with ((go_at_call 94; refine (has_any full k _ hf hn2).mono ?_; rintro e w' ⟨rfl, rfl⟩))
          exact ⟨⟨k + 1, _, by omega, by go_num, Hrow.out.set_ HP.out, bX.set_ k _, bY.far (by simp; omega) _, bS.far (by simp; omega) _, bR.far (by simp; omega) _, hB.setCell (by show w.heap.size ≤ X; omega) _⟩, by simp [intOf]; omega⟩
        | false =>
          by_cases h1 : (k : Int) = first
          · have HP : Hid (s.first = s.part full first second k) := by show _ = _; simp [Shr.part, hbit, h1]
            have e1 : ((k : Int) == first) = true := by simpa using h1
            clear h1
            go_wp2_with ((go_at_call 94; refine (has_any full k _ hf hn2).mono ?_; rintro e w' ⟨rfl, rfl⟩))
            exact ⟨⟨k + 1, _, by omega, by go_num, Hrow.out.set_ HP.out, bX.set_ k _, bY.far (by simp; omega) _, bS.far (by simp; omega) _, bR.far (by simp; omega) _, hB.setCell (by show w.heap.size ≤ X; omega) _⟩, by simp [intOf]; omega⟩
          · have e1 : ((k : Int) == first) = false := by simpa using h1
            by_cases h2 : (k : Int) = second
            · have HP : Hid (s.second = s.part full first second k) := by show _ = _; simp only [Shr.part, hbit, if_neg h1, if_pos h2]; simp
              have e2 : ((k : Int) == second) = true := by simpa using h2
              clear h2
              go_wp2_with ((go_at_call 94; refine (has_any full k _ hf hn2).mono ?_; rintro e w' ⟨rfl, rfl⟩))
              exact ⟨⟨k + 1, _, by omega, by go_num, Hrow.out.set_ HP.out, bX.set_ k _, bY.far (by simp; omega) _, bS.far (by simp; omega) _, bR.far (by simp; omega) _, hB.setCell (by show w.heap.size ≤ X; omega) _⟩, by simp [intOf]; omega⟩
            · have HP : Hid (s.part full first second k = 0) := by show _ = _; simp only [Shr.part, hbit, if_neg h1, if_neg h2]; simp
              have e2 : ((k : Int) == second) = false := by simpa using h2
              go_wp2_with ((go_at_call 94; refine (has_any full k _ hf hn2).mono ?_; rintro e w' ⟨rfl, rfl⟩))
              exact ⟨⟨k + 1, _, by omega, by go_num, Hrow.out.skip HP.out, bX, bY, bS, bR, hB⟩, by simp [intOf]; omega⟩
      · obtain rfl : k = n := by omega
        have r0 := bR.cell 0
        have r1 := bR.cell 1
        have f0 := bR.frozen 0
        have f1 := bR.frozen 1
        have rz := bR.lt
        simp at r0 r1
        go_wp2
        have bf := (bR.set_ 0 (.int .i64 s.whole)).set_ 1 (.slice (some ⟨X, 0, none⟩) k k)
        have v0 := bf.cell 0
        have v1 := bf.cell 1
        simp at v0 v1
        refine bodyPost_ret (v := .agg #[.int .i64 s.whole, .slice (some ⟨X, 0, none⟩) k k]) (by simp [results, Try.results97, go_sem, v0, v1]) rfl ⟨some ⟨X, 0, none⟩, k, by rw [Shr.parts_length], ?_, fun ad e => (by cases e; show w.heap.size ≤ X; omega), by rw [Shr.parts_length]; omega, by unfold maxLen; omega, ?_⟩
        · refine ⟨.inr ⟨X, 0, rfl, by simpa using hXz, fun j x hx i v hv => ?_⟩, .inr ⟨X, _, rfl, by simpa using hXz, (bX.far (p := ⟨w.heap.size + 1, 0, none⟩) (by simp; omega) (.int .i64 s.whole)).far (p := ⟨w.heap.size + 1, 1, none⟩) (by simp; omega) (.slice (some ⟨X, 0, none⟩) k k)⟩⟩
          obtain ⟨hj, rfl⟩ := Shr.parts_get hx
          have hb := ((bX.far (p := ⟨w.heap.size + 1, 0, none⟩) (by simp; omega) (.int .i64 s.whole)).far (p := ⟨w.heap.size + 1, 1, none⟩) (by simp; omega) (.slice (some ⟨X, 0, none⟩) k k)).cell j
          rcases i with _ | i
          · simp [encI] at hv
            subst hv
            rw [hrow.2 j hj, if_pos hj] at hb
            simpa using hb
          · simp [encI] at hv
        · exact (hB.setCell (by show w.heap.size ≤ w.heap.size + 1; omega) _).setCell (by show w.heap.size ≤ w.heap.size + 1; omega) _
end Go.Proofs.Ytibaindlbpfecaa

namespace Go.Proofs.Ytibaindlbpfecaa
open Go.RowKit Go.Shelf

theorem sets_any (g : Int) (w : World) :
    Calls Try.prog 92 #[.int .i64 g] w fun e w' => e = .returned (.func (.func 119) #[] #[.pointer (some ⟨w.heap.size, 0, none⟩)]) ∧ w' = w.alloc (.cells #[.int .i64 g] 3) := by
  go_enter Try.func92, Try.ntmps92
  go_wp2
  go_ret
  exact ⟨rfl, rfl⟩

abbrev S16 := { x : Nat // x < 65536 }
def setAt (k : Nat) : S16 := ⟨k % 65536, Nat.mod_lt _ (by omega)⟩
/-- The first k sets. -/
def setsUpto (k : Nat) : List S16 := (List.range k).map setAt
theorem setsUpto_succ (k : Nat) : setsUpto (k + 1) = setsUpto k ++ [setAt k] := by simp [setsUpto, List.range_succ]
theorem setAt_val {k : Nat} (h : k < 65536) : (setAt k).1 = k := Nat.mod_eq_of_lt h
theorem setsUpto_prefix {a b : Nat} (h : a ≤ b) : setsUpto a <+: setsUpto b := by
  obtain ⟨c, rfl⟩ := Nat.le.dest h
  induction c with
  | zero => exact List.prefix_refl _
  | succ c ih =>
    have := ih (by omega)
    rw [show a + (c + 1) = a + c + 1 from by omega, setsUpto_succ]
    exact this.trans (List.prefix_append _ _)

attribute [local go_sem] Oper.semAt_some
set_option maxRecDepth 100000 in
set_option maxHeartbeats 1000000 in
theorem sets1_in (F : Fence) (n : Nat) (hf : F.fn 119) (hro : F.round = none) (hn : 1 ≤ n) (l B g : Nat) (hg : g ≤ 15) (Kp : World → World → Prop) (J Jx : List S16 → World → Prop)
    (hY : ∀ pre x W, J pre W → pre.length < 2 ^ g → YieldAt F (n - 1) Try.prog l #[.int .i64 x.1] W fun e W' =>
      (e = .returned (.bool true) ∧ J (pre ++ [x]) W' ∧ Kp W W') ∨ (e = .returned (.bool false) ∧ Jx (pre ++ [x]) W'))
    (W : World) (hB : W.cell? ⟨B, 0, none⟩ = some (.int .i64 g)) (h0 : J [] W) :
    CallsIn F n Try.prog 119 #[.func (.yield l) #[] #[], .pointer (some ⟨B, 0, none⟩)] W fun e W' => (∃ v, e = .returned v) ∧
      ((∃ ys, ys = setsUpto (2 ^ g) ∧ J ys W') ∨ (∃ pre, pre <+: setsUpto (2 ^ g) ∧ Jx pre W')) := by
  have hp : 2 ^ g ≤ 2 ^ 15 := Nat.pow_le_pow_right (by omega) hg
  refine callsIn_of_wp Try.func119 rfl hf ?_ hro
  simp only [Try.ntmps119, List.size_toArray, List.length_cons, List.length_nil, Nat.reduceAdd, Nat.reduceSub, Array.replicate_succ, Array.replicate_zero, List.push_toArray, List.append_toArray, List.nil_append, List.cons_append]
  obtain ⟨N, hN⟩ : ∃ N : Nat, N = 2 ^ g := ⟨_, rfl⟩
  have hI : ((2 : Int) ^ g) = (N : Int) := by rw [hN]; simp
  rw [← hN] at hY hp ⊢
  have hp' : N ≤ 32768 := hp
  have hw : wrap64 ((2 : Int) ^ g) = (N : Int) := by rw [hI]; exact IntWalk.wrap64_in _ (by omega)
  clear hN hI hp
  gi_wp2
  rw [hw]
  gi_loopw [6] (fun i wr => ∃ k : Nat, k ≤ N ∧ i = .int .i64 k ∧ J (setsUpto k) wr) (fun i _ => N - (intOf i).toNat)
  case atStart => exact ⟨0, Nat.zero_le _, rfl, h0⟩
  case round =>
    obtain ⟨k, hk, rfl, hJ⟩ := hrel
    by_cases hlt : k < N
    · obtain ⟨fn, tmps, assign, body, hy, hR⟩ := hY (setsUpto k) (setAt k) wr hJ (by simp [setsUpto]; omega)
      rw [setAt_val (by omega)] at hy
      gi_wp2
      refine hR.mono ?_
      rintro e W3 (⟨rfl, hJ3, hk3⟩ | ⟨rfl, hJx3⟩)
      · rw [← setsUpto_succ] at hJ3
        gi_wp2
        go_roundw
        case rel => exact ⟨k + 1, by omega, by go_num, hJ3⟩
        case measure => simp [intOf]; omega
      · rw [← setsUpto_succ] at hJx3
        gi_wp2
        refine bodyPost_ret (results_none rfl _ _ _) rfl ?_
        exact ⟨⟨_, rfl⟩, .inr ⟨_, setsUpto_prefix (by omega), hJx3⟩⟩
    · obtain rfl : k = N := by omega
      gi_wp2
      go_end0
      exact ⟨⟨_, rfl⟩, .inl ⟨_, rfl, hJ⟩⟩

theorem sets_stops (F : Fence) (n : Nat) (hf : F.fn 119) (hro : F.round = none) (hn : 1 ≤ n) (B g : Nat) (hg : g ≤ 15) (Kp : World → World → Prop) (w : World) (hB : w.cell? ⟨B, 0, none⟩ = some (.int .i64 g)) (hBw : B < w.heap.size) :
    SeqStopsK F n Try.prog 119 #[.pointer (some ⟨B, 0, none⟩)] (fun x : S16 => #[Value.int .i64 x.1]) Kp (fun ys => ys = setsUpto (2 ^ g)) (fun pre => pre <+: setsUpto (2 ^ g)) (2 ^ g) w := fun l J Jx W hW _ _ hY h0 =>
  sets1_in F n hf hro hn l B g hg Kp J Jx hY W ((hW.cell (p := ⟨B, 0, none⟩) hBw).trans hB) h0
end Go.Proofs.Ytibaindlbpfecaa

namespace Go.Proofs.Ytibaindlbpfecaa
open Go.RowKit Go.Shelf

/-- A guy's place in a set; a number below 0 has none. -/
def busy (s : Nat) (a : Int) : Bool := decide (0 ≤ a) && s.testBit a.toNat
theorem hasZ_any (s : Nat) (a : Int) (w : World) (hs : s < 65536) (h0 : 0 ≤ a) (ha : a < 64) :
    Calls Try.prog 94 #[.int .i64 s, .int .i64 a] w fun e w' => e = .returned (.bool (busy s a)) ∧ w = w' := by
  obtain ⟨k, rfl⟩ := Int.eq_ofNat_of_zero_le h0
  refine (has_any s k w hs (by omega)).mono ?_
  rintro e w' ⟨rfl, rfl⟩
  exact ⟨by simp [busy], rfl⟩
def tryAt (fs : List Vec) (n s : Nat) (rest : Vec) (i k : Nat) : Option (Int × List Int) :=
  match fs[i]?, fs[k]? with
  | some f, some g =>
    if (busy s ((i : Int) - 2) || busy s ((k : Int) - 2)) = true then none
    else if (splitM rest f g).ok (decide (0 ≤ (i : Int) - 2)) (decide (0 ≤ (k : Int) - 2)) = true then some ((splitM rest f g).whole, (splitM rest f g).parts n s ((i : Int) - 2) ((k : Int) - 2)) else none
  | _, _ => none
def tryRow (fs : List Vec) (n s : Nat) (rest : Vec) (i : Nat) : Option (Int × List Int) := (List.range i).findSome? (tryAt fs n s rest i)
def trySet (p : Vec) (f : List Vec) (s : Nat) : Option (Int × List Int) :=
  (List.range (f.length + 2)).findSome? (tryRow (⟨1, 0⟩ :: ⟨0, 1⟩ :: f) f.length s (restM s p f))
/-- The balance that the search comes to first, as the whole and its parts. -/
def findBal (p : Vec) (f : List Vec) : Option (Int × List Int) := (List.range (2 ^ f.length)).findSome? (trySet p f)

theorem some_snoc {α β : Type} {g : α → Option β} {l : List α} {x : α} (h : l.findSome? g = none) : (l ++ [x]).findSome? g = g x := by
  rw [List.findSome?_append, h]; simp
theorem some_range_succ {β : Type} {g : Nat → Option β} {k : Nat} (h : (List.range k).findSome? g = none) (hg : g k = none) : (List.range (k + 1)).findSome? g = none := by
  rw [List.range_succ, some_snoc h, hg]
theorem some_prefix {α β : Type} {g : α → Option β} {l l' : List α} {r : β} (hp : l <+: l') (h : l.findSome? g = some r) : l'.findSome? g = some r := by
  obtain ⟨t, rfl⟩ := hp
  rw [List.findSome?_append, h]; rfl
theorem some_range {β : Type} {g : Nat → Option β} {k n : Nat} {r : β} (h : (List.range k).findSome? g = none) (hk : k < n) (hg : g k = some r) : (List.range n).findSome? g = some r := by
  refine some_prefix (l := List.range (k + 1)) ?_ (by rw [List.range_succ, some_snoc h, hg])
  obtain ⟨c, rfl⟩ := Nat.le.dest (show k + 1 ≤ n by omega)
  rw [List.range_add (n := k + 1)]
  exact List.prefix_append _ _
theorem setsUpto_some {β : Type} {g : Nat → Option β} {N : Nat} (hN : N ≤ 65536) : (setsUpto N).findSome? (fun x => g x.1) = (List.range N).findSome? g := by
  have key : ∀ k, k ≤ N → (setsUpto k).findSome? (fun x => g x.1) = (List.range k).findSome? g := by
    intro k
    induction k with
    | zero => intro _; rfl
    | succ k ih =>
      intro hk
      rw [setsUpto_succ, List.range_succ, List.findSome?_append, List.findSome?_append, ih (by omega)]
      simp [setAt_val (show k < 65536 by omega)]
  exact key N (Nat.le_refl _)

/-- What lies in whole blocks stays, whatever the loop's own records do. -/
theorem Blk.kept {A B : World} {g t : Nat} {cs : Array Value} {row : Option Nat} (h : Blk A g t cs) (hg : A.grownBy B row) (hr : ∀ r, row = some r → ∃ o : Obj, A.heap[r]? = some o ∧ o.isCells = false) : Blk B g t cs :=
  h.grown hg (fun e => by
    obtain ⟨o, ho, hc⟩ := hr g e.symm
    unfold Blk at h
    rw [h] at ho
    cases ho
    simp [Obj.isCells] at hc)
theorem RS.kept {α : Type} {enc : α → List Value} {sz B : Nat} {W W' : World} {A : Option Addr} {l : List α} {row : Option Nat} (h : RS enc sz W B A l) (hg : W.grownBy W' row) (hr : ∀ r, row = some r → ∃ o : Obj, W.heap[r]? = some o ∧ o.isCells = false) : RS enc sz W' B A l := by
  rcases h with rfl | ⟨b, off, hA, hb, hc⟩
  · exact .inl rfl
  · exact .inr ⟨b, off, hA, hb, fun k x hk j v hv => cell_kept (hc k x hk j v hv) hg hr⟩
theorem RS.far {α : Type} {enc : α → List Value} {sz B : Nat} {W : World} {A : Option Addr} {l : List α} (h : RS enc sz W B A l) {p : Addr} (hp : ∀ ad, A = some ad → ad.block ≠ p.block) (v : Value) : RS enc sz (W.setCell p v) B A l := by
  rcases h with rfl | ⟨b, off, hA, hb, hc⟩
  · exact .inl rfl
  · refine .inr ⟨b, off, hA, hb, fun k x hk j u hv => ?_⟩
    have hne : b ≠ p.block := hp _ hA
    rw [← hc k x hk j u hv]
    have := Below.heap_setCell W p v b hne
    simp only [World.cell?, this]
theorem RS.drew' {α : Type} {enc : α → List Value} {sz B : Nat} {W : World} {A : Option Addr} {l : List α} (h : RS enc sz W B A l) : RS enc sz W.drew B A l := h
theorem RSF.kept {B : Nat} {W W' : World} {A : Option Addr} {l : List Int} {row : Option Nat} (h : RSF W B A l) (hg : W.grownBy W' row) (hr : ∀ r, row = some r → ∃ o : Obj, W.heap[r]? = some o ∧ o.isCells = false) : RSF W' B A l := by
  refine ⟨h.1.kept hg hr, ?_⟩
  rcases h.2 with h | ⟨g, cs, h1, h2, h3⟩
  · exact .inl h
  · exact .inr ⟨g, cs, h1, h2, h3.kept hg hr⟩
theorem RSF.far {B : Nat} {W : World} {A : Option Addr} {l : List Int} (h : RSF W B A l) {p : Addr} (hp : ∀ ad, A = some ad → ad.block ≠ p.block) (v : Value) : RSF (W.setCell p v) B A l := by
  refine ⟨h.1.far hp v, ?_⟩
  rcases h.2 with h | ⟨g, cs, h1, h2, h3⟩
  · exact .inl h
  · exact .inr ⟨g, cs, h1, h2, h3.far (hp _ h1) v⟩
theorem RSF.drew' {B : Nat} {W : World} {A : Option Addr} {l : List Int} (h : RSF W B A l) : RSF W.drew B A l := h
theorem Below.others {W W' : World} (h : Below W.heap.size W W') : KeepsOthers W W' :=
  ⟨h.size, fun k o hk _ => (h.block k (by
    rcases Nat.lt_or_ge k W.heap.size with hlt | hge
    · exact hlt
    · rw [Array.getElem?_eq_none hge] at hk; cases hk)).trans hk⟩
theorem flat_inv {α : Type} {enc : α → List Value} {sz : Nat} (hs : ∀ x, (enc x).length = sz) : ∀ (l : List α) (j : Nat) (u : Value), (l.flatMap enc)[j]? = some u → ∃ k x i, l[k]? = some x ∧ (enc x)[i]? = some u ∧ j = k * sz + i := by
  intro l
  induction l with
  | nil => intro j u h; simp at h
  | cons a l ih =>
    intro j u h
    rw [List.flatMap_cons] at h
    by_cases hj : j < (enc a).length
    · rw [List.getElem?_append_left hj] at h
      exact ⟨0, a, j, rfl, h, by simp⟩
    · rw [List.getElem?_append_right (by omega)] at h
      obtain ⟨k, x, i, h1, h2, h3⟩ := ih _ _ h
      exact ⟨k + 1, x, i, by simpa using h1, h2, by rw [hs] at h3 hj; rw [Nat.add_mul, Nat.one_mul]; omega⟩
theorem RS.news {α : Type} {enc : α → List Value} {sz B : Nat} (hs : ∀ x, (enc x).length = sz) {w : World} {A : Option Addr} {l : List α} (h : RS enc sz w B A l) :
    (A = none → l.length = 0) ∧ ∀ ad, A = some ad → ∀ j u, (l.flatMap enc)[j]? = some u → w.cell? (ad.add j) = some u := by
  rcases h with rfl | ⟨b, off, rfl, hb, hc⟩
  · exact ⟨fun _ => rfl, fun ad _ j u h => by simp at h⟩
  · refine ⟨fun h => (by cases h), fun ad h j u hj => ?_⟩
    obtain ⟨k, x, i, h1, h2, rfl⟩ := flat_inv hs _ _ _ hj
    cases h
    rw [Addr.add_lit, ← Nat.add_assoc]
    exact hc k x h1 i u h2
section
variable {F : Fence} {nF : Nat} {P : Program} {w : World}
/-- Appending a whole slice, nil or not, to a row of the call's own. -/
theorem wpListIn_append_any {ops : Array Oper} {rest : List Oper} {o : Oper} {a : Act} {Q : Exit → Act → World → Prop} (hgd : o.guard = none) (s x : Operand) (t : TypeId)
    (ho : o.op = .call { callee := .builtin .append, args := #[s, x], argTypes := #[t, t] })
    (base : Nat) (e : TypeId) (i : TypeInfo) (z : Value) (size bytes : Nat) (ht : P.underlying t = some (.slice e)) (hi : P.info? e = some i) (hz : i.zero = some z)
    (hsize : i.size = size) (hby : i.bytes = bytes) (hzs : z.cells.size = size) (hsz : 0 < size)
    (v : Value) (n : Nat) (xs : List Value) (hs : a.eval s = v) (hown : w.ownsRow base e size v n xs)
    (ao : Option Addr) (m c : Nat) (news : List Value) (hx : a.eval x = .slice ao m c) (hl : news.length = m * size) (hnone : ao = none → m = 0) (hnews : ∀ ad, ao = some ad → ∀ j u, news[j]? = some u → w.cell? (ad.add j) = some u) (h1 : ∀ u ∈ news, u.oneCell' = true)
    (h63 : n + m ≤ maxLen) (hbytes : (n + m) * bytes ≤ 140737488355328) (hbase : base ≤ w.heap.size)
    (h : ∀ v' w', w'.ownsRow base e size v' (n + m) (xs ++ news) → w.grownBy w' v.ownBlock → wpListIn F nF P ops Q rest (a.put o.dst v') w') :
    wpListIn F nF P ops Q (o :: rest) a w := by
  have key : ∃ v' w', (Builtin.append_ #[t, t] o.type #[v, .slice ao m c]).run P w = .ok v' w' ∧ w'.ownsRow base e size v' (n + m) (xs ++ news) ∧ w.grownBy w' v.ownBlock := by
    cases ao with
    | some ad =>
      obtain ⟨v', w', hr, h2, h3, h4⟩ := run_append_own_at (P := P) w base t o.type e i z size bytes ht hi hz hsize hby hzs hsz v n xs hown ad m c news hl (hnews ad rfl) h1 h63 hbytes hbase
      exact ⟨v', w', hr, h2, h3⟩
    | none =>
      obtain rfl := hnone rfl
      have hnews : news = [] := List.eq_nil_of_length_eq_zero (by simpa using hl)
      subst hnews
      obtain ⟨A, c', rfl, hle, _⟩ := own_slice hown
      exact ⟨_, w, run_append_nothing (P := P) w t t o.type e i ht hi A n c' hle _ (Src.ofNil w ht c), by simpa using hown, World.grownBy.refl _ _⟩
  obtain ⟨v', w', hr, h2, h3⟩ := key
  refine wpListIn_plain hgd fun K hK => ?_
  unfold Oper.wpIn
  refine ⟨by simp [Oper.about, ho, resolve, Target.leads, Sem.run_pure], ?_⟩
  rw [Oper.semAt_plain F _ _ (by rw [ho]; intro c hc'; cases hc')]
  simp [execOp, ho, resolve, invoke, builtin, hs, hx, hr, Result.andThen]
  exact hK _ _ (h v' w' h2 h3)
end
end Go.Proofs.Ytibaindlbpfecaa

namespace Go.Proofs.Ytibaindlbpfecaa
open Go.RowKit

theorem RS.of_blk {α : Type} {enc : α → List Value} {sz : Nat} (hs : ∀ x, (enc x).length = sz) {w : World} {g t : Nat} {l : List α} (h : Blk w g t (l.flatMap enc).toArray) : RS enc sz w w.heap.size (some ⟨g, 0, none⟩) l := by
  refine .inr ⟨g, 0, rfl, h.lt, fun k x hk j v hv => ?_⟩
  have := h.cell (k * sz + j)
  rw [Nat.zero_add, this]
  simpa using flat_get hs l k x hk j v hv

theorem partIn_any (n : Int) (b : Nat) (whole : Int) (w : World) (hc : w.cell? ⟨b, 0, none⟩ = some (.int .i64 whole)) :
    Calls Try.prog 98 #[.int .i64 n, .pointer (some ⟨b, 0, none⟩)] w fun e w' => e = .returned (.bool (inB n 0 whole)) ∧ w = w' := by
  have hz := World.block_lt_of_cell? w _ hc
  simp at hz
  go_enter Try.func98, Try.ntmps98
  go_wp2_with ((go_at_call 73; refine (within_any _ _ _ _).mono ?_; rintro e w' ⟨rfl, rfl⟩))
  go_ret
  exact ⟨rfl, rfl⟩

theorem everyI_any (A : Option Addr) (c : Nat) (l : List Int) (b : Nat) (whole : Int) (w : World) (hr : RS encI 1 w w.heap.size A l) (hl : l.length ≤ maxLen) (hb : w.cell? ⟨b, 0, none⟩ = some (.int .i64 whole)) :
    Calls Try.prog 99 #[.slice A l.length c, .func (.func 98) #[] #[.pointer (some ⟨b, 0, none⟩)]] w fun e w' => e = .returned (.bool (l.all (inB · 0 whole))) ∧ w = w' := by
  unfold maxLen at hl
  go_enter Try.func99, Try.ntmps99
  go_wp2
  go_loop [9] (fun i => ∃ k : Nat, k ≤ l.length ∧ i = .int .i64 k ∧ (l.take k).all (inB · 0 whole) = true) (fun i => l.length - (intOf i).toNat)
  case atStart => exact ⟨0, Nat.zero_le _, rfl, rfl⟩
  case round =>
    obtain ⟨k, hk, rfl, hall⟩ := hrel
    have Hall := Lib.hid hall
    clear hall
    by_cases hlt : k < l.length
    · obtain ⟨x, hx⟩ := getElem?_lt hlt
      obtain ⟨b', off, rfl, hb', hc⟩ := hr.at_ hx
      have c0 := hc 0 _ rfl
      simp only [Nat.add_zero, Nat.mul_one] at c0
      have Hx := Lib.hid hx
      clear hx hc hr
      cases h1 : inB x 0 whole
      all_goals
        go_wp2_with (go_at_call 98; refine (partIn_any x b whole _ hb).mono ?_; rintro e w1 ⟨rfl, rfl⟩)
      · go_ret
        exact ⟨ret_bool (all_bad Hx.out h1).symm, rfl⟩
      · go_round
        case rel => exact ⟨k + 1, by omega, by go_num, all_snoc Hx.out Hall.out h1⟩
        case measure => simp [intOf]; omega
    · go_wp2
      go_ret
      exact ⟨ret_bool (all_end hlt Hall.out).symm, rfl⟩

def plusStep (a : Vec) (x : Vec × Int) : Vec := a.plus (x.1.times x.2)
/-- What the forces give at their parts, and the push at the whole. -/
def balSum (p : Vec) (f : List Vec) (whole : Int) (parts : List Int) : Vec := (List.zip f parts).foldl plusStep (p.times whole)
def balByB (p : Vec) (f : List Vec) (whole : Int) (parts : List Int) : Bool :=
  inB whole 1 500000000000 && (decide (parts.length = f.length) && (parts.all (inB · 0 whole) && decide (balSum p f whole parts = vecZ)))
theorem sumV_two (a b : Vec) : sumV [a, b] = a.plus b := by simp [sumV, Vec.plus, vecZ]
end Go.Proofs.Ytibaindlbpfecaa

namespace Go.Proofs.Ytibaindlbpfecaa
open Go.RowKit

/-- The first direction in which the forces are too weak; (0, 0) if there is none. -/
def weakM (f : List Vec) (p : Vec) : Vec := ((waysL f).find? (weakInB f p)).getD vecZ
theorem vecZ_ne {v : Vec} : v ≠ vecZ ↔ ¬ (v.x = 0 ∧ v.y = 0) := by
  obtain ⟨x, y⟩ := v
  simp [vecZ]
theorem find_snoc {α : Type} {p : α → Bool} {l : List α} {k : Nat} {x : α} (h : (l.take k).find? p = none) (hx : l[k]? = some x) (hp : p x = false) : (l.take (k + 1)).find? p = none := by
  rw [take_snoc' hx, List.find?_append, h]; simp [hp]
theorem find_hit {α : Type} {p : α → Bool} {l : List α} {k : Nat} {x : α} (h : (l.take k).find? p = none) (hx : l[k]? = some x) (hp : p x = true) : l.find? p = some x := by
  have h1 : l = l.take k ++ l.drop k := (List.take_append_drop k l).symm
  rw [h1, List.find?_append, h, drop_of_get hx]; simp [hp]
theorem find_end {α : Type} {p : α → Bool} {l : List α} {k : Nat} (h : (l.take k).find? p = none) (hk : ¬ k < l.length) : l.find? p = none := by
  rw [List.take_of_length_le (by omega)] at h; exact h

set_option maxRecDepth 100000 in
set_option maxHeartbeats 1000000 in
theorem weakness_any (h : Head) (A1 A2 : Option Addr) (c1 c2 : Nat) (f : List Vec) (push : Vec) (w : World) (hr : RS encV 2 w w.heap.size A1 f) (hl : f.length ≤ 8) (hf : ∀ v ∈ f, VB v 500000) (ha : 0 ≤ h.area ∧ h.area ≤ 1000) (hp : VB push 10000) :
    Calls Try.prog 113 #[.agg #[.int .i64 h.area, .int .i64 h.bears, .slice A2 h.guys.length c2, .slice A1 f.length c1], .agg #[.int .i64 push.x, .int .i64 push.y]] w fun e w' => e = .returned (.agg #[.int .i64 (weakM f (push.times h.area)).x, .int .i64 (weakM f (push.times h.area)).y]) ∧ Below w.heap.size w w' := by
  have Hf := Lib.hid hf
  have Hp : Hid (VB push 100000000) := hp.mono (by omega)
  have Hwl := Lib.hid (waysL_vb (by omega) hf)
  have HL : Hid ((waysL f).length = 20) := waysL_length hl
  have HW : Hid (weakM f (push.times h.area) = ((waysL f).find? (weakInB f (push.times h.area))).getD vecZ) := rfl
  have hB := (((Below.refl w.heap.size w).alloc (Nat.le_refl _) (.cells #[.int .i64 h.area, .int .i64 h.bears, .slice A2 h.guys.length c2, .slice A1 f.length c1] 125)).alloc (by simp) (.cells #[.int .i64 push.x, .int .i64 push.y] 58)).alloc (by simp <;> omega) (.cells #[.int .i64 0, .int .i64 0] 58)
  have hr1 := (hr.below hB (Nat.le_refl _)).more hB.size
  clear hf hp
  go_enter Try.func113, Try.ntmps113
  go_wp2_with fail
  refine (ways_any h A1 A2 c1 c2 f _ hr1 hl Hf.out).mono ?_
  rintro e wo ⟨rfl, hbo⟩
  have kM := (((Blk.new w 125 #[.int .i64 h.area, .int .i64 h.bears, .slice A2 h.guys.length c2, .slice A1 f.length c1]).alloc (.cells #[.int .i64 push.x, .int .i64 push.y] 58)).alloc (.cells #[.int .i64 0, .int .i64 0] 58)).below hbo (by simp <;> omega)
  have kV := ((Blk.new (w.alloc (.cells #[.int .i64 h.area, .int .i64 h.bears, .slice A2 h.guys.length c2, .slice A1 f.length c1] 125)) 58 #[.int .i64 push.x, .int .i64 push.y]).alloc (.cells #[.int .i64 0, .int .i64 0] 58)).below hbo (by simp <;> omega)
  have kR := (Blk.new ((w.alloc (.cells #[.int .i64 h.area, .int .i64 h.bears, .slice A2 h.guys.length c2, .slice A1 f.length c1] 125)).alloc (.cells #[.int .i64 push.x, .int .i64 push.y] 58)) 58 #[.int .i64 0, .int .i64 0]).below hbo (by simp <;> omega)
  have hro := hr1.to hbo
  have hBo := hB.trans (hbo.mono hB.size)
  simp only [World.size_alloc] at kV kR
  clear hbo hr1 hr hB
  go_wp2
  go_loopw [9] (fun i wr => ∃ k : Nat, k ≤ 20 ∧ i = .int .i64 k ∧ ((waysL f).take k).find? (weakInB f (push.times h.area)) = none ∧ Below wo.heap.size wo wr) (fun i _ => 20 - (intOf i).toNat)
  case atStart => exact ⟨0, by omega, rfl, rfl, Below.refl _ _⟩
  case round =>
    obtain ⟨k, hk, rfl, hfind, hB⟩ := hrel
    have Hfind := Lib.hid hfind
    clear hfind
    have hbz := hB.size
    have kMw := kM.below hB kM.lt
    have kVw := kV.below hB kV.lt
    have kRw := kR.below hB kR.lt
    have mz := kMw.lt
    have nz := kVw.lt
    have rz := kRw.lt
    by_cases hlt : k < 20
    · obtain ⟨d, hd⟩ := getElem?_lt (l := waysL f) (k := k) (by rw [HL.out]; exact hlt)
      have db := Lib.hid ((Hwl.out d (List.mem_of_getElem? hd)).mono (by omega : (500000 : Int) ≤ 1000000))
      have hix := index_ways HL.out hd
      have Hd := Lib.hid hd
      have m0 := kMw.cell 0
      have m1 := kMw.cell 1
      have m2 := kMw.cell 2
      have m3 := kMw.cell 3
      have n0 := kVw.cell 0
      have n1 := kVw.cell 1
      simp at m0 m1 m2 m3 n0 n1
      have hBa := (Below.refl _ wr).alloc (Nat.le_refl _) (.cells #[.int .i64 d.x, .int .i64 d.y] 58)
      have hrr := (hro.to hB).to hBa
      have kRa := kRw.alloc (.cells #[.int .i64 d.x, .int .i64 d.y] 58)
      have kDa := Blk.new wr 58 #[.int .i64 d.x, .int .i64 d.y]
      clear hd kMw kVw kM kV kR kRw hro
      have hv := fun W hW => weakIn_any h A1 A2 c1 c2 f push d W hW (by omega) Hf.out db.out ha Hp.out
      cases hwk : weakInB f (push.times h.area) d
      all_goals
        rw [hwk] at hv
        have Hv := Lib.hid hv
        clear hv
        go_wp2_with (go_at_call 68; refine (Hv.out _ hrr).mono ?_; rintro e w1 ⟨rfl, hb1⟩; have kR1 := kRa.below hb1 kRa.lt; have kD1 := kDa.below hb1 kDa.lt; have d0 := kD1.cell 0; have d1 := kD1.cell 1; have f0 := kR1.frozen 0; have f1 := kR1.frozen 1; have q0 := kR1.cell 0; have q1 := kR1.cell 1; have dz := kD1.lt; have rz1 := kR1.lt; simp at d0 d1 q0 q1)
      · go_roundw
        case rel => exact ⟨k + 1, by omega, by go_num, find_snoc Hfind.out Hd.out hwk, (hB.trans (hBa.mono hbz)).trans (hb1.mono (by have := hBa.size; omega))⟩
        case measure => simp [intOf]; omega
      · have bf := (kR1.set_ 0 (.int .i64 d.x)).set_ 1 (.int .i64 d.y)
        have v0 := bf.cell 0
        have v1 := bf.cell 1
        simp at v0 v1
        have he : weakM f (push.times h.area) = d := by rw [HW.out, find_hit Hfind.out Hd.out hwk]; rfl
        refine bodyPost_ret (v := .agg #[.int .i64 d.x, .int .i64 d.y]) (by simp [results, Try.results113, go_sem, v0, v1]) rfl ⟨by rw [he], ?_⟩
        have hBt := hBo.trans (((hB.trans (hBa.mono hbz)).trans (hb1.mono (by have := hBa.size; omega))).mono hBo.size)
        exact (hBt.setCell (by show w.heap.size ≤ w.heap.size + 1 + 1; omega) _).setCell (by show w.heap.size ≤ w.heap.size + 1 + 1; omega) _
    · obtain rfl : k = 20 := by omega
      have f0 := kRw.frozen 0
      have f1 := kRw.frozen 1
      have q0 := kRw.cell 0
      have q1 := kRw.cell 1
      simp at q0 q1
      go_wp2
      have bf := (kRw.set_ 0 (.int .i64 0)).set_ 1 (.int .i64 0)
      have v0 := bf.cell 0
      have v1 := bf.cell 1
      simp at v0 v1
      have he : weakM f (push.times h.area) = vecZ := by rw [HW.out, find_end Hfind.out (by rw [HL.out]; omega)]; rfl
      refine bodyPost_ret (v := .agg #[.int .i64 0, .int .i64 0]) (by simp [results, Try.results113, go_sem, v0, v1]) rfl ⟨by rw [he]; rfl, ?_⟩
      have hBt := hBo.trans (hB.mono hBo.size)
      exact (hBt.setCell (by show w.heap.size ≤ w.heap.size + 1 + 1; omega) _).setCell (by show w.heap.size ≤ w.heap.size + 1 + 1; omega) _
end Go.Proofs.Ytibaindlbpfecaa
