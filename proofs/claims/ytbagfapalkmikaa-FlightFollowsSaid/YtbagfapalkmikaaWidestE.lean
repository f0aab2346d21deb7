import Derived.Test.YtbagfapalkmikaaWidMax

/- Contracts of Widest. -/
namespace Go.Proofs.Ytbagfapalkmikaa
open Go.RowKit Go.Shelf
theorem winB_of {f : Flt} {a b : Nat} (hab : a ≤ b) (hb6 : b ≤ 6000) : ∀ p ∈ winsTo f a (b + 1), winB p.1 p.2 = true := by
  intro p hp
  have := winsTo_in (f := f) (a := a) (n := b + 1) (by omega) p hp
  exact winB_iff.2 (by omega)
set_option linter.unusedSimpArgs false in
set_option maxRecDepth 100000 in
set_option maxHeartbeats 8000000 in
theorem Widest_bad (f : Flt) (A : Option Addr) (c : Nat) (a b : Int) (w : World) (hl : f.cycle.length ≤ maxLen) (hA : RS encB 4 w w.heap.size A f.cycle) (h : winE f.ok a b ≠ 0) :
    Calls Try.prog 43 #[.agg #[.int .i64 f.fly.pos.x.lo, .int .i64 f.fly.pos.x.hi, .int .i64 f.fly.pos.z.lo, .int .i64 f.fly.pos.z.hi, .int .i64 f.fly.speed.x.lo, .int .i64 f.fly.speed.x.hi, .int .i64 f.fly.speed.z.lo, .int .i64 f.fly.speed.z.hi, .int .i64 f.fly.mass, .slice A f.cycle.length c, .int .i64 f.reach, .int .i64 f.soft, .int .i64 f.bears, .int .i64 f.least, .int .i64 f.most], .int .i64 a, .int .i64 b] w fun e w' => e = .returned (.tuple #[.agg #[.int .i64 0, .int .i64 0], .int .i64 (winE f.ok a b)]) ∧ Below w.heap.size w w' := by
  have hB0 := ((Below.refl w.heap.size w).alloc (Nat.le_refl _) (.cells #[.int .i64 f.fly.pos.x.lo, .int .i64 f.fly.pos.x.hi, .int .i64 f.fly.pos.z.lo, .int .i64 f.fly.pos.z.hi, .int .i64 f.fly.speed.x.lo, .int .i64 f.fly.speed.x.hi, .int .i64 f.fly.speed.z.lo, .int .i64 f.fly.speed.z.hi, .int .i64 f.fly.mass, .slice A f.cycle.length c, .int .i64 f.reach, .int .i64 f.soft, .int .i64 f.bears, .int .i64 f.least, .int .i64 f.most] 50)).alloc (by simp) (.cells #[.int .i64 0, .int .i64 0] 92)
  have kF := (Blk.new w 50 #[.int .i64 f.fly.pos.x.lo, .int .i64 f.fly.pos.x.hi, .int .i64 f.fly.pos.z.lo, .int .i64 f.fly.pos.z.hi, .int .i64 f.fly.speed.x.lo, .int .i64 f.fly.speed.x.hi, .int .i64 f.fly.speed.z.lo, .int .i64 f.fly.speed.z.hi, .int .i64 f.fly.mass, .slice A f.cycle.length c, .int .i64 f.reach, .int .i64 f.soft, .int .i64 f.bears, .int .i64 f.least, .int .i64 f.most]).alloc (.cells #[.int .i64 0, .int .i64 0] 92)
  have kR := Blk.new (w.alloc (.cells #[.int .i64 f.fly.pos.x.lo, .int .i64 f.fly.pos.x.hi, .int .i64 f.fly.pos.z.lo, .int .i64 f.fly.pos.z.hi, .int .i64 f.fly.speed.x.lo, .int .i64 f.fly.speed.x.hi, .int .i64 f.fly.speed.z.lo, .int .i64 f.fly.speed.z.hi, .int .i64 f.fly.mass, .slice A f.cycle.length c, .int .i64 f.reach, .int .i64 f.soft, .int .i64 f.bears, .int .i64 f.least, .int .i64 f.most] 50)) 92 #[.int .i64 0, .int .i64 0]
  simp only [World.size_alloc] at kR
  have hz := hB0.size
  have HW : Hid (Calls Try.prog 42 #[.agg #[.int .i64 f.fly.pos.x.lo, .int .i64 f.fly.pos.x.hi, .int .i64 f.fly.pos.z.lo, .int .i64 f.fly.pos.z.hi, .int .i64 f.fly.speed.x.lo, .int .i64 f.fly.speed.x.hi, .int .i64 f.fly.speed.z.lo, .int .i64 f.fly.speed.z.hi, .int .i64 f.fly.mass, .slice A f.cycle.length c, .int .i64 f.reach, .int .i64 f.soft, .int .i64 f.bears, .int .i64 f.least, .int .i64 f.most], .int .i64 a, .int .i64 b] ((w.alloc (.cells #[.int .i64 f.fly.pos.x.lo, .int .i64 f.fly.pos.x.hi, .int .i64 f.fly.pos.z.lo, .int .i64 f.fly.pos.z.hi, .int .i64 f.fly.speed.x.lo, .int .i64 f.fly.speed.x.hi, .int .i64 f.fly.speed.z.lo, .int .i64 f.fly.speed.z.hi, .int .i64 f.fly.mass, .slice A f.cycle.length c, .int .i64 f.reach, .int .i64 f.soft, .int .i64 f.bears, .int .i64 f.least, .int .i64 f.most] 50)).alloc (.cells #[.int .i64 0, .int .i64 0] 92)) fun e w' => e = .returned (.tuple #[.slice none 0 0, .int .i64 (winE f.ok a b)]) ∧ Below ((w.alloc (.cells #[.int .i64 f.fly.pos.x.lo, .int .i64 f.fly.pos.x.hi, .int .i64 f.fly.pos.z.lo, .int .i64 f.fly.pos.z.hi, .int .i64 f.fly.speed.x.lo, .int .i64 f.fly.speed.x.hi, .int .i64 f.fly.speed.z.lo, .int .i64 f.fly.speed.z.hi, .int .i64 f.fly.mass, .slice A f.cycle.length c, .int .i64 f.reach, .int .i64 f.soft, .int .i64 f.bears, .int .i64 f.least, .int .i64 f.most] 50)).alloc (.cells #[.int .i64 0, .int .i64 0] 92)).heap.size ((w.alloc (.cells #[.int .i64 f.fly.pos.x.lo, .int .i64 f.fly.pos.x.hi, .int .i64 f.fly.pos.z.lo, .int .i64 f.fly.pos.z.hi, .int .i64 f.fly.speed.x.lo, .int .i64 f.fly.speed.x.hi, .int .i64 f.fly.speed.z.lo, .int .i64 f.fly.speed.z.hi, .int .i64 f.fly.mass, .slice A f.cycle.length c, .int .i64 f.reach, .int .i64 f.soft, .int .i64 f.bears, .int .i64 f.least, .int .i64 f.most] 50)).alloc (.cells #[.int .i64 0, .int .i64 0] 92)) w') := Windows_bad f A c a b _ hl (hA.to hB0) h
  obtain ⟨E, hE⟩ : ∃ E, winE f.ok a b = E := ⟨_, rfl⟩
  rw [hE] at HW h ⊢
  have hE0 : (E != 0) = true := by simpa using h
  clear hE hl hA
  go_enter Try.func43, Try.ntmps43
  go_wp2_with ((go_at_call 42; (with_reducible refine HW.out.mono ?_); rintro e w1 ⟨rfl, hb1⟩; have kR1 := kR.below hb1 kR.lt; have r0 := kR1.cell 0; have rf0 := kR1.frozen 0; have r1 := kR1.cell 1; have rf1 := kR1.frozen 1; have rl := kR1.lt; simp at r0 r1))
  have hB2 := hB0.trans (hb1.mono hz)
  have v0 := (kR1.set_ 0 (.int .i64 0)).cell 0
  have v1 := ((kR1.set_ 0 (.int .i64 0)).set_ 1 (.int .i64 0)).cell 1
  have v2 := ((kR1.set_ 0 (.int .i64 0)).set_ 1 (.int .i64 0)).cell 0
  simp at v0 v1 v2
  refine bodyPost_ret (v := .tuple #[.agg #[.int .i64 0, .int .i64 0], .int .i64 E]) (by simp [results, Try.results43, go_sem, v0, v1, v2]) rfl ⟨rfl, ?_⟩
  exact (hB2.setCell (p := ⟨w.heap.size + 1, 0, none⟩) (by simp) _).setCell (p := ⟨w.heap.size + 1, 1, none⟩) (by simp) _
set_option linter.unusedSimpArgs false in
set_option maxRecDepth 100000 in
set_option maxHeartbeats 8000000 in
theorem Widest_none (f : Flt) (A : Option Addr) (c : Nat) (a b : Nat) (w : World) (hf : f.ok = true) (hA : RS encB 4 w w.heap.size A f.cycle) (hab : a ≤ b) (hb6 : b ≤ 6000) (hw : winsTo f a (b + 1) = []) :
    Calls Try.prog 43 #[.agg #[.int .i64 f.fly.pos.x.lo, .int .i64 f.fly.pos.x.hi, .int .i64 f.fly.pos.z.lo, .int .i64 f.fly.pos.z.hi, .int .i64 f.fly.speed.x.lo, .int .i64 f.fly.speed.x.hi, .int .i64 f.fly.speed.z.lo, .int .i64 f.fly.speed.z.hi, .int .i64 f.fly.mass, .slice A f.cycle.length c, .int .i64 f.reach, .int .i64 f.soft, .int .i64 f.bears, .int .i64 f.least, .int .i64 f.most], .int .i64 a, .int .i64 b] w fun e w' => e = .returned (.tuple #[.agg #[.int .i64 0, .int .i64 0], .int .i64 7]) ∧ Below w.heap.size w w' := by
  have hB0 := ((Below.refl w.heap.size w).alloc (Nat.le_refl _) (.cells #[.int .i64 f.fly.pos.x.lo, .int .i64 f.fly.pos.x.hi, .int .i64 f.fly.pos.z.lo, .int .i64 f.fly.pos.z.hi, .int .i64 f.fly.speed.x.lo, .int .i64 f.fly.speed.x.hi, .int .i64 f.fly.speed.z.lo, .int .i64 f.fly.speed.z.hi, .int .i64 f.fly.mass, .slice A f.cycle.length c, .int .i64 f.reach, .int .i64 f.soft, .int .i64 f.bears, .int .i64 f.least, .int .i64 f.most] 50)).alloc (by simp) (.cells #[.int .i64 0, .int .i64 0] 92)
  have kF := (Blk.new w 50 #[.int .i64 f.fly.pos.x.lo, .int .i64 f.fly.pos.x.hi, .int .i64 f.fly.pos.z.lo, .int .i64 f.fly.pos.z.hi, .int .i64 f.fly.speed.x.lo, .int .i64 f.fly.speed.x.hi, .int .i64 f.fly.speed.z.lo, .int .i64 f.fly.speed.z.hi, .int .i64 f.fly.mass, .slice A f.cycle.length c, .int .i64 f.reach, .int .i64 f.soft, .int .i64 f.bears, .int .i64 f.least, .int .i64 f.most]).alloc (.cells #[.int .i64 0, .int .i64 0] 92)
  have kR := Blk.new (w.alloc (.cells #[.int .i64 f.fly.pos.x.lo, .int .i64 f.fly.pos.x.hi, .int .i64 f.fly.pos.z.lo, .int .i64 f.fly.pos.z.hi, .int .i64 f.fly.speed.x.lo, .int .i64 f.fly.speed.x.hi, .int .i64 f.fly.speed.z.lo, .int .i64 f.fly.speed.z.hi, .int .i64 f.fly.mass, .slice A f.cycle.length c, .int .i64 f.reach, .int .i64 f.soft, .int .i64 f.bears, .int .i64 f.least, .int .i64 f.most] 50)) 92 #[.int .i64 0, .int .i64 0]
  simp only [World.size_alloc] at kR
  have hz := hB0.size
  have HW : Hid (Calls Try.prog 42 #[.agg #[.int .i64 f.fly.pos.x.lo, .int .i64 f.fly.pos.x.hi, .int .i64 f.fly.pos.z.lo, .int .i64 f.fly.pos.z.hi, .int .i64 f.fly.speed.x.lo, .int .i64 f.fly.speed.x.hi, .int .i64 f.fly.speed.z.lo, .int .i64 f.fly.speed.z.hi, .int .i64 f.fly.mass, .slice A f.cycle.length c, .int .i64 f.reach, .int .i64 f.soft, .int .i64 f.bears, .int .i64 f.least, .int .i64 f.most], .int .i64 a, .int .i64 b] ((w.alloc (.cells #[.int .i64 f.fly.pos.x.lo, .int .i64 f.fly.pos.x.hi, .int .i64 f.fly.pos.z.lo, .int .i64 f.fly.pos.z.hi, .int .i64 f.fly.speed.x.lo, .int .i64 f.fly.speed.x.hi, .int .i64 f.fly.speed.z.lo, .int .i64 f.fly.speed.z.hi, .int .i64 f.fly.mass, .slice A f.cycle.length c, .int .i64 f.reach, .int .i64 f.soft, .int .i64 f.bears, .int .i64 f.least, .int .i64 f.most] 50)).alloc (.cells #[.int .i64 0, .int .i64 0] 92)) fun e w' => ∃ A' c', e = .returned (.tuple #[.slice A' (winsTo f a (b + 1)).length c', .int .i64 0]) ∧ RS encW 2 w' w'.heap.size A' (winsTo f a (b + 1)) ∧ Below ((w.alloc (.cells #[.int .i64 f.fly.pos.x.lo, .int .i64 f.fly.pos.x.hi, .int .i64 f.fly.pos.z.lo, .int .i64 f.fly.pos.z.hi, .int .i64 f.fly.speed.x.lo, .int .i64 f.fly.speed.x.hi, .int .i64 f.fly.speed.z.lo, .int .i64 f.fly.speed.z.hi, .int .i64 f.fly.mass, .slice A f.cycle.length c, .int .i64 f.reach, .int .i64 f.soft, .int .i64 f.bears, .int .i64 f.least, .int .i64 f.most] 50)).alloc (.cells #[.int .i64 0, .int .i64 0] 92)).heap.size ((w.alloc (.cells #[.int .i64 f.fly.pos.x.lo, .int .i64 f.fly.pos.x.hi, .int .i64 f.fly.pos.z.lo, .int .i64 f.fly.pos.z.hi, .int .i64 f.fly.speed.x.lo, .int .i64 f.fly.speed.x.hi, .int .i64 f.fly.speed.z.lo, .int .i64 f.fly.speed.z.hi, .int .i64 f.fly.mass, .slice A f.cycle.length c, .int .i64 f.reach, .int .i64 f.soft, .int .i64 f.bears, .int .i64 f.least, .int .i64 f.most] 50)).alloc (.cells #[.int .i64 0, .int .i64 0] 92)) w') := Windows_ok f A c a b _ hf (hA.to hB0) hab hb6
  rw [hw] at HW
  clear hf hA hab hb6 hw
  go_enter Try.func43, Try.ntmps43
  go_wp2_with ((go_at_call 42; (with_reducible refine HW.out.mono ?_); rintro e w1 ⟨A1, c1, rfl, hs1, hb1⟩; have kR1 := kR.below hb1 kR.lt; have r0 := kR1.cell 0; have rf0 := kR1.frozen 0; have r1 := kR1.cell 1; have rf1 := kR1.frozen 1; have rl := kR1.lt; simp at r0 r1))
  have hB2 := hB0.trans (hb1.mono hz)
  have v0 := (kR1.set_ 0 (.int .i64 0)).cell 0
  have v1 := ((kR1.set_ 0 (.int .i64 0)).set_ 1 (.int .i64 0)).cell 1
  have v2 := ((kR1.set_ 0 (.int .i64 0)).set_ 1 (.int .i64 0)).cell 0
  simp at v0 v1 v2
  refine bodyPost_ret (v := .tuple #[.agg #[.int .i64 0, .int .i64 0], .int .i64 7]) (by simp [results, Try.results43, go_sem, v0, v1, v2]) rfl ⟨rfl, ?_⟩
  exact (hB2.setCell (p := ⟨w.heap.size + 1, 0, none⟩) (by simp) _).setCell (p := ⟨w.heap.size + 1, 1, none⟩) (by simp) _
set_option linter.unusedSimpArgs false in
set_option maxRecDepth 100000 in
set_option maxHeartbeats 8000000 in
theorem Widest_ok (f : Flt) (A : Option Addr) (c : Nat) (a b : Nat) (x : Int × Int) (l : List (Int × Int)) (w : World) (hf : f.ok = true) (hA : RS encB 4 w w.heap.size A f.cycle) (hab : a ≤ b) (hb6 : b ≤ 6000) (hw : winsTo f a (b + 1) = x :: l) :
    Calls Try.prog 43 #[.agg #[.int .i64 f.fly.pos.x.lo, .int .i64 f.fly.pos.x.hi, .int .i64 f.fly.pos.z.lo, .int .i64 f.fly.pos.z.hi, .int .i64 f.fly.speed.x.lo, .int .i64 f.fly.speed.x.hi, .int .i64 f.fly.speed.z.lo, .int .i64 f.fly.speed.z.hi, .int .i64 f.fly.mass, .slice A f.cycle.length c, .int .i64 f.reach, .int .i64 f.soft, .int .i64 f.bears, .int .i64 f.least, .int .i64 f.most], .int .i64 a, .int .i64 b] w fun e w' => e = .returned (.tuple #[.agg #[.int .i64 (widest (x :: l)).1, .int .i64 (widest (x :: l)).2], .int .i64 0]) ∧ Below w.heap.size w w' := by
  have hB0 := ((Below.refl w.heap.size w).alloc (Nat.le_refl _) (.cells #[.int .i64 f.fly.pos.x.lo, .int .i64 f.fly.pos.x.hi, .int .i64 f.fly.pos.z.lo, .int .i64 f.fly.pos.z.hi, .int .i64 f.fly.speed.x.lo, .int .i64 f.fly.speed.x.hi, .int .i64 f.fly.speed.z.lo, .int .i64 f.fly.speed.z.hi, .int .i64 f.fly.mass, .slice A f.cycle.length c, .int .i64 f.reach, .int .i64 f.soft, .int .i64 f.bears, .int .i64 f.least, .int .i64 f.most] 50)).alloc (by simp) (.cells #[.int .i64 0, .int .i64 0] 92)
  have kF := (Blk.new w 50 #[.int .i64 f.fly.pos.x.lo, .int .i64 f.fly.pos.x.hi, .int .i64 f.fly.pos.z.lo, .int .i64 f.fly.pos.z.hi, .int .i64 f.fly.speed.x.lo, .int .i64 f.fly.speed.x.hi, .int .i64 f.fly.speed.z.lo, .int .i64 f.fly.speed.z.hi, .int .i64 f.fly.mass, .slice A f.cycle.length c, .int .i64 f.reach, .int .i64 f.soft, .int .i64 f.bears, .int .i64 f.least, .int .i64 f.most]).alloc (.cells #[.int .i64 0, .int .i64 0] 92)
  have kR := Blk.new (w.alloc (.cells #[.int .i64 f.fly.pos.x.lo, .int .i64 f.fly.pos.x.hi, .int .i64 f.fly.pos.z.lo, .int .i64 f.fly.pos.z.hi, .int .i64 f.fly.speed.x.lo, .int .i64 f.fly.speed.x.hi, .int .i64 f.fly.speed.z.lo, .int .i64 f.fly.speed.z.hi, .int .i64 f.fly.mass, .slice A f.cycle.length c, .int .i64 f.reach, .int .i64 f.soft, .int .i64 f.bears, .int .i64 f.least, .int .i64 f.most] 50)) 92 #[.int .i64 0, .int .i64 0]
  simp only [World.size_alloc] at kR
  have hz := hB0.size
  have HW : Hid (Calls Try.prog 42 #[.agg #[.int .i64 f.fly.pos.x.lo, .int .i64 f.fly.pos.x.hi, .int .i64 f.fly.pos.z.lo, .int .i64 f.fly.pos.z.hi, .int .i64 f.fly.speed.x.lo, .int .i64 f.fly.speed.x.hi, .int .i64 f.fly.speed.z.lo, .int .i64 f.fly.speed.z.hi, .int .i64 f.fly.mass, .slice A f.cycle.length c, .int .i64 f.reach, .int .i64 f.soft, .int .i64 f.bears, .int .i64 f.least, .int .i64 f.most], .int .i64 a, .int .i64 b] ((w.alloc (.cells #[.int .i64 f.fly.pos.x.lo, .int .i64 f.fly.pos.x.hi, .int .i64 f.fly.pos.z.lo, .int .i64 f.fly.pos.z.hi, .int .i64 f.fly.speed.x.lo, .int .i64 f.fly.speed.x.hi, .int .i64 f.fly.speed.z.lo, .int .i64 f.fly.speed.z.hi, .int .i64 f.fly.mass, .slice A f.cycle.length c, .int .i64 f.reach, .int .i64 f.soft, .int .i64 f.bears, .int .i64 f.least, .int .i64 f.most] 50)).alloc (.cells #[.int .i64 0, .int .i64 0] 92)) fun e w' => ∃ A' c', e = .returned (.tuple #[.slice A' (winsTo f a (b + 1)).length c', .int .i64 0]) ∧ RS encW 2 w' w'.heap.size A' (winsTo f a (b + 1)) ∧ Below ((w.alloc (.cells #[.int .i64 f.fly.pos.x.lo, .int .i64 f.fly.pos.x.hi, .int .i64 f.fly.pos.z.lo, .int .i64 f.fly.pos.z.hi, .int .i64 f.fly.speed.x.lo, .int .i64 f.fly.speed.x.hi, .int .i64 f.fly.speed.z.lo, .int .i64 f.fly.speed.z.hi, .int .i64 f.fly.mass, .slice A f.cycle.length c, .int .i64 f.reach, .int .i64 f.soft, .int .i64 f.bears, .int .i64 f.least, .int .i64 f.most] 50)).alloc (.cells #[.int .i64 0, .int .i64 0] 92)).heap.size ((w.alloc (.cells #[.int .i64 f.fly.pos.x.lo, .int .i64 f.fly.pos.x.hi, .int .i64 f.fly.pos.z.lo, .int .i64 f.fly.pos.z.hi, .int .i64 f.fly.speed.x.lo, .int .i64 f.fly.speed.x.hi, .int .i64 f.fly.speed.z.lo, .int .i64 f.fly.speed.z.hi, .int .i64 f.fly.mass, .slice A f.cycle.length c, .int .i64 f.reach, .int .i64 f.soft, .int .i64 f.bears, .int .i64 f.least, .int .i64 f.most] 50)).alloc (.cells #[.int .i64 0, .int .i64 0] 92)) w') := Windows_ok f A c a b _ hf (hA.to hB0) hab hb6
  have hwb := winB_of (f := f) hab hb6
  have hwl := winsTo_len (f := f) (a := a) (n := b + 1) (by omega)
  rw [hw] at HW hwb hwl
  rw [List.length_cons] at hwl
  have HM : Hid (∀ (A' : Option Addr) (c' : Nat) (W : World), RS encW 2 W W.heap.size A' (x :: l) → Calls Try.prog 73 #[.slice A' (x :: l).length c', .func (.func 74) #[] #[]] W fun e w' => e = .returned (.agg #[.int .i64 (widest (x :: l)).1, .int .i64 (widest (x :: l)).2]) ∧ Below W.heap.size W w') := fun A' c' W h => maxFunc_any A' c' x l W h (by omega) hwb
  obtain ⟨m, hm⟩ : ∃ m, widest (x :: l) = m := ⟨_, rfl⟩
  rw [hm] at HM
  rw [hm]
  obtain ⟨ws, hws⟩ : ∃ ws, x :: l = ws := ⟨_, rfl⟩
  have hwn : ¬ (ws.length : Int) = 0 := by rw [← hws]; simp; omega
  rw [hws] at HW HM
  clear hwb hwl hm hws
  clear hf hA hab hb6 hw
  go_enter Try.func43, Try.ntmps43
  go_wp2_with (first | (go_at_call 42; (with_reducible refine HW.out.mono ?_); rintro e w1 ⟨A1, c1, rfl, hs1, hb1⟩; have kR1 := kR.below hb1 kR.lt; have r0 := kR1.cell 0; have rf0 := kR1.frozen 0; have r1 := kR1.cell 1; have rf1 := kR1.frozen 1; have rl := kR1.lt; simp at r0 r1) | (go_at_call 73; (with_reducible refine (HM.out _ _ _ hs1).mono ?_); rintro e w2 ⟨rfl, hb2⟩; have kR2 := kR1.below hb2 kR1.lt; have q0 := kR2.cell 0; have qf0 := kR2.frozen 0; have q1 := kR2.cell 1; have qf1 := kR2.frozen 1; have ql := kR2.lt; simp at q0 q1))
  have hB2 := hB0.trans ((sh_next hb1 hb2).mono hz)
  have v0 := (kR2.set_ 0 (.int .i64 m.1)).cell 0
  have v1 := ((kR2.set_ 0 (.int .i64 m.1)).set_ 1 (.int .i64 m.2)).cell 1
  have v2 := ((kR2.set_ 0 (.int .i64 m.1)).set_ 1 (.int .i64 m.2)).cell 0
  simp at v0 v1 v2
  refine bodyPost_ret (v := .tuple #[.agg #[.int .i64 m.1, .int .i64 m.2], .int .i64 0]) (by simp [results, Try.results43, go_sem, v0, v1, v2]) rfl ⟨rfl, ?_⟩
  exact (hB2.setCell (p := ⟨w.heap.size + 1, 0, none⟩) (by simp) _).setCell (p := ⟨w.heap.size + 1, 1, none⟩) (by simp) _
end Go.Proofs.Ytbagfapalkmikaa
