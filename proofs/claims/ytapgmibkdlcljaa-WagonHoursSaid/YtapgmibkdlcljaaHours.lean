import Derived.Test.YtapgmibkdlcljaaEvAwake05
import Derived.Test.YtapgmibkdlcljaaTripL

/- The law of hours. -/
namespace Go.Proofs.Ytapgmibkdlcljaa
open Go.RowKit
set_option maxRecDepth 100000 in
set_option maxHeartbeats 4000000 in
theorem hours_any (r : Rul) (hh pp rr : Int) (w : World) (g1 : 0 ≤ hh ∧ hh ≤ 255) (g2 : 0 ≤ pp ∧ pp ≤ 255) (g3 : 0 ≤ rr ∧ rr ≤ 255) : Calls Try.prog 4 #[.agg #[.int .i64 r.drive, .int .i64 r.stint, .int .i64 r.brk, .int .i64 r.rest], .int .u8 hh, .int .u8 pp, .int .u8 rr] w fun e w' => e = .returned (.bool true) ∧ Below w.heap.size w w' := by
  cases h1 : r.ok
  case false =>
    have R1 : Hid (∀ W : World, Calls Try.prog 12 #[.agg #[.int .i64 r.drive, .int .i64 r.stint, .int .i64 r.brk, .int .i64 r.rest]] W fun e w' => e = .returned (.bool false) ∧ Below W.heap.size W w') := fun W => by
      have := RightRules_any r W
      rw [h1] at this
      exact this
    clear h1
    go_enter Try.func4, Try.ntmps4
    go_wp2_with (first | (go_at_call 12; refine (R1.out _).mono ?_; rintro e w3 ⟨rfl, hb3⟩; obtain ⟨hc3, hf3⟩ := bcell hb3; have hz3 : w.heap.size < w3.heap.size := (by have := hb3.size; (try simp at this); omega)) | (go_at_call 13; refine (awake_any _).mono ?_; rintro e w4 ⟨rfl, hb4⟩; obtain ⟨hc4, hf4⟩ := bcell hb4; have hz4 : w.heap.size < w4.heap.size := (by have := hb4.size; (try simp at this); omega)))
    go_ret
    exact ⟨rfl, ((Below.refl _ _).alloc (Nat.le_refl _) _).trans ((sh_next hb3 hb4).mono (by simp))⟩
  case true =>
    obtain ⟨⟨d1, d2⟩, ⟨s1, s2⟩, ⟨b1, b2⟩, ⟨r1, r2⟩⟩ := Rul.ok_iff.1 h1
    have R1 : Hid (∀ W : World, Calls Try.prog 12 #[.agg #[.int .i64 r.drive, .int .i64 r.stint, .int .i64 r.brk, .int .i64 r.rest]] W fun e w' => e = .returned (.bool true) ∧ Below W.heap.size W w') := fun W => by
      have := RightRules_any r W
      rw [h1] at this
      exact this
    have eh : hh.tmod 200 = hh % 200 := IntWalk.rem_in _ _ (by omega)
    obtain ⟨n, hn⟩ : ∃ n, hh % 200 = n := ⟨_, rfl⟩
    rw [hn] at eh
    have n1 : 0 ≤ n := by omega
    have n2 : n ≤ 199 := by omega
    have k2 : Rul.ok ⟨r.drive, r.stint, min 8 (r.brk + pp), min 24 (r.rest + rr)⟩ = true := Rul.ok_iff.2 ⟨⟨d1, d2⟩, ⟨s1, s2⟩, ⟨by simp only; omega, by simp only; omega⟩, ⟨by simp only; omega, by simp only; omega⟩⟩
    have m1 := takes_in h1 n1 (by omega)
    have m2 := takes_next h1 n1
    have m3 := takes_mono (r2 := ⟨r.drive, r.stint, min 8 (r.brk + pp), min 24 (r.rest + rr)⟩) h1 rfl rfl (by simp only; omega) (by simp only; omega) n1
    have m4 : n ≤ r.stint → r.takes n = n := takes_stint h1 n1
    have mm := takes_in h1 (n := n + 1) (by omega) (by omega)
    have q1 : ∀ x : Rul, x.ok = true → ∀ k : Int, 0 ≤ k → k ≤ 200 → ∀ W : World, Calls Try.prog 10 #[.agg #[.int .i64 x.drive, .int .i64 x.stint, .int .i64 x.brk, .int .i64 x.rest], .int .i64 k] W fun e w' => e = .returned (.tuple #[.int .i64 (x.takes k), .int .i64 0]) ∧ Below W.heap.size W w' := fun x hx k h0 h2 W => by
      have := Trip_any x k W
      simp only [tripN, tripE, hx, inB_true.2 ⟨h0, h2⟩, Bool.and_true, if_true] at this
      exact this
    have T1 := Lib.hid (q1 r h1 n n1 (by omega))
    have T2 := Lib.hid (q1 r h1 (n + 1) (by omega) (by omega))
    have T3 := Lib.hid (q1 ⟨r.drive, r.stint, min 8 (r.brk + pp), min 24 (r.rest + rr)⟩ k2 n n1 (by omega))
    have RU := Lib.hid (rules_any ⟨r.drive, r.stint, min 8 (r.brk + pp), min 24 (r.rest + rr)⟩)
    simp only at T3 RU
    obtain ⟨t, ht⟩ : ∃ t, r.takes n = t := ⟨_, rfl⟩
    obtain ⟨u, hu⟩ : ∃ u, r.takes (n + 1) = u := ⟨_, rfl⟩
    obtain ⟨v, hv⟩ : ∃ v, Rul.takes ⟨r.drive, r.stint, min 8 (r.brk + pp), min 24 (r.rest + rr)⟩ n = v := ⟨_, rfl⟩
    obtain ⟨x, hx⟩ : ∃ x, min 8 (r.brk + pp) = x := ⟨_, rfl⟩
    obtain ⟨y, hy⟩ : ∃ y, min 24 (r.rest + rr) = y := ⟨_, rfl⟩
    rw [ht] at T1 m1 m2 m3 m4
    rw [hu] at T2 m2 mm
    rw [hv] at T3 m3
    rw [hx, hy] at T3 RU
    have M4 := Lib.hid m4
    have HX := Lib.hid hx
    have HY := Lib.hid hy
    clear q1 k2 ht hu hv hx hy h1 m4
    go_enter Try.func4, Try.ntmps4
    go_upto_region 4 with ((go_at_call 12; refine (R1.out _).mono ?_; rintro e w1 ⟨rfl, hb1⟩; obtain ⟨hc1, hf1⟩ := bcell hb1; have hz1 : w.heap.size < w1.heap.size := (by have := hb1.size; (try simp at this); omega)))
    go_upto_region 5 with (first | (go_at_call 11; refine (rules_any r _).mono ?_; rintro e w2 ⟨rfl, hb2⟩; obtain ⟨hc2, hf2⟩ := bcell hb2; have hz2 : w.heap.size < w2.heap.size := (by have := hb2.size; (try simp at this); omega)) | (go_at_call 10; (with_reducible refine (T1.out _).mono ?_); rintro e w3 ⟨rfl, hb3⟩; obtain ⟨hc3, hf3⟩ := bcell hb3; have hz3 : w.heap.size < w3.heap.size := (by have := hb3.size; (try simp at this); omega)))
    go_upto_region 6 with (first | (go_at_call 11; refine (rules_any r _).mono ?_; rintro e w4 ⟨rfl, hb4⟩; obtain ⟨hc4, hf4⟩ := bcell hb4; have hz4 : w.heap.size < w4.heap.size := (by have := hb4.size; (try simp at this); omega)) | (go_at_call 10; (with_reducible refine (T2.out _).mono ?_); rintro e w5 ⟨rfl, hb5⟩; obtain ⟨hc5, hf5⟩ := bcell hb5; have hz5 : w.heap.size < w5.heap.size := (by have := hb5.size; (try simp at this); omega)))
    go_upto_region 7 with fail
    have hX5 := sh_next (sh_next (sh_next (sh_next hb1 hb2) hb3) hb4) hb5
    have kR := (Blk.new w 23 #[.int .i64 r.drive, .int .i64 r.stint, .int .i64 r.brk, .int .i64 r.rest]).below hX5 (Blk.new w 23 #[.int .i64 r.drive, .int .i64 r.stint, .int .i64 r.brk, .int .i64 r.rest]).lt
    have kR6 := kR.alloc (.cells #[.int .i64 r.drive, .int .i64 r.stint, .int .i64 r.brk, .int .i64 r.rest] 23)
    have kX6 := Blk.new w5 23 #[.int .i64 r.drive, .int .i64 r.stint, .int .i64 r.brk, .int .i64 r.rest]
    have hB6 : Below w.heap.size w (w5.alloc (.cells #[.int .i64 r.drive, .int .i64 r.stint, .int .i64 r.brk, .int .i64 r.rest] 23)) := (((Below.refl w.heap.size w).alloc (Nat.le_refl _) (.cells #[.int .i64 r.drive, .int .i64 r.stint, .int .i64 r.brk, .int .i64 r.rest] 23)).trans (hX5.mono (by simp))).alloc (by omega) _
    have hne : w.heap.size ≠ w5.heap.size := by omega
    have hlt5 := hz5
    clear hX5 kR hc1 hc2 hc3 hc4 hc5 hf1 hf2 hf3 hf4 hf5 hb1 hb2 hb3 hb4 hb5 hz1 hz2 hz3 hz4 hz5
    have e1 : IntKind.i64.wrap pp = pp := IntWalk.i64_in _ (by omega)
    have e2 : IntKind.i64.wrap rr = rr := IntWalk.i64_in _ (by omega)
    have e3 : IntKind.i64.wrap (r.brk + pp) = r.brk + pp := IntWalk.i64_in _ (by omega)
    have e4 : IntKind.i64.wrap (r.rest + rr) = r.rest + rr := IntWalk.i64_in _ (by omega)
    refine name_world (motive := fun W => Code.wp _ _ _ _ W) _ ?_
    intro W1 hW1
    have hB1 := hW1.below hB6
    have kR1 := hW1.blk kR6
    have kX1 := hW1.blk kX6
    clear hB6 kR6 kX6 hW1
    have x0 := kR1.cell 0; have xf0 := kR1.frozen 0; have x1 := kR1.cell 1; have xf1 := kR1.frozen 1; have x2 := kR1.cell 2; have xf2 := kR1.frozen 2; have x3 := kR1.cell 3; have xf3 := kR1.frozen 3; have xl := kR1.lt; simp at x0 x1 x2 x3
    have y0 := kX1.cell 0; have yf0 := kX1.frozen 0; have y1 := kX1.cell 1; have yf1 := kX1.frozen 1; have y2 := kX1.cell 2; have yf2 := kX1.frozen 2; have y3 := kX1.cell 3; have yf3 := kX1.frozen 3; have yl := kX1.lt; simp at y0 y1 y2 y3
    go_region
    go_upto_region 8 with fail
    have i1 : (if r.brk + pp < 8 then r.brk + pp else 8) = x := by rw [← HX.out]; split <;> omega
    have i2 : (if r.rest + rr < 24 then r.rest + rr else 24) = y := by rw [← HY.out]; split <;> omega
    rw [i1, i2]
    have kX2 := ((kX1.set_ 2 (.int .i64 x)).set_ 3 (.int .i64 y)).drew
    have kR2 := ((kR1.far (p := ⟨w5.heap.size, 2, none⟩) hne (.int .i64 x)).far (p := ⟨w5.heap.size, 3, none⟩) hne (.int .i64 y)).drew
    have hB2 : Below w.heap.size w ((W1.setCell ⟨w5.heap.size, 2, none⟩ (.int .i64 x)).setCell ⟨w5.heap.size, 3, none⟩ (.int .i64 y)).drew := ((hB1.setCell (p := ⟨w5.heap.size, 2, none⟩) (by simp only; omega) _).setCell (p := ⟨w5.heap.size, 3, none⟩) (by simp only; omega) _).drew
    clear i1 i2 e1 e2 e3 e4 x0 x1 x2 x3 y0 y1 y2 y3 xf0 xf1 xf2 xf3 yf0 yf1 yf2 yf3 xl yl kR1 kX1 hB1
    refine name_world (motive := fun W => Code.wp _ _ _ _ W) _ ?_
    intro W2 hW2
    have hB3 := hW2.below hB2
    have kR3 := hW2.blk kR2
    have kX3 := hW2.blk kX2
    clear hB2 kR2 kX2 hW2
    have f1 : decide (n ≤ t) = true := decide_eq_true (by omega)
    have f2 : decide (t + 1 ≤ u) = true := decide_eq_true (by omega)
    have f3 : decide (t ≤ v) = true := decide_eq_true (by omega)
    have f4 : IntKind.i64.wrap (t + 1) = t + 1 := IntWalk.i64_in _ (by omega)
    have x0 := kR3.cell 0; have xf0 := kR3.frozen 0; have x1 := kR3.cell 1; have xf1 := kR3.frozen 1; have x2 := kR3.cell 2; have xf2 := kR3.frozen 2; have x3 := kR3.cell 3; have xf3 := kR3.frozen 3; have xl := kR3.lt; simp at x0 x1 x2 x3
    have y0 := kX3.cell 0; have yf0 := kX3.frozen 0; have y1 := kX3.cell 1; have yf1 := kX3.frozen 1; have y2 := kX3.cell 2; have yf2 := kX3.frozen 2; have y3 := kX3.cell 3; have yf3 := kX3.frozen 3; have yl := kX3.lt; simp at y0 y1 y2 y3
    by_cases hs : r.stint < n
    · have f5 : decide (r.stint < n) = true := decide_eq_true hs
      go_wp2_with (first | (go_at_call 11; refine (RU.out _).mono ?_; rintro e w6 ⟨rfl, hb6⟩; obtain ⟨hc6, hf6⟩ := bcell hb6; have hz6 : w.heap.size < w6.heap.size := (by have := hb6.size; (try simp at this); omega)) | (go_at_call 10; refine (T3.out _).mono ?_; rintro e w7 ⟨rfl, hb7⟩; obtain ⟨hc7, hf7⟩ := bcell hb7; have hz7 : w.heap.size < w7.heap.size := (by have := hb7.size; (try simp at this); omega)) | (go_at_call 13; refine (awake_any _).mono ?_; rintro e w8 ⟨rfl, hb8⟩; obtain ⟨hc8, hf8⟩ := bcell hb8; have hz8 : w.heap.size < w8.heap.size := (by have := hb8.size; (try simp at this); omega)))
      go_ret
      exact ⟨rfl, hB3.trans ((sh_next (sh_next hb6 hb7) hb8).mono hB3.size)⟩
    · have f5 : decide (r.stint < n) = false := decide_eq_false hs
      have f6 := M4.out (by omega)
      have f7 : (t == n) = true := by rw [f6]; simp
      go_wp2_with (first | (go_at_call 11; refine (RU.out _).mono ?_; rintro e w6 ⟨rfl, hb6⟩; obtain ⟨hc6, hf6⟩ := bcell hb6; have hz6 : w.heap.size < w6.heap.size := (by have := hb6.size; (try simp at this); omega)) | (go_at_call 10; refine (T3.out _).mono ?_; rintro e w7 ⟨rfl, hb7⟩; obtain ⟨hc7, hf7⟩ := bcell hb7; have hz7 : w.heap.size < w7.heap.size := (by have := hb7.size; (try simp at this); omega)) | (go_at_call 13; refine (awake_any _).mono ?_; rintro e w8 ⟨rfl, hb8⟩; obtain ⟨hc8, hf8⟩ := bcell hb8; have hz8 : w.heap.size < w8.heap.size := (by have := hb8.size; (try simp at this); omega)))
      go_ret
      exact ⟨rfl, hB3.trans ((sh_next (sh_next hb6 hb7) hb8).mono hB3.size)⟩
end Go.Proofs.Ytapgmibkdlcljaa
