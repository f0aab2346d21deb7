import Derived.Test.YtibaindlbpfecaaTentS
import Derived.Test.YtibaindlbpfecaaBroken
import Derived.Test.YtibaindlbpfecaaSaferM

/- The law CanvasSafer. -/
namespace Go.Proofs.Ytibaindlbpfecaa
open Go.RowKit

theorem head_in {l : List Tst} {wind : List Vec} {t : List Head} {i : Nat} {x : Head} (hs : standsB l t wind = true) (hi : t[i]? = some x) : headStands l wind x = true := by
  unfold standsB at hs
  rw [List.all_eq_true] at hs
  exact hs x (List.mem_of_getElem? hi)
theorem ok_parts {x : Head} (hx : x.ok = true) : (0 ≤ x.area ∧ x.area ≤ 1000) ∧ inB x.bears 0 10000000 = true ∧ x.guys.length ≤ 8 ∧ ∀ g ∈ x.guys, g.ok = true := by
  have h1 := Head.guys_le hx
  have h2 := Head.guys_ok hx
  simp [Head.ok, inB] at hx
  refine ⟨by omega, by simp [inB]; omega, h1, h2⟩
theorem area_ok {x : Head} {v : Int} (hx : x.ok = true) (h0 : 0 ≤ v) (h1 : v ≤ x.area) : ({ x with area := v } : Head).ok = true := by
  obtain ⟨⟨a1, a2⟩, a3, a4, a5⟩ := ok_parts hx
  exact Head.ok_mk (by simp [inB]; omega) a3 (by show ¬ 8 < x.guys.length; omega) (List.all_eq_true.2 a5)
theorem deep_ok {x : Head} {j : Nat} {g : Guy} {v : Int} (hx : x.ok = true) (hj : x.guys[j]? = some g) (h0 : g.depth ≤ v) (h1 : v ≤ 3000) : ({ x with guys := x.guys.set j { g with depth := v } } : Head).ok = true := by
  obtain ⟨⟨a1, a2⟩, a3, a4, a5⟩ := ok_parts hx
  refine Head.ok_mk (by simp [inB]; omega) a3 (by simp; omega) (List.all_eq_true.2 fun y hy => ?_)
  rcases List.mem_or_eq_of_mem_set hy with h2 | h2
  · exact a5 y h2
  · obtain ⟨g1, g2, g3, g4, g5, g6⟩ := Guy.ok_iff.1 (a5 g (List.mem_of_getElem? hj))
    rw [h2]
    exact Guy.ok_iff.2 ⟨g1, g2, g3, g4, g5, by show 1 ≤ v; omega, h1⟩
theorem more_ok {x : Head} {g : Guy} (hx : x.ok = true) (hg : g.ok = true) (h8 : x.guys.length < 8) : ({ x with guys := x.guys ++ [g] } : Head).ok = true := by
  obtain ⟨⟨a1, a2⟩, a3, a4, a5⟩ := ok_parts hx
  refine Head.ok_mk (by simp [inB]; omega) a3 (by simp; omega) (List.all_eq_true.2 fun y hy => ?_)
  rcases List.mem_append.1 hy with h2 | h2
  · exact a5 y h2
  · rw [List.mem_singleton.1 h2]
    exact hg
theorem OT.apart {w : World} {B g : Nat} {t : List Head} {cs : List (Option Addr × Nat)} (h : OT w B g t cs) {i : Nat} {x : Head} {A : Option Addr} {c : Nat} (hi : t[i]? = some x) (ha0 : cs[i]? = some (A, c)) : some g ≠ (Value.slice A x.guys.length c).ownBlock := by
  obtain ⟨o1, o2⟩ := h.rows i x _ hi ha0
  intro e
  cases hA : A with
  | none => rw [hA] at e; cases e
  | some ad =>
    rw [hA] at e
    have := rows_at o1 hA
    have h2 := (o2 _ this).1
    have := Option.some.inj e
    exact h2 this.symm
theorem RS.guy {w : World} {g' : Nat} {l : List Guy} (h : RS encG 5 w w.heap.size (some ⟨g', 0, none⟩) l) {j : Nat} {y : Guy} (hj : l[j]? = some y) : w.cell? ⟨g', j * 5 + 4, none⟩ = some (.int .i64 y.depth) := by
  obtain ⟨b, off, e, _, hc⟩ := h.at_ hj
  cases e
  simpa using hc 4 _ rfl

set_option maxRecDepth 100000 in
set_option maxHeartbeats 4000000 in
theorem safer_many (A : Option Addr) (c : Nat) (l : List Tst) (A' : Option Addr) (c' : Nat) (t : List Head) (A2 : Option Addr) (c2 : Nat) (wind : List Vec) (hd gy less deep : Int) (more : Guy) (w : World) (ht : RH w w.heap.size A' t) (hl : l.length ≤ maxLen) (htl : t.length ≤ maxLen) (hf : fewB l t = false) :
    Calls Try.prog 3 #[.slice A l.length c, .slice A' t.length c', .slice A2 wind.length c2, .int .u8 hd, .int .u8 gy, .int .u16 less, .int .u16 deep, .agg #[.int .i64 more.x, .int .i64 more.y, .int .i64 more.down, .int .i64 more.soil, .int .i64 more.depth]] w fun e w' => e = .returned (.bool true) ∧ Below w.heap.size w w' := by
  have Hv := Lib.hid (fun W h => hf ▸ Few_any A c l A' c' t W h hl htl)
  have B0 := Lib.hid ((Below.refl w.heap.size w).alloc (Nat.le_refl _) (.cells #[.int .i64 more.x, .int .i64 more.y, .int .i64 more.down, .int .i64 more.soil, .int .i64 more.depth] 28))
  clear hf hl htl
  go_enter Try.func3, Try.ntmps3
  go_wp2_with (first | (go_at_call 14; refine (Hv.out _ (ht.to B0.out)).mono ?_; rintro e w1 ⟨rfl, hb1⟩) | (go_at_call 20; refine (wakes_any _).mono ?_; rintro e w2 ⟨rfl, hb2⟩; obtain ⟨hc2, hf2⟩ := bcell hb2))
  go_ret
  exact ⟨rfl, sh_next B0.out (sh_next hb1 hb2)⟩

set_option maxRecDepth 100000 in
set_option maxHeartbeats 4000000 in
theorem safer_long (A : Option Addr) (c : Nat) (l : List Tst) (A' : Option Addr) (c' : Nat) (t : List Head) (A2 : Option Addr) (c2 : Nat) (wind : List Vec) (hd gy less deep : Int) (more : Guy) (w : World) (ht : RH w w.heap.size A' t) (hl : l.length ≤ maxLen) (htl : t.length ≤ maxLen) (hf : fewB l t = true) (h12 : 12 < wind.length) :
    Calls Try.prog 3 #[.slice A l.length c, .slice A' t.length c', .slice A2 wind.length c2, .int .u8 hd, .int .u8 gy, .int .u16 less, .int .u16 deep, .agg #[.int .i64 more.x, .int .i64 more.y, .int .i64 more.down, .int .i64 more.soil, .int .i64 more.depth]] w fun e w' => e = .returned (.bool true) ∧ Below w.heap.size w w' := by
  have Hv := Lib.hid (fun W h => hf ▸ Few_any A c l A' c' t W h hl htl)
  have B0 := Lib.hid ((Below.refl w.heap.size w).alloc (Nat.le_refl _) (.cells #[.int .i64 more.x, .int .i64 more.y, .int .i64 more.down, .int .i64 more.soil, .int .i64 more.depth] 28))
  clear hf hl htl
  go_enter Try.func3, Try.ntmps3
  go_wp2_with (first | (go_at_call 14; refine (Hv.out _ (ht.to B0.out)).mono ?_; rintro e w1 ⟨rfl, hb1⟩) | (go_at_call 20; refine (wakes_any _).mono ?_; rintro e w2 ⟨rfl, hb2⟩; obtain ⟨hc2, hf2⟩ := bcell hb2))
  go_ret
  exact ⟨rfl, sh_next B0.out (sh_next hb1 hb2)⟩

set_option maxRecDepth 100000 in
set_option maxHeartbeats 4000000 in
theorem safer_blown (A : Option Addr) (c : Nat) (l : List Tst) (A' : Option Addr) (c' : Nat) (t : List Head) (A2 : Option Addr) (c2 : Nat) (wind : List Vec) (hd gy less deep : Int) (more : Guy) (w : World) (hr : RS encT 4 w w.heap.size A l) (ht : RH w w.heap.size A' t) (hw : RS encV 2 w w.heap.size A2 wind) (hl : l.length ≤ maxLen) (htl : t.length ≤ maxLen) (hf : fewB l t = true) (h12 : wind.length ≤ 12) (hE : windyE l t wind ≠ 0) :
    Calls Try.prog 3 #[.slice A l.length c, .slice A' t.length c', .slice A2 wind.length c2, .int .u8 hd, .int .u8 gy, .int .u16 less, .int .u16 deep, .agg #[.int .i64 more.x, .int .i64 more.y, .int .i64 more.down, .int .i64 more.soil, .int .i64 more.depth]] w fun e w' => e = .returned (.bool true) ∧ Below w.heap.size w w' := by
  have Hv := Lib.hid (fun W h => hf ▸ Few_any A c l A' c' t W h hl htl)
  have B0 := Lib.hid ((Below.refl w.heap.size w).alloc (Nat.le_refl _) (.cells #[.int .i64 more.x, .int .i64 more.y, .int .i64 more.down, .int .i64 more.soil, .int .i64 more.depth] 28))
  obtain ⟨z, hz⟩ : ∃ z, windyE l t wind = z := ⟨_, rfl⟩
  have Hb := Lib.hid (fun W hr ht hw => hz ▸ blown_any A c l A' c' t A2 c2 wind W hr hl ht htl hw (by show _ ≤ _; unfold maxLen; omega))
  rw [hz] at hE
  have e0 : (z != 0) = true := by simpa using hE
  clear hf hl htl hz hE
  go_enter Try.func3, Try.ntmps3
  go_wp2_with (first | (go_at_call 14; refine (Hv.out _ (ht.to B0.out)).mono ?_; rintro e w1 ⟨rfl, hb1⟩) | (go_at_call 15; refine (Hb.out _ ((hr.to B0.out).to hb1) ((ht.to B0.out).to hb1) ((hw.to B0.out).to hb1)).mono ?_; rintro e w2 ⟨rfl, hb2⟩) | (go_at_call 20; refine (wakes_any _).mono ?_; rintro e w3 ⟨rfl, hb3⟩; obtain ⟨hc3, hf3⟩ := bcell hb3))
  go_ret
  exact ⟨rfl, sh_next B0.out ((sh_next hb1 hb2).trans (hb3.mono (sh_next hb1 hb2).size))⟩

set_option maxRecDepth 100000 in
set_option maxHeartbeats 4000000 in
theorem safer_falls (A : Option Addr) (c : Nat) (l : List Tst) (A' : Option Addr) (c' : Nat) (t : List Head) (A2 : Option Addr) (c2 : Nat) (wind : List Vec) (hd gy less deep : Int) (more : Guy) (w : World) (hr : RS encT 4 w w.heap.size A l) (ht : RH w w.heap.size A' t) (hw : RS encV 2 w w.heap.size A2 wind) (hf : fewB l t = true) (h12 : wind.length ≤ 12) (hE : windyE l t wind = 0) (hs : standsB l t wind = false) :
    Calls Try.prog 3 #[.slice A l.length c, .slice A' t.length c', .slice A2 wind.length c2, .int .u8 hd, .int .u8 gy, .int .u16 less, .int .u16 deep, .agg #[.int .i64 more.x, .int .i64 more.y, .int .i64 more.down, .int .i64 more.soil, .int .i64 more.depth]] w fun e w' => e = .returned (.bool true) ∧ Below w.heap.size w w' := by
  obtain ⟨hg10, hl45, ht15⟩ := fewB_iff.1 hf
  have hlm : l.length ≤ maxLen := by show _ ≤ _; unfold maxLen; omega
  have htm : t.length ≤ maxLen := by show _ ≤ _; unfold maxLen; omega
  have hwm : wind.length ≤ maxLen := by show _ ≤ _; unfold maxLen; omega
  have HFew := Lib.hid (fun W h => hf ▸ Few_any A c l A' c' t W h hlm htm)
  have HBl := Lib.hid (fun W hr ht hw => hE ▸ blown_any A c l A' c' t A2 c2 wind W hr hlm ht htm hw hwm)
  have HTent := Lib.hid (fun W h => Tent_any A' c' t W h (by omega) (fun x hx => by have := hg10 x hx; omega))
  have HTests := Lib.hid (fun W h => Tests_any A c l W h (by omega))
  have HWind := Lib.hid (fun W h => Wind_any A2 c2 wind W h (by omega))
  have HSt := Lib.hid (fun W B b1 B' b2 B2 b3 hr ht hw => stands_ok B b1 l B' b2 t B2 b3 wind hs W hr hlm ht htm hw hwm hE)
  have B0 := Lib.hid ((Below.refl w.heap.size w).alloc (Nat.le_refl _) (.cells #[.int .i64 more.x, .int .i64 more.y, .int .i64 more.down, .int .i64 more.soil, .int .i64 more.depth] 28))
  have hr0 := hr.to B0.out
  have ht0 := ht.to B0.out
  have hw0 := hw.to B0.out
  clear hf hE hg10 hs hr ht hw
  go_enter Try.func3, Try.ntmps3
  go_wp2_with (first | (go_at_call 14; refine (HFew.out _ ht0).mono ?_; rintro e w1 ⟨rfl, hb1⟩) | (go_at_call 15; refine (HBl.out _ (hr0.to hb1) (ht0.to hb1) (hw0.to hb1)).mono ?_; rintro e w2 ⟨rfl, hb2⟩; have a2 := sh_next hb1 hb2; have hr2 := hr0.to a2; have ht2 := ht0.to a2; have hw2 := hw0.to a2) | (go_at_call 17; refine (HTests.out _ hr2).mono ?_; rintro e w3 ⟨A3, c3, rfl, hs3, _, _, hb3⟩) | (go_at_call 18; refine (HTent.out _ (ht2.to hb3)).mono ?_; rintro e w4 ⟨A4, c4, rfl, hs4, _, _, hb4⟩; have a4 := sh_next hb3 hb4) | (go_at_call 19; refine (HWind.out _ (hw2.to a4)).mono ?_; rintro e w5 ⟨A5, c5, rfl, hs5, _, _, hb5⟩; have a5 := a4.trans (hb5.mono a4.size)) | (go_at_call 16; refine (HSt.out _ A3 c3 A4 c4 A5 c5 ((hs3.to hb4).to hb5) (hs4.to hb5) hs5).mono ?_; rintro e w6 ⟨rfl, hb6⟩; have a6 := a5.trans (hb6.mono a5.size)) | (go_at_call 20; refine (wakes_any _).mono ?_; rintro e w7 ⟨rfl, hb7⟩; obtain ⟨hc7, hf7⟩ := bcell hb7))
  go_ret
  have x2 := a2.trans (a6.mono a2.size)
  exact ⟨rfl, sh_next B0.out (x2.trans (hb7.mono x2.size))⟩
end Go.Proofs.Ytibaindlbpfecaa
