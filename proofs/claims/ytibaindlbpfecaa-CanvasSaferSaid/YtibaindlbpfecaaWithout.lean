import Derived.Test.YtibaindlbpfecaaDelete

namespace Go.Proofs.Ytibaindlbpfecaa
open Go.RowKit

/-- A head without one of its guys. -/
def Head.lose (h : Head) (k : Nat) : Head := ⟨h.area, h.bears, h.guys.take k ++ h.guys.drop (k + 1)⟩
theorem lose_len {h : Head} {k : Nat} (hk : k < h.guys.length) : (h.lose k).guys.length = h.guys.length - 1 := by
  simp only [Head.lose, List.length_append, List.length_take, List.length_drop]; omega
theorem lose_ok {h : Head} {k : Nat} (hh : h.ok = true) : (h.lose k).ok = true := by
  have h1 := Head.area_in hh
  have h2 := Head.bears_in hh
  have h3 := Head.guys_le hh
  have h4 := Head.guys_ok hh
  refine Head.ok_mk (inB_true.2 h1) (inB_true.2 h2) ?_ ?_
  · simp only [Head.lose, List.length_append, List.length_take, List.length_drop]; omega
  · rw [List.all_eq_true]
    intro g hg
    rcases List.mem_append.1 hg with hg | hg
    · exact h4 g (List.mem_of_mem_take hg)
    · exact h4 g (List.mem_of_mem_drop hg)
theorem delete_at (gs : List Guy) (k g cap : Nat) (hk : k < gs.length) (cur : Array Value) (w : World) (hb : Blk w g 45 cur) (hsz : cur.size = cap * 5) (hcap : gs.length ≤ cap) (hcm : cap ≤ maxLen) (hcur : cur.toList.take (gs.length * 5) = gs.flatMap encG) :
    Calls Try.prog 111 #[.slice (some ⟨g, 0, none⟩) gs.length cap, .int .i64 k, .int .i64 ((k : Int) + 1)] w fun e w' =>
      e = .returned (.slice (some ⟨g, 0, none⟩) (gs.length - 1) cap) ∧ RS encG 5 w' w'.heap.size (some ⟨g, 0, none⟩) (gs.take k ++ gs.drop (k + 1)) ∧ Below g w w' := by
  obtain ⟨x, hx⟩ := getElem?_lt hk
  have hgs : gs = gs.take k ++ x :: gs.drop (k + 1) := by
    rw [← drop_of_get hx]; exact (List.take_append_drop k gs).symm
  have h1 : (gs.take k).length = k := by rw [List.length_take]; omega
  have h2 : (gs.drop (k + 1)).length = gs.length - (k + 1) := by rw [List.length_drop]
  have hn : (gs.take k).length + 1 + (gs.drop (k + 1)).length = gs.length := by omega
  have := delete_any (gs.take k) (gs.drop (k + 1)) x g cap cur w hb hsz (by omega) hcm (by rw [hn, ← hgs]; exact hcur)
  rw [hn, h1] at this
  refine this.mono ?_
  rintro e w' ⟨rfl, g1, g2⟩
  exact ⟨by rw [h1, h2, show k + (gs.length - (k + 1)) = gs.length - 1 from by omega], g1, g2⟩

theorem own_form {w : World} {base e sz n : Nat} {v : Value} {xs : List Value} (h : w.ownsRow base e sz v n xs) (hn : 0 < n) : ∃ g cap cur, v = .slice (some ⟨g, 0, none⟩) n cap ∧ base ≤ g ∧ Blk w g e cur ∧ n ≤ cap ∧ cap ≤ maxLen ∧ cur.size = cap * sz ∧ cur.toList.take (n * sz) = xs := by
  rcases h.2 with ⟨_, h0⟩ | ⟨g, cap, cur, hv, hb, hg, h1, h2, h3, h4⟩
  · omega
  · exact ⟨g, cap, cur, hv, hb, hg, h1, h2, h3, h4⟩
def LosePost (h : Head) (k : Nat) (w : World) (e : Ending) (w' : World) : Prop :=
  ∃ A' c', e = .returned (.agg #[.int .i64 h.area, .int .i64 h.bears, .slice A' (h.lose k).guys.length c']) ∧ RS encG 5 w' w'.heap.size A' (h.lose k).guys ∧ Below w.heap.size w w'
set_option maxRecDepth 100000 in
set_option maxHeartbeats 1000000 in
theorem without_any (h : Head) (A2 : Option Addr) (c2 k : Nat) (hk : k < h.guys.length) (hl : h.guys.length ≤ 8) (w : World) (hg : RS encG 5 w w.heap.size A2 h.guys) :
    Calls Try.prog 78 #[.agg #[.int .i64 h.area, .int .i64 h.bears, .slice A2 h.guys.length c2], .int .i64 k] w (LosePost h k w) := by
  have hB := ((Below.refl w.heap.size w).alloc (Nat.le_refl _) (.cells #[.int .i64 h.area, .int .i64 h.bears, .slice A2 h.guys.length c2] 43)).alloc (by simp) (.cells #[.int .i64 0, .int .i64 0, .slice none 0 0] 43)
  have kH := (Blk.new w 43 #[.int .i64 h.area, .int .i64 h.bears, .slice A2 h.guys.length c2]).alloc (.cells #[.int .i64 0, .int .i64 0, .slice none 0 0] 43)
  have kR := Blk.new (w.alloc (.cells #[.int .i64 h.area, .int .i64 h.bears, .slice A2 h.guys.length c2] 43)) 43 #[.int .i64 0, .int .i64 0, .slice none 0 0]
  simp only [World.size_alloc] at kR
  obtain ⟨x, hx⟩ := getElem?_lt hk
  obtain ⟨b, off, rfl, hb, _⟩ := hg.at_ hx
  have hg1 := hg.to hB
  have n1 : IntKind.i64.wrap ((k : Int) + 1) = (k : Int) + 1 := IntWalk.i64_in _ (by omega)
  obtain ⟨gs, hgs⟩ : ∃ gs, h.guys = gs := ⟨_, rfl⟩
  have Hgs := Lib.hid hgs
  have Hk := Lib.hid hk
  rw [hgs] at hg1 hB kH kR hl ⊢
  have hpos : 0 < gs.length := by rw [← hgs]; omega
  have hz0 : w.heap.size < ((w.alloc (.cells #[.int .i64 h.area, .int .i64 h.bears, .slice (some ⟨b, off, none⟩) gs.length c2] 43)).alloc (.cells #[.int .i64 0, .int .i64 0, .slice none 0 0] 43)).heap.size := by simp <;> omega
  clear hg hx hgs hk
  go_enter Try.func78, Try.ntmps78
  go_wp2_with (first | (go_at_call 112; refine (clone_any b off c2 gs _ hg1 (by omega)).mono ?_; rintro e w1 ⟨v, rfl, hown, hb1⟩; obtain ⟨g, cap, cur, rfl, hbg, hheap, hnc, hcm, hcs, htake⟩ := own_form hown hpos; have kH1 := kH.below hb1 kH.lt; have kR1 := kR.below hb1 kR.lt) | (go_at_call 111; refine (delete_at gs k g cap (by have := Hk.out; rw [Hgs.out] at this; exact this) cur _ hheap hcs hnc hcm htake).mono ?_; rintro e w2 ⟨rfl, hrs, hb2⟩; have kH2 := kH1.below hb2 (by simp at hbg; omega); have kR2 := kR1.below hb2 (by simp at hbg; omega); have x0 := kH2.cell 0; have x1 := kH2.cell 1; have x2 := kH2.cell 2; have f0 := kH2.frozen 2; have xz := kH2.lt; have y0 := kR2.cell 0; have y1 := kR2.cell 1; have y2 := kR2.cell 2; have f1 := kR2.frozen 0; have f2 := kR2.frozen 1; have f3 := kR2.frozen 2; have yz := kR2.lt; simp at x0 x1 x2 y0 y1 y2))
  have bf := (((kR2.far (p := ⟨w.heap.size, 2, none⟩) (by dsimp only; omega) (.slice (some ⟨g, 0, none⟩) (gs.length - 1) cap)).set_ 0 (.int .i64 h.area)).set_ 1 (.int .i64 h.bears)).set_ 2 (.slice (some ⟨g, 0, none⟩) (gs.length - 1) cap)
  have v0 := bf.cell 0
  have v1 := bf.cell 1
  have v2 := bf.cell 2
  simp at v0 v1 v2
  simp at hbg
  refine bodyPost_ret (v := .agg #[.int .i64 h.area, .int .i64 h.bears, .slice (some ⟨g, 0, none⟩) (gs.length - 1) cap]) (by simp [results, Try.results78, go_sem, v0, v1, v2]) rfl ⟨some ⟨g, 0, none⟩, cap, ?_, ?_, ?_⟩
  · rw [lose_len Hk.out, Hgs.out]
  · unfold Head.lose
    rw [Hgs.out]
    refine RS.more (RS.far (RS.far (RS.far (RS.far hrs (p := ⟨w.heap.size, 2, none⟩) (fun ad e => by cases e; dsimp only; omega) _) (p := ⟨w.heap.size + 1, 0, none⟩) (fun ad e => by cases e; dsimp only; omega) _) (p := ⟨w.heap.size + 1, 1, none⟩) (fun ad e => by cases e; dsimp only; omega) _) (p := ⟨w.heap.size + 1, 2, none⟩) (fun ad e => by cases e; dsimp only; omega) _) (by simp)
  · have hBt := hB.trans ((hb1.trans (hb2.mono (by simp; omega))).mono hB.size)
    exact (((hBt.setCell (p := ⟨w.heap.size, 2, none⟩) (by dsimp only; omega) _).setCell (p := ⟨w.heap.size + 1, 0, none⟩) (by dsimp only; omega) _).setCell (p := ⟨w.heap.size + 1, 1, none⟩) (by dsimp only; omega) _).setCell (p := ⟨w.heap.size + 1, 2, none⟩) (by dsimp only; omega) _
end Go.Proofs.Ytibaindlbpfecaa
