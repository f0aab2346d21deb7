import Derived.Test.YthelogdgfhfdcaaCan8
import Derived.Test.YthelogdgfhfdcaaCan10
namespace Go.Proofs.Ythelogdgfhfdcaa
open Go.RowKit
theorem only_drewN {a w : World} {row : Option Nat} (h : a.grownBy w row) (n : Nat) : a.grownBy (w.drewN n) row := ⟨h.os, h.tape, h.output, h.size, h.block⟩
theorem only_drew {a w : World} {row : Option Nat} (h : a.grownBy w row) : a.grownBy w.drew row := ⟨h.os, h.tape, h.output, h.size, h.block⟩
theorem only_alloc {a w : World} {row : Option Nat} (h : a.grownBy w row) (o : Obj) : a.grownBy (w.alloc o) row :=
  ⟨h.os, h.tape, h.output, Nat.le_trans h.size (by simp), fun i hi hne => (Below.heap_alloc w o i (Nat.lt_of_lt_of_le hi h.size)).trans (h.block i hi hne)⟩
theorem only_setCell {a w : World} {g : Nat} (h : a.grownBy w (some g)) {p : Addr} (hp : p.block = g ∨ a.heap.size ≤ p.block) (u : Value) : a.grownBy (w.setCell p u) (some g) :=
  ⟨h.os, h.tape, h.output, by simpa [World.setCell] using h.size, fun i hi hne => (Below.heap_setCell w p u i (by
    rintro rfl
    rcases hp with hp | hp
    · exact hne (by rw [hp])
    · omega)).trans (h.block i hi hne)⟩
theorem only_below {a w w' : World} {row : Option Nat} (h : a.grownBy w row) (hb : Below w.heap.size w w') : a.grownBy w' row :=
  ⟨hb.os.trans h.os, hb.tape.trans h.tape, hb.output.trans h.output, Nat.le_trans h.size hb.size, fun i hi hne => (hb.block i (Nat.lt_of_lt_of_le hi h.size)).trans (h.block i hi hne)⟩
theorem only_append {a w w' : World} {g : Nat} {v : Value} {e sz n : Nat} {xs : List Value} (h : a.grownBy w (some g)) (hown : w.ownsRow a.heap.size e sz v n xs) (hg : w.grownBy w' v.ownBlock) : a.grownBy w' (some g) :=
  ⟨hg.os.trans h.os, hg.tape.trans h.tape, hg.output.trans h.output, Nat.le_trans h.size hg.size, fun i hi hne =>
    (hg.block i (Nat.lt_of_lt_of_le hi h.size) (fun e => by have := (hown.lt i e.symm).1; omega)).trans (h.block i hi hne)⟩
theorem below_of_only {B g : Nat} {a0 a w : World} (hb : Below B a0 a) (h : a.grownBy w (some g)) (hg : B ≤ g) (hB : B ≤ a.heap.size) : Below B a0 w :=
  ⟨h.os.trans hb.os, h.tape.trans hb.tape, h.output.trans hb.output, Nat.le_trans hb.size h.size, fun k hk => (h.block k (by omega) (by simp <;> omega)).trans (hb.block k hk)⟩
theorem RS.only {α : Type} {enc : α → List Value} {sz : Nat} {w w' : World} {B g : Nat} {A : Option Addr} {l : List α} (h : RS enc sz w B A l) (hg : w.grownBy w' (some g)) (hB : B ≤ w.heap.size) (hne : ∀ ad, A = some ad → ad.block ≠ g) : RS enc sz w' B A l := by
  rcases h with rfl | ⟨b, off, rfl, hlt, hc⟩
  · exact .inl rfl
  · have := hne _ rfl
    exact .inr ⟨b, off, rfl, hlt, fun k x hk j v hv => (World.cell?_of_block (hg.block b (by omega) (by simpa using this))).trans (hc k x hk j v hv)⟩
theorem own_fresh {w : World} {B e sz n c : Nat} {A : Option Addr} {xs : List Value} (h : w.ownsRow B e sz (.slice A n c) n xs) : ∀ ad, A = some ad → B ≤ ad.block := by
  rintro ad rfl
  exact (h.lt ad.block rfl).1

theorem app_belowL {B B' e sz n : Nat} {a w w1 : World} {v : Value} {xs : List Value} (h : Below B' a w) (hle : B' ≤ B) (hB : B' ≤ w.heap.size) (hown : w.ownsRow B e sz v n xs) (hg : w.grownBy w1 v.ownBlock) : Below B' a w1 :=
  h.grown hg hB (fun k hk => Nat.le_trans hle (hown.lt k hk).1)
theorem totalG_any (A : Option Addr) (c : Nat) (l : List Guy) (w : World) (hr : RS encG 5 w w.heap.size A l) (hl : l.length ≤ 100) (hd : ∀ g ∈ l, 0 ≤ g.down ∧ g.down ≤ 5000) :
    Calls Try.prog 92 #[.slice A l.length c, .func (.func 93) #[] #[]] w fun e w' => e = .returned (.int .i64 (l.foldl (fun n g => n + g.down) 0)) ∧ Below w.heap.size w w' := by
  have Hd := Lib.hid hd
  clear hd
  go_enter Try.func92, Try.ntmps92
  go_wp2
  go_loopw [5, 10] (fun n i wr => ∃ (k : Nat) (m : Int), k ≤ l.length ∧ i = .int .i64 k ∧ n = .int .i64 m ∧ (l.take k).foldl (fun n g => n + g.down) 0 = m ∧ 0 ≤ m ∧ m ≤ 5000 * k ∧ Below w.heap.size w wr) (fun _ i _ => l.length - (intOf i).toNat)
  case atStart => exact ⟨0, 0, Nat.zero_le _, rfl, rfl, rfl, by omega, by omega, Below.refl _ _⟩
  case round =>
    obtain ⟨k, m, hk, rfl, rfl, hfold, hm1, hm2, hB⟩ := hrel
    have Hfold := Lib.hid hfold
    clear hfold
    have hbz := hB.size
    by_cases hlt : k < l.length
    · obtain ⟨x, hx⟩ := getElem?_lt hlt
      obtain ⟨d1, d2⟩ := Hd.out x (List.mem_of_getElem? hx)
      obtain ⟨b, off, rfl, hb, hc⟩ := (hr.below hB (Nat.le_refl _)).at_ hx
      obtain ⟨c0, c1, c2, c3, c4⟩ := five_cells hc
      have Hx := Lib.hid hx
      clear hx hc hr
      go_wp2_with ((go_at_call 93; refine (presses_any x _).mono ?_; rintro e w1 ⟨rfl, hb1⟩; obtain ⟨hc1, hf1⟩ := bcell hb1))
      refine ⟨⟨k + 1, m + x.down, by omega, by go_num, rfl, by rw [foldl_snoc Hx.out, Hfold.out], by omega, by omega, (hB.alloc hbz _).trans (hb1.mono (by simp <;> omega))⟩, by simp [intOf]; omega⟩
    · go_wp2
      go_ret
      exact ⟨ret_int (by rw [← Hfold.out, foldl_end hlt]), hB⟩

theorem down_any (h : Head) (A : Option Addr) (c : Nat) (w : World) (hr : RS encG 5 w w.heap.size A h.guys) (hh : h.ok = true) :
    Calls Try.prog 68 #[.agg #[.int .i64 h.area, .int .i64 h.bears, .slice A h.guys.length c]] w fun e w' => e = .returned (.int .i64 (downM h)) ∧ Below w.heap.size w w' := by
  have hd := Lib.hid (fun g hg => (Guy.ok_iff.1 (Head.guys_ok hh g hg)).2.2.2.1)
  have hl := Head.guys_le hh
  have hr1 := hr.to ((Below.refl _ w).alloc (Nat.le_refl _) (.cells #[.int .i64 h.area, .int .i64 h.bears, .slice A h.guys.length c] 115))
  clear hr hh
  go_enter Try.func68, Try.ntmps68
  go_wp2_with ((go_at_call 92; refine (totalG_any A c h.guys _ hr1 (by omega) hd.out).mono ?_; rintro e w1 ⟨rfl, hb1⟩; obtain ⟨hc1, hf1⟩ := bcell hb1; have hz1 : w.heap.size < w1.heap.size := (by have := hb1.size; (try simp at this); omega)))
  go_ret
  exact ⟨rfl, ((Below.refl _ _).alloc (Nat.le_refl _) _).trans (hb1.mono (by simp))⟩

theorem infoI : (Try.prog.info? 3).map (fun i => (i.zero, i.size, i.bytes)) = some (some (.int .i64 0), 1, 8) := by kernel_rfl
theorem infoCV : (Try.prog.info? 74).map (fun i => (i.zero, i.size, i.bytes)) = some (some (.agg #[.int .i64 0, .int .i64 0]), 2, 16) := by kernel_rfl

/-- The parts of a head's guys. -/
def partsM (l : List Tst) (h : Head) : List Int := h.guys.map (Guy.part l)
theorem partsM_length {l : List Tst} {h : Head} : (partsM l h).length = h.guys.length := by simp [partsM]
def PartsPost (l : List Tst) (h : Head) (w : World) (e : Ending) (w' : World) : Prop :=
  ∃ A1 c1, e = .returned (.slice A1 h.guys.length c1) ∧ RS encI 1 w' w'.heap.size A1 (partsM l h) ∧ (∀ ad, A1 = some ad → w.heap.size ≤ ad.block) ∧ h.guys.length ≤ c1 ∧ c1 ≤ maxLen ∧ Below w.heap.size w w'
set_option maxRecDepth 100000 in
set_option maxHeartbeats 600000 in
theorem partsOf_any (A : Option Addr) (c : Nat) (l : List Tst) (A' : Option Addr) (c' : Nat) (h : Head) (w : World) (hr : RS encT 4 w w.heap.size A l) (hl : l.length ≤ maxLen) (hok : ∀ x ∈ l, x.ok = true) (hh : h.ok = true) (hg : RS encG 5 w w.heap.size A' h.guys) :
    Calls Try.prog 70 #[.slice A l.length c, .agg #[.int .i64 h.area, .int .i64 h.bears, .slice A' h.guys.length c']] w (PartsPost l h w) := by
  obtain ⟨i0, hi0, hz0, hz1, hz2⟩ := info_parts infoI
  have hgl := Head.guys_le hh
  have Hgs := Lib.hid (Head.guys_ok hh)
  have Hok := Lib.hid hok
  clear hh hok
  go_enter Try.func70, Try.ntmps70
  go_wp2
  go_loopw [5, 11] (fun v i wr => ∃ k : Nat, k ≤ h.guys.length ∧ i = .int .i64 k ∧ wr.ownsRow (w.heap.size + 1) 3 1 v k (((partsM l h).take k).flatMap encI) ∧ Below w.heap.size w wr ∧ w.heap.size < wr.heap.size) (fun _ i _ => h.guys.length - (intOf i).toNat)
  case atStart => exact ⟨0, Nat.zero_le _, rfl, World.ownsRow_nil _ _ _ _, (Below.refl _ _).alloc (Nat.le_refl _) _, by simp⟩
  case round =>
    obtain ⟨k, hk, rfl, hown, hB, hBz⟩ := hrel
    by_cases hlt : k < h.guys.length
    · obtain ⟨g, hgk⟩ := getElem?_lt hlt
      have gok := Lib.hid (Hgs.out g (List.mem_of_getElem? hgk))
      obtain ⟨b, off, rfl, hb, hc⟩ := (hg.below hB (Nat.le_refl _)).at_ hgk
      obtain ⟨c0, c1, c2, c3, c4⟩ := five_cells hc
      have hrr := ((hr.below hB (Nat.le_refl _)).more hB.size).to ((Below.refl _ wr).alloc (Nat.le_refl _) (.cells #[.int .i64 g.x, .int .i64 g.y, .int .i64 g.down, .int .i64 g.soil, .int .i64 g.depth] 117))
      have HF : Hid ((partsM l h)[k]? = some (g.part l)) := by
        show (h.guys.map (Guy.part l))[k]? = _
        rw [List.getElem?_map, hgk]; rfl
      clear hgk hc hg hr
      go_wp2_with fail
      refine (part_any _ _ _ _ g hrr hl Hok.out gok.out).mono ?_
      rintro e w1 ⟨rfl, hb1⟩
      have hown1 := own_below (hown.alloc _) hb1
      have hBw := (hB.alloc (by omega) (.cells #[.int .i64 g.x, .int .i64 g.y, .int .i64 g.down, .int .i64 g.soil, .int .i64 g.depth] 117)).trans (hb1.mono (by simp <;> omega))
      have hy1 := hb1.size
      go_wp2_with (at_builtin; refine wpList_append_own _ rfl _ _ 48 rfl (w.heap.size + 1) 3 i0 (.int .i64 0) 1 8 Try.underlying48 hi0 hz0 hz1 hz2 rfl (by decide) _ _ _ rfl (hown1.alloc _) ⟨w1.heap.size, 0, none⟩ 1 1 [.int .i64 (g.part l)] rfl rfl ?c1 ?c2 ?c3 ?c4 ?c5 ?_)
      case c1 => exact cell_one_new _ _ _
      case c2 => simp [Value.oneCell']
      case c3 => unfold maxLen; omega
      case c4 => omega
      case c5 => simp at hy1 ⊢; omega
      intro v2 w2 hown2 hgrow2 _
      have hB2 := app_belowL (hBw.alloc (by simp at hy1; omega) (.cells #[.int .i64 (g.part l)] 3)) (Nat.le_succ _) (by simp at hy1 ⊢; omega) (hown1.alloc _) hgrow2
      have hy2 := hgrow2.size
      rw [World.size_alloc] at hy2 hy1
      go_wp2
      refine ⟨⟨k + 1, by omega, by go_num, ?_, hB2, by omega⟩, by simp [intOf]; omega⟩
      rw [flat_snoc HF.out]
      exact hown2
    · go_wp2
      obtain ⟨A1, c1, rfl, hc1, hc2⟩ := own_slice hown
      obtain rfl : k = h.guys.length := by omega
      go_ret
      rw [List.take_of_length_le (by rw [partsM_length]; omega)] at hown
      exact ⟨A1, c1, rfl, RS.of_own (enc := encI) (sz := 1) (fun _ => rfl) hown partsM_length.symm, fun ad ha => by have := own_fresh hown ad ha; omega, hc1, hc2, hB⟩
end Go.Proofs.Ythelogdgfhfdcaa
