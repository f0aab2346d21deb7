import Derived.Test.YtibaindlbpfecaaRefA
import Derived.Test.YtibaindlbpfecaaBase

namespace Go.Proofs.Ytibaindlbpfecaa
open Go.RowKit

theorem infoV : (Try.prog.info? 49).map (fun i => (i.zero, i.size, i.bytes)) = some (some (.agg #[.int .i64 0, .int .i64 0]), 2, 16) := by kernel_rfl

theorem refForces_any (A : Option Addr) (c : Nat) (l : List Tst) (A' : Option Addr) (c' : Nat) (h : Head) (w : World) (hr : RS encT 4 w w.heap.size A l) (hl : l.length ≤ maxLen) (hok : ∀ x ∈ l, x.ok = true) (hh : h.ok = true) (hg : RS encG 5 w w.heap.size A' h.guys) :
    Calls Try.prog 27 #[.slice A l.length c, .agg #[.int .i64 h.area, .int .i64 h.bears, .slice A' h.guys.length c']] w fun e w' => ∃ A1 c1, e = .returned (.slice A1 h.guys.length c1) ∧ RS encV 2 w' w'.heap.size A1 (forcesM l h) ∧ Below w.heap.size w w' := by
  obtain ⟨i0, hi0, hz0, hz1, hz2⟩ := info_parts infoV
  have hgl := Head.guys_le hh
  have Hgs := Lib.hid (Head.guys_ok hh)
  have Hok := Lib.hid hok
  clear hh hok
  go_enter Try.func27, Try.ntmps27
  go_wp2
  go_loopw [5, 6] (fun v i wr => ∃ k : Nat, k ≤ h.guys.length ∧ i = .int .i64 k ∧ wr.ownsRow (w.heap.size + 1) 49 2 v k (((forcesM l h).take k).flatMap encV) ∧ Below (w.heap.size + 1) (w.alloc (.cells #[.int .i64 h.area, .int .i64 h.bears, .slice A' h.guys.length c'] 64)) wr) (fun _ i _ => h.guys.length - (intOf i).toNat)
  case atStart => exact ⟨0, Nat.zero_le _, rfl, World.ownsRow_nil _ _ _ _, Below.refl _ _⟩
  case round =>
    obtain ⟨k, hk, rfl, hown, hB⟩ := hrel
    have hB0 : Below w.heap.size w wr := ((Below.refl w.heap.size w).alloc (Nat.le_refl _) _).trans (hB.mono (by omega))
    have hK := (Blk.new w 64 #[.int .i64 h.area, .int .i64 h.bears, .slice A' h.guys.length c']).below hB (by omega)
    have k2 := hK.cell 2
    have kz := hK.lt
    simp at k2
    by_cases hlt : k < h.guys.length
    · obtain ⟨g, hgk⟩ := getElem?_lt hlt
      have gok := Hgs.out g (List.mem_of_getElem? hgk)
      have gb := force_vb Hok.out gok
      obtain ⟨b, off, rfl, hb, hc⟩ := (hg.below hB0 (Nat.le_refl _)).at_ hgk
      have c0 := hc 0 _ rfl
      have c1 := hc 1 _ rfl
      have c2 := hc 2 _ rfl
      have c3 := hc 3 _ rfl
      have c4 := hc 4 _ rfl
      simp only [Nat.add_zero] at c0
      have hrr := (hr.below hB0 (Nat.le_refl _)).more hB0.size
      have Hgk := Lib.hid hgk
      have HF : Hid ((forcesM l h)[k]? = some (g.force l)) := by
        show (h.guys.map (Guy.force l))[k]? = _
        rw [List.getElem?_map, hgk]; rfl
      clear hgk hc hg hr
      go_wp2_with (go_at_call 56; refine (refPart_any _ _ _ _ _ hrr hl Hok.out gok).mono ?_; rintro e w1 ⟨rfl, hb1⟩; obtain ⟨hc1, hf1⟩ := bcell hb1)
      have gb1 := gb.1
      have gb2 := gb.2
      simp only [Guy.force] at gb1 gb2
      have n1 : IntKind.i64.wrap (g.part l * g.x) = g.part l * g.x := IntWalk.i64_in _ (by omega)
      have n2 : IntKind.i64.wrap (g.part l * g.y) = g.part l * g.y := IntWalk.i64_in _ (by omega)
      have hown1 := own_below hown hb1
      have hB1 := hB.trans (hb1.mono kz)
      have hz1' : w.heap.size + 1 ≤ w1.heap.size := by have := hb1.size; omega
      have hbw : b < w.heap.size + 1 := by omega
      have hbr : b < wr.heap.size := by omega
      refine name_world (motive := fun W => Code.wp _ _ _ _ W) _ ?_
      intro W0 hW
      have hWc := hW.cell
      have hBW : w.heap.size + 1 ≤ W0.heap.size := by rw [hW.size]; exact hz1'
      have hownW : W0.ownsRow (w.heap.size + 1) 49 2 u5 k (((forcesM l h).take k).flatMap encV) := by rw [hW.eq.out]; exact hown1
      have hkl : k < 8 := by omega
      go_region_held3 (fun w' => (∀ b o, b < w.heap.size + 1 → w'.cell? ⟨b, o, none⟩ = W0.cell? ⟨b, o, none⟩) ∧ Below (w.heap.size + 1) W0 w') (first | exact shB_refl _ _ | exact shB_of (by assumption) | exact shB_first _ hBW _ | exact shB_alloc (by assumption) hBW _)
        (first | ((refine step_append_lies _ (by rfl) _ _ _ (by rfl) (w.heap.size + 1) 49 i0 _ 2 16 Try.underlying25 hi0 hz0 hz1 hz2 rfl (by omega) u5 k _ (by rfl) ((hownW).alloc _).drew ⟨W0.heap.size, 0, none⟩ 1 1 [.int .i64 (g.part l * g.x), .int .i64 (g.part l * g.y)] (by rfl) (by rfl) (World.news_of_block (cs := #[.int .i64 (g.part l * g.x), .int .i64 (g.part l * g.y)]) (t := 49) (fr := (0, 0)) (heap_alloc_new W0 _)) (by simp [Value.oneCell']) (by omega) (by unfold maxLen; omega) (by omega) (by simp; omega) (W0.heap.size + 1) (by simp) ?_); intro gg cap w2 hown2 hgrow2 hat hlt2; have hB2 : Below (w.heap.size + 1) W0 w2 := app_below (((Below.refl _ W0).alloc hBW _).drew) (by simp; omega) ((hownW).alloc _).drew hgrow2))
      go_wp2
      refine ⟨⟨k + 1, by omega, by go_num, ?_, (hW.below hB1).trans hB2⟩, by simp [intOf]; omega⟩
      rw [flat_snoc HF.out]
      exact hown2
    · go_wp2
      obtain ⟨A1, c1, rfl, _⟩ := own_slice hown
      obtain rfl : k = h.guys.length := by omega
      go_ret
      rw [List.take_of_length_le (by rw [forcesM_length]; omega)] at hown
      exact ⟨A1, c1, rfl, RS.of_own (enc := encV) (sz := 2) (fun _ => rfl) hown forcesM_length.symm, hB0⟩
end Go.Proofs.Ytibaindlbpfecaa

namespace Go.Proofs.Ytibaindlbpfecaa
open Go.RowKit

def addWays (ws : List Vec) (v : Vec) : List Vec := ws ++ [v, v.times (-1), ⟨-v.y, v.x⟩, ⟨v.y, -v.x⟩]
def ways0 : List Vec := [⟨1, 0⟩, ⟨0, 1⟩, ⟨-1, 0⟩, ⟨0, -1⟩]
theorem refWays_eq (f : List Vec) : refWays f = f.foldl addWays ways0 := rfl
theorem addWays_len (f ws : List Vec) : (f.foldl addWays ws).length = ws.length + 4 * f.length := by
  induction f generalizing ws with
  | nil => simp
  | cons a f ih => rw [List.foldl_cons, ih]; simp [addWays]; omega
theorem refWays_len (f : List Vec) : (refWays f).length = 4 + 4 * f.length := by rw [refWays_eq, addWays_len]; rfl
theorem all_find {α : Type} {p : α → Bool} {l : List α} {k : Nat} {x : α} (h : l[k]? = some x) (hx : p x = false) : l.all p = false := all_bad h hx
theorem shc_alloc {B : Nat} {W0 w1 : World} (h : Below B W0 w1) (hB : B ≤ W0.heap.size) (o : Obj) : Below B W0 (w1.alloc o) := h.alloc (Nat.le_trans hB h.size) o

set_option maxRecDepth 100000 in
set_option maxHeartbeats 1000000 in
theorem refBalances_any (A : Option Addr) (c : Nat) (f : List Vec) (push : Vec) (w : World) (hr : RS encV 2 w w.heap.size A f) (hl : f.length ≤ 100) (hf : ∀ v ∈ f, VB v 500000) (hp : VB push 1000000000000) :
    Calls Try.prog 58 #[.slice A f.length c, .agg #[.int .i64 push.x, .int .i64 push.y]] w fun e w' => e = .returned (.bool (balancesB f push)) ∧ Below w.heap.size w w' := by
  obtain ⟨i0, hi0, hz0, hz1, hz2⟩ := info_parts infoV
  have Hf := Lib.hid hf
  have Hp := Lib.hid hp
  clear hf hp
  go_enter Try.func58, Try.ntmps58
  go_wp2
  go_loopw [5, 6] (fun v i wr => ∃ k : Nat, k ≤ f.length ∧ i = .int .i64 k ∧ wr.ownsRow (w.heap.size + 1) 49 2 v (4 + 4 * k) (((f.take k).foldl addWays ways0).flatMap encV) ∧ Below (w.heap.size + 1) (w.alloc (.cells #[.int .i64 push.x, .int .i64 push.y] 49)) wr ∧ w.heap.size < wr.heap.size) (fun _ i _ => f.length - (intOf i).toNat)
  case atStart =>
    refine ⟨0, Nat.zero_le _, rfl, ⟨by simp [ways0, encV], .inr ⟨w.heap.size + 1, 4, _, rfl, Nat.le_refl _, by simpa using heap_alloc_new (w.alloc (.cells #[.int .i64 push.x, .int .i64 push.y] 49)) _, by omega, by unfold maxLen; omega, rfl, rfl⟩⟩, (Below.refl _ _).alloc (by simp) _, by simp; omega⟩
  case round =>
    obtain ⟨k, hk, rfl, hown, hB, hBz⟩ := hrel
    have hB0 : Below w.heap.size w wr := ((Below.refl w.heap.size w).alloc (Nat.le_refl _) _).trans (hB.mono (by omega))
    by_cases hlt : k < f.length
    · obtain ⟨v, hv⟩ := getElem?_lt hlt
      have vb := Hf.out v (List.mem_of_getElem? hv)
      have n1 : IntKind.i64.wrap (-v.x) = -v.x := IntWalk.i64_in _ (by have := vb.1; omega)
      have n2 : IntKind.i64.wrap (-v.y) = -v.y := IntWalk.i64_in _ (by have := vb.2; omega)
      have s1 : Sm (-1 * v.x) := by have := vb.1; unfold Sm; omega
      have s2 : Sm (-1 * v.y) := by have := vb.2; unfold Sm; omega
      obtain ⟨b, off, rfl, hb, hc⟩ := (hr.below hB0 (Nat.le_refl _)).at_ hv
      have c0 := hc 0 _ rfl
      have c1 := hc 1 _ rfl
      simp only [Nat.add_zero] at c0
      have Hv := Lib.hid hv
      have hne : ∀ j, u5.ownBlock = some j → j < wr.heap.size := fun j hj => (hown.lt j hj).2
      clear hv hc hr
      go_wp2
      refine name_world (motive := fun W => Code.wp _ _ _ _ W) _ ?_
      intro W0 hW
      have hWc := hW.cell
      have hWz := hW.size
      have hWb := hW.below (hB.alloc (by omega) (.cells #[.int .i64 v.x, .int .i64 v.y] 49))
      rw [World.size_alloc] at hWz
      have hBW : w.heap.size + 1 ≤ W0.heap.size := by omega
      have hownW : W0.ownsRow (w.heap.size + 1) 49 2 u5 (4 + 4 * k) (((f.take k).foldl addWays ways0).flatMap encV) := by rw [hW.eq.out]; exact hown.alloc _
      have p0 : W0.cell? ⟨wr.heap.size, 0, none⟩ = some (.int .i64 v.x) := by rw [hWc]; simp
      have p1 : W0.cell? ⟨wr.heap.size, 1, none⟩ = some (.int .i64 v.y) := by rw [hWc]; simp
      clear hWc
      go_region_held3 (fun w' => w'.cell? ⟨wr.heap.size, 0, none⟩ = some (.int .i64 v.x) ∧ w'.cell? ⟨wr.heap.size, 1, none⟩ = some (.int .i64 v.y) ∧ Below (w.heap.size + 1) W0 w') (((try go_split_ands); (refine ⟨?_, ?_, ?_⟩ <;> first | assumption | (exact (Below.refl _ _).drew) | (go_keep; done) | exact shc_alloc (by assumption) hBW _)))
        (first | (go_at_call 28; go_split_ands; have hS1 : Below (w.heap.size + 1) W0 _ := (by assumption); refine (refTimes_any v (-1) _ s1 s2).mono ?_; rintro e w1 ⟨rfl, hb1⟩; have hB1 := hS1.trans (hb1.mono (Nat.le_trans hBW hS1.size)); have hzz : W0.heap.size ≤ w1.heap.size := hb1.size; have q0 : w1.cell? ⟨wr.heap.size, 0, none⟩ = some (.int .i64 v.x) := (hb1.cell (p := ⟨wr.heap.size, 0, none⟩) (by simp; omega)).trans p0; have q1 : w1.cell? ⟨wr.heap.size, 1, none⟩ = some (.int .i64 v.y) := (hb1.cell (p := ⟨wr.heap.size, 1, none⟩) (by simp; omega)).trans p1; have hown1 := own_below (w := W0.drew) hownW hb1) | ((refine step_append_lies _ (by rfl) _ _ _ (by rfl) (w.heap.size + 1) 49 i0 _ 2 16 Try.underlying25 hi0 hz0 hz1 hz2 rfl (by omega) u5 (4 + 4 * k) _ (by rfl) (hown1.alloc _) ⟨w1.heap.size, 0, none⟩ 4 4 [.int .i64 v.x, .int .i64 v.y, .int .i64 (-1 * v.x), .int .i64 (-1 * v.y), .int .i64 (-v.y), .int .i64 v.x, .int .i64 v.y, .int .i64 (-v.x)] (by rfl) (by rfl) (World.news_of_block (cs := #[.int .i64 v.x, .int .i64 v.y, .int .i64 (-1 * v.x), .int .i64 (-1 * v.y), .int .i64 (-v.y), .int .i64 v.x, .int .i64 v.y, .int .i64 (-v.x)]) (t := 49) (fr := (0, 0)) (heap_alloc_new w1 _)) (by simp [Value.oneCell']) (by omega) (by unfold maxLen; omega) (by omega) (by simp; omega) (w1.heap.size + 1) (by simp) ?_); intro gg cap w2 hown2 hgrow hat hlt2; have hB2 : Below (w.heap.size + 1) W0 w2 := app_below (hB1.alloc (by omega) _) (by simp; omega) (hown1.alloc _) hgrow; have hgz := hgrow.size; have r0 : w2.cell? ⟨wr.heap.size, 0, none⟩ = some (.int .i64 v.x) := (hgrow.cell_far ⟨wr.heap.size, 0, none⟩ (by simp; omega) (fun e => absurd (hne _ e.symm) (by simp))).trans ((World.cell?_alloc_lt _ _ _ (by simp; omega)).trans q0); have r1 : w2.cell? ⟨wr.heap.size, 1, none⟩ = some (.int .i64 v.y) := (hgrow.cell_far ⟨wr.heap.size, 1, none⟩ (by simp; omega) (fun e => absurd (hne _ e.symm) (by simp))).trans ((World.cell?_alloc_lt _ _ _ (by simp; omega)).trans q1)))
      go_wp2
      refine ⟨⟨k + 1, by omega, by go_num, ?_, hWb.trans hB2, by simp at hgz; omega⟩, by simp [intOf]; omega⟩
      rw [foldl_snoc Hv.out, addWays, List.flatMap_append]
      exact hown2
    · obtain ⟨A1, c1, rfl, _⟩ := own_slice hown
      obtain rfl : k = f.length := by omega
      rw [List.take_of_length_le (by omega)] at hown
      have hrw : RS encV 2 wr wr.heap.size A1 (refWays f) := RS.of_own (enc := encV) (sz := 2) (fun _ => rfl) hown (refWays_len f).symm
      have hrf := (hr.below hB0 (Nat.le_refl _)).more hB0.size
      have Hwl : Hid ((refWays f).length = 4 + 4 * f.length) := refWays_len f
      have hKp := (Blk.new w 49 #[.int .i64 push.x, .int .i64 push.y]).below hB (by omega)
      have Hwv := Lib.hid (refWays_vb (by omega) Hf.out)
      clear hr hown
      obtain ⟨wm, hwm⟩ : ∃ wm : World, wm = wr := ⟨_, rfl⟩
      go_wp2
      rw [← hwm]
      rw [← hwm] at hrw hrf hKp hB0 hBz
      clear hwm hB
      go_loopw [8] (fun i wr => ∃ k : Nat, k ≤ 4 + 4 * f.length ∧ i = .int .i64 k ∧ ((refWays f).take k).all (fun way => !weakInB f push way) = true ∧ Below wm.heap.size wm wr) (fun i _ => 4 + 4 * f.length - (intOf i).toNat)
      case atStart => exact ⟨0, Nat.zero_le _, rfl, rfl, Below.refl _ _⟩
      case round =>
        obtain ⟨k, hk, rfl, hall, hB⟩ := hrel
        have Hall := Lib.hid hall
        clear hall
        by_cases hlt2 : k < 4 + 4 * f.length
        · obtain ⟨way, hway⟩ := getElem?_lt (l := refWays f) (k := k) (by rw [Hwl.out]; exact hlt2)
          have wvb := Hwv.out way (List.mem_of_getElem? hway)
          obtain ⟨s1, s2⟩ := wvb.sm Hp.out (by omega)
          obtain ⟨b, off, rfl, hb, hc⟩ := hrw.at_ hway
          have c0 := hc 0 _ rfl
          have c1 := hc 1 _ rfl
          simp only [Nat.add_zero] at c0
          have p0 := hKp.cell 0
          have p1 := hKp.cell 1
          simp at p0 p1
          have hcm := (sh_of hB).1
          have Hway := Lib.hid hway
          have hbz : b < wr.heap.size := by have := hB.size; omega
          have hwz : w.heap.size < wr.heap.size := by have := hB.size; omega
          have hrf0 := hrf.to hB
          clear hway hc hrw
          go_wp2
          refine name_world (motive := fun W => Code.wp _ _ _ _ W) _ ?_
          intro W0 hW
          have hWc := hW.cell
          have hWz := hW.size
          have hWb := hW.below (hB)
          have hrf1 : RS encV 2 W0 W0.heap.size A f := by rw [hW.eq.out]; exact hrf0
          go_region_held3 (fun w' => (∀ b o, b < W0.heap.size → w'.cell? ⟨b, o, none⟩ = W0.cell? ⟨b, o, none⟩) ∧ Below W0.heap.size W0 w') (first | with_reducible exact sh_refl _ | (with_reducible refine sh_of ?_; with_reducible assumption) | (with_reducible refine sh_alloc ?_ _; with_reducible assumption) | with_reducible exact sh_first _ _)
            (first | (go_at_call 65; go_split_ands; have hS1 : Below W0.heap.size W0 _ := (by with_reducible assumption); refine (refDot_any way push _ s1 s2).mono ?_; rintro e w1 ⟨rfl, hb1⟩; have hB1 := sh_next hS1 hb1) | (go_at_call 66; go_split_ands; have hS2 : Below W0.heap.size W0 _ := (by with_reducible assumption); refine (refHelp_any _ _ f way _ (hrf1.to hS2) hl Hf.out (wvb.mono (by omega))).mono ?_; rintro e w2 ⟨rfl, hb2⟩; have hB2 := sh_next hS2 hb2))
          go_wp2
          · go_ret
            have hlt3 : helpM f way < way.dot push := by assumption
            refine ⟨ret_bool ?_, hB0.trans ((hWb.trans (hB2.mono hWb.size)).mono hB0.size)⟩
            unfold balancesB
            rw [all_bad Hway.out (by simp [weakInB, hlt3])]
          · have hge : way.dot push ≤ helpM f way := by assumption
            refine ⟨⟨k + 1, by omega, by go_num, all_snoc Hway.out Hall.out (by simp [weakInB]; omega), hWb.trans (hB2.mono hWb.size)⟩, by simp [intOf]; omega⟩
        · go_wp2
          go_ret
          refine ⟨ret_bool ?_, hB0.trans (hB.mono hB0.size)⟩
          unfold balancesB
          rw [all_end (by rw [Hwl.out]; exact hlt2) Hall.out]
end Go.Proofs.Ytibaindlbpfecaa
