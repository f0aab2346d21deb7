import Derived.Test.YtibaindlbpfecaaCanD
import Derived.Test.YtibaindlbpfecaaCanE
import Derived.Test.YtibaindlbpfecaaCanF

namespace Go.Proofs.Ytibaindlbpfecaa
open Go.RowKit

/-- What the call of a balance hands back where head, push, tests and tent are right. -/
def BalancedPost (r : Option (Int × List Int)) (w : World) (e : Ending) (w' : World) : Prop :=
  ∃ A c, e = .returned (.tuple #[.agg #[.int .i64 (r.getD (0, [])).1, .slice A (r.getD (0, [])).2.length c], .int .i64 (if r.isSome then 0 else 7)]) ∧ RS encI 1 w' w'.heap.size A (r.getD (0, [])).2 ∧ (r.getD (0, [])).2.length ≤ c ∧ c ≤ maxLen ∧ Below w.heap.size w w'
set_option maxRecDepth 100000 in
set_option maxHeartbeats 1000000 in
theorem Balanced_err (A : Option Addr) (c : Nat) (l : List Tst) (A' : Option Addr) (c' : Nat) (t : List Head) (head : Int) (push : Vec) (z : Int) (hz : z ≠ 0) (w : World) (hr : RS encT 4 w w.heap.size A l) (hl : l.length ≤ maxLen) (ht : RH w w.heap.size A' t) (htl : t.length ≤ maxLen) (hE : headE l t head push.corner = z) :
    Calls Try.prog 24 #[.slice A l.length c, .slice A' t.length c', .int .i64 head, .agg #[.int .i64 push.x, .int .i64 push.y]] w fun e w' => e = .returned (.tuple #[.agg #[.int .i64 0, .slice none 0 0], .int .i64 z]) ∧ Below w.heap.size w w' := by
  have e0 : (z != 0) = true := by simpa using hz
  obtain ⟨b, hb⟩ : ∃ b, push.corner = b := ⟨_, rfl⟩
  rw [hb] at hE
  have hB1 := ((Below.refl w.heap.size w).alloc (Nat.le_refl _) (.cells #[.int .i64 push.x, .int .i64 push.y] 58)).alloc (by simp) (.cells #[.int .i64 0, .slice none 0 0] 55)
  have hr1 := (hr.below hB1 (Nat.le_refl _)).more hB1.size
  have ht1 := (ht.below hB1 (Nat.le_refl _)).more hB1.size
  have hv := fun W hr ht => checkHead_val A c A' c' hE W hr hl ht htl
  have Hb := Lib.hid hb
  have Hv := Lib.hid hv
  have kR := Blk.new (w.alloc (.cells #[.int .i64 push.x, .int .i64 push.y] 58)) 55 #[.int .i64 0, .slice none 0 0]
  simp only [World.size_alloc] at kR
  clear hr ht hE hz hb hv
  go_enter Try.func24, Try.ntmps24
  go_wp2_with (first | ((go_at_call 62; refine (corner_r Hb.out _).mono ?_; rintro e w1 ⟨rfl, hb1⟩; obtain ⟨hc1, hf1⟩ := bcell hb1); have kR1 := kR.below hb1 (by simp)) | ((go_at_call 61; refine (Hv.out _ (hr1.to hb1) (ht1.to hb1)).mono ?_; rintro e w2 ⟨rfl, hb2⟩; obtain ⟨hc2, hf2⟩ := bcell hb2); have kR2 := kR1.below hb2 kR1.lt; have q0 := kR2.cell 0; have q1 := kR2.cell 1; have f0 := kR2.frozen 0; have f1 := kR2.frozen 1; have kz := kR2.lt; simp at q0 q1))
  have bf := (kR2.set_ 0 (.int .i64 0)).set_ 1 (.slice none 0 0)
  have v0 := bf.cell 0
  have v1 := bf.cell 1
  simp at v0 v1
  refine bodyPost_ret (v := .tuple #[.agg #[.int .i64 0, .slice none 0 0], .int .i64 z]) (by simp [results, Try.results24, go_sem, v0, v1]) rfl ⟨rfl, ?_⟩
  have hBt := (hB1.trans (hb1.mono (by simp <;> omega))).trans (hb2.mono (by have := hb1.size; simp at this; omega))
  exact (hBt.setCell (p := ⟨w.heap.size + 1, 0, none⟩) (by dsimp only; omega) _).setCell (p := ⟨w.heap.size + 1, 1, none⟩) (by dsimp only; omega) _

set_option maxRecDepth 100000 in
set_option maxHeartbeats 2000000 in
theorem Balanced_ok (A : Option Addr) (c : Nat) (l : List Tst) (A' : Option Addr) (c' : Nat) (t : List Head) (k : Nat) (h : Head) (hk : t[k]? = some h) (push : Vec) (f : List Vec) (hf : forcesM l h = f) (w : World) (hr : RS encT 4 w w.heap.size A l) (hl : l.length ≤ maxLen) (ht : RH w w.heap.size A' t) (htl : t.length ≤ maxLen) (hE : headE l t k push.corner = 0) :
    Calls Try.prog 24 #[.slice A l.length c, .slice A' t.length c', .int .i64 k, .agg #[.int .i64 push.x, .int .i64 push.y]] w (BalancedPost (findBal (push.times h.area) f) w) := by
  obtain ⟨hin, hok, hhk, har, hfl, hfv⟩ := asked_ok hE hk hf
  have hwb := Lib.hid (Vec.corner_iff.1 hin)
  have hv := fun W hr ht => checkHead_val A c A' c' hE W hr hl ht htl
  rw [hin] at hv
  have Hin := Lib.hid hin
  have Hv := Lib.hid hv
  have Hf := Lib.hid hf
  have Hfv := Lib.hid hfv
  have Hok := Lib.hid hok
  have Hhk := Lib.hid hhk
  have Hk := Lib.hid hk
  have Har := Lib.hid har
  have hkl := lt_of_getElem? hk
  obtain ⟨r, hrr⟩ : ∃ r, findBal (push.times h.area) f = r := ⟨_, rfl⟩
  have Hr := Lib.hid hrr
  have hB1 := ((Below.refl w.heap.size w).alloc (Nat.le_refl _) (.cells #[.int .i64 push.x, .int .i64 push.y] 58)).alloc (by simp) (.cells #[.int .i64 0, .slice none 0 0] 55)
  have hr1 := (hr.below hB1 (Nat.le_refl _)).more hB1.size
  have ht1 := (ht.below hB1 (Nat.le_refl _)).more hB1.size
  have kP := (Blk.new w 58 #[.int .i64 push.x, .int .i64 push.y]).alloc (.cells #[.int .i64 0, .slice none 0 0] 55)
  have kR := Blk.new (w.alloc (.cells #[.int .i64 push.x, .int .i64 push.y] 58)) 55 #[.int .i64 0, .slice none 0 0]
  simp only [World.size_alloc] at kR
  unfold maxLen at htl
  rw [hrr]
  clear hE hv hf hfv hok hhk hk hin har hr ht hrr
  go_enter Try.func24, Try.ntmps24
  go_upto_region 4 with (first | ((go_at_call 62; refine (corner_r Hin.out _).mono ?_; rintro e w1 ⟨rfl, hb1⟩; obtain ⟨hc1, hf1⟩ := bcell hb1); have kR1 := kR.below hb1 (by simp); have kP1 := kP.below hb1 (by simp <;> omega)) | ((go_at_call 61; refine (Hv.out _ (hr1.to hb1) (ht1.to hb1)).mono ?_; rintro e w2 ⟨rfl, hb2⟩; obtain ⟨hc2, hf2⟩ := bcell hb2); have kR2 := kR1.below hb2 kR1.lt; have kP2 := kP1.below hb2 kP1.lt))
  go_cut [11, 12] (fun s11 s12 wx => ∃ (A : Nat) (A5 : Option Addr) (c5 : Nat), s11 = .pointer (some ⟨A, 0, none⟩) ∧ s12 = .bool r.isSome ∧ w.heap.size + 2 ≤ A ∧ Blk wx A 55 #[.int .i64 (r.getD (0, [])).1, .slice A5 (r.getD (0, [])).2.length c5] ∧ RS encI 1 wx wx.heap.size A5 (r.getD (0, [])).2 ∧ (r.getD (0, [])).2.length ≤ c5 ∧ c5 ≤ maxLen ∧ Blk wx (w.heap.size + 1) 55 #[.int .i64 0, .slice none 0 0] ∧ Below w.heap.size w wx ∧ (∀ ad, A5 = some ad → w.heap.size + 2 ≤ ad.block))
  case first =>
    have hBz := (hB1.trans (hb1.mono (by simp <;> omega))).trans (hb2.mono (by have := hb1.size; simp at this; omega))
    refine name_world (motive := fun W => Code.wp _ _ _ _ W) _ ?_
    intro W0 hW
    have hWc := hW.cell
    have hWz := hW.size
    have hWb := hW.below (hBz)
    have hr0 := (hr1.to hb1).to hb2
    have ht0 := (ht1.to hb1).to hb2
    rw [← hW.eq.out] at hr0 ht0
    have kP := hW.blk kP2
    have kR := hW.blk kR2
    have k0 := kP.cell 0
    have k1 := kP.cell 1
    simp at k0 k1
    have kz := kP.lt
    have kzR := kR.lt
    obtain ⟨b, off, A2, c2, rfl, hb, x0, x1, x2, hg1, hg2, hg⟩ := ht0.at_ Hk.out
    clear hWc hWz hc1 hc2 hf1 hf2 kR2 kP2
    go_region_held3 (fun w' => (∀ b o, b < W0.heap.size → w'.cell? ⟨b, o, none⟩ = W0.cell? ⟨b, o, none⟩) ∧ Below W0.heap.size W0 w') (first | with_reducible exact sh_refl _ | (with_reducible refine sh_of ?_; with_reducible assumption) | (with_reducible refine sh_alloc ?_ _; with_reducible assumption) | with_reducible exact sh_first _ _ | (refine sh_of ?_; repeat' (first | with_reducible assumption | with_reducible exact Below.refl _ _ | with_reducible refine Below.drew ?_ | with_reducible refine Below.alloc ?_ (by simp <;> omega) _ | with_reducible refine Below.setCell ?_ (by simp <;> omega) _)))
      (first | (go_at_call 63; go_split_ands; have hS1 : Below W0.heap.size W0 _ := (by with_reducible assumption); refine (measureV_any A c l A2 c2 h f Hf.out _ (hr0.to hS1) hl Hok.out Hhk.out ((hg.below hS1 (Nat.le_refl _)).more hS1.size)).mono ?_; rintro e w3 ⟨A1, c1, rfl, hrs, hc1, hc2, hb3⟩; have hB3 := sh_next hS1 hb3; obtain ⟨hd3, hf3⟩ := bcell hb3; have hy3 := hb3.size; have hz3 := hB3.size; (try have hs3 : W0.heap.size < w3.heap.size := (by (try simp at hy3); omega))) | (go_at_call 64; go_split_ands; have hS2 : Below W0.heap.size W0 _ := (by with_reducible assumption); refine (mbalance_any h A1 A2 c1 c2 f push _ (by first | exact hrs | exact hrs.to ((Below.refl _ _).alloc (Nat.le_refl _) _)) hfl Hfv.out Har.out hwb.out).mono ?_; rintro e w4 ⟨A5, c5, rfl, hrb, hq1, hq2, hq3, hb4⟩; have hB4 := sh_next hS2 hb4; obtain ⟨hd4, hf4⟩ := bcell hb4; have hy4 := hb4.size; have hz4 := hB4.size; (try have hs4 : W0.heap.size < w4.heap.size := (by (try simp at hy4); omega)); (try have hs5 : w3.heap.size < w4.heap.size := (by (try simp at hy4); omega))))
    · go_wp2_with fail
      go_meet
      rw [Hr.out] at hrb hq1 ⊢
      have hrb := hrb.1
      have hs2 := hB4.size
      exact ⟨_, A5, c5, rfl, rfl, by omega, Blk.new _ _ _, hrb.to ((Below.refl _ _).alloc (Nat.le_refl _) _), hq1, hq2, (kR.below hB4 kzR).alloc _, hWb.trans ((hB4.alloc hB4.size _).mono hWb.size), fun ad e => by have := hq3 ad e; omega⟩
    · go_wp2_with fail
      go_meet
      rw [Hr.out] at hrb hq1 ⊢
      have hrb := hrb.1
      have hs1 := hB3.size
      have hs2 := hB4.size
      have bA := ((Blk.new w3 55 #[.int .i64 0, .slice none 0 0]).below hb4 (by simp)).set_ 0 (.int .i64 (r.getD (0, [])).1) |>.set_ 1 (.slice A5 (r.getD (0, [])).2.length c5)
      simp at bA
      exact ⟨_, A5, c5, rfl, rfl, by omega, bA, ((hrb.far (p := ⟨w3.heap.size, 0, none⟩) (fun ad e => by have := hq3 ad e; (try simp at this); dsimp only; omega) _).far (p := ⟨w3.heap.size, 1, none⟩) (fun ad e => by have := hq3 ad e; (try simp at this); dsimp only; omega) _).more (by simp), hq1, hq2, ((kR.below hB4 kzR).far (p := ⟨w3.heap.size, 0, none⟩) (by dsimp only; omega) _).far (p := ⟨w3.heap.size, 1, none⟩) (by dsimp only; omega) _, ((hWb.trans (hB4.mono hWb.size)).setCell (p := ⟨w3.heap.size, 0, none⟩) (by dsimp only; omega) _).setCell (p := ⟨w3.heap.size, 1, none⟩) (by dsimp only; omega) _, fun ad e => by have := hq3 ad e; (try simp at this); omega⟩
    · go_wp2_with fail
      go_meet
      rw [Hr.out] at hrb hq1 ⊢
      have hrb := hrb.1
      have hs1 := hb3.size
      have hs2 := hB4.size
      simp at hs1
      have bA := (((Blk.new W0 55 #[.int .i64 0, .slice none 0 0]).drew.below hb3 (by simp)).below hb4 (by omega)).set_ 0 (.int .i64 (r.getD (0, [])).1) |>.set_ 1 (.slice A5 (r.getD (0, [])).2.length c5)
      simp at bA
      exact ⟨_, A5, c5, rfl, rfl, by omega, bA, ((hrb.far (p := ⟨W0.heap.size, 0, none⟩) (fun ad e => by have := hq3 ad e; (try simp at this); dsimp only; omega) _).far (p := ⟨W0.heap.size, 1, none⟩) (fun ad e => by have := hq3 ad e; (try simp at this); dsimp only; omega) _).more (by simp), hq1, hq2, ((kR.below hB4 kzR).far (p := ⟨W0.heap.size, 0, none⟩) (by dsimp only; omega) _).far (p := ⟨W0.heap.size, 1, none⟩) (by dsimp only; omega) _, ((hWb.trans (hB4.mono hWb.size)).setCell (p := ⟨W0.heap.size, 0, none⟩) (by dsimp only; omega) _).setCell (p := ⟨W0.heap.size, 1, none⟩) (by dsimp only; omega) _, fun ad e => by have := hq3 ad e; (try simp at this); omega⟩
  case rest =>
    obtain ⟨A, A5, c5, rfl, rfl, hA, bA, hrb, hq1, hq2, bR, hBx, hfr⟩ := hcut
    have a0 := bA.cell 0
    have a1 := bA.cell 1
    have az := bA.lt
    have q0 := bR.cell 0
    have q1 := bR.cell 1
    have f0 := bR.frozen 0
    have f1 := bR.frozen 1
    have kz := bR.lt
    simp at a0 a1 q0 q1
    cases r with
    | none =>
      go_wp2
      have bf := (bR.set_ 0 (.int .i64 0)).set_ 1 (.slice none 0 0)
      have v0 := bf.cell 0
      have v1 := bf.cell 1
      simp at v0 v1
      refine bodyPost_ret (v := .tuple #[.agg #[.int .i64 0, .slice none 0 0], .int .i64 7]) (by simp [results, Try.results24, go_sem, v0, v1]) rfl ⟨none, 0, rfl, .inl rfl, Nat.le_refl _, Nat.zero_le _, ?_⟩
      exact (hBx.setCell (p := ⟨w.heap.size + 1, 0, none⟩) (by dsimp only; omega) _).setCell (p := ⟨w.heap.size + 1, 1, none⟩) (by dsimp only; omega) _
    | some p =>
      obtain ⟨wh, ps⟩ := p
      simp only [Option.getD_some] at a0 a1 hrb hq1
      go_wp2
      have bf := (bR.set_ 0 (.int .i64 wh)).set_ 1 (.slice A5 ps.length c5)
      have v0 := bf.cell 0
      have v1 := bf.cell 1
      simp at v0 v1
      refine bodyPost_ret (v := .tuple #[.agg #[.int .i64 wh, .slice A5 ps.length c5], .int .i64 0]) (by simp [results, Try.results24, go_sem, v0, v1]) rfl ⟨A5, c5, rfl, ?_, hq1, hq2, ?_⟩
      · exact ((hrb.far (p := ⟨w.heap.size + 1, 0, none⟩) (fun ad e => by have := hfr ad e; dsimp only; omega) _).far (p := ⟨w.heap.size + 1, 1, none⟩) (fun ad e => by have := hfr ad e; dsimp only; omega) _).more (by simp)
      · exact (hBx.setCell (p := ⟨w.heap.size + 1, 0, none⟩) (by dsimp only; omega) _).setCell (p := ⟨w.heap.size + 1, 1, none⟩) (by dsimp only; omega) _
end Go.Proofs.Ytibaindlbpfecaa

namespace Go.Proofs.Ytibaindlbpfecaa
open Go.RowKit

set_option linter.unusedSimpArgs false in
set_option maxRecDepth 100000 in
set_option maxHeartbeats 1000000 in
theorem ProveBalance_bad (A : Option Addr) (c : Nat) (l : List Tst) (A' : Option Addr) (c' : Nat) (t : List Head) (head : Int) (push : Vec) (whole : Int) (A3 : Option Addr) (c3 : Nat) (ps : List Int) (z : Int) (hz : z ≠ 0) (w : World) (hr : RS encT 4 w w.heap.size A l) (hl : l.length ≤ maxLen) (ht : RH w w.heap.size A' t) (htl : t.length ≤ maxLen) (hE : headE l t head push.corner = z) :
    Calls Try.prog 31 #[.slice A l.length c, .slice A' t.length c', .int .i64 head, .agg #[.int .i64 push.x, .int .i64 push.y], .agg #[.int .i64 whole, .slice A3 ps.length c3]] w fun e w' => e = .returned (.bool false) ∧ Below w.heap.size w w' := by
  obtain ⟨b, hb⟩ : ∃ b, push.corner = b := ⟨_, rfl⟩
  have hB1 := ((Below.refl w.heap.size w).alloc (Nat.le_refl _) (.cells #[.int .i64 push.x, .int .i64 push.y] 58)).alloc (by simp) (.cells #[.int .i64 whole, .slice A3 ps.length c3] 55)
  rw [hb] at hE
  have Hb := Lib.hid hb
  have hv := fun W hr ht => checkHead_val A c A' c' hE W hr hl ht htl
  have Hv := Lib.hid hv
  have e0 : (z == 0) = false := by simpa using hz
  clear hv hb hE hz
  go_enter Try.func31, Try.ntmps31
  go_wp2
  refine name_world (motive := fun W => Code.wp _ _ _ _ W) _ ?_
  intro W0 hW
  have hWc := hW.cell
  have hWz := hW.size
  have hWb := hW.below (hB1)
  have hr0 := (hr.below hWb (Nat.le_refl _)).more hWb.size
  have ht0 := (ht.below hWb (Nat.le_refl _)).more hWb.size
  have kW := hW.blk ((Blk.new w 58 #[.int .i64 push.x, .int .i64 push.y]).alloc (.cells #[.int .i64 whole, .slice A3 ps.length c3] 55))
  have k0 := kW.cell 0
  have k1 := kW.cell 1
  simp at k0 k1
  clear hWc hWz hr ht
  refine wp_region_any (by kernel_rfl) ?_
  change wpAny _ _ _ _ 19 #[false, false, false, false, false, false, false, false, false, false, false, false, false, false, false, false, false, false, false] _ (World.drew _)
  refine wpAny_take (i := 0) (v := _) rfl (by kernel_rfl) (by kernel_rfl) (by kernel_rfl) (fun _ _ _ h => h) (Or.inl ⟨by rfl, by intro w; go_simp; first | done | with_reducible rfl⟩) ?_
  change wpAny _ _ _ _ 18 #[true, false, false, false, false, false, false, false, false, false, false, false, false, false, false, false, false, false, false] _ _
  try simp only [Act.put, List.setIfInBounds_toArray, List.set_cons_zero, List.set_cons_succ, List.getElem_toArray, List.getElem_cons_zero, List.getElem_cons_succ]
  refine wpAny_take (i := 1) (v := _) rfl (by kernel_rfl) (by kernel_rfl) (by kernel_rfl) (fun _ _ _ h => h) (Or.inl ⟨by rfl, by intro w; go_simp; first | done | with_reducible rfl⟩) ?_
  change wpAny _ _ _ _ 17 #[true, true, false, false, false, false, false, false, false, false, false, false, false, false, false, false, false, false, false] _ _
  try simp only [Act.put, List.setIfInBounds_toArray, List.set_cons_zero, List.set_cons_succ, List.getElem_toArray, List.getElem_cons_zero, List.getElem_cons_succ]
  refine wpAny_take (i := 2) (v := _) rfl (by kernel_rfl) (by kernel_rfl) (by kernel_rfl) (fun _ _ _ h => h) (Or.inl ⟨by rfl, by intro w; go_simp; first | done | with_reducible rfl⟩) ?_
  change wpAny _ _ _ _ 16 #[true, true, true, false, false, false, false, false, false, false, false, false, false, false, false, false, false, false, false] _ _
  try simp only [Act.put, List.setIfInBounds_toArray, List.set_cons_zero, List.set_cons_succ, List.getElem_toArray, List.getElem_cons_zero, List.getElem_cons_succ]
  refine wpAny_ready (rs := [3]) (by kernel_rfl) (by simp) ?_
  refine AllReady.cons rfl (fun K hK => ?_) AllReady.nil
  go_simp
  refine hK _ _ ?_
  clear hK K
  change wpAny _ _ _ _ 15 #[true, true, true, true, false, false, false, false, false, false, false, false, false, false, false, false, false, false, false] _ _
  try simp only [Act.put, List.setIfInBounds_toArray, List.set_cons_zero, List.set_cons_succ, List.getElem_toArray, List.getElem_cons_zero, List.getElem_cons_succ]
  refine wpAny_ready (rs := [4]) (by kernel_rfl) (by simp) ?_
  refine AllReady.cons rfl (fun K hK => ?_) AllReady.nil
  go_simp
  go_wp2_with (first | (go_at_call 62; refine (corner_r Hb.out _).mono ?_; rintro e w1 ⟨rfl, hb1⟩; obtain ⟨hc1, hf1⟩ := bcell hb1) | (go_at_call 61; refine (Hv.out _ (hr0.to ((Below.refl _ _).drew.trans hb1)) (ht0.to ((Below.refl _ _).drew.trans hb1))).mono ?_; rintro e w2 ⟨rfl, hb2⟩; obtain ⟨hc2, hf2⟩ := bcell hb2))
  change wpAny _ _ _ _ 14 #[true, true, true, true, true, false, false, false, false, false, false, false, false, false, false, false, false, false, false] _ _
  try simp only [Act.put, List.setIfInBounds_toArray, List.set_cons_zero, List.set_cons_succ, List.getElem_toArray, List.getElem_cons_zero, List.getElem_cons_succ]
  refine wpAny_ready (rs := [5]) (by kernel_rfl) (by simp) ?_
  refine AllReady.cons rfl (fun K hK => ?_) AllReady.nil
  go_simp
  go_wp2_with (first | (go_at_call 62; refine (corner_r Hb.out _).mono ?_; rintro e w1 ⟨rfl, hb1⟩; obtain ⟨hc1, hf1⟩ := bcell hb1) | (go_at_call 61; refine (Hv.out _ (hr0.to ((Below.refl _ _).drew.trans hb1)) (ht0.to ((Below.refl _ _).drew.trans hb1))).mono ?_; rintro e w2 ⟨rfl, hb2⟩; obtain ⟨hc2, hf2⟩ := bcell hb2))
  change wpAny _ _ _ _ 13 #[true, true, true, true, true, true, false, false, false, false, false, false, false, false, false, false, false, false, false] _ _
  try simp only [Act.put, List.setIfInBounds_toArray, List.set_cons_zero, List.set_cons_succ, List.getElem_toArray, List.getElem_cons_zero, List.getElem_cons_succ]
  refine wpAny_take (i := 6) (v := _) rfl (by kernel_rfl) (by kernel_rfl) (by kernel_rfl) (fun _ _ _ h => h) (Or.inl ⟨by rfl, by intro w; go_simp; first | done | with_reducible rfl⟩) ?_
  change wpAny _ _ _ _ 12 #[true, true, true, true, true, true, true, false, false, false, false, false, false, false, false, false, false, false, false] _ _
  try simp only [Act.put, List.setIfInBounds_toArray, List.set_cons_zero, List.set_cons_succ, List.getElem_toArray, List.getElem_cons_zero, List.getElem_cons_succ]
  refine wpAny_take (i := 7) (v := _) rfl (by kernel_rfl) (by kernel_rfl) (by kernel_rfl) (fun _ _ _ h => h) (Or.inl ⟨by rfl, by intro w; go_simp; first | done | with_reducible rfl⟩) ?_
  change wpAny _ _ _ _ 11 #[true, true, true, true, true, true, true, true, false, false, false, false, false, false, false, false, false, false, false] _ _
  try simp only [Act.put, List.setIfInBounds_toArray, List.set_cons_zero, List.set_cons_succ, List.getElem_toArray, List.getElem_cons_zero, List.getElem_cons_succ]
  refine wpAny_take (i := 8) (v := undef) rfl (by kernel_rfl) (by kernel_rfl) (by kernel_rfl) (fun _ _ _ h => h) (Or.inr ⟨by rfl, rfl⟩) ?_
  change wpAny _ _ _ _ 10 #[true, true, true, true, true, true, true, true, true, false, false, false, false, false, false, false, false, false, false] _ _
  try simp only [Act.put, List.setIfInBounds_toArray, List.set_cons_zero, List.set_cons_succ, List.getElem_toArray, List.getElem_cons_zero, List.getElem_cons_succ]
  refine wpAny_take (i := 9) (v := undef) rfl (by kernel_rfl) (by kernel_rfl) (by kernel_rfl) (fun _ _ _ h => h) (Or.inr ⟨by rfl, rfl⟩) ?_
  change wpAny _ _ _ _ 9 #[true, true, true, true, true, true, true, true, true, true, false, false, false, false, false, false, false, false, false] _ _
  try simp only [Act.put, List.setIfInBounds_toArray, List.set_cons_zero, List.set_cons_succ, List.getElem_toArray, List.getElem_cons_zero, List.getElem_cons_succ]
  refine wpAny_take (i := 10) (v := undef) rfl (by kernel_rfl) (by kernel_rfl) (by kernel_rfl) (fun _ _ _ h => h) (Or.inr ⟨by rfl, rfl⟩) ?_
  change wpAny _ _ _ _ 8 #[true, true, true, true, true, true, true, true, true, true, true, false, false, false, false, false, false, false, false] _ _
  try simp only [Act.put, List.setIfInBounds_toArray, List.set_cons_zero, List.set_cons_succ, List.getElem_toArray, List.getElem_cons_zero, List.getElem_cons_succ]
  refine wpAny_take (i := 11) (v := undef) rfl (by kernel_rfl) (by kernel_rfl) (by kernel_rfl) (fun _ _ _ h => h) (Or.inr ⟨by rfl, rfl⟩) ?_
  change wpAny _ _ _ _ 7 #[true, true, true, true, true, true, true, true, true, true, true, true, false, false, false, false, false, false, false] _ _
  try simp only [Act.put, List.setIfInBounds_toArray, List.set_cons_zero, List.set_cons_succ, List.getElem_toArray, List.getElem_cons_zero, List.getElem_cons_succ]
  refine wpAny_take (i := 12) (v := undef) rfl (by kernel_rfl) (by kernel_rfl) (by kernel_rfl) (fun _ _ _ h => h) (Or.inr ⟨by rfl, rfl⟩) ?_
  change wpAny _ _ _ _ 6 #[true, true, true, true, true, true, true, true, true, true, true, true, true, false, false, false, false, false, false] _ _
  try simp only [Act.put, List.setIfInBounds_toArray, List.set_cons_zero, List.set_cons_succ, List.getElem_toArray, List.getElem_cons_zero, List.getElem_cons_succ]
  refine wpAny_take (i := 13) (v := undef) rfl (by kernel_rfl) (by kernel_rfl) (by kernel_rfl) (fun _ _ _ h => h) (Or.inr ⟨by rfl, rfl⟩) ?_
  change wpAny _ _ _ _ 5 #[true, true, true, true, true, true, true, true, true, true, true, true, true, true, false, false, false, false, false] _ _
  try simp only [Act.put, List.setIfInBounds_toArray, List.set_cons_zero, List.set_cons_succ, List.getElem_toArray, List.getElem_cons_zero, List.getElem_cons_succ]
  refine wpAny_take (i := 14) (v := undef) rfl (by kernel_rfl) (by kernel_rfl) (by kernel_rfl) (fun _ _ _ h => h) (Or.inr ⟨by rfl, rfl⟩) ?_
  change wpAny _ _ _ _ 4 #[true, true, true, true, true, true, true, true, true, true, true, true, true, true, true, false, false, false, false] _ _
  try simp only [Act.put, List.setIfInBounds_toArray, List.set_cons_zero, List.set_cons_succ, List.getElem_toArray, List.getElem_cons_zero, List.getElem_cons_succ]
  refine wpAny_take (i := 15) (v := undef) rfl (by kernel_rfl) (by kernel_rfl) (by kernel_rfl) (fun _ _ _ h => h) (Or.inr ⟨by rfl, rfl⟩) ?_
  change wpAny _ _ _ _ 3 #[true, true, true, true, true, true, true, true, true, true, true, true, true, true, true, true, false, false, false] _ _
  try simp only [Act.put, List.setIfInBounds_toArray, List.set_cons_zero, List.set_cons_succ, List.getElem_toArray, List.getElem_cons_zero, List.getElem_cons_succ]
  refine wpAny_take (i := 16) (v := undef) rfl (by kernel_rfl) (by kernel_rfl) (by kernel_rfl) (fun _ _ _ h => h) (Or.inr ⟨by rfl, rfl⟩) ?_
  change wpAny _ _ _ _ 2 #[true, true, true, true, true, true, true, true, true, true, true, true, true, true, true, true, true, false, false] _ _
  try simp only [Act.put, List.setIfInBounds_toArray, List.set_cons_zero, List.set_cons_succ, List.getElem_toArray, List.getElem_cons_zero, List.getElem_cons_succ]
  refine wpAny_take (i := 17) (v := _) rfl (by kernel_rfl) (by kernel_rfl) (by kernel_rfl) (fun _ _ _ h => h) (Or.inl ⟨by rfl, by intro w; go_simp; first | done | with_reducible rfl⟩) ?_
  change wpAny _ _ _ _ 1 #[true, true, true, true, true, true, true, true, true, true, true, true, true, true, true, true, true, true, false] _ _
  try simp only [Act.put, List.setIfInBounds_toArray, List.set_cons_zero, List.set_cons_succ, List.getElem_toArray, List.getElem_cons_zero, List.getElem_cons_succ]
  refine wpAny_take (i := 18) (v := _) rfl (by kernel_rfl) (by kernel_rfl) (by kernel_rfl) (fun _ _ _ h => h) (Or.inl ⟨by rfl, by intro w; go_simp; first | done | with_reducible rfl⟩) ?_
  change wpAny _ _ _ _ 0 #[true, true, true, true, true, true, true, true, true, true, true, true, true, true, true, true, true, true, true] _ _
  try simp only [Act.put, List.setIfInBounds_toArray, List.set_cons_zero, List.set_cons_succ, List.getElem_toArray, List.getElem_cons_zero, List.getElem_cons_succ]
  refine wpAny_done (by kernel_rfl) ?_ _
  go_wp2
  go_ret
  exact ⟨rfl, hWb.trans (((Below.refl _ _).drew.trans hb1 |>.trans (hb2.mono hb1.size)).mono hWb.size)⟩

set_option maxRecDepth 100000 in
set_option maxHeartbeats 1000000 in
theorem ProveBalance_ok (A : Option Addr) (c : Nat) (l : List Tst) (A' : Option Addr) (c' : Nat) (t : List Head) (k : Nat) (h : Head) (hk : t[k]? = some h) (push : Vec) (whole : Int) (A3 : Option Addr) (c3 : Nat) (ps : List Int) (f : List Vec) (hf : forcesM l h = f) (w : World) (hr : RS encT 4 w w.heap.size A l) (hl : l.length ≤ maxLen) (ht : RH w w.heap.size A' t) (htl : t.length ≤ maxLen) (hrp : RS encI 1 w w.heap.size A3 ps) (hpl : ps.length ≤ maxLen) (hE : headE l t k push.corner = 0) :
    Calls Try.prog 31 #[.slice A l.length c, .slice A' t.length c', .int .i64 k, .agg #[.int .i64 push.x, .int .i64 push.y], .agg #[.int .i64 whole, .slice A3 ps.length c3]] w fun e w' => e = .returned (.bool (balByB (push.times h.area) f whole ps)) ∧ Below w.heap.size w w' := by
  obtain ⟨hin, hok, hhk, har, hfl, hfv⟩ := asked_ok hE hk hf
  have hwb := Lib.hid (Vec.corner_iff.1 hin)
  have hv := fun W hr ht => checkHead_val A c A' c' hE W hr hl ht htl
  rw [hin] at hv
  have Hin := Lib.hid hin
  have Hv := Lib.hid hv
  have Hf := Lib.hid hf
  have Hfv := Lib.hid hfv
  have Hok := Lib.hid hok
  have Hhk := Lib.hid hhk
  have Hk := Lib.hid hk
  have Har := Lib.hid har
  have Hpl := Lib.hid hpl
  have hkl := lt_of_getElem? hk
  have hB1 := ((Below.refl w.heap.size w).alloc (Nat.le_refl _) (.cells #[.int .i64 push.x, .int .i64 push.y] 58)).alloc (by simp) (.cells #[.int .i64 whole, .slice A3 ps.length c3] 55)
  unfold maxLen at htl
  clear hE hv hf hfv hok hhk hk hin har hpl
  go_enter Try.func31, Try.ntmps31
  go_wp2
  refine name_world (motive := fun W => Code.wp _ _ _ _ W) _ ?_
  intro W0 hW
  have hWc := hW.cell
  have hWz := hW.size
  have hWb := hW.below (hB1)
  have hr0 := (hr.below hWb (Nat.le_refl _)).more hWb.size
  have ht0 := (ht.below hWb (Nat.le_refl _)).more hWb.size
  have hp0 := (hrp.below hWb (Nat.le_refl _)).more hWb.size
  have kW := hW.blk ((Blk.new w 58 #[.int .i64 push.x, .int .i64 push.y]).alloc (.cells #[.int .i64 whole, .slice A3 ps.length c3] 55))
  have kV := hW.blk (Blk.new (w.alloc (.cells #[.int .i64 push.x, .int .i64 push.y] 58)) 55 #[.int .i64 whole, .slice A3 ps.length c3])
  simp only [World.size_alloc] at kV
  have k0 := kW.cell 0
  have k1 := kW.cell 1
  have k2 := kV.cell 0
  have k3 := kV.cell 1
  simp at k0 k1 k2 k3
  have kz := kW.lt
  have kz2 := kV.lt
  obtain ⟨b, off, A2, c2, rfl, hb, x0, x1, x2, hg1, hg2, hg⟩ := ht0.at_ Hk.out
  clear hWc hWz hr ht hrp
  (first | (go_region_held3 (fun w' => (∀ b o, b < W0.heap.size → w'.cell? ⟨b, o, none⟩ = W0.cell? ⟨b, o, none⟩) ∧ Below W0.heap.size W0 w') (first | with_reducible exact sh_refl _ | (with_reducible refine sh_of ?_; with_reducible assumption) | (with_reducible refine sh_alloc ?_ _; with_reducible assumption) | with_reducible exact sh_first _ _) (first | (go_at_call 62; go_split_ands; have hS1 : Below W0.heap.size W0 _ := (by with_reducible assumption); refine (corner_r Hin.out _).mono ?_; rintro e w1 ⟨rfl, hb1⟩; have hB1 := sh_next hS1 hb1) | (go_at_call 61; go_split_ands; have hS2 : Below W0.heap.size W0 _ := (by with_reducible assumption); refine (Hv.out _ (hr0.to hS2) (ht0.to hS2)).mono ?_; rintro e w2 ⟨rfl, hb2⟩; have hB2 := sh_next hS2 hb2) | (go_at_call 63; go_split_ands; have hS4 : Below W0.heap.size W0 _ := (by with_reducible assumption); refine (measureV_any A c l A2 c2 h f Hf.out _ (hr0.to hS4) hl Hok.out Hhk.out ((hg.below hS4 (Nat.le_refl _)).more hS4.size)).mono ?_; rintro e w4 ⟨A1, c1, rfl, hrs, hc1, hc2, hb4⟩; have hB4 := sh_next hS4 hb4) | (go_at_call 67; go_split_ands; have hS5 : Below W0.heap.size W0 _ := (by with_reducible assumption); refine (balancedBy_any h A1 A2 A3 c1 c2 c3 f push whole ps _ hrs hfl Hfv.out Har.out hwb.out (hp0.to hS5) Hpl.out).mono ?_; rintro e w5 ⟨rfl, hb5⟩; have hB5 := sh_next hS5 hb5))) | fail)
  go_wp2
  go_ret
  exact ⟨rfl, hWb.trans (hB5.mono hWb.size)⟩
end Go.Proofs.Ytibaindlbpfecaa
