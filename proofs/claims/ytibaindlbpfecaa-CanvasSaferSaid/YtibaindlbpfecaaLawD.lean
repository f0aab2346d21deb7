import Derived.Test.YtibaindlbpfecaaLawC
import Derived.Test.YtibaindlbpfecaaGeoD

namespace Go.Proofs.Ytibaindlbpfecaa
open Go.RowKit

theorem refBalances_val {f : List Vec} {push : Vec} {b : Bool} (hb : balancesB f push = b) (A : Option Addr) (c : Nat) (w : World) (hr : RS encV 2 w w.heap.size A f) (hl : f.length ≤ 100) (hf : ∀ v ∈ f, VB v 500000) (hp : VB push 1000000000000) :
    Calls Try.prog 58 #[.slice A f.length c, .agg #[.int .i64 push.x, .int .i64 push.y]] w fun e w' => e = .returned (.bool b) ∧ Below w.heap.size w w' := by rw [← hb]; exact refBalances_any A c f push w hr hl hf hp

set_option maxRecDepth 100000 in
set_option maxHeartbeats 2000000 in
/-- The reference's first head and corner that are not balanced are the program's. -/
theorem refWeakest_any (A : Option Addr) (c : Nat) (l : List Tst) (A' : Option Addr) (c' : Nat) (t : List Head) (A2 : Option Addr) (c2 : Nat) (wind : List Vec) (w : World) (hr : RS encT 4 w w.heap.size A l) (hl : l.length ≤ maxLen) (ht : RH w w.heap.size A' t) (htl : t.length ≤ maxLen) (hw : RS encV 2 w w.heap.size A2 wind) (hwl : wind.length ≤ maxLen) (hok : ∀ x ∈ l, x.ok = true) (htok : ∀ x ∈ t, x.ok = true) (hwb : ∀ v ∈ wind, VB v 10000) :
    Calls Try.prog 57 #[.slice A l.length c, .slice A' t.length c', .slice A2 wind.length c2] w fun e w' => e = .returned (.tuple #[.int .i64 (wkI l t wind), .int .i64 (wkK l t wind)]) ∧ Below w.heap.size w w' := by
  have Hok := Lib.hid hok
  have Htok := Lib.hid htok
  have Hwb := Lib.hid hwb
  have HI : Hid (∀ k h m, wkO l t wind = some k → t[k]? = some h → cornerO h.area (forcesM l h) wind = some m → wkI l t wind = k ∧ wkK l t wind = m) := by
    show ∀ k h m, _
    intro k h m e1 e2 e3
    unfold wkI wkK cornerI
    rw [e1]; simp [e2, e3]
  have HN : Hid (wkO l t wind = none → wkI l t wind = -1 ∧ wkK l t wind = -1) := by
    show _ → _
    intro e1
    unfold wkI wkK
    rw [e1]
    exact ⟨rfl, rfl⟩
  have hwl' := hwl
  have htl' := htl
  unfold maxLen at hwl' htl'
  clear hok htok hwb
  go_enter Try.func57, Try.ntmps57
  go_wp2
  go_loopw [8] (fun i wr => ∃ k : Nat, k ≤ t.length ∧ i = .int .i64 k ∧ find1 (headBad l wind) (t.drop k) k = wkO l t wind ∧ Below w.heap.size w wr) (fun i _ => t.length - (intOf i).toNat)
  case atStart => exact ⟨0, by omega, rfl, rfl, Below.refl _ _⟩
  case round =>
    obtain ⟨k, hk, rfl, hfind, hB⟩ := hrel
    have Hfind := Lib.hid hfind
    clear hfind
    by_cases hlt : k < t.length
    · obtain ⟨h, hh⟩ := getElem?_lt hlt
      have Hhk := Lib.hid (Htok.out h (List.mem_of_getElem? hh))
      obtain ⟨f, hf⟩ : ∃ f, forcesM l h = f := ⟨_, rfl⟩
      obtain ⟨hfl, hfv⟩ := forces_in hf Hok.out Hhk.out
      have Hf := Lib.hid hf
      have Hfv := Lib.hid hfv
      have har := Head.area_in Hhk.out
      have Har := Lib.hid har
      obtain ⟨b, off, A3, c3, rfl, hb, x0, x1, x2, hg1, hg2, hg⟩ := (ht.below hB (Nat.le_refl _)).at_ hh
      have Hh := Lib.hid hh
      unfold maxLen at hg2
      have HFo : Hid (∀ W, RS encT 4 W W.heap.size A l → RS encG 5 W W.heap.size A3 h.guys → Calls Try.prog 27 #[.slice A l.length c, .agg #[.int .i64 h.area, .int .i64 h.bears, .slice A3 h.guys.length c3]] W fun e w' => ∃ A1 c1, e = .returned (.slice A1 f.length c1) ∧ RS encV 2 w' w'.heap.size A1 f ∧ Below W.heap.size W w') := by
        show ∀ W, _
        intro W h1 h2
        refine (refForces_any A c l A3 c3 h W h1 hl Hok.out Hhk.out h2).mono ?_
        rintro e w' ⟨A1, c1, rfl, h3, h4⟩
        subst hf
        exact ⟨A1, c1, by rw [forcesM_length], h3, h4⟩
      clear hh hf hfv
      go_wp2_with (go_at_call 27; refine (HFo.out _ (hr.to hB) (hg.more hB.size)).mono ?_; rintro e w1 ⟨A1, c1, rfl, hrs, hb1⟩)
      have hB1 := hB.trans (hb1.mono hB.size)
      clear hg x0 x1 x2 hB
      go_loopw [10] (fun i wr => ∃ m : Nat, m ≤ wind.length ∧ i = .int .i64 m ∧ find1 (badB h.area f) (wind.drop m) m = cornerO h.area f wind ∧ Below w1.heap.size w1 wr) (fun i _ => wind.length - (intOf i).toNat)
      case atStart => exact ⟨0, by omega, rfl, rfl, Below.refl _ _⟩
      case round =>
        obtain ⟨m, hm, rfl, hfind, hBi⟩ := hrel
        have Hfind2 := Lib.hid hfind
        have hBw := hB1.trans (hBi.mono hB1.size)
        clear hfind
        by_cases hlt2 : m < wind.length
        · obtain ⟨p, hp⟩ := getElem?_lt hlt2
          have pb := Hwb.out p (List.mem_of_getElem? hp)
          have ppb := pb.times (n := h.area) (q := 1000) (by omega)
          have p1 : Sm (h.area * p.x) := by have := ppb.1; simp only [Vec.times] at this; unfold Sm; omega
          have p2 : Sm (h.area * p.y) := by have := ppb.2; simp only [Vec.times] at this; unfold Sm; omega
          have Ppb := Lib.hid (ppb.mono (q := 1000000000000) (by omega))
          obtain ⟨b2, off2, rfl, hb2, hc⟩ := (hw.below hBw (Nat.le_refl _)).at_ hp
          have y0 := hc 0 _ rfl
          have y1 := hc 1 _ rfl
          simp only [Nat.add_zero] at y0
          obtain ⟨b', off', A4, c4, hA, _, x0, x1, x2, _, _, _⟩ := (ht.below hBw (Nat.le_refl _)).at_ Hh.out
          obtain ⟨rfl, rfl⟩ : b = b' ∧ off = off' := by simpa using hA
          have Hp := Lib.hid hp
          obtain ⟨v, hv⟩ : ∃ v, balancesB f (p.times h.area) = v := ⟨_, rfl⟩
          have Hbad : Hid (badB h.area f p = !v) := by show _ = _; rw [bad_bal Hfv.out, hv]
          have Hv := Lib.hid hv
          have hbz : b < wr.heap.size := by have := hBw.size; omega
          have hbz2 : b2 < wr.heap.size := by have := hBw.size; omega
          clear hp hc hA hv pb ppb x1 x2 har
          go_wp2
          refine name_world (motive := fun W => Code.wp _ _ _ _ W) _ ?_
          intro W0 hW
          have hWc := hW.cell
          have hWz := hW.size
          have hWb := hW.below (Below.refl wr.heap.size wr)
          have hrf1 : RS encV 2 W0 W0.heap.size A1 f := by rw [hW.eq.out]; exact hrs.to hBi
          go_region_held3 (fun w' => (∀ b o, b < W0.heap.size → w'.cell? ⟨b, o, none⟩ = W0.cell? ⟨b, o, none⟩) ∧ Below W0.heap.size W0 w') (first | with_reducible exact sh_refl _ | (with_reducible refine sh_of ?_; with_reducible assumption) | (with_reducible refine sh_alloc ?_ _; with_reducible assumption) | with_reducible exact sh_first _ _)
            (first | (go_at_call 28; go_split_ands; have hS1 : Below W0.heap.size W0 _ := (by with_reducible assumption); refine (refTimes_any p h.area _ p1 p2).mono ?_; rintro e w1 ⟨rfl, hb1⟩; have hB1 := sh_next hS1 hb1) | (go_at_call 58; go_split_ands; have hS2 : Below W0.heap.size W0 _ := (by with_reducible assumption); refine (refBalances_val Hv.out A1 c1 _ (hrf1.to hS2) (by omega) Hfv.out Ppb.out).mono ?_; rintro e w2 ⟨rfl, hb2⟩; have hB2 := sh_next hS2 hb2))
          cases v
          · go_wp2
            go_ret2
            have h1 : cornerO h.area f wind = some m := Hfind2.out.symm.trans (find1_hit Hp.out Hbad.out)
            have h2 : headBad l wind h = true := by unfold headBad headStands; rw [Hf.out, h1]; rfl
            obtain ⟨h3, h4⟩ := HI.out k h m (Hfind.out.symm.trans (find1_hit Hh.out h2)) Hh.out (by rw [Hf.out]; exact h1)
            refine ⟨ret_two h3.symm h4.symm, ?_⟩
            exact hBw.trans ((hWb.trans (hB2.mono hWb.size)).mono hBw.size)
          · go_wp2
            refine ⟨⟨m + 1, by omega, by go_num, (find1_miss Hp.out Hbad.out).symm.trans Hfind2.out, hBi.trans ((hWb.trans (hB2.mono hWb.size)).mono hBi.size)⟩, by simp [intOf]; omega⟩
        · go_wp2
          have h1 : cornerO h.area f wind = none := Hfind2.out.symm.trans (find1_end (by omega))
          have h2 : headBad l wind h = false := by unfold headBad headStands; rw [Hf.out, h1]; rfl
          refine ⟨⟨k + 1, by omega, by go_num, (find1_miss Hh.out h2).symm.trans Hfind.out, hBw⟩, by simp [intOf]; omega⟩
    · go_wp2
      go_ret2
      obtain ⟨h3, h4⟩ := HN.out (Hfind.out.symm.trans (find1_end (by omega)))
      exact ⟨ret_two h3.symm h4.symm, hB⟩
end Go.Proofs.Ytibaindlbpfecaa
