import Derived.Test.YtibaindlbpfecaaGeoA
import Derived.Test.YtibaindlbpfecaaCanE
import Derived.Test.YtibaindlbpfecaaCanB
import Derived.Test.YtibaindlbpfecaaCanC

namespace Go.Proofs.Ytibaindlbpfecaa
open Go.RowKit

def headBad (l : List Tst) (wind : List Vec) (h : Head) : Bool := !headStands l wind h
/-- The first head that has a corner that it does not balance. -/
def wkO (l : List Tst) (t : List Head) (wind : List Vec) : Option Nat := find1 (headBad l wind) t 0
def wkI (l : List Tst) (t : List Head) (wind : List Vec) : Int := match wkO l t wind with | some k => k | none => -1
def wkK (l : List Tst) (t : List Head) (wind : List Vec) : Int := match wkO l t wind with | some k => (match t[k]? with | some h => cornerI h.area (forcesM l h) wind | none => -1) | none => -1
def wkW (l : List Tst) (t : List Head) (wind : List Vec) : Vec := match wkO l t wind with | some k => (match t[k]? with | some h => cornerW h.area (forcesM l h) wind | none => vecZ) | none => vecZ
theorem stands_none {l : List Tst} {t : List Head} {wind : List Vec} : standsB l t wind = true ↔ wkO l t wind = none := by
  unfold standsB wkO
  rw [find1_iff, List.all_eq_true]
  unfold headBad
  simp
theorem corner_neg {a : Int} {f wind : List Vec} : (cornerI a f wind < 0 ↔ cornerO a f wind = none) ∧ (cornerO a f wind = none → cornerI a f wind = -1 ∧ cornerW a f wind = vecZ) := by
  unfold cornerI cornerW
  cases cornerO a f wind with
  | none => simp
  | some k => simp <;> omega
theorem headBad_neg {l : List Tst} {wind : List Vec} {h : Head} : headBad l wind h = false ↔ cornerI h.area (forcesM l h) wind < 0 := by
  unfold headBad headStands
  rw [corner_neg.1]
  simp
theorem windE_ok {wind : List Vec} (h : windE wind = 0) : (1 ≤ wind.length ∧ wind.length ≤ 12) ∧ ∀ v ∈ wind, VB v 10000 := by
  unfold windE at h
  split at h
  · rename_i h1
    simp only [windOk, Bool.and_eq_true, decide_eq_true_eq, List.all_eq_true] at h1
    exact ⟨⟨h1.1, h1.2.1⟩, fun v hv => Vec.corner_iff.1 (h1.2.2 v hv)⟩
  · cases h
theorem windyE_zero {l : List Tst} {t : List Head} {wind : List Vec} (h : windyE l t wind = 0) : testsFault l = 0 ∧ tentE t = 0 ∧ windE wind = 0 ∧ agreeE l = 0 := by
  unfold windyE firstE at h
  simp only [orM] at h
  by_cases h1 : testsFault l = 0
  · by_cases h2 : tentE t = 0
    · by_cases h3 : windE wind = 0
      · simp [h1, h2, h3] at h; exact ⟨h1, h2, h3, h⟩
      · simp [h1, h2, h3] at h
    · simp [h1, h2] at h
  · simp [h1] at h
theorem tentE_ok {t : List Head} (h : tentE t = 0) : (1 ≤ t.length ∧ t.length ≤ 12) ∧ ∀ x ∈ t, x.ok = true := by
  unfold tentE at h
  split at h
  · rename_i h1
    simp only [tentOk, Bool.and_eq_true, decide_eq_true_eq, List.all_eq_true] at h1
    exact ⟨⟨h1.1, h1.2.1⟩, h1.2.2⟩
  · cases h
theorem Weakest_err (A : Option Addr) (c : Nat) (l : List Tst) (A' : Option Addr) (c' : Nat) (t : List Head) (A2 : Option Addr) (c2 : Nat) (wind : List Vec) (z : Int) (hz : z ≠ 0) (w : World) (hr : RS encT 4 w w.heap.size A l) (hl : l.length ≤ maxLen) (ht : RH w w.heap.size A' t) (htl : t.length ≤ maxLen) (hw : RS encV 2 w w.heap.size A2 wind) (hwl : wind.length ≤ maxLen) (hE : windyE l t wind = z) :
    Calls Try.prog 42 #[.slice A l.length c, .slice A' t.length c', .slice A2 wind.length c2] w fun e w' => e = .returned (.tuple #[.int .i64 0, .int .i64 0, .agg #[.int .i64 0, .int .i64 0], .int .i64 z]) ∧ Below w.heap.size w w' := by
  have e0 : (z != 0) = true := by simpa using hz
  have hB1 := (Below.refl w.heap.size w).alloc (Nat.le_refl _) (.cells #[.int .i64 0, .int .i64 0] 58)
  have kR := Blk.new w 58 #[.int .i64 0, .int .i64 0]
  have hr1 := hr.to hB1
  have ht1 := ht.to hB1
  have hw1 := hw.to hB1
  have Hv := Lib.hid (fun W hr ht hw => hE ▸ checkWindy_any A c l A' c' t A2 c2 wind W hr hl ht htl hw hwl)
  clear hr ht hw hE hz
  go_enter Try.func42, Try.ntmps42
  go_wp2_with ((go_at_call 80; refine (Hv.out _ hr1 ht1 hw1).mono ?_; rintro e w1 ⟨rfl, hb1⟩; obtain ⟨hc1, hf1⟩ := bcell hb1; have hz1 : w.heap.size < w1.heap.size := (by have := hb1.size; (try simp at this); omega)); have kR1 := kR.below hb1 (by simp); have q0 := kR1.cell 0; have q1 := kR1.cell 1; have f0 := kR1.frozen 0; have f1 := kR1.frozen 1; have rz1 := kR1.lt; simp at q0 q1)
  have bf := (kR1.set_ 0 (.int .i64 0)).set_ 1 (.int .i64 0)
  have v0 := bf.cell 0
  have v1 := bf.cell 1
  simp at v0 v1
  refine bodyPost_ret (v := .tuple #[.int .i64 0, .int .i64 0, .agg #[.int .i64 0, .int .i64 0], .int .i64 z]) (by simp [results, Try.results42, go_sem, v0, v1]) rfl ⟨rfl, ?_⟩
  exact ((hB1.trans (hb1.mono (by simp))).setCell (p := ⟨w.heap.size, 0, none⟩) (by dsimp only; omega) _).setCell (p := ⟨w.heap.size, 1, none⟩) (by dsimp only; omega) _

set_option maxRecDepth 100000 in
set_option maxHeartbeats 2000000 in
theorem Weakest_ok (A : Option Addr) (c : Nat) (l : List Tst) (A' : Option Addr) (c' : Nat) (t : List Head) (A2 : Option Addr) (c2 : Nat) (wind : List Vec) (w : World) (hr : RS encT 4 w w.heap.size A l) (hl : l.length ≤ maxLen) (ht : RH w w.heap.size A' t) (htl : t.length ≤ maxLen) (hw : RS encV 2 w w.heap.size A2 wind) (hwl : wind.length ≤ maxLen) (hE : windyE l t wind = 0) :
    Calls Try.prog 42 #[.slice A l.length c, .slice A' t.length c', .slice A2 wind.length c2] w fun e w' => e = .returned (.tuple #[.int .i64 (wkI l t wind), .int .i64 (wkK l t wind), .agg #[.int .i64 (wkW l t wind).x, .int .i64 (wkW l t wind).y], .int .i64 0]) ∧ Below w.heap.size w w' := by
  obtain ⟨hz1, hz2, hz3, _⟩ := windyE_zero hE
  have Hok := Lib.hid (testsFault_ok hz1).1
  have Htok := Lib.hid (tentE_ok hz2).2
  have ht12 := (tentE_ok hz2).1.2
  have Hwb := Lib.hid (windE_ok hz3).2
  have HI : Hid (∀ k h, wkO l t wind = some k → t[k]? = some h → wkI l t wind = k ∧ wkK l t wind = cornerI h.area (forcesM l h) wind ∧ wkW l t wind = cornerW h.area (forcesM l h) wind) := by
    show ∀ k h, _
    intro k h e1 e2
    unfold wkI wkK wkW
    rw [e1]; simp [e2]
  have HN : Hid (wkO l t wind = none → wkI l t wind = -1 ∧ wkK l t wind = -1 ∧ wkW l t wind = vecZ) := by
    show _ → _
    intro e1
    unfold wkI wkK wkW
    rw [e1]
    exact ⟨rfl, rfl, rfl⟩
  have hB1 := (Below.refl w.heap.size w).alloc (Nat.le_refl _) (.cells #[.int .i64 0, .int .i64 0] 58)
  have kR := Blk.new w 58 #[.int .i64 0, .int .i64 0]
  have hr0 := hr.to hB1
  have ht0 := ht.to hB1
  have hw0 := hw.to hB1
  have Hv := Lib.hid (fun W hr ht hw => hE ▸ checkWindy_any A c l A' c' t A2 c2 wind W hr hl ht htl hw hwl)
  clear hr ht hw hE hz1 hz2 hz3
  go_enter Try.func42, Try.ntmps42
  go_wp2_with ((go_at_call 80; refine (Hv.out _ hr0 ht0 hw0).mono ?_; rintro e w1 ⟨rfl, hb1⟩; obtain ⟨hc1, hf1⟩ := bcell hb1; have hz1 : w.heap.size < w1.heap.size := (by have := hb1.size; (try simp at this); omega)))
  have kR1 := kR.below hb1 (by simp)
  have hBt := hB1.trans (hb1.mono (by simp))
  have hr1 := hr0.to hb1
  have ht1 := ht0.to hb1
  have hw1 := hw0.to hb1
  clear hc1 hf1 hr0 ht0 hw0 hb1 kR hB1
  go_loopw [25] (fun i wr => ∃ k : Nat, k ≤ t.length ∧ i = .int .i64 k ∧ find1 (headBad l wind) (t.drop k) k = wkO l t wind ∧ Below w1.heap.size w1 wr) (fun i _ => t.length - (intOf i).toNat)
  case atStart => exact ⟨0, by omega, rfl, rfl, Below.refl _ _⟩
  case round =>
    obtain ⟨k, hk, rfl, hfind, hB⟩ := hrel
    have Hfind := Lib.hid hfind
    clear hfind
    have hBz := hB.size
    have kRw := kR1.below hB kR1.lt
    have rz := kRw.lt
    by_cases hlt : k < t.length
    · obtain ⟨h, hh⟩ := getElem?_lt hlt
      have Hhk := Lib.hid (Htok.out h (List.mem_of_getElem? hh))
      obtain ⟨f, hf⟩ : ∃ f, forcesM l h = f := ⟨_, rfl⟩
      obtain ⟨hfl, hfv⟩ := forces_in hf Hok.out Hhk.out
      have Hf := Lib.hid hf
      have Hfv := Lib.hid hfv
      have Har := Lib.hid (Head.area_in Hhk.out)
      obtain ⟨b, off, A3, c3, rfl, hb, x0, x1, x2, hg1, hg2, hg⟩ := (ht1.below hB (Nat.le_refl _)).at_ hh
      have Hh := Lib.hid hh
      unfold maxLen at hg2
      obtain ⟨z, hz⟩ : ∃ z, cornerI h.area f wind = z := ⟨_, rfl⟩
      obtain ⟨u, hu⟩ : ∃ u, cornerW h.area f wind = u := ⟨_, rfl⟩
      have hBa := (Below.refl _ wr).alloc (Nat.le_refl _) (.cells #[.int .i64 h.area, .int .i64 h.bears, .slice A3 h.guys.length c3] 43)
      have hgg := (hg.more hBz).to hBa
      have hrr := (hr1.to hB).to hBa
      have hww := (hw1.to hB).to hBa
      have kRa := kRw.alloc (.cells #[.int .i64 h.area, .int .i64 h.bears, .slice A3 h.guys.length c3] 43)
      have Hc := Lib.hid (fun W A1 c1 hrs hww => hz ▸ hu ▸ weakCorner_any h A1 A3 A2 c1 c3 c2 f wind W hrs hfl hfv Har.out hww hwl Hwb.out)
      have Hz := Lib.hid hz
      have Hu := Lib.hid hu
      clear hh hg hf hfv hz hu ht1 hr1 hw1 kR1
      by_cases h0 : 0 ≤ z
      · have Hb : Hid (headBad l wind h = true) := by
          show _ = _
          rw [← Bool.not_eq_false, headBad_neg, Hf.out, Hz.out]; omega
        go_wp2_with (first | (go_at_call 63; refine (measureV_any A c l A3 c3 h f Hf.out _ hrr hl Hok.out Hhk.out hgg).mono ?_; rintro e w2 ⟨A4, c4, rfl, hrs, q1, q2, hb2⟩; have hww2 := hww.to hb2; have kR2 := kRa.below hb2 kRa.lt) | (go_at_call 79; refine (Hc.out _ A4 c4 hrs hww2).mono ?_; rintro e w3 ⟨rfl, hb3⟩; have kR3 := (kR2.below hb3 kR2.lt).alloc (.cells #[.int .i64 u.x, .int .i64 u.y] 58); have f0 := kR3.frozen 0; have f1 := kR3.frozen 1; have q0 := kR3.cell 0; have q1 := kR3.cell 1; have rz3 := kR3.lt; simp at q0 q1; have hz2 := hb2.size; have hz3 := hb3.size))
        go_region
        all_goals
          go_wp2
          have bf := ((kR3.set_ 0 (.int .i64 u.x)).set_ 1 (.int .i64 u.y)).drew
          have v0 := bf.cell 0
          have v1 := bf.cell 1
          simp at v0 v1
          have ho : wkO l t wind = some k := Hfind.out.symm.trans (find1_hit Hh.out Hb.out)
          obtain ⟨hi, hj, hw'⟩ := HI.out k h ho Hh.out
          refine bodyPost_ret (v := .tuple #[.int .i64 k, .int .i64 z, .agg #[.int .i64 u.x, .int .i64 u.y], .int .i64 0]) (by simp [results, Try.results42, go_sem, v0, v1]) rfl ⟨by rw [hi, hj, hw', Hf.out, Hz.out, Hu.out], ?_⟩
          have hB3 := hBt.trans (((hB.trans (hBa.mono hBz)).trans ((hb2.trans (hb3.mono hz2)).mono (by have := hBa.size; omega))).mono hBt.size)
          have hB4 := hB3.alloc hB3.size (.cells #[.int .i64 u.x, .int .i64 u.y] 58)
          exact ((hB4.setCell (by show w.heap.size ≤ w.heap.size; omega) _).setCell (by show w.heap.size ≤ w.heap.size; omega) _).drew
      · have Hb : Hid (headBad l wind h = false) := by
          show _ = _
          rw [headBad_neg, Hf.out, Hz.out]; omega
        go_wp2_with (first | (go_at_call 63; refine (measureV_any A c l A3 c3 h f Hf.out _ hrr hl Hok.out Hhk.out hgg).mono ?_; rintro e w2 ⟨A4, c4, rfl, hrs, q1, q2, hb2⟩; have hww2 := hww.to hb2) | (go_at_call 79; refine (Hc.out _ A4 c4 hrs hww2).mono ?_; rintro e w3 ⟨rfl, hb3⟩; have hz2 := hb2.size; have hz3 := hb3.size))
        have hB3 := (hB.trans (hBa.mono hBz)).trans ((hb2.trans (hb3.mono hz2)).mono (by have := hBa.size; omega))
        refine ⟨⟨k + 1, by omega, by go_num, (find1_miss Hh.out Hb.out).symm.trans Hfind.out, hB3.alloc hB3.size _⟩, by simp [intOf]; omega⟩
    · obtain rfl : k = t.length := by omega
      have f0 := kRw.frozen 0
      have f1 := kRw.frozen 1
      have q0 := kRw.cell 0
      have q1 := kRw.cell 1
      simp at q0 q1
      go_wp2
      have bf := (kRw.set_ 0 (.int .i64 0)).set_ 1 (.int .i64 0)
      have v0 := bf.cell 0
      have v1 := bf.cell 1
      simp at v0 v1
      have ho : wkO l t wind = none := Hfind.out.symm.trans (find1_end (by omega))
      obtain ⟨hi, hj, hw'⟩ := HN.out ho
      refine bodyPost_ret (v := .tuple #[.int .i64 (-1), .int .i64 (-1), .agg #[.int .i64 0, .int .i64 0], .int .i64 0]) (by simp [results, Try.results42, go_sem, v0, v1]) rfl ⟨by rw [hi, hj, hw']; rfl, ?_⟩
      have hB3 := hBt.trans (hB.mono hBt.size)
      exact (hB3.setCell (by show w.heap.size ≤ w.heap.size; omega) _).setCell (by show w.heap.size ≤ w.heap.size; omega) _

/-- The law's question whether a tent stands, where nothing is at fault. -/
theorem stands_ok {b : Bool} (A : Option Addr) (c : Nat) (l : List Tst) (A' : Option Addr) (c' : Nat) (t : List Head) (A2 : Option Addr) (c2 : Nat) (wind : List Vec) (hs : standsB l t wind = b) (w : World) (hr : RS encT 4 w w.heap.size A l) (hl : l.length ≤ maxLen) (ht : RH w w.heap.size A' t) (htl : t.length ≤ maxLen) (hw : RS encV 2 w w.heap.size A2 wind) (hwl : wind.length ≤ maxLen) (hE : windyE l t wind = 0) :
    Calls Try.prog 16 #[.slice A l.length c, .slice A' t.length c', .slice A2 wind.length c2] w fun e w' => e = .returned (.bool b) ∧ Below w.heap.size w w' := by
  have hv := fun W hr ht hw => Weakest_ok A c l A' c' t A2 c2 wind W hr hl ht htl hw hwl hE
  cases b with
  | true =>
    have ho := stands_none.1 hs
    have e1 : wkI l t wind = -1 := by unfold wkI; rw [ho]
    have e2 : wkK l t wind = -1 := by unfold wkK; rw [ho]
    have e3 : wkW l t wind = vecZ := by unfold wkW; rw [ho]
    rw [e1, e2, e3] at hv
    have Hv := Lib.hid hv
    clear hv e1 e2 e3 ho hs hE
    go_enter Try.func16, Try.ntmps16
    go_wp2_with ((go_at_call 42; refine (Hv.out _ hr ht hw).mono ?_; rintro e w1 ⟨rfl, hb1⟩; obtain ⟨hc1, hf1⟩ := bcell hb1))
    go_ret
    exact ⟨rfl, hb1.alloc hb1.size _⟩
  | false =>
    obtain ⟨k, ho⟩ : ∃ k, wkO l t wind = some k := by
      cases ho : wkO l t wind with
      | none => rw [stands_none.2 ho] at hs; cases hs
      | some k => exact ⟨k, rfl⟩
    have e1 : wkI l t wind = k := by unfold wkI; rw [ho]
    obtain ⟨z, hz⟩ : ∃ z, wkK l t wind = z := ⟨_, rfl⟩
    obtain ⟨u, hu⟩ : ∃ u, wkW l t wind = u := ⟨_, rfl⟩
    rw [e1, hz, hu] at hv
    have Hv := Lib.hid hv
    have e2 : ((k : Int) == -1) = false := by simp <;> omega
    clear hv e1 hz hu ho hs hE
    go_enter Try.func16, Try.ntmps16
    go_wp2_with ((go_at_call 42; refine (Hv.out _ hr ht hw).mono ?_; rintro e w1 ⟨rfl, hb1⟩; obtain ⟨hc1, hf1⟩ := bcell hb1))
    go_ret
    exact ⟨rfl, hb1.alloc hb1.size _⟩
end Go.Proofs.Ytibaindlbpfecaa
