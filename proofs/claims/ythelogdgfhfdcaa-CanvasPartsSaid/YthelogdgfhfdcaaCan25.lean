import Derived.Test.YthelogdgfhfdcaaCan24
namespace Go.Proofs.Ythelogdgfhfdcaa
open Go.RowKit

def badB (a : Int) (f : List Vec) (p : Vec) : Bool := decide (weakM f (p.times a) ≠ vecZ)
def cornerO (a : Int) (f : List Vec) (wind : List Vec) : Option Nat := find1 (badB a f) wind 0
def cornerI (a : Int) (f : List Vec) (wind : List Vec) : Int := match cornerO a f wind with | some k => k | none => -1
def cornerW (a : Int) (f : List Vec) (wind : List Vec) : Vec := match cornerO a f wind with | some k => weakM f (((wind[k]?).getD vecZ).times a) | none => vecZ
theorem vecZ_iff {v : Vec} : v = vecZ ↔ v.x = 0 ∧ v.y = 0 := by
  obtain ⟨x, y⟩ := v
  simp [vecZ]

set_option maxRecDepth 100000 in
set_option maxHeartbeats 1000000 in
theorem weakCorner_any (h : Head) (A1 A2 A3 : Option Addr) (c1 c2 c3 : Nat) (f wind : List Vec) (w : World) (hr : RS encV 2 w w.heap.size A1 f) (hl : f.length ≤ 8) (hf : ∀ v ∈ f, VB v 500000) (ha : 0 ≤ h.area ∧ h.area ≤ 1000) (hrw : RS encV 2 w w.heap.size A3 wind) (hwl : wind.length ≤ maxLen) (hw : ∀ v ∈ wind, VB v 10000) :
    Calls Try.prog 83 #[.agg #[.int .i64 h.area, .int .i64 h.bears, .slice A2 h.guys.length c2, .slice A1 f.length c1], .slice A3 wind.length c3] w fun e w' => e = .returned (.tuple #[.int .i64 (cornerI h.area f wind), .agg #[.int .i64 (cornerW h.area f wind).x, .int .i64 (cornerW h.area f wind).y]]) ∧ Below w.heap.size w w' := by
  unfold maxLen at hwl
  have Hf := Lib.hid hf
  have Hw := Lib.hid hw
  have HI : Hid (∀ o, cornerO h.area f wind = o → cornerI h.area f wind = (match o with | some k => (k : Int) | none => -1) ∧ cornerW h.area f wind = (match o with | some k => weakM f (((wind[k]?).getD vecZ).times h.area) | none => vecZ)) := by
    show ∀ o, _; intro o e; subst e; exact ⟨rfl, rfl⟩
  have hB0 := ((Below.refl w.heap.size w).alloc (Nat.le_refl _) (.cells #[.int .i64 h.area, .int .i64 h.bears, .slice A2 h.guys.length c2, .slice A1 f.length c1] 137)).alloc (by simp) (.cells #[.int .i64 0, .int .i64 0] 74)
  have kM := (Blk.new w 137 #[.int .i64 h.area, .int .i64 h.bears, .slice A2 h.guys.length c2, .slice A1 f.length c1]).alloc (.cells #[.int .i64 0, .int .i64 0] 74)
  have kR := Blk.new (w.alloc (.cells #[.int .i64 h.area, .int .i64 h.bears, .slice A2 h.guys.length c2, .slice A1 f.length c1] 137)) 74 #[.int .i64 0, .int .i64 0]
  have hro := (hr.below hB0 (Nat.le_refl _)).more hB0.size
  have hwo := (hrw.below hB0 (Nat.le_refl _)).more hB0.size
  simp only [World.size_alloc] at kR
  clear hf hw hr hrw
  go_enter Try.func83, Try.ntmps83
  go_wp2
  generalize hWo : (w.alloc (.cells #[.int .i64 h.area, .int .i64 h.bears, .slice A2 h.guys.length c2, .slice A1 f.length c1] 137)).alloc (.cells #[.int .i64 0, .int .i64 0] 74) = wo at *
  clear hWo
  go_loopw [11] (fun i wr => ∃ k : Nat, k ≤ wind.length ∧ i = .int .i64 k ∧ find1 (badB h.area f) (wind.drop k) k = cornerO h.area f wind ∧ Below wo.heap.size wo wr) (fun i _ => wind.length - (intOf i).toNat)
  case atStart => exact ⟨0, by omega, rfl, rfl, Below.refl _ _⟩
  case round =>
    obtain ⟨k, hk, rfl, hfind, hB⟩ := hrel
    have Hfind := Lib.hid hfind
    clear hfind
    have hbz := hB.size
    have kMw := kM.below hB kM.lt
    have kRw := kR.below hB kR.lt
    have mz := kMw.lt
    have rz := kRw.lt
    by_cases hlt : k < wind.length
    · obtain ⟨p, hp⟩ := getElem?_lt hlt
      have pb := Lib.hid (Hw.out p (List.mem_of_getElem? hp))
      obtain ⟨b, off, rfl, hb, hc⟩ := (hwo.below hB (Nat.le_refl _)).at_ hp
      have y0 := hc 0 _ rfl
      have y1 := hc 1 _ rfl
      simp only [Nat.add_zero] at y0
      have Hp := Lib.hid hp
      have m0 := kMw.cell 0
      have m1 := kMw.cell 1
      have m2 := kMw.cell 2
      have m3 := kMw.cell 3
      simp at m0 m1 m2 m3
      have hBa := (Below.refl _ wr).alloc (Nat.le_refl _) (.cells #[.int .i64 p.x, .int .i64 p.y] 74)
      have hrr := (hro.to hB).to hBa
      have kRa := kRw.alloc (.cells #[.int .i64 p.x, .int .i64 p.y] 74)
      clear hp hc kMw kM kR kRw hro hwo
      have hv := fun W hW => weakness_any h A1 A2 c1 c2 f p W hW (by omega) Hf.out ha pb.out
      obtain ⟨u, hu⟩ : ∃ u, weakM f (p.times h.area) = u := ⟨_, rfl⟩
      rw [hu] at hv
      have Hu := Lib.hid hu
      have Hv := Lib.hid hv
      clear hv hu
      by_cases hz : u.x = 0 ∧ u.y = 0
      · have e1 : (u.x == 0) = true := by simpa using hz.1
        have e2 : (u.y == 0) = true := by simpa using hz.2
        have Hb : Hid (badB h.area f p = false) := by show _ = _; unfold badB; rw [Hu.out]; simp [vecZ_iff, hz]
        clear hz
        go_wp2_with (go_at_call 113; refine (Hv.out _ hrr).mono ?_; rintro e w1 ⟨rfl, hb1⟩; have hz1 := hb1.size)
        go_roundw
        case rel => exact ⟨k + 1, by omega, by go_num, (find1_miss Hp.out Hb.out).symm.trans Hfind.out, ((hB.trans (hBa.mono hbz)).trans (hb1.mono (by have := hBa.size; omega))).alloc (by simp at hz1; omega) _⟩
        case measure => simp [intOf]; omega
      · have ee : (u.x == 0) = false ∨ ((u.x == 0) = true ∧ (u.y == 0) = false) := by simp; omega
        have Hb : Hid (badB h.area f p = true) := by show _ = _; unfold badB; rw [Hu.out]; simp [vecZ_iff, hz]
        clear hz
        rcases ee with e1 | ⟨e1, e2⟩
        all_goals
          go_wp2_with (go_at_call 113; refine (Hv.out _ hrr).mono ?_; rintro e w1 ⟨rfl, hb1⟩; have hz1 := hb1.size; have kR1 := (kRa.below hb1 kRa.lt).alloc (.cells #[.int .i64 u.x, .int .i64 u.y] 74); have f0 := kR1.frozen 0; have f1 := kR1.frozen 1; have q0 := kR1.cell 0; have q1 := kR1.cell 1; have rz1 := kR1.lt; simp at q0 q1 hz1)
          go_region
          all_goals
            go_wp2
            have bf := ((kR1.set_ 0 (.int .i64 u.x)).set_ 1 (.int .i64 u.y)).drew
            have v0 := bf.cell 0
            have v1 := bf.cell 1
            simp at v0 v1
            have ho : cornerO h.area f wind = some k := Hfind.out.symm.trans (find1_hit Hp.out Hb.out)
            obtain ⟨hi, hj⟩ := HI.out _ ho
            refine bodyPost_ret (v := .tuple #[.int .i64 k, .agg #[.int .i64 u.x, .int .i64 u.y]]) (by simp [results, Try.results83, go_sem, v0, v1]) rfl ⟨by rw [hi, hj]; simp [Hp.out, Hu.out], ?_⟩
            have hBt := hB0.trans ((((hB.trans (hBa.mono hbz)).trans (hb1.mono (by have := hBa.size; omega))).alloc (by omega) (.cells #[.int .i64 u.x, .int .i64 u.y] 74)).mono hB0.size)
            exact ((hBt.setCell (by show w.heap.size ≤ w.heap.size + 1; omega) _).setCell (by show w.heap.size ≤ w.heap.size + 1; omega) _).drew
    · obtain rfl : k = wind.length := by omega
      have f0 := kRw.frozen 0
      have f1 := kRw.frozen 1
      have q0 := kRw.cell 0
      have q1 := kRw.cell 1
      simp at q0 q1
      go_wp2
      have bf := (kRw.set_ 0 (.int .i64 0)).set_ 1 (.int .i64 0)
      have v0 := bf.cell 0
      have v1 := bf.cell 1
      simp at v0 v1
      have ho : cornerO h.area f wind = none := Hfind.out.symm.trans (find1_end (by omega))
      obtain ⟨hi, hj⟩ := HI.out _ ho
      refine bodyPost_ret (v := .tuple #[.int .i64 (-1), .agg #[.int .i64 0, .int .i64 0]]) (by simp [results, Try.results83, go_sem, v0, v1]) rfl ⟨by rw [hi, hj]; rfl, ?_⟩
      have hBt := hB0.trans (hB.mono hB0.size)
      exact (hBt.setCell (by show w.heap.size ≤ w.heap.size + 1; omega) _).setCell (by show w.heap.size ≤ w.heap.size + 1; omega) _
end Go.Proofs.Ythelogdgfhfdcaa
