import Derived.Test.YtibaindlbpfecaaCanC
import Derived.Test.YtibaindlbpfecaaBase

namespace Go.Proofs.Ytibaindlbpfecaa
open Go.RowKit

def badB (a : Int) (f : List Vec) (p : Vec) : Bool := decide (weakM f (p.times a) ≠ vecZ)
def cornerO (a : Int) (f : List Vec) (wind : List Vec) : Option Nat := find1 (badB a f) wind 0
def cornerI (a : Int) (f : List Vec) (wind : List Vec) : Int := match cornerO a f wind with | some k => k | none => -1
def cornerW (a : Int) (f : List Vec) (wind : List Vec) : Vec := match cornerO a f wind with | some k => weakM f (((wind[k]?).getD vecZ).times a) | none => vecZ
theorem vecZ_iff {v : Vec} : v = vecZ ↔ v.x = 0 ∧ v.y = 0 := by
  obtain ⟨x, y⟩ := v
  simp [vecZ]

set_option maxRecDepth 100000 in
set_option maxHeartbeats 1000000 in
theorem weakCorner_any (h : Head) (A1 A2 A3 : Option Addr) (c1 c2 c3 : Nat) (f wind : List Vec) (w : World) (hr : RS encV 2 w w.heap.size A1 f) (hl : f.length ≤ 8) (hf : ∀ v ∈ f, VB v 500000) (ha : 0 ≤ h.area ∧ h.area ≤ 1000) (hrw : RS encV 2 w w.heap.size A3 wind) (hwl : wind.length ≤ maxLen) (hw : ∀ v ∈ wind, VB v 10000) :
    Calls Try.prog 79 #[.agg #[.int .i64 h.area, .int .i64 h.bears, .slice A2 h.guys.length c2, .slice A1 f.length c1], .slice A3 wind.length c3] w fun e w' => e = .returned (.tuple #[.int .i64 (cornerI h.area f wind), .agg #[.int .i64 (cornerW h.area f wind).x, .int .i64 (cornerW h.area f wind).y]]) ∧ Below w.heap.size w w' := by
  unfold maxLen at hwl
  have Hf := Lib.hid hf
  have Hw := Lib.hid hw
  have HI : Hid (∀ o, cornerO h.area f wind = o → cornerI h.area f wind = (match o with | some k => (k : Int) | none => -1) ∧ cornerW h.area f wind = (match o with | some k => weakM f (((wind[k]?).getD vecZ).times h.area) | none => vecZ)) := by
    show ∀ o, _; intro o e; subst e; exact ⟨rfl, rfl⟩
  have hB0 := ((Below.refl w.heap.size w).alloc (Nat.le_refl _) (.cells #[.int .i64 h.area, .int .i64 h.bears, .slice A2 h.guys.length c2, .slice A1 f.length c1] 125)).alloc (by simp) (.cells #[.int .i64 0, .int .i64 0] 58)
  have kM := (Blk.new w 125 #[.int .i64 h.area, .int .i64 h.bears, .slice A2 h.guys.length c2, .slice A1 f.length c1]).alloc (.cells #[.int .i64 0, .int .i64 0] 58)
  have kR := Blk.new (w.alloc (.cells #[.int .i64 h.area, .int .i64 h.bears, .slice A2 h.guys.length c2, .slice A1 f.length c1] 125)) 58 #[.int .i64 0, .int .i64 0]
  have hro := (hr.below hB0 (Nat.le_refl _)).more hB0.size
  have hwo := (hrw.below hB0 (Nat.le_refl _)).more hB0.size
  simp only [World.size_alloc] at kR
  clear hf hw hr hrw
  go_enter Try.func79, Try.ntmps79
  go_wp2
  generalize hWo : (w.alloc (.cells #[.int .i64 h.area, .int .i64 h.bears, .slice A2 h.guys.length c2, .slice A1 f.length c1] 125)).alloc (.cells #[.int .i64 0, .int .i64 0] 58) = wo at *
  clear hWo
  go_loopw [11] (fun i wr => ∃ k : Nat, k ≤ wind.length ∧ i = .int .i64 k ∧ find1 (badB h.area f) (wind.drop k) k = cornerO h.area f wind ∧ Below wo.heap.size wo wr) (fun i _ => wind.length - (intOf i).toNat)
  case atStart => exact ⟨0, by omega, rfl, rfl, Below.refl _ _⟩
  case round =>
    obtain ⟨k, hk, rfl, hfind, hB⟩ := hrel
    have Hfind := Lib.hid hfind
    clear hfind
    have hbz := hB.size
    have kMw := kM.below hB kM.lt
    have kRw := kR.below hB kR.lt
    have mz := kMw.lt
    have rz := kRw.lt
    by_cases hlt : k < wind.length
    · obtain ⟨p, hp⟩ := getElem?_lt hlt
      have pb := Lib.hid (Hw.out p (List.mem_of_getElem? hp))
      obtain ⟨b, off, rfl, hb, hc⟩ := (hwo.below hB (Nat.le_refl _)).at_ hp
      have y0 := hc 0 _ rfl
      have y1 := hc 1 _ rfl
      simp only [Nat.add_zero] at y0
      have Hp := Lib.hid hp
      have m0 := kMw.cell 0
      have m1 := kMw.cell 1
      have m2 := kMw.cell 2
      have m3 := kMw.cell 3
      simp at m0 m1 m2 m3
      have hBa := (Below.refl _ wr).alloc (Nat.le_refl _) (.cells #[.int .i64 p.x, .int .i64 p.y] 58)
      have hrr := (hro.to hB).to hBa
      have kRa := kRw.alloc (.cells #[.int .i64 p.x, .int .i64 p.y] 58)
      clear hp hc kMw kM kR kRw hro hwo
      have hv := fun W hW => weakness_any h A1 A2 c1 c2 f p W hW (by omega) Hf.out ha pb.out
      obtain ⟨u, hu⟩ : ∃ u, weakM f (p.times h.area) = u := ⟨_, rfl⟩
      rw [hu] at hv
      have Hu := Lib.hid hu
      have Hv := Lib.hid hv
      clear hv hu
      by_cases hz : u.x = 0 ∧ u.y = 0
      · have e1 : (u.x == 0) = true := by simpa using hz.1
        have e2 : (u.y == 0) = true := by simpa using hz.2
        have Hb : Hid (badB h.area f p = false) := by show _ = _; unfold badB; rw [Hu.out]; simp [vecZ_iff, hz]
        clear hz
        go_wp2_with (go_at_call 113; refine (Hv.out _ hrr).mono ?_; rintro e w1 ⟨rfl, hb1⟩; have hz1 := hb1.size)
        go_roundw
        case rel => exact ⟨k + 1, by omega, by go_num, (find1_miss Hp.out Hb.out).symm.trans Hfind.out, ((hB.trans (hBa.mono hbz)).trans (hb1.mono (by have := hBa.size; omega))).alloc (by simp at hz1; omega) _⟩
        case measure => simp [intOf]; omega
      · have ee : (u.x == 0) = false ∨ ((u.x == 0) = true ∧ (u.y == 0) = false) := by simp; omega
        have Hb : Hid (badB h.area f p = true) := by show _ = _; unfold badB; rw [Hu.out]; simp [vecZ_iff, hz]
        clear hz
        rcases ee with e1 | ⟨e1, e2⟩
        all_goals
          go_wp2_with (go_at_call 113; refine (Hv.out _ hrr).mono ?_; rintro e w1 ⟨rfl, hb1⟩; have hz1 := hb1.size; have kR1 := (kRa.below hb1 kRa.lt).alloc (.cells #[.int .i64 u.x, .int .i64 u.y] 58); have f0 := kR1.frozen 0; have f1 := kR1.frozen 1; have q0 := kR1.cell 0; have q1 := kR1.cell 1; have rz1 := kR1.lt; simp at q0 q1 hz1)
          go_region
          all_goals
            go_wp2
            have bf := ((kR1.set_ 0 (.int .i64 u.x)).set_ 1 (.int .i64 u.y)).drew
            have v0 := bf.cell 0
            have v1 := bf.cell 1
            simp at v0 v1
            have ho : cornerO h.area f wind = some k := Hfind.out.symm.trans (find1_hit Hp.out Hb.out)
            obtain ⟨hi, hj⟩ := HI.out _ ho
            refine bodyPost_ret (v := .tuple #[.int .i64 k, .agg #[.int .i64 u.x, .int .i64 u.y]]) (by simp [results, Try.results79, go_sem, v0, v1]) rfl ⟨by rw [hi, hj]; simp [Hp.out, Hu.out], ?_⟩
            have hBt := hB0.trans ((((hB.trans (hBa.mono hbz)).trans (hb1.mono (by have := hBa.size; omega))).alloc (by omega) (.cells #[.int .i64 u.x, .int .i64 u.y] 58)).mono hB0.size)
            exact ((hBt.setCell (by show w.heap.size ≤ w.heap.size + 1; omega) _).setCell (by show w.heap.size ≤ w.heap.size + 1; omega) _).drew
    · obtain rfl : k = wind.length := by omega
      have f0 := kRw.frozen 0
      have f1 := kRw.frozen 1
      have q0 := kRw.cell 0
      have q1 := kRw.cell 1
      simp at q0 q1
      go_wp2
      have bf := (kRw.set_ 0 (.int .i64 0)).set_ 1 (.int .i64 0)
      have v0 := bf.cell 0
      have v1 := bf.cell 1
      simp at v0 v1
      have ho : cornerO h.area f wind = none := Hfind.out.symm.trans (find1_end (by omega))
      obtain ⟨hi, hj⟩ := HI.out _ ho
      refine bodyPost_ret (v := .tuple #[.int .i64 (-1), .agg #[.int .i64 0, .int .i64 0]]) (by simp [results, Try.results79, go_sem, v0, v1]) rfl ⟨by rw [hi, hj]; rfl, ?_⟩
      have hBt := hB0.trans (hB.mono hB0.size)
      exact (hBt.setCell (by show w.heap.size ≤ w.heap.size + 1; omega) _).setCell (by show w.heap.size ≤ w.heap.size + 1; omega) _
end Go.Proofs.Ytibaindlbpfecaa

namespace Go.Proofs.Ytibaindlbpfecaa
open Go.RowKit

/-- A measured head, with forces by their name. -/
def MeasV (f : List Vec) (h : Head) (A2 : Option Addr) (c2 : Nat) (w : World) (e : Ending) (w' : World) : Prop :=
  ∃ A1 c1, e = .returned (.agg #[.int .i64 h.area, .int .i64 h.bears, .slice A2 h.guys.length c2, .slice A1 f.length c1]) ∧ RS encV 2 w' w'.heap.size A1 f ∧ f.length ≤ c1 ∧ c1 ≤ maxLen ∧ Below w.heap.size w w'
theorem measureV_any (A : Option Addr) (c : Nat) (l : List Tst) (A2 : Option Addr) (c2 : Nat) (h : Head) (f : List Vec) (hf : forcesM l h = f) (w : World) (hr : RS encT 4 w w.heap.size A l) (hl : l.length ≤ maxLen) (hok : ∀ x ∈ l, x.ok = true) (hh : h.ok = true) (hg : RS encG 5 w w.heap.size A2 h.guys) :
    Calls Try.prog 63 #[.slice A l.length c, .agg #[.int .i64 h.area, .int .i64 h.bears, .slice A2 h.guys.length c2]] w (MeasV f h A2 c2 w) := by
  refine (measure_any A c l A2 c2 h w hr hl hok hh hg).mono ?_
  rintro e w' ⟨A1, c1, rfl, h1, h2, h3, h4⟩
  subst hf
  exact ⟨A1, c1, by rw [forcesM_length], h1, by rw [forcesM_length]; exact h2, h3, h4⟩
theorem forces_in {l : List Tst} {h : Head} {f : List Vec} (hf : forcesM l h = f) (hok : ∀ x ∈ l, x.ok = true) (hh : h.ok = true) : f.length ≤ 8 ∧ ∀ v ∈ f, VB v 500000 := by
  subst hf
  exact ⟨by rw [forcesM_length]; exact Head.guys_le hh, forces_vb hok (Head.guys_ok hh)⟩
theorem inside_r {v : Vec} {n : Int} {b : Bool} (hb : v.insideB n = b) (w : World) (h : Sm n) :
    Calls Try.prog 62 #[.agg #[.int .i64 v.x, .int .i64 v.y], .int .i64 n] w fun e w' => e = .returned (.bool b) ∧ Below w.heap.size w w' := by rw [← hb]; exact inside_any v n w h

def wayIn (way : Vec) : Bool := decide (way ≠ vecZ) && way.insideB 10000
set_option maxRecDepth 100000 in
set_option maxHeartbeats 1000000 in
theorem Reach_ok (A : Option Addr) (c : Nat) (l : List Tst) (A' : Option Addr) (c' : Nat) (t : List Head) (k : Nat) (h : Head) (hk : t[k]? = some h) (way : Vec) (f : List Vec) (hf : forcesM l h = f) (w : World) (hr : RS encT 4 w w.heap.size A l) (hl : l.length ≤ maxLen) (ht : RH w w.heap.size A' t) (htl : t.length ≤ maxLen) (hE : headE l t k (wayIn way) = 0) :
    Calls Try.prog 40 #[.slice A l.length c, .slice A' t.length c', .int .i64 k, .agg #[.int .i64 way.x, .int .i64 way.y]] w fun e w' => e = .returned (.tuple #[.int .i64 (reachM h.area f way), .int .i64 0]) ∧ Below w.heap.size w w' := by
  obtain ⟨hin, hh0, hok, hhok, _⟩ := headE_zero hE
  have hhk := hhok h (List.mem_of_getElem? hk)
  obtain ⟨hfl, hfv⟩ := forces_in hf hok hhk
  have har := Lib.hid (Head.area_in hhk)
  simp only [wayIn, Bool.and_eq_true, decide_eq_true_eq] at hin
  obtain ⟨hwz, hwi⟩ := hin
  have hwb := Lib.hid (Vec.corner_iff.1 hwi)
  have ee : (way.x == 0) = false ∨ ((way.x == 0) = true ∧ (way.y == 0) = false) := by
    rw [vecZ_ne] at hwz
    simp; omega
  have hv := fun W hr ht => checkHead_val A c A' c' hE W hr hl ht htl
  rw [show wayIn way = true by simp [wayIn, hwz, hwi]] at hv
  have Hv := Lib.hid hv
  have Hf := Lib.hid hf
  have Hfv := Lib.hid hfv
  have Hok := Lib.hid hok
  have Hhk := Lib.hid hhk
  have Hk := Lib.hid hk
  have Hwi := Lib.hid hwi
  have hkl := lt_of_getElem? hk
  have sm : Sm 10000 := by unfold Sm; omega
  have hB1 := (Below.refl w.heap.size w).alloc (Nat.le_refl _) (.cells #[.int .i64 way.x, .int .i64 way.y] 58)
  have hr1 := (hr.below hB1 (Nat.le_refl _)).more hB1.size
  have ht1 := (ht.below hB1 (Nat.le_refl _)).more hB1.size
  unfold maxLen at htl
  clear hE hv hf hfv hok hhk hk hwi hwz hr hhok
  rcases ee with e1 | ⟨e1, e2⟩
  all_goals
    go_enter Try.func40, Try.ntmps40
    go_wp2_with (first | (go_at_call 62; refine (inside_r Hwi.out _ sm).mono ?_; rintro e w1 ⟨rfl, hb1⟩; obtain ⟨hc1, hf1⟩ := bcell hb1; have hz1 : w.heap.size < w1.heap.size := (by have := hb1.size; (try simp at this); omega)) | (go_at_call 61; refine (Hv.out _ (hr1.to hb1) (ht1.to hb1)).mono ?_; rintro e w2 ⟨rfl, hb2⟩; obtain ⟨hc2, hf2⟩ := bcell hb2; have hz2 : w.heap.size < w2.heap.size := (by have := hb2.size; (try simp at this); omega)))
    refine name_world (motive := fun W => Code.wp _ _ _ _ W) _ ?_
    intro W0 hW
    have hWc := hW.cell
    have hWz := hW.size
    have hWb := hW.below ((hB1.trans (hb1.mono (by simp))).trans (hb2.mono (by omega)))
    have hr0 := ((hr1.to hb1).to hb2)
    have ht0 := ((ht1.to hb1).to hb2)
    rw [← hW.eq.out] at hr0 ht0
    obtain ⟨b, off, A2, c2, rfl, hb, x0, x1, x2, hg1, hg2, hg⟩ := ht0.at_ Hk.out
    have kW := hW.blk (((Blk.new w 58 #[.int .i64 way.x, .int .i64 way.y]).below hb1 (by simp)).below hb2 (by omega))
    have k0 := kW.cell 0
    have k1 := kW.cell 1
    simp at k0 k1
    have kz := kW.lt
    clear hWc hWz hc2 hf2 ht0 ht1 ht
    go_region_held3 (fun w' => (∀ b o, b < W0.heap.size → w'.cell? ⟨b, o, none⟩ = W0.cell? ⟨b, o, none⟩) ∧ Below W0.heap.size W0 w') (first | with_reducible exact sh_refl _ | (with_reducible refine sh_of ?_; with_reducible assumption) | (with_reducible refine sh_alloc ?_ _; with_reducible assumption) | with_reducible exact sh_first _ _)
      (first | (go_at_call 63; go_split_ands; have hS1 : Below W0.heap.size W0 _ := (by with_reducible assumption); refine (measureV_any A c l A2 c2 h f Hf.out _ (hr0.to hS1) hl Hok.out Hhk.out ((hg.below hS1 (Nat.le_refl _)).more hS1.size)).mono ?_; rintro e w3 ⟨A1, c1, rfl, hrs, hc1, hc2, hb3⟩; have hB3 := sh_next hS1 hb3) | (go_at_call 77; go_split_ands; have hS2 : Below W0.heap.size W0 _ := (by with_reducible assumption); refine (reach_any h A1 A2 c1 c2 f way _ hrs hfl Hfv.out har.out hwb.out).mono ?_; rintro e w4 ⟨rfl, hb4⟩; have hB4 := sh_next hS2 hb4))
    go_wp2
    go_ret2
    exact ⟨rfl, hWb.trans (hB4.mono hWb.size)⟩
end Go.Proofs.Ytibaindlbpfecaa

namespace Go.Proofs.Ytibaindlbpfecaa
open Go.RowKit

theorem vecZ_iff' {v : Vec} : v = vecZ ↔ v.x = 0 ∧ v.y = 0 := by
  obtain ⟨x, y⟩ := v
  simp [vecZ]
theorem sumV_pair_lg {a b : Vec} (ha : VB a 9000000000000000000) (hs : VB (a.plus b) 9000000000000000000) (k : Nat) (hk : k ≤ 2) : Lg (sumV ([a, b].take k)).x ∧ Lg (sumV ([a, b].take k)).y := by
  unfold VB at ha hs
  have h0 : sumV [a] = a := by simp [sumV, Vec.plus, vecZ]
  rcases k with _ | _ | _ | k
  · simp [sumV, vecZ, Lg]
  · simp only [List.take_succ_cons, List.take_zero, h0]; unfold Lg; omega
  · simp only [List.take_succ_cons, List.take_zero, sumV_two]; unfold Lg; omega
  · omega
theorem sum2_any (a b : Vec) (g : Nat) (w : World) (hb : Blk w g 58 #[.int .i64 a.x, .int .i64 a.y, .int .i64 b.x, .int .i64 b.y]) (hl : ∀ k, k ≤ 2 → Lg (sumV ([a, b].take k)).x ∧ Lg (sumV ([a, b].take k)).y) :
    Calls Try.prog 101 #[.slice (some ⟨g, 0, none⟩) 2 2] w fun e w' => e = .returned (.agg #[.int .i64 (a.plus b).x, .int .i64 (a.plus b).y]) ∧ Below w.heap.size w w' := by
  have h := sum_any (some ⟨g, 0, none⟩) 2 [a, b] w (RS.of_blk (enc := encV) (sz := 2) (fun _ => rfl) hb) (by simp) hl
  rw [sumV_two] at h
  exact h
theorem everyI_r {l : List Int} {whole : Int} {r : Bool} (h : l.all (inB · 0 whole) = r) (A : Option Addr) (c : Nat) (b : Nat) (w : World) (hr : RS encI 1 w w.heap.size A l) (hl : l.length ≤ maxLen) (hb : w.cell? ⟨b, 0, none⟩ = some (.int .i64 whole)) :
    Calls Try.prog 99 #[.slice A l.length c, .func (.func 98) #[] #[.pointer (some ⟨b, 0, none⟩)]] w fun e w' => e = .returned (.bool r) ∧ w = w' := by rw [← h]; exact everyI_any A c l b whole w hr hl hb
theorem balSum_step {f : List Vec} {ps : List Int} {k : Nat} {v : Vec} {n : Int} {s : Vec} (hv : f[k]? = some v) (hn : ps[k]? = some n) :
    ((List.zip f ps).take (k + 1)).foldl plusStep s = (((List.zip f ps).take k).foldl plusStep s).plus (v.times n) := by
  have : (List.zip f ps)[k]? = some (v, n) := by rw [List.getElem?_zip_eq_some]; exact ⟨hv, hn⟩
  rw [foldl_snoc this]; rfl
theorem balSum_vb {f : List Vec} {ps : List Int} {s : Vec} (hs : VB s 5000000000000000000) (hf : ∀ v ∈ f, VB v 500000) (hp : ∀ n ∈ ps, 0 ≤ n ∧ n ≤ 500000000000) : ∀ k : Nat, k ≤ 8 → VB (((List.zip f ps).take k).foldl plusStep s) (5000000000000000000 + 250000000000000000 * k)
  | 0, _ => by simpa using hs
  | k + 1, hk => by
    have ih := balSum_vb hs hf hp k (by omega)
    by_cases hlt : k < (List.zip f ps).length
    · obtain ⟨⟨v, n⟩, hx⟩ := getElem?_lt hlt
      obtain ⟨hv, hn⟩ := List.getElem?_zip_eq_some.1 hx
      rw [balSum_step hv hn]
      have h1 := hp n (List.mem_of_getElem? hn)
      have h2 := (hf v (List.mem_of_getElem? hv)).times (n := n) (q := 500000000000) (by omega)
      unfold VB Vec.plus at *
      simp only
      omega
    · rw [List.take_of_length_le (by omega)]
      rw [List.take_of_length_le (by omega)] at ih
      exact ih.mono (by omega)

theorem balancedBy_few (h : Head) (A1 A2 A3 : Option Addr) (c1 c2 c3 : Nat) (f : List Vec) (push : Vec) (whole : Int) (ps : List Int) (w : World) (_hr : RS encV 2 w w.heap.size A1 f) (hrp : RS encI 1 w w.heap.size A3 ps) (hpl : ps.length ≤ maxLen) (hno : (inB whole 1 500000000000 && (decide (ps.length = f.length) && ps.all (inB · 0 whole))) = false) :
    Calls Try.prog 67 #[.agg #[.int .i64 h.area, .int .i64 h.bears, .slice A2 h.guys.length c2, .slice A1 f.length c1], .agg #[.int .i64 push.x, .int .i64 push.y], .agg #[.int .i64 whole, .slice A3 ps.length c3]] w fun e w' => e = .returned (.bool false) ∧ Below w.heap.size w w' := by
  have hB := (((Below.refl w.heap.size w).alloc (Nat.le_refl _) (.cells #[.int .i64 h.area, .int .i64 h.bears, .slice A2 h.guys.length c2, .slice A1 f.length c1] 125)).alloc (by simp) (.cells #[.int .i64 push.x, .int .i64 push.y] 58)).alloc (by simp <;> omega) (.cells #[.int .i64 whole, .slice A3 ps.length c3] 55)
  have hr1 := (hrp.below hB (Nat.le_refl _)).more hB.size
  have Hpl := Lib.hid hpl
  have b0 := Blk.new ((w.alloc (.cells #[.int .i64 h.area, .int .i64 h.bears, .slice A2 h.guys.length c2, .slice A1 f.length c1] 125)).alloc (.cells #[.int .i64 push.x, .int .i64 push.y] 58)) 55 #[.int .i64 whole, .slice A3 ps.length c3]
  simp only [World.size_alloc] at b0
  have z0 := b0.cell 0
  simp at z0
  unfold maxLen at hpl
  clear hrp
  cases h1 : inB whole 1 500000000000
  · go_enter Try.func67, Try.ntmps67
    go_wp2_with ((go_at_call 73; refine (within_any _ _ _ _).mono ?_; rintro e w' ⟨rfl, rfl⟩))
    go_ret
    exact ⟨rfl, hB⟩
  · by_cases h2 : ps.length = f.length
    · have h3 : ps.all (inB · 0 whole) = false := by simpa [h1, h2] using hno
      have Hall := Lib.hid h3
      have e2 : ((ps.length : Int) != (f.length : Int)) = false := by simp; omega
      have e3 : (ps.length != f.length) = false := by simp; omega
      have H2 := Lib.hid h2
      clear h2 h3 hno
      go_enter Try.func67, Try.ntmps67
      go_wp2_with (first | (go_at_call 73; refine (within_any _ _ _ _).mono ?_; rintro e w' ⟨rfl, rfl⟩) | (go_at_call 99; refine (everyI_r Hall.out A3 c3 _ _ hr1 Hpl.out z0).mono ?_; rintro e w' ⟨rfl, rfl⟩))
      go_ret
      exact ⟨rfl, hB⟩
    · have e2 : ((ps.length : Int) != (f.length : Int)) = true := by simp; omega
      have e3 : (ps.length != f.length) = true := by simp; omega
      clear h2 hno
      go_enter Try.func67, Try.ntmps67
      go_wp2_with ((go_at_call 73; refine (within_any _ _ _ _).mono ?_; rintro e w' ⟨rfl, rfl⟩))
      go_ret
      exact ⟨rfl, hB⟩
end Go.Proofs.Ytibaindlbpfecaa

namespace Go.Proofs.Ytibaindlbpfecaa
open Go.RowKit

set_option maxRecDepth 100000 in
set_option maxHeartbeats 1000000 in
theorem Reach_err (A : Option Addr) (c : Nat) (l : List Tst) (A' : Option Addr) (c' : Nat) (t : List Head) (head : Int) (way : Vec) (z : Int) (hz : z ≠ 0) (w : World) (hr : RS encT 4 w w.heap.size A l) (hl : l.length ≤ maxLen) (ht : RH w w.heap.size A' t) (htl : t.length ≤ maxLen) (hE : headE l t head (wayIn way) = z) :
    Calls Try.prog 40 #[.slice A l.length c, .slice A' t.length c', .int .i64 head, .agg #[.int .i64 way.x, .int .i64 way.y]] w fun e w' => e = .returned (.tuple #[.int .i64 0, .int .i64 z]) ∧ Below w.heap.size w w' := by
  have e0 : (z != 0) = true := by simpa using hz
  have sm : Sm 10000 := by unfold Sm; omega
  have hB1 := (Below.refl w.heap.size w).alloc (Nat.le_refl _) (.cells #[.int .i64 way.x, .int .i64 way.y] 58)
  have hr1 := (hr.below hB1 (Nat.le_refl _)).more hB1.size
  have ht1 := (ht.below hB1 (Nat.le_refl _)).more hB1.size
  have hv := fun W hr ht => checkHead_val A c A' c' hE W hr hl ht htl
  clear hr ht hE hz
  by_cases hx : way.x = 0 ∧ way.y = 0
  · have e1 : (way.x == 0) = true := by simpa using hx.1
    have e2 : (way.y == 0) = true := by simpa using hx.2
    rw [show wayIn way = false by simp [wayIn, vecZ_iff, hx]] at hv
    have Hv := Lib.hid hv
    clear hv hx
    go_enter Try.func40, Try.ntmps40
    go_wp2_with ((go_at_call 61; refine (Hv.out _ hr1 ht1).mono ?_; rintro e w2 ⟨rfl, hb2⟩; obtain ⟨hc2, hf2⟩ := bcell hb2; have hz2 : w.heap.size < w2.heap.size := (by have := hb2.size; (try simp at this); omega)))
    go_ret2
    exact ⟨rfl, hB1.trans (hb2.mono (by simp))⟩
  · have ee : (way.x == 0) = false ∨ ((way.x == 0) = true ∧ (way.y == 0) = false) := by simp; omega
    have hw : wayIn way = way.insideB 10000 := by simp [wayIn, vecZ_iff, hx]
    rw [hw] at hv
    cases hb : way.insideB 10000
    all_goals
      rw [hb] at hv
      have Hb := Lib.hid hb
      have Hv := Lib.hid hv
      clear hv hw hb hx
      rcases ee with e1 | ⟨e1, e2⟩
      all_goals
        go_enter Try.func40, Try.ntmps40
        go_wp2_with (first | (go_at_call 62; refine (inside_r Hb.out _ sm).mono ?_; rintro e w1 ⟨rfl, hb1⟩; obtain ⟨hc1, hf1⟩ := bcell hb1; have hz1 : w.heap.size < w1.heap.size := (by have := hb1.size; (try simp at this); omega)) | (go_at_call 61; refine (Hv.out _ (hr1.to hb1) (ht1.to hb1)).mono ?_; rintro e w2 ⟨rfl, hb2⟩; obtain ⟨hc2, hf2⟩ := bcell hb2; have hz2 : w.heap.size < w2.heap.size := (by have := hb2.size; (try simp at this); omega)))
        go_ret2
        exact ⟨rfl, (hB1.trans (hb1.mono (by simp))).trans (hb2.mono (by omega))⟩

theorem corner_r {v : Vec} {b : Bool} (hb : v.corner = b) (w : World) :
    Calls Try.prog 62 #[.agg #[.int .i64 v.x, .int .i64 v.y], .int .i64 10000] w fun e w' => e = .returned (.bool b) ∧ Below w.heap.size w w' := inside_r hb w (by unfold Sm; omega)

/-- What holds where a head is asked for and tests, tent and push are right. -/
theorem asked_ok {l : List Tst} {t : List Head} {k : Nat} {b : Bool} (hE : headE l t k b = 0) {h : Head} (hk : t[k]? = some h) {f : List Vec} (hf : forcesM l h = f) :
    b = true ∧ (∀ x ∈ l, x.ok = true) ∧ h.ok = true ∧ (0 ≤ h.area ∧ h.area ≤ 1000) ∧ f.length ≤ 8 ∧ ∀ v ∈ f, VB v 500000 := by
  obtain ⟨hin, _, hok, hhok, _⟩ := headE_zero hE
  have hhk := hhok h (List.mem_of_getElem? hk)
  obtain ⟨h1, h2⟩ := forces_in hf hok hhk
  exact ⟨hin, hok, hhk, Head.area_in hhk, h1, h2⟩
theorem headE_get {l : List Tst} {t : List Head} {head : Int} {b : Bool} (hE : headE l t head b = 0) : ∃ (k : Nat) (h : Head), head = k ∧ t[k]? = some h := by
  obtain ⟨_, ⟨h0, h1⟩, _⟩ := headE_zero hE
  obtain ⟨k, rfl⟩ := Int.eq_ofNat_of_zero_le h0
  obtain ⟨h, hh⟩ := getElem?_lt (l := t) (k := k) (by omega)
  exact ⟨k, h, rfl, hh⟩

theorem headE_vals (l : List Tst) (t : List Head) (head : Int) (b : Bool) : headE l t head b = 0 ∨ headE l t head b = 1 ∨ headE l t head b = 2 ∨ headE l t head b = 3 ∨ headE l t head b = 9 := by
  have h1 : testsFault l = 0 ∨ testsFault l = 1 ∨ testsFault l = 3 := by unfold testsFault; split <;> (try split) <;> simp
  have h2 : tentE t = 0 ∨ tentE t = 1 := by unfold tentE; split <;> simp
  have h3 : agreeE l = 0 ∨ agreeE l = 9 := by unfold agreeE; split <;> simp
  have h4 : tentedE l t = 0 ∨ tentedE l t = 1 ∨ tentedE l t = 3 := by
    simp only [tentedE, orM]
    rcases h1 with h1 | h1 | h1 <;> rcases h2 with h2 | h2 <;> simp [h1, h2]
  simp only [headE, firstE]
  rcases h4 with h4 | h4 | h4 <;> rw [h4]
  · rw [if_pos rfl]
    split
    · rcases h3 with h3 | h3 <;> simp [h3]
    · simp
  · simp
  · simp

end Go.Proofs.Ytibaindlbpfecaa

namespace Go.Proofs.Ytibaindlbpfecaa
open Go.RowKit

set_option linter.unusedSimpArgs false in
set_option maxRecDepth 100000 in
set_option maxHeartbeats 1000000 in
theorem ProveWeak_bad (A : Option Addr) (c : Nat) (l : List Tst) (A' : Option Addr) (c' : Nat) (t : List Head) (head : Int) (push way : Vec) (z : Int) (hz : z ≠ 0) (w : World) (hr : RS encT 4 w w.heap.size A l) (hl : l.length ≤ maxLen) (ht : RH w w.heap.size A' t) (htl : t.length ≤ maxLen) (hE : headE l t head push.corner = z) :
    Calls Try.prog 32 #[.slice A l.length c, .slice A' t.length c', .int .i64 head, .agg #[.int .i64 push.x, .int .i64 push.y], .agg #[.int .i64 way.x, .int .i64 way.y]] w fun e w' => e = .returned (.bool false) ∧ Below w.heap.size w w' := by
  obtain ⟨b, hb⟩ : ∃ b, push.corner = b := ⟨_, rfl⟩
  have hB1 := ((Below.refl w.heap.size w).alloc (Nat.le_refl _) (.cells #[.int .i64 push.x, .int .i64 push.y] 58)).alloc (by simp) (.cells #[.int .i64 way.x, .int .i64 way.y] 58)
  rw [hb] at hE
  have Hb := Lib.hid hb
  have hv := fun W hr ht => checkHead_val A c A' c' hE W hr hl ht htl
  have Hv := Lib.hid hv
  have e0 : (z == 0) = false := by simpa using hz
  clear hv hb hE hz
  go_enter Try.func32, Try.ntmps32
  go_wp2
  refine name_world (motive := fun W => Code.wp _ _ _ _ W) _ ?_
  intro W0 hW
  have hWc := hW.cell
  have hWz := hW.size
  have hWb := hW.below (hB1)
  have hr0 := (hr.below hWb (Nat.le_refl _)).more hWb.size
  have ht0 := (ht.below hWb (Nat.le_refl _)).more hWb.size
  have kW := hW.blk ((Blk.new w 58 #[.int .i64 push.x, .int .i64 push.y]).alloc (.cells #[.int .i64 way.x, .int .i64 way.y] 58))
  have k0 := kW.cell 0
  have k1 := kW.cell 1
  simp at k0 k1
  clear hWc hWz hr ht
  refine wp_region_any (by kernel_rfl) ?_
  change wpAny _ _ _ _ 23 #[false, false, false, false, false, false, false, false, false, false, false, false, false, false, false, false, false, false, false, false, false, false, false] _ (World.drew _)
  refine wpAny_take (i := 0) (v := _) rfl (by kernel_rfl) (by kernel_rfl) (by kernel_rfl) (fun _ _ _ h => h) (Or.inl ⟨by rfl, by intro w; go_simp; first | done | with_reducible rfl⟩) ?_
  change wpAny _ _ _ _ 22 #[true, false, false, false, false, false, false, false, false, false, false, false, false, false, false, false, false, false, false, false, false, false, false] _ _
  try simp only [Act.put, List.setIfInBounds_toArray, List.set_cons_zero, List.set_cons_succ, List.getElem_toArray, List.getElem_cons_zero, List.getElem_cons_succ]
  refine wpAny_take (i := 1) (v := _) rfl (by kernel_rfl) (by kernel_rfl) (by kernel_rfl) (fun _ _ _ h => h) (Or.inl ⟨by rfl, by intro w; go_simp; first | done | with_reducible rfl⟩) ?_
  change wpAny _ _ _ _ 21 #[true, true, false, false, false, false, false, false, false, false, false, false, false, false, false, false, false, false, false, false, false, false, false] _ _
  try simp only [Act.put, List.setIfInBounds_toArray, List.set_cons_zero, List.set_cons_succ, List.getElem_toArray, List.getElem_cons_zero, List.getElem_cons_succ]
  refine wpAny_take (i := 2) (v := _) rfl (by kernel_rfl) (by kernel_rfl) (by kernel_rfl) (fun _ _ _ h => h) (Or.inl ⟨by rfl, by intro w; go_simp; first | done | with_reducible rfl⟩) ?_
  change wpAny _ _ _ _ 20 #[true, true, true, false, false, false, false, false, false, false, false, false, false, false, false, false, false, false, false, false, false, false, false] _ _
  try simp only [Act.put, List.setIfInBounds_toArray, List.set_cons_zero, List.set_cons_succ, List.getElem_toArray, List.getElem_cons_zero, List.getElem_cons_succ]
  refine wpAny_ready (rs := [3]) (by kernel_rfl) (by simp) ?_
  refine AllReady.cons rfl (fun K hK => ?_) AllReady.nil
  go_simp
  refine hK _ _ ?_
  clear hK K
  change wpAny _ _ _ _ 19 #[true, true, true, true, false, false, false, false, false, false, false, false, false, false, false, false, false, false, false, false, false, false, false] _ _
  try simp only [Act.put, List.setIfInBounds_toArray, List.set_cons_zero, List.set_cons_succ, List.getElem_toArray, List.getElem_cons_zero, List.getElem_cons_succ]
  refine wpAny_ready (rs := [4]) (by kernel_rfl) (by simp) ?_
  refine AllReady.cons rfl (fun K hK => ?_) AllReady.nil
  go_simp
  go_wp2_with (first | (go_at_call 62; refine (corner_r Hb.out _).mono ?_; rintro e w1 ⟨rfl, hb1⟩; obtain ⟨hc1, hf1⟩ := bcell hb1) | (go_at_call 61; refine (Hv.out _ (hr0.to ((Below.refl _ _).drew.trans hb1)) (ht0.to ((Below.refl _ _).drew.trans hb1))).mono ?_; rintro e w2 ⟨rfl, hb2⟩; obtain ⟨hc2, hf2⟩ := bcell hb2))
  change wpAny _ _ _ _ 18 #[true, true, true, true, true, false, false, false, false, false, false, false, false, false, false, false, false, false, false, false, false, false, false] _ _
  try simp only [Act.put, List.setIfInBounds_toArray, List.set_cons_zero, List.set_cons_succ, List.getElem_toArray, List.getElem_cons_zero, List.getElem_cons_succ]
  refine wpAny_ready (rs := [5]) (by kernel_rfl) (by simp) ?_
  refine AllReady.cons rfl (fun K hK => ?_) AllReady.nil
  go_simp
  go_wp2_with (first | (go_at_call 62; refine (corner_r Hb.out _).mono ?_; rintro e w1 ⟨rfl, hb1⟩; obtain ⟨hc1, hf1⟩ := bcell hb1) | (go_at_call 61; refine (Hv.out _ (hr0.to ((Below.refl _ _).drew.trans hb1)) (ht0.to ((Below.refl _ _).drew.trans hb1))).mono ?_; rintro e w2 ⟨rfl, hb2⟩; obtain ⟨hc2, hf2⟩ := bcell hb2))
  change wpAny _ _ _ _ 17 #[true, true, true, true, true, true, false, false, false, false, false, false, false, false, false, false, false, false, false, false, false, false, false] _ _
  try simp only [Act.put, List.setIfInBounds_toArray, List.set_cons_zero, List.set_cons_succ, List.getElem_toArray, List.getElem_cons_zero, List.getElem_cons_succ]
  refine wpAny_take (i := 6) (v := _) rfl (by kernel_rfl) (by kernel_rfl) (by kernel_rfl) (fun _ _ _ h => h) (Or.inl ⟨by rfl, by intro w; go_simp; first | done | with_reducible rfl⟩) ?_
  change wpAny _ _ _ _ 16 #[true, true, true, true, true, true, true, false, false, false, false, false, false, false, false, false, false, false, false, false, false, false, false] _ _
  try simp only [Act.put, List.setIfInBounds_toArray, List.set_cons_zero, List.set_cons_succ, List.getElem_toArray, List.getElem_cons_zero, List.getElem_cons_succ]
  refine wpAny_take (i := 7) (v := _) rfl (by kernel_rfl) (by kernel_rfl) (by kernel_rfl) (fun _ _ _ h => h) (Or.inl ⟨by rfl, by intro w; go_simp; first | done | with_reducible rfl⟩) ?_
  change wpAny _ _ _ _ 15 #[true, true, true, true, true, true, true, true, false, false, false, false, false, false, false, false, false, false, false, false, false, false, false] _ _
  try simp only [Act.put, List.setIfInBounds_toArray, List.set_cons_zero, List.set_cons_succ, List.getElem_toArray, List.getElem_cons_zero, List.getElem_cons_succ]
  refine wpAny_take (i := 8) (v := undef) rfl (by kernel_rfl) (by kernel_rfl) (by kernel_rfl) (fun _ _ _ h => h) (Or.inr ⟨by rfl, rfl⟩) ?_
  change wpAny _ _ _ _ 14 #[true, true, true, true, true, true, true, true, true, false, false, false, false, false, false, false, false, false, false, false, false, false, false] _ _
  try simp only [Act.put, List.setIfInBounds_toArray, List.set_cons_zero, List.set_cons_succ, List.getElem_toArray, List.getElem_cons_zero, List.getElem_cons_succ]
  refine wpAny_take (i := 9) (v := undef) rfl (by kernel_rfl) (by kernel_rfl) (by kernel_rfl) (fun _ _ _ h => h) (Or.inr ⟨by rfl, rfl⟩) ?_
  change wpAny _ _ _ _ 13 #[true, true, true, true, true, true, true, true, true, true, false, false, false, false, false, false, false, false, false, false, false, false, false] _ _
  try simp only [Act.put, List.setIfInBounds_toArray, List.set_cons_zero, List.set_cons_succ, List.getElem_toArray, List.getElem_cons_zero, List.getElem_cons_succ]
  refine wpAny_take (i := 10) (v := _) rfl (by kernel_rfl) (by kernel_rfl) (by kernel_rfl) (fun _ _ _ h => h) (Or.inl ⟨by rfl, by intro w; go_simp; first | done | with_reducible rfl⟩) ?_
  change wpAny _ _ _ _ 12 #[true, true, true, true, true, true, true, true, true, true, true, false, false, false, false, false, false, false, false, false, false, false, false] _ _
  try simp only [Act.put, List.setIfInBounds_toArray, List.set_cons_zero, List.set_cons_succ, List.getElem_toArray, List.getElem_cons_zero, List.getElem_cons_succ]
  refine wpAny_take (i := 11) (v := _) rfl (by kernel_rfl) (by kernel_rfl) (by kernel_rfl) (fun _ _ _ h => h) (Or.inl ⟨by rfl, by intro w; go_simp; first | done | with_reducible rfl⟩) ?_
  change wpAny _ _ _ _ 11 #[true, true, true, true, true, true, true, true, true, true, true, true, false, false, false, false, false, false, false, false, false, false, false] _ _
  try simp only [Act.put, List.setIfInBounds_toArray, List.set_cons_zero, List.set_cons_succ, List.getElem_toArray, List.getElem_cons_zero, List.getElem_cons_succ]
  refine wpAny_take (i := 12) (v := undef) rfl (by kernel_rfl) (by kernel_rfl) (by kernel_rfl) (fun _ _ _ h => h) (Or.inr ⟨by rfl, rfl⟩) ?_
  change wpAny _ _ _ _ 10 #[true, true, true, true, true, true, true, true, true, true, true, true, true, false, false, false, false, false, false, false, false, false, false] _ _
  try simp only [Act.put, List.setIfInBounds_toArray, List.set_cons_zero, List.set_cons_succ, List.getElem_toArray, List.getElem_cons_zero, List.getElem_cons_succ]
  refine wpAny_take (i := 13) (v := undef) rfl (by kernel_rfl) (by kernel_rfl) (by kernel_rfl) (fun _ _ _ h => h) (Or.inr ⟨by rfl, rfl⟩) ?_
  change wpAny _ _ _ _ 9 #[true, true, true, true, true, true, true, true, true, true, true, true, true, true, false, false, false, false, false, false, false, false, false] _ _
  try simp only [Act.put, List.setIfInBounds_toArray, List.set_cons_zero, List.set_cons_succ, List.getElem_toArray, List.getElem_cons_zero, List.getElem_cons_succ]
  refine wpAny_take (i := 14) (v := undef) rfl (by kernel_rfl) (by kernel_rfl) (by kernel_rfl) (fun _ _ _ h => h) (Or.inr ⟨by rfl, rfl⟩) ?_
  change wpAny _ _ _ _ 8 #[true, true, true, true, true, true, true, true, true, true, true, true, true, true, true, false, false, false, false, false, false, false, false] _ _
  try simp only [Act.put, List.setIfInBounds_toArray, List.set_cons_zero, List.set_cons_succ, List.getElem_toArray, List.getElem_cons_zero, List.getElem_cons_succ]
  refine wpAny_take (i := 15) (v := undef) rfl (by kernel_rfl) (by kernel_rfl) (by kernel_rfl) (fun _ _ _ h => h) (Or.inr ⟨by rfl, rfl⟩) ?_
  change wpAny _ _ _ _ 7 #[true, true, true, true, true, true, true, true, true, true, true, true, true, true, true, true, false, false, false, false, false, false, false] _ _
  try simp only [Act.put, List.setIfInBounds_toArray, List.set_cons_zero, List.set_cons_succ, List.getElem_toArray, List.getElem_cons_zero, List.getElem_cons_succ]
  refine wpAny_take (i := 16) (v := undef) rfl (by kernel_rfl) (by kernel_rfl) (by kernel_rfl) (fun _ _ _ h => h) (Or.inr ⟨by rfl, rfl⟩) ?_
  change wpAny _ _ _ _ 6 #[true, true, true, true, true, true, true, true, true, true, true, true, true, true, true, true, true, false, false, false, false, false, false] _ _
  try simp only [Act.put, List.setIfInBounds_toArray, List.set_cons_zero, List.set_cons_succ, List.getElem_toArray, List.getElem_cons_zero, List.getElem_cons_succ]
  refine wpAny_take (i := 17) (v := undef) rfl (by kernel_rfl) (by kernel_rfl) (by kernel_rfl) (fun _ _ _ h => h) (Or.inr ⟨by rfl, rfl⟩) ?_
  change wpAny _ _ _ _ 5 #[true, true, true, true, true, true, true, true, true, true, true, true, true, true, true, true, true, true, false, false, false, false, false] _ _
  try simp only [Act.put, List.setIfInBounds_toArray, List.set_cons_zero, List.set_cons_succ, List.getElem_toArray, List.getElem_cons_zero, List.getElem_cons_succ]
  refine wpAny_take (i := 18) (v := undef) rfl (by kernel_rfl) (by kernel_rfl) (by kernel_rfl) (fun _ _ _ h => h) (Or.inr ⟨by rfl, rfl⟩) ?_
  change wpAny _ _ _ _ 4 #[true, true, true, true, true, true, true, true, true, true, true, true, true, true, true, true, true, true, true, false, false, false, false] _ _
  try simp only [Act.put, List.setIfInBounds_toArray, List.set_cons_zero, List.set_cons_succ, List.getElem_toArray, List.getElem_cons_zero, List.getElem_cons_succ]
  refine wpAny_take (i := 19) (v := undef) rfl (by kernel_rfl) (by kernel_rfl) (by kernel_rfl) (fun _ _ _ h => h) (Or.inr ⟨by rfl, rfl⟩) ?_
  change wpAny _ _ _ _ 3 #[true, true, true, true, true, true, true, true, true, true, true, true, true, true, true, true, true, true, true, true, false, false, false] _ _
  try simp only [Act.put, List.setIfInBounds_toArray, List.set_cons_zero, List.set_cons_succ, List.getElem_toArray, List.getElem_cons_zero, List.getElem_cons_succ]
  refine wpAny_take (i := 20) (v := undef) rfl (by kernel_rfl) (by kernel_rfl) (by kernel_rfl) (fun _ _ _ h => h) (Or.inr ⟨by rfl, rfl⟩) ?_
  change wpAny _ _ _ _ 2 #[true, true, true, true, true, true, true, true, true, true, true, true, true, true, true, true, true, true, true, true, true, false, false] _ _
  try simp only [Act.put, List.setIfInBounds_toArray, List.set_cons_zero, List.set_cons_succ, List.getElem_toArray, List.getElem_cons_zero, List.getElem_cons_succ]
  refine wpAny_take (i := 21) (v := _) rfl (by kernel_rfl) (by kernel_rfl) (by kernel_rfl) (fun _ _ _ h => h) (Or.inl ⟨by rfl, by intro w; go_simp; first | done | with_reducible rfl⟩) ?_
  change wpAny _ _ _ _ 1 #[true, true, true, true, true, true, true, true, true, true, true, true, true, true, true, true, true, true, true, true, true, true, false] _ _
  try simp only [Act.put, List.setIfInBounds_toArray, List.set_cons_zero, List.set_cons_succ, List.getElem_toArray, List.getElem_cons_zero, List.getElem_cons_succ]
  refine wpAny_take (i := 22) (v := _) rfl (by kernel_rfl) (by kernel_rfl) (by kernel_rfl) (fun _ _ _ h => h) (Or.inl ⟨by rfl, by intro w; go_simp; first | done | with_reducible rfl⟩) ?_
  change wpAny _ _ _ _ 0 #[true, true, true, true, true, true, true, true, true, true, true, true, true, true, true, true, true, true, true, true, true, true, true] _ _
  try simp only [Act.put, List.setIfInBounds_toArray, List.set_cons_zero, List.set_cons_succ, List.getElem_toArray, List.getElem_cons_zero, List.getElem_cons_succ]
  refine wpAny_done (by kernel_rfl) ?_ _
  go_wp2
  go_ret
  exact ⟨rfl, hWb.trans (((Below.refl _ _).drew.trans hb1 |>.trans (hb2.mono hb1.size)).mono hWb.size)⟩
end Go.Proofs.Ytibaindlbpfecaa

namespace Go.Proofs.Ytibaindlbpfecaa
open Go.RowKit

set_option linter.unusedSimpArgs false in
set_option maxRecDepth 100000 in
set_option maxHeartbeats 4000000 in
theorem ProveWeak_ok (A : Option Addr) (c : Nat) (l : List Tst) (A' : Option Addr) (c' : Nat) (t : List Head) (k : Nat) (h : Head) (hk : t[k]? = some h) (push way : Vec) (f : List Vec) (hf : forcesM l h = f) (w : World) (hr : RS encT 4 w w.heap.size A l) (hl : l.length ≤ maxLen) (ht : RH w w.heap.size A' t) (htl : t.length ≤ maxLen) (hE : headE l t k push.corner = 0) :
    Calls Try.prog 32 #[.slice A l.length c, .slice A' t.length c', .int .i64 k, .agg #[.int .i64 push.x, .int .i64 push.y], .agg #[.int .i64 way.x, .int .i64 way.y]] w fun e w' => e = .returned (.bool (way.insideB 1000000 && weakInB f (push.times h.area) way)) ∧ Below w.heap.size w w' := by
  obtain ⟨hin, hok, hhk, har, hfl, hfv⟩ := asked_ok hE hk hf
  have hwb := Lib.hid (Vec.corner_iff.1 hin)
  have Hwb : Hid (VB push 100000000) := hwb.out.mono (by omega)
  have hv := fun W hr ht => checkHead_val A c A' c' hE W hr hl ht htl
  rw [hin] at hv
  have Hin := Lib.hid hin
  have Hv := Lib.hid hv
  have Hf := Lib.hid hf
  have Hfv := Lib.hid hfv
  have Hok := Lib.hid hok
  have Hhk := Lib.hid hhk
  have Hk := Lib.hid hk
  have Har := Lib.hid har
  have hkl := lt_of_getElem? hk
  have sm : Sm 1000000 := by unfold Sm; omega
  have hB1 := ((Below.refl w.heap.size w).alloc (Nat.le_refl _) (.cells #[.int .i64 push.x, .int .i64 push.y] 58)).alloc (by simp) (.cells #[.int .i64 way.x, .int .i64 way.y] 58)
  unfold maxLen at htl
  clear hE hv hf hfv hok hhk hk hin har
  cases hi : way.insideB 1000000
  all_goals
    have Hi := Lib.hid hi
    clear hi
    go_enter Try.func32, Try.ntmps32
    go_wp2
    refine name_world (motive := fun W => Code.wp _ _ _ _ W) _ ?_
    intro W0 hW
    have hWc := hW.cell
    have hWz := hW.size
    have hWb := hW.below (hB1)
    have hr0 := (hr.below hWb (Nat.le_refl _)).more hWb.size
    have ht0 := (ht.below hWb (Nat.le_refl _)).more hWb.size
    have kW := hW.blk ((Blk.new w 58 #[.int .i64 push.x, .int .i64 push.y]).alloc (.cells #[.int .i64 way.x, .int .i64 way.y] 58))
    have kV := hW.blk (Blk.new (w.alloc (.cells #[.int .i64 push.x, .int .i64 push.y] 58)) 58 #[.int .i64 way.x, .int .i64 way.y])
    simp only [World.size_alloc] at kV
    have k0 := kW.cell 0
    have k1 := kW.cell 1
    have k2 := kV.cell 0
    have k3 := kV.cell 1
    simp at k0 k1 k2 k3
    have kz := kW.lt
    have kz2 := kV.lt
  · clear hWc hWz hr ht
    have tok1 : True := trivial
    refine wp_region_any (by kernel_rfl) ?_
    change wpAny _ _ _ _ 23 #[false, false, false, false, false, false, false, false, false, false, false, false, false, false, false, false, false, false, false, false, false, false, false] _ (World.drew _)
    refine wpAny_take (i := 0) (v := _) rfl (by kernel_rfl) (by kernel_rfl) (by kernel_rfl) (fun _ _ _ h => h) (Or.inl ⟨by rfl, by intro w; go_simp; first | done | with_reducible rfl⟩) ?_
    change wpAny _ _ _ _ 22 #[true, false, false, false, false, false, false, false, false, false, false, false, false, false, false, false, false, false, false, false, false, false, false] _ _
    try simp only [Act.put, List.setIfInBounds_toArray, List.set_cons_zero, List.set_cons_succ, List.getElem_toArray, List.getElem_cons_zero, List.getElem_cons_succ]
    refine wpAny_take (i := 1) (v := _) rfl (by kernel_rfl) (by kernel_rfl) (by kernel_rfl) (fun _ _ _ h => h) (Or.inl ⟨by rfl, by intro w; go_simp; first | done | with_reducible rfl⟩) ?_
    change wpAny _ _ _ _ 21 #[true, true, false, false, false, false, false, false, false, false, false, false, false, false, false, false, false, false, false, false, false, false, false] _ _
    try simp only [Act.put, List.setIfInBounds_toArray, List.set_cons_zero, List.set_cons_succ, List.getElem_toArray, List.getElem_cons_zero, List.getElem_cons_succ]
    refine wpAny_take (i := 2) (v := _) rfl (by kernel_rfl) (by kernel_rfl) (by kernel_rfl) (fun _ _ _ h => h) (Or.inl ⟨by rfl, by intro w; go_simp; first | done | with_reducible rfl⟩) ?_
    change wpAny _ _ _ _ 20 #[true, true, true, false, false, false, false, false, false, false, false, false, false, false, false, false, false, false, false, false, false, false, false] _ _
    try simp only [Act.put, List.setIfInBounds_toArray, List.set_cons_zero, List.set_cons_succ, List.getElem_toArray, List.getElem_cons_zero, List.getElem_cons_succ]
    refine wpAny_ready (rs := [3]) (by kernel_rfl) (by simp) ?_
    refine AllReady.cons rfl (fun K hK => ?_) AllReady.nil
    go_simp
    refine hK _ _ ?_
    clear hK K
    change wpAny _ _ _ _ 19 #[true, true, true, true, false, false, false, false, false, false, false, false, false, false, false, false, false, false, false, false, false, false, false] _ _
    try simp only [Act.put, List.setIfInBounds_toArray, List.set_cons_zero, List.set_cons_succ, List.getElem_toArray, List.getElem_cons_zero, List.getElem_cons_succ]
    refine wpAny_ready (rs := [4]) (by kernel_rfl) (by simp) ?_
    refine AllReady.cons rfl (fun K hK => ?_) AllReady.nil
    go_simp
    go_wp2_with (first | (have := tok1; clear this tok1; (go_at_call 62; refine (corner_r Hin.out _).mono ?_; rintro e w1 ⟨rfl, hb1⟩; obtain ⟨hc1, hf1⟩ := bcell hb1); have hz1 : w.heap.size + 1 < w1.heap.size := (by have := hb1.size; (try simp at this); omega)) | ((go_at_call 61; refine (Hv.out _ (hr0.to ((Below.refl _ _).drew.trans hb1)) (ht0.to ((Below.refl _ _).drew.trans hb1))).mono ?_; rintro e w2 ⟨rfl, hb2⟩; obtain ⟨hc2, hf2⟩ := bcell hb2); have hz2 : w.heap.size + 1 < w2.heap.size := (by have := hb2.size; (try simp at this); omega); have y2 := (hc2 _ 0 hz1).trans ((hc1 _ 0 (by simpa using kz2)).trans (by simpa using k2)); have y3 := (hc2 _ 1 hz1).trans ((hc1 _ 1 (by simpa using kz2)).trans (by simpa using k3)); clear hc1 hc2 hf1 hf2) | (go_at_call 62; refine (inside_r Hi.out _ sm).mono ?_; rintro e w3 ⟨rfl, hb3⟩; obtain ⟨hc3, hf3⟩ := bcell hb3))
    change wpAny _ _ _ _ 18 #[true, true, true, true, true, false, false, false, false, false, false, false, false, false, false, false, false, false, false, false, false, false, false] _ _
    try simp only [Act.put, List.setIfInBounds_toArray, List.set_cons_zero, List.set_cons_succ, List.getElem_toArray, List.getElem_cons_zero, List.getElem_cons_succ]
    refine wpAny_ready (rs := [5]) (by kernel_rfl) (by simp) ?_
    refine AllReady.cons rfl (fun K hK => ?_) AllReady.nil
    go_simp
    go_wp2_with (first | (have := tok1; clear this tok1; (go_at_call 62; refine (corner_r Hin.out _).mono ?_; rintro e w1 ⟨rfl, hb1⟩; obtain ⟨hc1, hf1⟩ := bcell hb1); have hz1 : w.heap.size + 1 < w1.heap.size := (by have := hb1.size; (try simp at this); omega)) | ((go_at_call 61; refine (Hv.out _ (hr0.to ((Below.refl _ _).drew.trans hb1)) (ht0.to ((Below.refl _ _).drew.trans hb1))).mono ?_; rintro e w2 ⟨rfl, hb2⟩; obtain ⟨hc2, hf2⟩ := bcell hb2); have hz2 : w.heap.size + 1 < w2.heap.size := (by have := hb2.size; (try simp at this); omega); have y2 := (hc2 _ 0 hz1).trans ((hc1 _ 0 (by simpa using kz2)).trans (by simpa using k2)); have y3 := (hc2 _ 1 hz1).trans ((hc1 _ 1 (by simpa using kz2)).trans (by simpa using k3)); clear hc1 hc2 hf1 hf2) | (go_at_call 62; refine (inside_r Hi.out _ sm).mono ?_; rintro e w3 ⟨rfl, hb3⟩; obtain ⟨hc3, hf3⟩ := bcell hb3))
    change wpAny _ _ _ _ 17 #[true, true, true, true, true, true, false, false, false, false, false, false, false, false, false, false, false, false, false, false, false, false, false] _ _
    try simp only [Act.put, List.setIfInBounds_toArray, List.set_cons_zero, List.set_cons_succ, List.getElem_toArray, List.getElem_cons_zero, List.getElem_cons_succ]
    refine wpAny_take (i := 6) (v := _) rfl (by kernel_rfl) (by kernel_rfl) (by kernel_rfl) (fun _ _ _ h => h) (Or.inl ⟨by rfl, by intro w; go_simp; first | done | with_reducible rfl⟩) ?_
    change wpAny _ _ _ _ 16 #[true, true, true, true, true, true, true, false, false, false, false, false, false, false, false, false, false, false, false, false, false, false, false] _ _
    try simp only [Act.put, List.setIfInBounds_toArray, List.set_cons_zero, List.set_cons_succ, List.getElem_toArray, List.getElem_cons_zero, List.getElem_cons_succ]
    refine wpAny_take (i := 7) (v := _) rfl (by kernel_rfl) (by kernel_rfl) (by kernel_rfl) (fun _ _ _ h => h) (Or.inl ⟨by rfl, by intro w; go_simp; first | done | with_reducible rfl⟩) ?_
    change wpAny _ _ _ _ 15 #[true, true, true, true, true, true, true, true, false, false, false, false, false, false, false, false, false, false, false, false, false, false, false] _ _
    try simp only [Act.put, List.setIfInBounds_toArray, List.set_cons_zero, List.set_cons_succ, List.getElem_toArray, List.getElem_cons_zero, List.getElem_cons_succ]
    refine wpAny_ready (rs := [8]) (by kernel_rfl) (by simp) ?_
    refine AllReady.cons rfl (fun K hK => ?_) AllReady.nil
    go_simp
    refine hK _ _ ?_
    clear hK K
    change wpAny _ _ _ _ 14 #[true, true, true, true, true, true, true, true, true, false, false, false, false, false, false, false, false, false, false, false, false, false, false] _ _
    try simp only [Act.put, List.setIfInBounds_toArray, List.set_cons_zero, List.set_cons_succ, List.getElem_toArray, List.getElem_cons_zero, List.getElem_cons_succ]
    refine wpAny_ready (rs := [9]) (by kernel_rfl) (by simp) ?_
    refine AllReady.cons rfl (fun K hK => ?_) AllReady.nil
    go_simp
    go_wp2_with (first | (have := tok1; clear this tok1; (go_at_call 62; refine (corner_r Hin.out _).mono ?_; rintro e w1 ⟨rfl, hb1⟩; obtain ⟨hc1, hf1⟩ := bcell hb1); have hz1 : w.heap.size + 1 < w1.heap.size := (by have := hb1.size; (try simp at this); omega)) | ((go_at_call 61; refine (Hv.out _ (hr0.to ((Below.refl _ _).drew.trans hb1)) (ht0.to ((Below.refl _ _).drew.trans hb1))).mono ?_; rintro e w2 ⟨rfl, hb2⟩; obtain ⟨hc2, hf2⟩ := bcell hb2); have hz2 : w.heap.size + 1 < w2.heap.size := (by have := hb2.size; (try simp at this); omega); have y2 := (hc2 _ 0 hz1).trans ((hc1 _ 0 (by simpa using kz2)).trans (by simpa using k2)); have y3 := (hc2 _ 1 hz1).trans ((hc1 _ 1 (by simpa using kz2)).trans (by simpa using k3)); clear hc1 hc2 hf1 hf2) | (go_at_call 62; refine (inside_r Hi.out _ sm).mono ?_; rintro e w3 ⟨rfl, hb3⟩; obtain ⟨hc3, hf3⟩ := bcell hb3))
    change wpAny _ _ _ _ 13 #[true, true, true, true, true, true, true, true, true, true, false, false, false, false, false, false, false, false, false, false, false, false, false] _ _
    try simp only [Act.put, List.setIfInBounds_toArray, List.set_cons_zero, List.set_cons_succ, List.getElem_toArray, List.getElem_cons_zero, List.getElem_cons_succ]
    refine wpAny_take (i := 10) (v := _) rfl (by kernel_rfl) (by kernel_rfl) (by kernel_rfl) (fun _ _ _ h => h) (Or.inl ⟨by rfl, by intro w; go_simp; first | done | with_reducible rfl⟩) ?_
    change wpAny _ _ _ _ 12 #[true, true, true, true, true, true, true, true, true, true, true, false, false, false, false, false, false, false, false, false, false, false, false] _ _
    try simp only [Act.put, List.setIfInBounds_toArray, List.set_cons_zero, List.set_cons_succ, List.getElem_toArray, List.getElem_cons_zero, List.getElem_cons_succ]
    refine wpAny_take (i := 11) (v := _) rfl (by kernel_rfl) (by kernel_rfl) (by kernel_rfl) (fun _ _ _ h => h) (Or.inl ⟨by rfl, by intro w; go_simp; first | done | with_reducible rfl⟩) ?_
    change wpAny _ _ _ _ 11 #[true, true, true, true, true, true, true, true, true, true, true, true, false, false, false, false, false, false, false, false, false, false, false] _ _
    try simp only [Act.put, List.setIfInBounds_toArray, List.set_cons_zero, List.set_cons_succ, List.getElem_toArray, List.getElem_cons_zero, List.getElem_cons_succ]
    refine wpAny_take (i := 12) (v := undef) rfl (by kernel_rfl) (by kernel_rfl) (by kernel_rfl) (fun _ _ _ h => h) (Or.inr ⟨by rfl, rfl⟩) ?_
    change wpAny _ _ _ _ 10 #[true, true, true, true, true, true, true, true, true, true, true, true, true, false, false, false, false, false, false, false, false, false, false] _ _
    try simp only [Act.put, List.setIfInBounds_toArray, List.set_cons_zero, List.set_cons_succ, List.getElem_toArray, List.getElem_cons_zero, List.getElem_cons_succ]
    refine wpAny_take (i := 13) (v := undef) rfl (by kernel_rfl) (by kernel_rfl) (by kernel_rfl) (fun _ _ _ h => h) (Or.inr ⟨by rfl, rfl⟩) ?_
    change wpAny _ _ _ _ 9 #[true, true, true, true, true, true, true, true, true, true, true, true, true, true, false, false, false, false, false, false, false, false, false] _ _
    try simp only [Act.put, List.setIfInBounds_toArray, List.set_cons_zero, List.set_cons_succ, List.getElem_toArray, List.getElem_cons_zero, List.getElem_cons_succ]
    refine wpAny_take (i := 14) (v := undef) rfl (by kernel_rfl) (by kernel_rfl) (by kernel_rfl) (fun _ _ _ h => h) (Or.inr ⟨by rfl, rfl⟩) ?_
    change wpAny _ _ _ _ 8 #[true, true, true, true, true, true, true, true, true, true, true, true, true, true, true, false, false, false, false, false, false, false, false] _ _
    try simp only [Act.put, List.setIfInBounds_toArray, List.set_cons_zero, List.set_cons_succ, List.getElem_toArray, List.getElem_cons_zero, List.getElem_cons_succ]
    refine wpAny_take (i := 15) (v := undef) rfl (by kernel_rfl) (by kernel_rfl) (by kernel_rfl) (fun _ _ _ h => h) (Or.inr ⟨by rfl, rfl⟩) ?_
    change wpAny _ _ _ _ 7 #[true, true, true, true, true, true, true, true, true, true, true, true, true, true, true, true, false, false, false, false, false, false, false] _ _
    try simp only [Act.put, List.setIfInBounds_toArray, List.set_cons_zero, List.set_cons_succ, List.getElem_toArray, List.getElem_cons_zero, List.getElem_cons_succ]
    refine wpAny_take (i := 16) (v := undef) rfl (by kernel_rfl) (by kernel_rfl) (by kernel_rfl) (fun _ _ _ h => h) (Or.inr ⟨by rfl, rfl⟩) ?_
    change wpAny _ _ _ _ 6 #[true, true, true, true, true, true, true, true, true, true, true, true, true, true, true, true, true, false, false, false, false, false, false] _ _
    try simp only [Act.put, List.setIfInBounds_toArray, List.set_cons_zero, List.set_cons_succ, List.getElem_toArray, List.getElem_cons_zero, List.getElem_cons_succ]
    refine wpAny_take (i := 17) (v := undef) rfl (by kernel_rfl) (by kernel_rfl) (by kernel_rfl) (fun _ _ _ h => h) (Or.inr ⟨by rfl, rfl⟩) ?_
    change wpAny _ _ _ _ 5 #[true, true, true, true, true, true, true, true, true, true, true, true, true, true, true, true, true, true, false, false, false, false, false] _ _
    try simp only [Act.put, List.setIfInBounds_toArray, List.set_cons_zero, List.set_cons_succ, List.getElem_toArray, List.getElem_cons_zero, List.getElem_cons_succ]
    refine wpAny_take (i := 18) (v := undef) rfl (by kernel_rfl) (by kernel_rfl) (by kernel_rfl) (fun _ _ _ h => h) (Or.inr ⟨by rfl, rfl⟩) ?_
    change wpAny _ _ _ _ 4 #[true, true, true, true, true, true, true, true, true, true, true, true, true, true, true, true, true, true, true, false, false, false, false] _ _
    try simp only [Act.put, List.setIfInBounds_toArray, List.set_cons_zero, List.set_cons_succ, List.getElem_toArray, List.getElem_cons_zero, List.getElem_cons_succ]
    refine wpAny_take (i := 19) (v := undef) rfl (by kernel_rfl) (by kernel_rfl) (by kernel_rfl) (fun _ _ _ h => h) (Or.inr ⟨by rfl, rfl⟩) ?_
    change wpAny _ _ _ _ 3 #[true, true, true, true, true, true, true, true, true, true, true, true, true, true, true, true, true, true, true, true, false, false, false] _ _
    try simp only [Act.put, List.setIfInBounds_toArray, List.set_cons_zero, List.set_cons_succ, List.getElem_toArray, List.getElem_cons_zero, List.getElem_cons_succ]
    refine wpAny_take (i := 20) (v := undef) rfl (by kernel_rfl) (by kernel_rfl) (by kernel_rfl) (fun _ _ _ h => h) (Or.inr ⟨by rfl, rfl⟩) ?_
    change wpAny _ _ _ _ 2 #[true, true, true, true, true, true, true, true, true, true, true, true, true, true, true, true, true, true, true, true, true, false, false] _ _
    try simp only [Act.put, List.setIfInBounds_toArray, List.set_cons_zero, List.set_cons_succ, List.getElem_toArray, List.getElem_cons_zero, List.getElem_cons_succ]
    refine wpAny_take (i := 21) (v := _) rfl (by kernel_rfl) (by kernel_rfl) (by kernel_rfl) (fun _ _ _ h => h) (Or.inl ⟨by rfl, by intro w; go_simp; first | done | with_reducible rfl⟩) ?_
    change wpAny _ _ _ _ 1 #[true, true, true, true, true, true, true, true, true, true, true, true, true, true, true, true, true, true, true, true, true, true, false] _ _
    try simp only [Act.put, List.setIfInBounds_toArray, List.set_cons_zero, List.set_cons_succ, List.getElem_toArray, List.getElem_cons_zero, List.getElem_cons_succ]
    refine wpAny_take (i := 22) (v := _) rfl (by kernel_rfl) (by kernel_rfl) (by kernel_rfl) (fun _ _ _ h => h) (Or.inl ⟨by rfl, by intro w; go_simp; first | done | with_reducible rfl⟩) ?_
    change wpAny _ _ _ _ 0 #[true, true, true, true, true, true, true, true, true, true, true, true, true, true, true, true, true, true, true, true, true, true, true] _ _
    try simp only [Act.put, List.setIfInBounds_toArray, List.set_cons_zero, List.set_cons_succ, List.getElem_toArray, List.getElem_cons_zero, List.getElem_cons_succ]
    refine wpAny_done (by kernel_rfl) ?_ _
    go_wp2
    go_ret
    exact ⟨rfl, hWb.trans ((((Below.refl _ _).drew.trans hb1 |>.trans (hb2.mono hb1.size)).trans (hb3.mono (by have := hb1.size; have := hb2.size; omega))).mono hWb.size)⟩
  · obtain ⟨b, off, A2, c2, rfl, hb, x0, x1, x2, hg1, hg2, hg⟩ := ht0.at_ Hk.out
    clear hWc hWz hr ht
    have wb := Lib.hid (show VB way 1000000 from by have := Hi.out; simpa [Vec.insideB, inB_true, VB] using this)
    have tok1 : True := trivial
    (first | (go_region_held3 (fun w' => (∀ b o, b < W0.heap.size → w'.cell? ⟨b, o, none⟩ = W0.cell? ⟨b, o, none⟩) ∧ Below W0.heap.size W0 w') (first | with_reducible exact sh_refl _ | (with_reducible refine sh_of ?_; with_reducible assumption) | (with_reducible refine sh_alloc ?_ _; with_reducible assumption) | with_reducible exact sh_first _ _) (first | (have := tok1; clear this tok1; (go_at_call 62; go_split_ands; have hS1 : Below W0.heap.size W0 _ := (by with_reducible assumption); refine (corner_r Hin.out _).mono ?_; rintro e w1 ⟨rfl, hb1⟩; have hB1 := sh_next hS1 hb1)) | (go_at_call 61; go_split_ands; have hS2 : Below W0.heap.size W0 _ := (by with_reducible assumption); refine (Hv.out _ (hr0.to hS2) (ht0.to hS2)).mono ?_; rintro e w2 ⟨rfl, hb2⟩; have hB2 := sh_next hS2 hb2) | (go_at_call 62; go_split_ands; have hS3 : Below W0.heap.size W0 _ := (by with_reducible assumption); refine (inside_r Hi.out _ sm).mono ?_; rintro e w3 ⟨rfl, hb3⟩; have hB3 := sh_next hS3 hb3) | (go_at_call 63; go_split_ands; have hS4 : Below W0.heap.size W0 _ := (by with_reducible assumption); refine (measureV_any A c l A2 c2 h f Hf.out _ (hr0.to hS4) hl Hok.out Hhk.out ((hg.below hS4 (Nat.le_refl _)).more hS4.size)).mono ?_; rintro e w4 ⟨A1, c1, rfl, hrs, hc1, hc2, hb4⟩; have hB4 := sh_next hS4 hb4) | (go_at_call 68; go_split_ands; have hS5 : Below W0.heap.size W0 _ := (by with_reducible assumption); refine (weakIn_any h A1 A2 c1 c2 f push way _ hrs (by omega) Hfv.out wb.out Har.out Hwb.out).mono ?_; rintro e w5 ⟨rfl, hb5⟩; have hB5 := sh_next hS5 hb5))) | fail)
    go_wp2
    go_ret
    exact ⟨rfl, hWb.trans (hB5.mono hWb.size)⟩
end Go.Proofs.Ytibaindlbpfecaa

namespace Go.Proofs.Ytibaindlbpfecaa
open Go.RowKit

theorem infoSI : (Try.prog.info? 50).map (fun i => (i.zero, i.size, i.bytes)) = some (some (.slice none 0 0), 1, 24) := by kernel_rfl
def partsT (l : List Tst) (t : List Head) : List (List Int) := t.map (partsM l)
theorem partsT_length {l : List Tst} {t : List Head} : (partsT l t).length = t.length := by simp [partsT]
def PartsTPost (l : List Tst) (t : List Head) (w : World) (e : Ending) (w' : World) : Prop :=
  ∃ A1 c1, e = .returned (.tuple #[.slice A1 t.length c1, .int .i64 0]) ∧ RR w' w'.heap.size A1 (partsT l t) ∧ t.length ≤ c1 ∧ c1 ≤ maxLen ∧ Below w.heap.size w w'
def partsE (l : List Tst) (t : List Head) : Int := firstE (tentedE l t) true l
theorem checkTented_val (A : Option Addr) (c : Nat) {l : List Tst} (A' : Option Addr) (c' : Nat) {t : List Head} {z : Int} (hE : partsE l t = z) (w : World) (hr : RS encT 4 w w.heap.size A l) (hl : l.length ≤ maxLen) (ht : RH w w.heap.size A' t) (htl : t.length ≤ maxLen) :
    Calls Try.prog 85 #[.slice A l.length c, .slice A' t.length c'] w fun e w' => e = .returned (.int .i64 z) ∧ Below w.heap.size w w' := by
  rw [← hE]; exact checkTented_any A c l A' c' t w hr hl ht htl
theorem Parts_err (A : Option Addr) (c : Nat) (l : List Tst) (A' : Option Addr) (c' : Nat) (t : List Head) (z : Int) (hz : z ≠ 0) (w : World) (hr : RS encT 4 w w.heap.size A l) (hl : l.length ≤ maxLen) (ht : RH w w.heap.size A' t) (htl : t.length ≤ maxLen) (hE : partsE l t = z) :
    Calls Try.prog 52 #[.slice A l.length c, .slice A' t.length c'] w fun e w' => e = .returned (.tuple #[.slice none 0 0, .int .i64 z]) ∧ Below w.heap.size w w' := by
  have e0 : (z != 0) = true := by simpa using hz
  have hv := fun W hr ht => checkTented_val A c A' c' hE W hr hl ht htl
  have Hv := Lib.hid hv
  clear hv hE hz
  go_enter Try.func52, Try.ntmps52
  go_wp2_with ((go_at_call 85; refine (Hv.out _ hr ht).mono ?_; rintro e w1 ⟨rfl, hb1⟩; obtain ⟨hc1, hf1⟩ := bcell hb1))
  go_ret2
  exact ⟨rfl, hb1⟩

set_option maxRecDepth 100000 in
set_option maxHeartbeats 1000000 in
theorem Parts_ok (A : Option Addr) (c : Nat) (l : List Tst) (A' : Option Addr) (c' : Nat) (t : List Head) (w : World) (hr : RS encT 4 w w.heap.size A l) (hl : l.length ≤ maxLen) (ht : RH w w.heap.size A' t) (htl : t.length ≤ maxLen) (hE : partsE l t = 0) :
    Calls Try.prog 52 #[.slice A l.length c, .slice A' t.length c'] w (PartsTPost l t w) := by
  obtain ⟨i0, hi0, hz0, hz1, hz2⟩ := info_parts infoSI
  have h0 : tentedE l t = 0 := by
    unfold partsE firstE at hE
    split at hE
    · assumption
    · rename_i h; exact absurd hE h
  obtain ⟨hok, hhok⟩ := tentedE_ok h0
  have ht12 : t.length ≤ 12 := by have := (tentedE_zero h0).2; simp [tentOk] at this; exact this.2.1
  have hv := fun W hr ht => checkTented_val A c A' c' hE W hr hl ht htl
  have Hv := Lib.hid hv
  have Hok := Lib.hid hok
  have Hhok := Lib.hid hhok
  unfold maxLen at htl
  clear hv hE h0 hok hhok
  go_enter Try.func52, Try.ntmps52
  go_wp2_with ((go_at_call 85; refine (Hv.out _ hr ht).mono ?_; rintro e w1 ⟨rfl, hb1⟩; obtain ⟨hc1, hf1⟩ := bcell hb1))
  have hr1 := hr.to hb1
  have ht1 := ht.to hb1
  clear hc1 hf1 hr ht
  go_loopw [7, 18] (fun v i wr => ∃ (k : Nat) (cs : List (Option Addr × Nat)), k ≤ t.length ∧ i = .int .i64 k ∧ wr.ownsRow w1.heap.size 50 1 v k (flat2 encR ((partsT l t).take k) cs) ∧ Subs encI 1 id wr v.ownBlock ((partsT l t).take k) cs ∧ Below w1.heap.size w1 wr) (fun _ i _ => t.length - (intOf i).toNat)
  case atStart => exact ⟨0, [], Nat.zero_le _, rfl, World.ownsRow_nil _ _ _ _, Subs.nil, Below.refl _ _⟩
  case round =>
    obtain ⟨k, cs, hk, rfl, hown, hsub, hB⟩ := hrel
    have hBz := hB.size
    by_cases hlt : k < t.length
    · obtain ⟨h, hh⟩ := getElem?_lt hlt
      have Hhk := Lib.hid (Hhok.out h (List.mem_of_getElem? hh))
      obtain ⟨b, off, A2, c2, rfl, hb, x0, x1, x2, hg1, hg2, hg⟩ := (ht1.below hB (Nat.le_refl _)).at_ hh
      have hP : (partsT l t)[k]? = some (partsM l h) := by simp [partsT, hh]
      have HP := Lib.hid hP
      have hBa := (Below.refl _ wr).alloc (Nat.le_refl _) (.cells #[.int .i64 h.area, .int .i64 h.bears, .slice A2 h.guys.length c2] 43)
      have hrr := ((hr1.below hB (Nat.le_refl _)).more hBz).to hBa
      have hgg := (hg.more hBz).to hBa
      clear hh hP hg ht1 hr1
      go_wp2_with fail
      refine (partsOf_any A c l A2 c2 h _ hrr hl Hok.out Hhk.out hgg).mono ?_
      rintro e w2 ⟨A1, c1, rfl, hrs, hfr, hc1, hc2, hb2⟩
      have hown2 := own_below (hown.alloc (.cells #[.int .i64 h.area, .int .i64 h.bears, .slice A2 h.guys.length c2] 43)) hb2
      have hsub2 := (hsub.below hBa).below hb2
      have hBw := (hB.alloc hBz (.cells #[.int .i64 h.area, .int .i64 h.bears, .slice A2 h.guys.length c2] 43)).trans (hb2.mono (by simp <;> omega))
      have hy2 := hb2.size
      have hBs := (Below.refl _ w2).alloc (Nat.le_refl _) (.cells #[.slice A1 h.guys.length c1] 50)
      have hlt0 := hown.lt
      simp only [World.size_alloc] at hy2 hfr
      go_wp2_with (at_builtin; refine wpList_append_lies _ rfl _ _ 107 rfl w1.heap.size 50 i0 (.slice none 0 0) 1 24 Try.underlying107 hi0 hz0 hz1 hz2 rfl (by decide) _ _ _ rfl (hown2.alloc _) ⟨w2.heap.size, 0, none⟩ 1 1 [.slice A1 h.guys.length c1] rfl rfl ?c1 ?c2 (by decide) ?c3 ?c4 ?c5 (w2.heap.size + 1) (by simp) ?_)
      case c1 => exact cell_one_new _ _ _
      case c2 => simp [Value.oneCell']
      case c3 => unfold maxLen; omega
      case c4 => omega
      case c5 => simp; omega
      intro g cap w3 hown3 hgrow3 hor hlt3
      have hB3 := app_belowL (hBw.alloc (by omega) (.cells #[.slice A1 h.guys.length c1] 50)) (Nat.le_refl _) (by simp; omega) (hown2.alloc _) hgrow3
      go_wp2
      refine ⟨⟨k + 1, cs ++ [(A1, c1)], by omega, by go_num, ?_, ?_, hB3⟩, by simp [intOf]; omega⟩
      · rw [take_snoc' HP.out, flat2_snoc (hsub.1)]
        show World.ownsRow _ _ _ _ _ _ (_ ++ [.slice A1 (partsM l h).length c1])
        rw [partsM_length]
        exact hown3
      · rw [take_snoc' HP.out]
        refine Subs.grown (Subs.snoc (hsub2.below hBs) (by show (partsM l h).length ≤ _; rw [partsM_length]; exact hc1) hc2 (hrs.to hBs) (.inr fun ad e he => ?_)) hgrow3 (hor.imp id (fun e => by simp; omega))
        have := hfr ad e
        have := (hlt0 _ he.symm).2
        omega
    · go_wp2
      obtain ⟨A1, c1, rfl, hc1, hc2⟩ := own_slice hown
      obtain rfl : k = t.length := by omega
      go_ret2
      rw [List.take_of_length_le (by rw [partsT_length]; omega)] at hown hsub
      exact ⟨A1, c1, rfl, RR.of_own hown partsT_length.symm hsub, hc1, hc2, sh_next hb1 hB⟩
end Go.Proofs.Ytibaindlbpfecaa
