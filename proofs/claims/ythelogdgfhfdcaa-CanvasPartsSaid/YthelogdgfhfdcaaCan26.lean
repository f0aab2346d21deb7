import Derived.Test.YthelogdgfhfdcaaCan24
namespace Go.Proofs.Ythelogdgfhfdcaa
open Go.RowKit

/-- A measured head, with forces by their name. -/
def MeasV (f : List Vec) (h : Head) (A2 : Option Addr) (c2 : Nat) (w : World) (e : Ending) (w' : World) : Prop :=
  ∃ A1 c1, e = .returned (.agg #[.int .i64 h.area, .int .i64 h.bears, .slice A2 h.guys.length c2, .slice A1 f.length c1]) ∧ RS encV 2 w' w'.heap.size A1 f ∧ f.length ≤ c1 ∧ c1 ≤ maxLen ∧ Below w.heap.size w w'
theorem measureV_any (A : Option Addr) (c : Nat) (l : List Tst) (A2 : Option Addr) (c2 : Nat) (h : Head) (f : List Vec) (hf : forcesM l h = f) (w : World) (hr : RS encT 4 w w.heap.size A l) (hl : l.length ≤ maxLen) (hok : ∀ x ∈ l, x.ok = true) (hh : h.ok = true) (hg : RS encG 5 w w.heap.size A2 h.guys) :
    Calls Try.prog 76 #[.slice A l.length c, .agg #[.int .i64 h.area, .int .i64 h.bears, .slice A2 h.guys.length c2]] w (MeasV f h A2 c2 w) := by
  refine (measure_any A c l A2 c2 h w hr hl hok hh hg).mono ?_
  rintro e w' ⟨A1, c1, rfl, h1, h2, h3, h4⟩
  subst hf
  exact ⟨A1, c1, by rw [forcesM_length], h1, by rw [forcesM_length]; exact h2, h3, h4⟩
theorem forces_in {l : List Tst} {h : Head} {f : List Vec} (hf : forcesM l h = f) (hok : ∀ x ∈ l, x.ok = true) (hh : h.ok = true) : f.length ≤ 8 ∧ ∀ v ∈ f, VB v 500000 := by
  subst hf
  exact ⟨by rw [forcesM_length]; exact Head.guys_le hh, forces_vb hok (Head.guys_ok hh)⟩
theorem inside_r {v : Vec} {n : Int} {b : Bool} (hb : v.insideB n = b) (w : World) (h : Sm n) :
    Calls Try.prog 75 #[.agg #[.int .i64 v.x, .int .i64 v.y], .int .i64 n] w fun e w' => e = .returned (.bool b) ∧ Below w.heap.size w w' := by rw [← hb]; exact inside_any v n w h

def wayIn (way : Vec) : Bool := decide (way ≠ vecZ) && way.insideB 10000
set_option maxRecDepth 100000 in
set_option maxHeartbeats 1000000 in
theorem Reach_ok (A : Option Addr) (c : Nat) (l : List Tst) (A' : Option Addr) (c' : Nat) (t : List Head) (k : Nat) (h : Head) (hk : t[k]? = some h) (way : Vec) (f : List Vec) (hf : forcesM l h = f) (w : World) (hr : RS encT 4 w w.heap.size A l) (hl : l.length ≤ maxLen) (ht : RH w w.heap.size A' t) (htl : t.length ≤ maxLen) (hE : headE l t k (wayIn way) = 0) :
    Calls Try.prog 51 #[.slice A l.length c, .slice A' t.length c', .int .i64 k, .agg #[.int .i64 way.x, .int .i64 way.y]] w fun e w' => e = .returned (.tuple #[.int .i64 (reachM h.area f way), .int .i64 0]) ∧ Below w.heap.size w w' := by
  obtain ⟨hin, hh0, hok, hhok, _⟩ := headE_zero hE
  have hhk := hhok h (List.mem_of_getElem? hk)
  obtain ⟨hfl, hfv⟩ := forces_in hf hok hhk
  have har := Lib.hid (Head.area_in hhk)
  simp only [wayIn, Bool.and_eq_true, decide_eq_true_eq] at hin
  obtain ⟨hwz, hwi⟩ := hin
  have hwb := Lib.hid (Vec.corner_iff.1 hwi)
  have ee : (way.x == 0) = false ∨ ((way.x == 0) = true ∧ (way.y == 0) = false) := by
    rw [vecZ_ne] at hwz
    simp; omega
  have hv := fun W hr ht => checkHead_val A c A' c' hE W hr hl ht htl
  rw [show wayIn way = true by simp [wayIn, hwz, hwi]] at hv
  have Hv := Lib.hid hv
  have Hf := Lib.hid hf
  have Hfv := Lib.hid hfv
  have Hok := Lib.hid hok
  have Hhk := Lib.hid hhk
  have Hk := Lib.hid hk
  have Hwi := Lib.hid hwi
  have hkl := lt_of_getElem? hk
  have sm : Sm 10000 := by unfold Sm; omega
  have hB1 := (Below.refl w.heap.size w).alloc (Nat.le_refl _) (.cells #[.int .i64 way.x, .int .i64 way.y] 74)
  have hr1 := (hr.below hB1 (Nat.le_refl _)).more hB1.size
  have ht1 := (ht.below hB1 (Nat.le_refl _)).more hB1.size
  unfold maxLen at htl
  clear hE hv hf hfv hok hhk hk hwi hwz hr hhok
  rcases ee with e1 | ⟨e1, e2⟩
  all_goals
    go_enter Try.func51, Try.ntmps51
    go_wp2_with (first | (go_at_call 75; refine (inside_r Hwi.out _ sm).mono ?_; rintro e w1 ⟨rfl, hb1⟩; obtain ⟨hc1, hf1⟩ := bcell hb1; have hz1 : w.heap.size < w1.heap.size := (by have := hb1.size; (try simp at this); omega)) | (go_at_call 74; refine (Hv.out _ (hr1.to hb1) (ht1.to hb1)).mono ?_; rintro e w2 ⟨rfl, hb2⟩; obtain ⟨hc2, hf2⟩ := bcell hb2; have hz2 : w.heap.size < w2.heap.size := (by have := hb2.size; (try simp at this); omega)))
    refine name_world (motive := fun W => Code.wp _ _ _ _ W) _ ?_
    intro W0 hW
    have hWc := hW.cell
    have hWz := hW.size
    have hWb := hW.below ((hB1.trans (hb1.mono (by simp))).trans (hb2.mono (by omega)))
    have hr0 := ((hr1.to hb1).to hb2)
    have ht0 := ((ht1.to hb1).to hb2)
    rw [← hW.eq.out] at hr0 ht0
    obtain ⟨b, off, A2, c2, rfl, hb, x0, x1, x2, hg1, hg2, hg⟩ := ht0.at_ Hk.out
    have kW := hW.blk (((Blk.new w 74 #[.int .i64 way.x, .int .i64 way.y]).below hb1 (by simp)).below hb2 (by omega))
    have k0 := kW.cell 0
    have k1 := kW.cell 1
    simp at k0 k1
    have kz := kW.lt
    clear hWc hWz hc2 hf2 ht0 ht1 ht
    go_region_held3 (fun w' => (∀ b o, b < W0.heap.size → w'.cell? ⟨b, o, none⟩ = W0.cell? ⟨b, o, none⟩) ∧ Below W0.heap.size W0 w') (first | with_reducible exact sh_refl _ | (with_reducible refine sh_of ?_; with_reducible assumption) | (with_reducible refine sh_alloc ?_ _; with_reducible assumption) | with_reducible exact sh_first _ _)
      (first | (go_at_call 76; go_split_ands; have hS1 : Below W0.heap.size W0 _ := (by with_reducible assumption); refine (measureV_any A c l A2 c2 h f Hf.out _ (hr0.to hS1) hl Hok.out Hhk.out ((hg.below hS1 (Nat.le_refl _)).more hS1.size)).mono ?_; rintro e w3 ⟨A1, c1, rfl, hrs, hc1, hc2, hb3⟩; have hB3 := sh_next hS1 hb3) | (go_at_call 85; go_split_ands; have hS2 : Below W0.heap.size W0 _ := (by with_reducible assumption); refine (reach_any h A1 A2 c1 c2 f way _ hrs hfl Hfv.out har.out hwb.out).mono ?_; rintro e w4 ⟨rfl, hb4⟩; have hB4 := sh_next hS2 hb4))
    go_wp2
    go_ret2
    exact ⟨rfl, hWb.trans (hB4.mono hWb.size)⟩
end Go.Proofs.Ythelogdgfhfdcaa
