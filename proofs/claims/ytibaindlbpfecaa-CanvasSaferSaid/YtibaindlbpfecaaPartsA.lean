import Derived.Test.YtibaindlbpfecaaCanE
import Derived.Test.YtibaindlbpfecaaRefA
import Derived.Test.YtibaindlbpfecaaBase
import Derived.Test.YtibaindlbpfecaaLawB
namespace Go.Proofs.Ytibaindlbpfecaa
open Go.RowKit

/-- The numbers of the first k heads that press more than they bear. -/
def overM (t : List Head) : Nat → List Int
  | 0 => []
  | k + 1 => overM t k ++ (match t[k]? with | some h => if downM h > h.bears then [(k : Int)] else [] | none => [])
theorem overM_le (t : List Head) : ∀ k, (overM t k).length ≤ k
  | 0 => Nat.le_refl _
  | k + 1 => by
    have := overM_le t k
    rw [overM, List.length_append]
    split
    · split <;> simp <;> omega
    · simp; omega
theorem overM_yes {t : List Head} {k : Nat} {h : Head} (hk : t[k]? = some h) (ho : downM h > h.bears) : overM t (k + 1) = overM t k ++ [(k : Int)] := by
  rw [overM, hk]; simp [ho]
theorem overM_no {t : List Head} {k : Nat} {h : Head} (hk : t[k]? = some h) (ho : ¬ downM h > h.bears) : overM t (k + 1) = overM t k := by
  rw [overM, hk]; simp [ho]
def OverPost (t : List Head) (w : World) (e : Ending) (w' : World) : Prop :=
  ∃ A1 c1, e = .returned (.tuple #[.slice A1 (overM t t.length).length c1, .int .i64 0]) ∧ RS encI 1 w' w'.heap.size A1 (overM t t.length) ∧ (overM t t.length).length ≤ c1 ∧ c1 ≤ maxLen ∧ Below w.heap.size w w'
theorem Over_err (A : Option Addr) (c : Nat) (t : List Head) (z : Int) (hz : z ≠ 0) (w : World) (ht : RH w w.heap.size A t) (htl : t.length ≤ maxLen) (hE : tentE t = z) :
    Calls Try.prog 37 #[.slice A t.length c] w fun e w' => e = .returned (.tuple #[.slice none 0 0, .int .i64 z]) ∧ Below w.heap.size w w' := by
  have e0 : (z != 0) = true := by simpa using hz
  have Hv := Lib.hid (fun W ht => hE ▸ checkTent_any A c t W ht htl)
  clear hE hz
  go_enter Try.func37, Try.ntmps37
  go_wp2_with ((go_at_call 44; refine (Hv.out _ ht).mono ?_; rintro e w1 ⟨rfl, hb1⟩; obtain ⟨hc1, hf1⟩ := bcell hb1))
  go_ret2
  exact ⟨rfl, hb1⟩

set_option maxRecDepth 100000 in
set_option maxHeartbeats 1000000 in
theorem Over_ok (A : Option Addr) (c : Nat) (t : List Head) (w : World) (ht : RH w w.heap.size A t) (htl : t.length ≤ maxLen) (hE : tentE t = 0) (ht12 : t.length ≤ 12) (hhok : ∀ h ∈ t, h.ok = true) :
    Calls Try.prog 37 #[.slice A t.length c] w (OverPost t w) := by
  obtain ⟨i0, hi0, hz0, hz1, hz2⟩ := info_parts infoI
  have Hv := Lib.hid (fun W ht => hE ▸ checkTent_any A c t W ht htl)
  have Hhok := Lib.hid hhok
  unfold maxLen at htl
  clear hE hhok
  go_enter Try.func37, Try.ntmps37
  go_wp2_with ((go_at_call 44; refine (Hv.out _ ht).mono ?_; rintro e w1 ⟨rfl, hb1⟩; obtain ⟨hc1, hf1⟩ := bcell hb1))
  have ht1 := ht.to hb1
  clear hc1 hf1 ht
  go_loopw [5, 15] (fun v i wr => ∃ (k : Nat), k ≤ t.length ∧ i = .int .i64 k ∧ wr.ownsRow w1.heap.size 3 1 v (overM t k).length ((overM t k).flatMap encI) ∧ Below w1.heap.size w1 wr) (fun _ i _ => t.length - (intOf i).toNat)
  case atStart => exact ⟨0, Nat.zero_le _, rfl, World.ownsRow_nil _ _ _ _, Below.refl _ _⟩
  case round =>
    obtain ⟨k, hk, rfl, hown, hB⟩ := hrel
    have hBz := hB.size
    by_cases hlt : k < t.length
    · obtain ⟨h, hh⟩ := getElem?_lt hlt
      have Hhk := Lib.hid (Hhok.out h (List.mem_of_getElem? hh))
      obtain ⟨b, off, A2, c2, rfl, hb, x0, x1, x2, hg1, hg2, hg⟩ := (ht1.below hB (Nat.le_refl _)).at_ hh
      have Hh := Lib.hid hh
      have hole := overM_le t k
      have hBa := (Below.refl _ wr).alloc (Nat.le_refl _) (.cells #[.int .i64 h.area, .int .i64 h.bears, .slice A2 h.guys.length c2] 43)
      have hgg := (hg.more hBz).to hBa
      have kH := (Blk.new wr 43 #[.int .i64 h.area, .int .i64 h.bears, .slice A2 h.guys.length c2])
      clear hh hg ht1
      go_wp2
      refine name_world (motive := fun W => Code.wp _ _ _ _ W) _ ?_
      intro W0 hW
      have hWc := hW.cell
      have hWz := hW.size
      have hWb := hW.below ((Below.refl wr.heap.size wr).alloc (Nat.le_refl _) (.cells #[.int .i64 h.area, .int .i64 h.bears, .slice A2 h.guys.length c2] 43))
      have hg0 : RS encG 5 W0 W0.heap.size A2 h.guys := by rw [hW.eq.out]; exact hgg
      have kW := hW.blk kH
      have k0 := kW.cell 0
      have k1 := kW.cell 1
      have k2 := kW.cell 2
      simp at k0 k1 k2
      have kz := kW.lt
      have hownW : W0.ownsRow w1.heap.size 3 1 u5 (overM t k).length ((overM t k).flatMap encI) := by rw [hW.eq.out]; exact hown.alloc _
      clear hWc hWz
      go_region_held3 (fun w' => (∀ b o, b < W0.heap.size → w'.cell? ⟨b, o, none⟩ = W0.cell? ⟨b, o, none⟩) ∧ Below W0.heap.size W0 w') (first | with_reducible exact sh_refl _ | (with_reducible refine sh_of ?_; with_reducible assumption) | (with_reducible refine sh_alloc ?_ _; with_reducible assumption) | with_reducible exact sh_first _ _)
        (first | (go_at_call 76; go_split_ands; have hS2 : Below W0.heap.size W0 _ := (by with_reducible assumption); refine (down_any h A2 c2 _ (hg0.to hS2) Hhk.out).mono ?_; rintro e w2 ⟨rfl, hb2⟩; have hB2 := sh_next hS2 hb2))
      have hB3 := hB.trans ((hWb.mono hBz).trans (hB2.mono (by have := hWb.size; omega)))
      have hown2 := own_below hownW hB2
      have hy2 := hB2.size
      by_cases ho : downM h > h.bears
      · have Ho := Lib.hid ho
        have e5 : decide (h.bears < downM h) = true := by simpa using ho
        go_wp2_with (at_builtin; refine wpList_append_own _ rfl _ _ 50 rfl w1.heap.size 3 i0 (.int .i64 0) 1 8 Try.underlying50 hi0 hz0 hz1 hz2 rfl (by decide) _ _ _ rfl (hown2.alloc _) ⟨_, 0, none⟩ 1 1 [.int .i64 (k : Int)] rfl rfl ?c1 ?c2 ?c3 ?c4 ?c5 ?_)
        case c1 => exact cell_one_new _ _ _
        case c2 => simp [Value.oneCell']
        case c3 => unfold maxLen; omega
        case c4 => omega
        case c5 => simp; omega
        intro v2 w3 hown3 hgrow3 _
        have hB4 := app_belowL (hB3.alloc (by omega) (.cells #[.int .i64 (k : Int)] 3)) (Nat.le_refl _) (by simp; omega) (hown2.alloc _) hgrow3
        go_wp2
        refine ⟨⟨k + 1, by omega, by go_num, ?_, hB4⟩, by simp [intOf]; omega⟩
        rw [overM_yes Hh.out Ho.out, List.length_append, List.flatMap_append]
        exact hown3
      · have Ho := Lib.hid ho
        have e5 : decide (h.bears < downM h) = false := by simpa using ho
        go_wp2
        refine ⟨⟨k + 1, by omega, by go_num, ?_, hB3⟩, by simp [intOf]; omega⟩
        rw [overM_no Hh.out Ho.out]
        exact hown2
    · go_wp2
      obtain ⟨A1, c1, rfl, hc1, hc2⟩ := own_slice hown
      obtain rfl : k = t.length := by omega
      go_ret2
      exact ⟨A1, c1, rfl, RS.of_own (enc := encI) (sz := 1) (fun _ => rfl) hown rfl, hc1, hc2, sh_next hb1 hB⟩
end Go.Proofs.Ytibaindlbpfecaa

namespace Go.Proofs.Ytibaindlbpfecaa
open Go.RowKit

theorem tentOk_bad {t : List Head} {k : Nat} {h : Head} (hk : t[k]? = some h) (hb : h.ok = false) : tentOk t = false := by
  unfold tentOk
  have : t.all Head.ok = false := all_bad hk hb
  rw [this]; simp
theorem tentOk_all {t : List Head} (h : t.all Head.ok = true) : tentOk t = (decide (1 ≤ t.length) && decide (t.length ≤ 12)) := by
  unfold tentOk; rw [h]; simp
theorem Head.ok_area {h : Head} (e : inB h.area 0 1000 = false) : h.ok = false := by unfold Head.ok; rw [e]; rfl
theorem Head.ok_bears {h : Head} (e : inB h.bears 0 10000000 = false) : h.ok = false := by unfold Head.ok; rw [e]; simp
theorem Head.ok_many {h : Head} (e : 8 < h.guys.length) : h.ok = false := by unfold Head.ok; simp; intros; omega
theorem Head.ok_guy {h : Head} {k : Nat} {g : Guy} (hk : h.guys[k]? = some g) (e : g.ok = false) : h.ok = false := by
  unfold Head.ok
  rw [show h.guys.all Guy.ok = false from all_bad hk e]; simp
theorem Head.ok_mk {h : Head} (e1 : inB h.area 0 1000 = true) (e2 : inB h.bears 0 10000000 = true) (e3 : ¬ 8 < h.guys.length) (e4 : h.guys.all Guy.ok = true) : h.ok = true := by
  unfold Head.ok
  rw [e1, e2, e4]; simp; omega
theorem refRightGuy_val {g : Guy} {b : Bool} (h : g.ok = b) (w : World) :
    Calls Try.prog 21 #[.agg #[.int .i64 g.x, .int .i64 g.y, .int .i64 g.down, .int .i64 g.soil, .int .i64 g.depth]] w fun e w' => e = .returned (.bool b) ∧ Below w.heap.size w w' := by rw [← h]; exact refRightGuy_any g w

set_option maxRecDepth 100000 in
set_option maxHeartbeats 1000000 in
theorem refRight_any (A : Option Addr) (c : Nat) (t : List Head) (w : World) (ht : RH w w.heap.size A t) (htl : t.length ≤ maxLen) :
    Calls Try.prog 53 #[.slice A t.length c] w fun e w' => e = .returned (.bool (tentOk t)) ∧ Below w.heap.size w w' := by
  unfold maxLen at htl
  go_enter Try.func53, Try.ntmps53
  go_wp2
  go_loopw [3] (fun i wr => ∃ k : Nat, k ≤ t.length ∧ i = .int .i64 k ∧ (t.take k).all Head.ok = true ∧ Below w.heap.size w wr) (fun i _ => t.length - (intOf i).toNat)
  case atStart => exact ⟨0, Nat.zero_le _, rfl, rfl, Below.refl _ _⟩
  case round =>
    obtain ⟨k, hk, rfl, hall, hB⟩ := hrel
    have Hall := Lib.hid hall
    clear hall
    by_cases hlt : k < t.length
    · obtain ⟨h, hh⟩ := getElem?_lt hlt
      obtain ⟨b, off, A', c', rfl, hb, c0, c1, c2, hg1, hg2, hg⟩ := (ht.below hB (Nat.le_refl _)).at_ hh
      have Hh := Lib.hid hh
      unfold maxLen at hg2
      clear hh
      cases h1 : inB h.area 0 1000
      · have Hbad := Lib.hid (tentOk_bad Hh.out (Head.ok_area h1))
        go_wp2_with ((go_at_call 26; refine (in_val h1 _).mono ?_; rintro e w' ⟨rfl, rfl⟩))
        go_ret
        exact ⟨ret_bool Hbad.out.symm, hB⟩
      · have tok1 : True := trivial
        cases h2 : inB h.bears 0 10000000
        · have Hbad := Lib.hid (tentOk_bad Hh.out (Head.ok_bears h2))
          go_wp2_with (first | (have := tok1; clear this tok1; (go_at_call 26; refine (in_val h1 _).mono ?_; rintro e w' ⟨rfl, rfl⟩)) | (go_at_call 26; refine (in_val h2 _).mono ?_; rintro e w' ⟨rfl, rfl⟩))
          go_ret
          exact ⟨ret_bool Hbad.out.symm, hB⟩
        · by_cases h3 : 8 < h.guys.length
          · have Hbad := Lib.hid (tentOk_bad Hh.out (Head.ok_many h3))
            go_wp2_with (first | (have := tok1; clear this tok1; (go_at_call 26; refine (in_val h1 _).mono ?_; rintro e w' ⟨rfl, rfl⟩)) | (go_at_call 26; refine (in_val h2 _).mono ?_; rintro e w' ⟨rfl, rfl⟩))
            go_ret
            exact ⟨ret_bool Hbad.out.symm, hB⟩
          · go_wp2_with (first | (have := tok1; clear this tok1; (go_at_call 26; refine (in_val h1 _).mono ?_; rintro e w' ⟨rfl, rfl⟩)) | (go_at_call 26; refine (in_val h2 _).mono ?_; rintro e w' ⟨rfl, rfl⟩))
            have H1 := Lib.hid h1
            have H2 := Lib.hid h2
            clear h1 h2 hg c0 c1 c2
            go_loopw [4] (fun i wr => ∃ m : Nat, m ≤ h.guys.length ∧ i = .int .i64 m ∧ (h.guys.take m).all Guy.ok = true ∧ Below w.heap.size w wr) (fun i _ => h.guys.length - (intOf i).toNat)
            case atStart => exact ⟨0, Nat.zero_le _, rfl, rfl, hB⟩
            case round =>
              obtain ⟨m, hm, rfl, hallm, hB2⟩ := hrel
              have Hallm := Lib.hid hallm
              clear hallm hB
              obtain ⟨b', off', A2, c2', hA, _, c0, c1, c2, hg1', hg2', hg⟩ := (ht.below hB2 (Nat.le_refl _)).at_ Hh.out
              obtain ⟨rfl, rfl⟩ : b = b' ∧ off = off' := by simpa using hA
              unfold maxLen at hg2'
              clear hA
              by_cases hlt2 : m < h.guys.length
              · obtain ⟨g, hgm⟩ := getElem?_lt hlt2
                obtain ⟨b2, off2, rfl, hb2, hc⟩ := hg.at_ hgm
                obtain ⟨y0, y1, y2, y3, y4⟩ := five_cells hc
                have Hg := Lib.hid hgm
                clear hgm hc hg ht
                cases h4 : g.ok
                · have Hbad := Lib.hid (tentOk_bad Hh.out (Head.ok_guy Hg.out h4))
                  go_wp2_with (go_at_call 21; refine (refRightGuy_val h4 _).mono ?_; rintro e w1 ⟨rfl, hb1⟩)
                  go_ret
                  exact ⟨ret_bool Hbad.out.symm, hB2.trans (hb1.mono hB2.size)⟩
                · go_wp2_with (go_at_call 21; refine (refRightGuy_val h4 _).mono ?_; rintro e w1 ⟨rfl, hb1⟩)
                  refine ⟨⟨m + 1, by omega, by go_num, all_snoc Hg.out Hallm.out h4, hB2.trans (hb1.mono hB2.size)⟩, by simp [intOf]; omega⟩
              · clear hg ht
                go_wp2
                refine ⟨⟨k + 1, by omega, by go_num, all_snoc Hh.out Hall.out (Head.ok_mk H1.out H2.out h3 (all_end hlt2 Hallm.out)), hB2⟩, by simp [intOf]; omega⟩
    · have HT := Lib.hid (tentOk_all (all_end hlt Hall.out))
      by_cases h1 : 1 ≤ t.length
      · by_cases h2 : t.length ≤ 12
        all_goals
          go_wp2
          go_ret
          exact ⟨ret_bool (by rw [HT.out]; simp [h1]; omega), hB⟩
      · go_wp2
        go_ret
        exact ⟨ret_bool (by rw [HT.out]; simp [h1]), hB⟩

def fewB (l : List Tst) (t : List Head) : Bool := t.all (fun h => decide (h.guys.length ≤ 10)) && (decide (l.length ≤ 45) && decide (t.length ≤ 15))
theorem fewB_bad {l : List Tst} {t : List Head} {k : Nat} {h : Head} (hk : t[k]? = some h) (hb : 10 < h.guys.length) : fewB l t = false := by
  unfold fewB
  rw [all_bad hk (by simp; omega)]; rfl
theorem fewB_all {l : List Tst} {t : List Head} (h : t.all (fun h => decide (h.guys.length ≤ 10)) = true) : fewB l t = (decide (l.length ≤ 45) && decide (t.length ≤ 15)) := by
  unfold fewB; rw [h]; simp
theorem fewB_iff {l : List Tst} {t : List Head} : fewB l t = true ↔ (∀ h ∈ t, h.guys.length ≤ 10) ∧ l.length ≤ 45 ∧ t.length ≤ 15 := by
  unfold fewB; simp
set_option maxRecDepth 100000 in
theorem Few_any (A : Option Addr) (c : Nat) (l : List Tst) (A' : Option Addr) (c' : Nat) (t : List Head) (w : World) (ht : RH w w.heap.size A' t) (hl : l.length ≤ maxLen) (htl : t.length ≤ maxLen) :
    Calls Try.prog 14 #[.slice A l.length c, .slice A' t.length c'] w fun e w' => e = .returned (.bool (fewB l t)) ∧ Below w.heap.size w w' := by
  unfold maxLen at htl hl
  go_enter Try.func14, Try.ntmps14
  go_wp2
  go_loopw [5] (fun i wr => ∃ k : Nat, k ≤ t.length ∧ i = .int .i64 k ∧ (t.take k).all (fun h => decide (h.guys.length ≤ 10)) = true ∧ Below w.heap.size w wr) (fun i _ => t.length - (intOf i).toNat)
  case atStart => exact ⟨0, Nat.zero_le _, rfl, rfl, Below.refl _ _⟩
  case round =>
    obtain ⟨k, hk, rfl, hall, hB⟩ := hrel
    have Hall := Lib.hid hall
    clear hall
    by_cases hlt : k < t.length
    · obtain ⟨h, hh⟩ := getElem?_lt hlt
      obtain ⟨b, off, A2, c2, rfl, hb, x0, x1, x2, hg1, hg2, hg⟩ := (ht.below hB (Nat.le_refl _)).at_ hh
      have Hh := Lib.hid hh
      unfold maxLen at hg2
      clear hh hg ht
      by_cases h3 : 10 < h.guys.length
      · have Hbad := Lib.hid (fewB_bad (l := l) Hh.out h3)
        go_wp2
        go_ret
        exact ⟨ret_bool Hbad.out.symm, hB⟩
      · go_wp2
        refine ⟨⟨k + 1, by omega, by go_num, all_snoc Hh.out Hall.out (by simp; omega), hB⟩, by simp [intOf]; omega⟩
    · have HT := Lib.hid (fewB_all (l := l) (all_end hlt Hall.out))
      by_cases h1 : l.length ≤ 45
      · by_cases h2 : t.length ≤ 15
        all_goals
          go_wp2
          go_ret
          exact ⟨ret_bool (by rw [HT.out]; simp [h1]; omega), hB⟩
      · go_wp2
        go_ret
        exact ⟨ret_bool (by rw [HT.out]; simp [h1]), hB⟩

def faultE (l : List Tst) (t : List Head) : Int := if testsFault l = 0 then (if tentOk t = true then 0 else 1) else testsFault l
theorem Fault_any (A : Option Addr) (c : Nat) (l : List Tst) (A' : Option Addr) (c' : Nat) (t : List Head) (w : World) (hr : RS encT 4 w w.heap.size A l) (hl : l.length ≤ maxLen) (ht : RH w w.heap.size A' t) (htl : t.length ≤ maxLen) :
    Calls Try.prog 55 #[.slice A l.length c, .slice A' t.length c'] w fun e w' => e = .returned (.int .i64 (faultE l t)) ∧ Below w.heap.size w w' := by
  obtain ⟨z, hz⟩ : ∃ z, testsFault l = z := ⟨_, rfl⟩
  obtain ⟨b, hb⟩ : ∃ b, tentOk t = b := ⟨_, rfl⟩
  have HF : Hid (faultE l t = if z = 0 then (if b = true then 0 else 1) else z) := by show _ = _; unfold faultE; rw [hz, hb]
  have hv := fun W (h : RS encT 4 W W.heap.size A l) => testsFault_any A c l W _ h hl
  have hw := fun W h => refRight_any A' c' t W h htl
  rw [hz] at hv
  rw [hb] at hw
  have Hv := Lib.hid hv
  have Hw := Lib.hid hw
  clear hv hw hz hb
  by_cases h0 : z = 0
  · have e0 : (z != 0) = false := by simpa using h0
    subst h0
    cases b
    all_goals
      go_enter Try.func55, Try.ntmps55
      go_wp2_with (first | (go_at_call 47; refine (Hv.out _ hr).mono ?_; rintro e w' ⟨rfl, rfl⟩) | (go_at_call 53; refine (Hw.out _ ht).mono ?_; rintro e w1 ⟨rfl, hb1⟩))
      go_ret
      exact ⟨ret_int (by rw [HF.out]; rfl), hb1⟩
  · have e0 : (z != 0) = true := by simpa using h0
    go_enter Try.func55, Try.ntmps55
    go_wp2_with (go_at_call 47; refine (Hv.out _ hr).mono ?_; rintro e w' ⟨rfl, rfl⟩)
    go_ret
    exact ⟨ret_int (by rw [HF.out, if_neg h0]), Below.refl _ _⟩
end Go.Proofs.Ytibaindlbpfecaa

namespace Go.Proofs.Ytibaindlbpfecaa
open Go.RowKit

theorem infoCH : (Try.prog.info? 43).map (fun i => (i.zero, i.size, i.bytes)) = some (some (.agg #[.int .i64 0, .int .i64 0, .slice none 0 0]), 3, 40) := by kernel_rfl
def TentPost (t : List Head) (w : World) (e : Ending) (w' : World) : Prop := ∃ A c, e = .returned (.slice A t.length c) ∧ RH w' w'.heap.size A t ∧ t.length ≤ c ∧ c ≤ maxLen ∧ Below w.heap.size w w'

set_option maxRecDepth 100000 in
set_option maxHeartbeats 2000000 in
theorem Tent_any (A : Option Addr) (c : Nat) (t : List Head) (w : World) (ht : RH w w.heap.size A t) (htl : t.length ≤ 1000) (hgl : ∀ h ∈ t, h.guys.length ≤ 1000) :
    Calls Try.prog 18 #[.slice A t.length c] w (TentPost t w) := by
  obtain ⟨i0, hi0, hz0, hz1, hz2⟩ := info_parts infoCG
  obtain ⟨j0, hj0, hy0, hy1, hy2⟩ := info_parts infoCH
  have Hgl := Lib.hid hgl
  clear hgl
  go_enter Try.func18, Try.ntmps18
  go_wp2
  go_loopw [3, 4] (fun v i wr => ∃ (k : Nat) (cs : List (Option Addr × Nat)), k ≤ t.length ∧ i = .int .i64 k ∧ wr.ownsRow w.heap.size 43 3 v k (flat2 encH (t.take k) cs) ∧ Subs encG 5 Head.guys wr v.ownBlock (t.take k) cs ∧ Below w.heap.size w wr) (fun _ i _ => t.length - (intOf i).toNat)
  case atStart => exact ⟨0, [], Nat.zero_le _, rfl, World.ownsRow_nil _ _ _ _, Subs.nil, Below.refl _ _⟩
  case round =>
    obtain ⟨k, cs, hk, rfl, hown, hsub, hB⟩ := hrel
    obtain ⟨wo, hwo⟩ : ∃ x, x = wr := ⟨_, rfl⟩
    subst hwo
    have hBz := hB.size
    by_cases hlt : k < t.length
    · obtain ⟨h, hh⟩ := getElem?_lt hlt
      have hgl := Hgl.out h (List.mem_of_getElem? hh)
      obtain ⟨b, off, A2, c2, rfl, hb, x0, x1, x2, hg1, hg2, hg⟩ := (ht.below hB (Nat.le_refl _)).at_ hh
      unfold maxLen at hg2
      have Hh := Lib.hid hh
      have HB0 := Lib.hid ((Below.refl wo.heap.size wo).alloc (Nat.le_refl _) (.cells #[.int .i64 h.area, .int .i64 h.bears, .slice none 0 0] 43))
      have Kw := Lib.hid (Blk.new wo 43 #[.int .i64 h.area, .int .i64 h.bears, .slice none 0 0])
      have Hown := Lib.hid hown
      have Hsub := Lib.hid hsub
      clear hh hown hsub
      have hbz : b < wo.heap.size := by omega
      go_wp2
      go_region
      go_wp2
      refine name_world (motive := fun W => Code.wp _ _ _ _ W) _ ?_
      intro W0 hW
      have hWc := hW.cell
      have hWz := hW.size
      have hWb := hW.below (HB0.out.drew)
      have kW := hW.blk Kw.out.drew
      clear hWc hWz
      have hXz : wo.heap.size < W0.heap.size := kW.lt
      go_loopw [6] (fun j wr => ∃ (m : Nat) (u : Value), m ≤ h.guys.length ∧ j = .int .i64 m ∧ wr.ownsRow W0.heap.size 45 5 u m ((h.guys.take m).flatMap encG) ∧ Blk wr wo.heap.size 43 #[.int .i64 h.area, .int .i64 h.bears, u] ∧ W0.grownBy wr (some wo.heap.size)) (fun j _ => h.guys.length - (intOf j).toNat)
      case atStart => exact ⟨0, .slice none 0 0, Nat.zero_le _, rfl, World.ownsRow_nil _ _ _ _, kW, World.grownBy.refl _ _⟩
      case round =>
        obtain ⟨m, u, hm, rfl, hrow, hM, hO⟩ := hrel
        have hM0 := hM.cell 0
        have hM1 := hM.cell 1
        have hM2 := hM.cell 2
        have hMf := hM.frozen 2
        have hMz := hM.lt
        have hOz := hO.size
        simp at hM0 hM1 hM2
        have hgM : some wo.heap.size ≠ u.ownBlock := fun e => by have := (hrow.lt _ e.symm).1; omega
        have hBX : Below wo.heap.size wo wr := below_of_only hWb hO (Nat.le_refl _) (by omega)
        have z2 : wr.cell? ⟨b, off + k * 3 + 2, none⟩ = some (.slice A2 h.guys.length c2) := (hBX.cell (p := ⟨b, _, none⟩) (by show b < _; omega)).trans x2
        by_cases hlt2 : m < h.guys.length
        · obtain ⟨g, hgm⟩ := getElem?_lt hlt2
          obtain ⟨b2, off2, rfl, hb2, hc⟩ := (hg.below hBX hBz).at_ hgm
          obtain ⟨y0, y1, y2, y3, y4⟩ := five_cells hc
          have Hg := Lib.hid hgm
          have Hrow := Lib.hid hrow
          have HM := Lib.hid hM
          clear hgm hc hg hrow ht hM x2 x0 x1
          go_wp2_with (at_builtin; refine wpList_append_own _ rfl _ _ 41 rfl W0.heap.size 45 i0 _ 5 40 Try.underlying41 hi0 hz0 hz1 hz2 rfl (by decide) u m _ rfl ((Hrow.out.alloc (.cells #[.int .i64 g.x, .int .i64 g.y, .int .i64 g.down, .int .i64 g.soil, .int .i64 g.depth] 28)).alloc (.cells #[.int .i64 g.x, .int .i64 g.y, .int .i64 g.down, .int .i64 g.soil, .int .i64 g.depth] 45)) ⟨wr.heap.size + 1, 0, none⟩ 1 1 [.int .i64 g.x, .int .i64 g.y, .int .i64 g.down, .int .i64 g.soil, .int .i64 g.depth] rfl rfl ?c1 ?c2 ?c3 ?c4 ?c5 ?_)
          case c1 => exact World.news_of_block (cs := #[.int .i64 g.x, .int .i64 g.y, .int .i64 g.down, .int .i64 g.soil, .int .i64 g.depth]) (t := 45) (fr := (0, 0)) (by simpa using heap_alloc_new (wr.alloc (.cells #[.int .i64 g.x, .int .i64 g.y, .int .i64 g.down, .int .i64 g.soil, .int .i64 g.depth] 28)) (.cells #[.int .i64 g.x, .int .i64 g.y, .int .i64 g.down, .int .i64 g.soil, .int .i64 g.depth] 45))
          case c2 => simp [Value.oneCell']
          case c3 => unfold maxLen; omega
          case c4 => omega
          case c5 => simp; omega
          intro v2 w3 hrow2 hgrow2 _
          obtain ⟨A4, c4, rfl, _, _⟩ := own_slice hrow2
          have hM2' := ((HM.out.alloc (.cells #[.int .i64 g.x, .int .i64 g.y, .int .i64 g.down, .int .i64 g.soil, .int .i64 g.depth] 28)).alloc (.cells #[.int .i64 g.x, .int .i64 g.y, .int .i64 g.down, .int .i64 g.soil, .int .i64 g.depth] 45)).grown hgrow2 hgM
          have m2 := hM2'.cell 2
          have mf := hM2'.frozen 2
          have mz := hM2'.lt
          simp at m2
          have hO2 := only_append (only_alloc (only_alloc hO (.cells #[.int .i64 g.x, .int .i64 g.y, .int .i64 g.down, .int .i64 g.soil, .int .i64 g.depth] 28)) (.cells #[.int .i64 g.x, .int .i64 g.y, .int .i64 g.down, .int .i64 g.soil, .int .i64 g.depth] 45)) ((Hrow.out.alloc _).alloc _) hgrow2
          clear hgrow2
          go_wp2
          refine ⟨⟨m + 1, .slice A4 (m + 1) c4, by omega, by go_num, ?_, (show Blk _ _ _ #[_, _, _] from by simpa using hM2'.set_ 2 _), only_setCell hO2 (.inl rfl) _⟩, by simp [intOf]; omega⟩
          rw [flat_snoc Hg.out]
          exact ownsRow_setCell_below hrow2 (by show wo.heap.size < _; omega) _
        · obtain ⟨A3, c3, rfl, hc3, hc4⟩ := own_slice hrow
          obtain rfl : m = h.guys.length := by omega
          rw [List.take_of_length_le (Nat.le_refl _)] at hrow
          have hrs : RS encG 5 wr wr.heap.size A3 h.guys := RS.of_own (enc := encG) (sz := 5) (fun _ => rfl) hrow rfl
          have hfr := own_fresh hrow
          have hown2 := own_below Hown.out hBX
          have hsub2 := Hsub.out.below hBX
          have hlt0 := Hown.out.lt
          have hB2 := hB.trans (hBX.mono hBz)
          have hBs := (Below.refl _ wr).alloc (Nat.le_refl _) (.cells #[.int .i64 h.area, .int .i64 h.bears, .slice A3 h.guys.length c3] 43)
          clear hM hg ht hrow
          go_wp2_with (at_builtin; go_loud (refine wpList_append_lies _ rfl _ _ 36 rfl w.heap.size 43 j0 _ 3 40 Try.underlying36 hj0 hy0 hy1 hy2 rfl (by decide) _ _ _ rfl (hown2.alloc _) ⟨wr.heap.size, 0, none⟩ 1 1 [.int .i64 h.area, .int .i64 h.bears, .slice A3 h.guys.length c3] rfl rfl ?c1 ?c2 (by decide) ?c3 ?c4 ?c5 (wr.heap.size + 1) (by simp) ?_))
          case c1 => exact World.news_of_block (cs := #[.int .i64 h.area, .int .i64 h.bears, .slice A3 h.guys.length c3]) (t := 43) (fr := (0, 0)) (heap_alloc_new wr _)
          case c2 => simp [Value.oneCell']
          case c3 => unfold maxLen; omega
          case c4 => omega
          case c5 => simp; omega
          intro g cap w3 hown3 hgrow3 hor hlt3
          have hB3 := app_belowL (hB2.alloc (by omega) (.cells #[.int .i64 h.area, .int .i64 h.bears, .slice A3 h.guys.length c3] 43)) (Nat.le_refl _) (by simp; omega) (hown2.alloc _) hgrow3
          go_wp2
          refine ⟨⟨k + 1, cs ++ [(A3, c3)], by omega, by go_num, ?_, ?_, hB3⟩, by simp [intOf]; omega⟩
          · rw [take_snoc' Hh.out, flat2_snoc (hsub2.1)]
            exact hown3
          · rw [take_snoc' Hh.out]
            refine Subs.grown (Subs.snoc (hsub2.below hBs) hc3 hc4 (hrs.to hBs) (.inr fun ad e he => ?_)) hgrow3 (hor.imp id (fun e => by simp; omega))
            have := hfr ad e
            have := (hlt0 _ he.symm).2
            omega
    · go_wp2
      obtain ⟨A1, c1, rfl, hc1, hc2⟩ := own_slice hown
      obtain rfl : k = t.length := by omega
      go_ret
      rw [List.take_of_length_le (Nat.le_refl _)] at hown hsub
      exact ⟨A1, c1, rfl, RH.of_own hown rfl hsub, hc1, hc2, hB⟩
end Go.Proofs.Ytibaindlbpfecaa
