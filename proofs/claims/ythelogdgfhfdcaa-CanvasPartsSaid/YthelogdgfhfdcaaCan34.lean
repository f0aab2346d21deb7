import Derived.Test.YthelogdgfhfdcaaSub
import Derived.Test.YthelogdgfhfdcaaCan28
namespace Go.Proofs.Ythelogdgfhfdcaa
open Go.RowKit

theorem infoSI : (Try.prog.info? 48).map (fun i => (i.zero, i.size, i.bytes)) = some (some (.slice none 0 0), 1, 24) := by kernel_rfl
def partsT (l : List Tst) (t : List Head) : List (List Int) := t.map (partsM l)
theorem partsT_length {l : List Tst} {t : List Head} : (partsT l t).length = t.length := by simp [partsT]
def PartsTPost (l : List Tst) (t : List Head) (w : World) (e : Ending) (w' : World) : Prop :=
  ∃ A1 c1, e = .returned (.tuple #[.slice A1 t.length c1, .int .i64 0]) ∧ RR w' w'.heap.size A1 (partsT l t) ∧ t.length ≤ c1 ∧ c1 ≤ maxLen ∧ Below w.heap.size w w'
def partsE (l : List Tst) (t : List Head) : Int := firstE (tentedE l t) true l
theorem checkTented_val (A : Option Addr) (c : Nat) {l : List Tst} (A' : Option Addr) (c' : Nat) {t : List Head} {z : Int} (hE : partsE l t = z) (w : World) (hr : RS encT 4 w w.heap.size A l) (hl : l.length ≤ maxLen) (ht : RH w w.heap.size A' t) (htl : t.length ≤ maxLen) :
    Calls Try.prog 69 #[.slice A l.length c, .slice A' t.length c'] w fun e w' => e = .returned (.int .i64 z) ∧ Below w.heap.size w w' := by
  rw [← hE]; exact checkTented_any A c l A' c' t w hr hl ht htl
theorem Parts_err (A : Option Addr) (c : Nat) (l : List Tst) (A' : Option Addr) (c' : Nat) (t : List Head) (z : Int) (hz : z ≠ 0) (w : World) (hr : RS encT 4 w w.heap.size A l) (hl : l.length ≤ maxLen) (ht : RH w w.heap.size A' t) (htl : t.length ≤ maxLen) (hE : partsE l t = z) :
    Calls Try.prog 29 #[.slice A l.length c, .slice A' t.length c'] w fun e w' => e = .returned (.tuple #[.slice none 0 0, .int .i64 z]) ∧ Below w.heap.size w w' := by
  have e0 : (z != 0) = true := by simpa using hz
  have hv := fun W hr ht => checkTented_val A c A' c' hE W hr hl ht htl
  have Hv := Lib.hid hv
  clear hv hE hz
  go_enter Try.func29, Try.ntmps29
  go_wp2_with ((go_at_call 69; refine (Hv.out _ hr ht).mono ?_; rintro e w1 ⟨rfl, hb1⟩; obtain ⟨hc1, hf1⟩ := bcell hb1))
  go_ret2
  exact ⟨rfl, hb1⟩

set_option maxRecDepth 100000 in
set_option maxHeartbeats 1000000 in
theorem Parts_ok (A : Option Addr) (c : Nat) (l : List Tst) (A' : Option Addr) (c' : Nat) (t : List Head) (w : World) (hr : RS encT 4 w w.heap.size A l) (hl : l.length ≤ maxLen) (ht : RH w w.heap.size A' t) (htl : t.length ≤ maxLen) (hE : partsE l t = 0) :
    Calls Try.prog 29 #[.slice A l.length c, .slice A' t.length c'] w (PartsTPost l t w) := by
  obtain ⟨i0, hi0, hz0, hz1, hz2⟩ := info_parts infoSI
  have h0 : tentedE l t = 0 := by
    unfold partsE firstE at hE
    split at hE
    · assumption
    · rename_i h; exact absurd hE h
  obtain ⟨hok, hhok⟩ := tentedE_ok h0
  have ht12 : t.length ≤ 12 := by have := (tentedE_zero h0).2; simp [tentOk] at this; exact this.2.1
  have hv := fun W hr ht => checkTented_val A c A' c' hE W hr hl ht htl
  have Hv := Lib.hid hv
  have Hok := Lib.hid hok
  have Hhok := Lib.hid hhok
  unfold maxLen at htl
  clear hv hE h0 hok hhok
  go_enter Try.func29, Try.ntmps29
  go_wp2_with ((go_at_call 69; refine (Hv.out _ hr ht).mono ?_; rintro e w1 ⟨rfl, hb1⟩; obtain ⟨hc1, hf1⟩ := bcell hb1))
  have hr1 := hr.to hb1
  have ht1 := ht.to hb1
  clear hc1 hf1 hr ht
  go_loopw [7, 18] (fun v i wr => ∃ (k : Nat) (cs : List (Option Addr × Nat)), k ≤ t.length ∧ i = .int .i64 k ∧ wr.ownsRow w1.heap.size 48 1 v k (flat2 encR ((partsT l t).take k) cs) ∧ Subs encI 1 id wr v.ownBlock ((partsT l t).take k) cs ∧ Below w1.heap.size w1 wr) (fun _ i _ => t.length - (intOf i).toNat)
  case atStart => exact ⟨0, [], Nat.zero_le _, rfl, World.ownsRow_nil _ _ _ _, Subs.nil, Below.refl _ _⟩
  case round =>
    obtain ⟨k, cs, hk, rfl, hown, hsub, hB⟩ := hrel
    have hBz := hB.size
    by_cases hlt : k < t.length
    · obtain ⟨h, hh⟩ := getElem?_lt hlt
      have Hhk := Lib.hid (Hhok.out h (List.mem_of_getElem? hh))
      obtain ⟨b, off, A2, c2, rfl, hb, x0, x1, x2, hg1, hg2, hg⟩ := (ht1.below hB (Nat.le_refl _)).at_ hh
      have hP : (partsT l t)[k]? = some (partsM l h) := by simp [partsT, hh]
      have HP := Lib.hid hP
      have hBa := (Below.refl _ wr).alloc (Nat.le_refl _) (.cells #[.int .i64 h.area, .int .i64 h.bears, .slice A2 h.guys.length c2] 115)
      have hrr := ((hr1.below hB (Nat.le_refl _)).more hBz).to hBa
      have hgg := (hg.more hBz).to hBa
      clear hh hP hg ht1 hr1
      go_wp2_with fail
      refine (partsOf_any A c l A2 c2 h _ hrr hl Hok.out Hhk.out hgg).mono ?_
      rintro e w2 ⟨A1, c1, rfl, hrs, hfr, hc1, hc2, hb2⟩
      have hown2 := own_below (hown.alloc (.cells #[.int .i64 h.area, .int .i64 h.bears, .slice A2 h.guys.length c2] 115)) hb2
      have hsub2 := (hsub.below hBa).below hb2
      have hBw := (hB.alloc hBz (.cells #[.int .i64 h.area, .int .i64 h.bears, .slice A2 h.guys.length c2] 115)).trans (hb2.mono (by simp <;> omega))
      have hy2 := hb2.size
      have hBs := (Below.refl _ w2).alloc (Nat.le_refl _) (.cells #[.slice A1 h.guys.length c1] 48)
      have hlt0 := hown.lt
      simp only [World.size_alloc] at hy2 hfr
      go_wp2_with (at_builtin; refine wpList_append_lies _ rfl _ _ 54 rfl w1.heap.size 48 i0 (.slice none 0 0) 1 24 Try.underlying54 hi0 hz0 hz1 hz2 rfl (by decide) _ _ _ rfl (hown2.alloc _) ⟨w2.heap.size, 0, none⟩ 1 1 [.slice A1 h.guys.length c1] rfl rfl ?c1 ?c2 (by decide) ?c3 ?c4 ?c5 (w2.heap.size + 1) (by simp) ?_)
      case c1 => exact cell_one_new _ _ _
      case c2 => simp [Value.oneCell']
      case c3 => unfold maxLen; omega
      case c4 => omega
      case c5 => simp; omega
      intro g cap w3 hown3 hgrow3 hor hlt3
      have hB3 := app_belowL (hBw.alloc (by omega) (.cells #[.slice A1 h.guys.length c1] 48)) (Nat.le_refl _) (by simp; omega) (hown2.alloc _) hgrow3
      go_wp2
      refine ⟨⟨k + 1, cs ++ [(A1, c1)], by omega, by go_num, ?_, ?_, hB3⟩, by simp [intOf]; omega⟩
      · rw [take_snoc' HP.out, flat2_snoc (hsub.1)]
        show World.ownsRow _ _ _ _ _ _ (_ ++ [.slice A1 (partsM l h).length c1])
        rw [partsM_length]
        exact hown3
      · rw [take_snoc' HP.out]
        refine Subs.grown (Subs.snoc (hsub2.below hBs) (by show (partsM l h).length ≤ _; rw [partsM_length]; exact hc1) hc2 (hrs.to hBs) (.inr fun ad e he => ?_)) hgrow3 (hor.imp id (fun e => by simp; omega))
        have := hfr ad e
        have := (hlt0 _ he.symm).2
        omega
    · go_wp2
      obtain ⟨A1, c1, rfl, hc1, hc2⟩ := own_slice hown
      obtain rfl : k = t.length := by omega
      go_ret2
      rw [List.take_of_length_le (by rw [partsT_length]; omega)] at hown hsub
      exact ⟨A1, c1, rfl, RR.of_own hown partsT_length.symm hsub, hc1, hc2, sh_next hb1 hB⟩
end Go.Proofs.Ythelogdgfhfdcaa
