import Derived.Test.YtibaindlbpfecaaLose
import Derived.Test.YtibaindlbpfecaaPairEq
import Derived.Test.YtibaindlbpfecaaMeans

namespace Go.Proofs.Ytibaindlbpfecaa
open Go.RowKit

theorem spareUp_mem {l : List Tst} {wind : List Vec} {t : List Head} : ∀ (n : Nat) (p : Int × Int), p ∈ spareUp l wind t n → ∃ (a b : Nat) (h : Head), p = ((a : Int), (b : Int)) ∧ t[a]? = some h ∧ headStands l wind (h.lose b) = true := by
  have row : ∀ (h : Head) (i m : Nat) (p : Int × Int), p ∈ spareRow l wind h i m → ∃ b : Nat, p = ((i : Int), (b : Int)) ∧ headStands l wind (h.lose b) = true := by
    intro h i m
    induction m with
    | zero => intro p hp; simp [spareRow] at hp
    | succ m ih =>
      intro p hp
      rw [spareRow, List.mem_append] at hp
      rcases hp with hp | hp
      · exact ih p hp
      · split at hp
        · rename_i hs; simp at hp; exact ⟨m, hp, hs⟩
        · simp at hp
  intro n
  induction n with
  | zero => intro p hp; simp [spareUp] at hp
  | succ n ih =>
    intro p hp
    rw [spareUp, List.mem_append] at hp
    rcases hp with hp | hp
    · exact ih p hp
    · cases hn : t[n]? with
      | none => rw [hn] at hp; simp at hp
      | some h =>
        rw [hn] at hp
        obtain ⟨b, h1, h2⟩ := row h n _ p hp
        exact ⟨n, b, h, h1, hn, h2⟩
theorem spareUp_pre {l : List Tst} {wind : List Vec} {t : List Head} : ∀ (d n : Nat), spareUp l wind t n <+: spareUp l wind t (n + d) := by
  intro d
  induction d with
  | zero => intro n; exact List.prefix_rfl
  | succ d ih => intro n; exact (ih n).trans (by rw [← Nat.add_assoc, spareUp]; exact List.prefix_append _ _)
theorem spareRow_pre {l : List Tst} {wind : List Vec} {h : Head} {i : Int} : ∀ (d m : Nat), spareRow l wind h i m <+: spareRow l wind h i (m + d) := by
  intro d
  induction d with
  | zero => intro m; exact List.prefix_rfl
  | succ d ih => intro m; exact (ih m).trans (by rw [← Nat.add_assoc, spareRow]; exact List.prefix_append _ _)
theorem spare_pre {l : List Tst} {wind : List Vec} {t : List Head} {i m : Nat} {h : Head} (hi : t[i]? = some h) (hm : m ≤ h.guys.length) : spareUp l wind t i ++ spareRow l wind h i m <+: spareL l wind t := by
  have hl := lt_of_getElem? hi
  have h1 : spareUp l wind t (i + 1) = spareUp l wind t i ++ spareRow l wind h i h.guys.length := by rw [spareUp, hi]
  have h2 := spareUp_pre (l := l) (wind := wind) (t := t) (t.length - (i + 1)) (i + 1)
  rw [show i + 1 + (t.length - (i + 1)) = t.length from by omega, h1] at h2
  refine List.IsPrefix.trans ?_ h2
  have h3 := spareRow_pre (l := l) (wind := wind) (h := h) (i := i) (h.guys.length - m) m
  rw [show m + (h.guys.length - m) = h.guys.length from by omega] at h3
  exact List.prefix_append_right_inj _ |>.2 h3
/-- The next spare guy in the list is this one, just if the tent stands without it. -/
theorem spare_next {l : List Tst} {wind : List Vec} {t : List Head} {i m : Nat} {h : Head} (hi : t[i]? = some h) (hm : m < h.guys.length) (at_ : Nat) (ha : at_ = (spareUp l wind t i ++ spareRow l wind h i m).length) :
    (headStands l wind (h.lose m) = true → (spareL l wind t)[at_]? = some ((i : Int), (m : Int))) ∧ (headStands l wind (h.lose m) = false → ∀ p, (spareL l wind t)[at_]? = some p → p ≠ ((i : Int), (m : Int))) := by
  constructor
  · intro hs
    have h1 := spare_pre (l := l) (wind := wind) hi (show m + 1 ≤ h.guys.length by omega)
    rw [spareRow, hs, if_pos rfl, ← List.append_assoc] at h1
    obtain ⟨r, hr⟩ := h1
    rw [← hr, ha, List.append_assoc, List.getElem?_append_right (Nat.le_refl _), Nat.sub_self]
    rfl
  · intro hs p hp he
    subst he
    obtain ⟨a, b, x, h1, h2, h3⟩ := spareUp_mem _ _ (List.mem_of_getElem? hp)
    simp at h1
    have e1 : a = i := by omega
    have e2 : b = m := by omega
    subst e1 e2
    rw [hi] at h2
    cases h2
    rw [hs] at h3
    cases h3
theorem stands_set {l : List Tst} {wind : List Vec} {t : List Head} {i : Nat} {x : Head} (hs : standsB l t wind = true) (hi : i < t.length) : standsB l (t.set i x) wind = headStands l wind x := by
  unfold standsB at *
  rw [List.all_eq_true] at hs
  cases hx : headStands l wind x with
  | true =>
    rw [List.all_eq_true]
    intro y hy
    rcases List.mem_or_eq_of_mem_set hy with hy | rfl
    · exact hs y hy
    · exact hx
  | false => exact all_bad (k := i) (by rw [List.getElem?_set_self hi]) hx
theorem tentOk_set {t : List Head} {i : Nat} {x : Head} (h : tentE t = 0) (hx : x.ok = true) : tentE (t.set i x) = 0 := by
  obtain ⟨h1, h2⟩ := tentE_ok h
  unfold tentE
  rw [if_pos]
  simp only [tentOk, List.length_set, Bool.and_eq_true, decide_eq_true_eq, List.all_eq_true]
  refine ⟨h1.1, h1.2, fun y hy => ?_⟩
  rcases List.mem_or_eq_of_mem_set hy with hy | rfl
  · exact h2 y hy
  · exact hx
theorem windy_set {l : List Tst} {t : List Head} {wind : List Vec} {i : Nat} {x : Head} (h : windyE l t wind = 0) (hx : x.ok = true) : windyE l (t.set i x) wind = 0 := by
  obtain ⟨h1, h2, h3, h4⟩ := windyE_zero h
  have h5 := tentOk_set (i := i) h2 hx
  unfold windyE firstE
  simp [orM, h1, h5, h3, h4]
theorem broken_many (A : Option Addr) (c : Nat) (l : List Tst) (A' : Option Addr) (c' : Nat) (t : List Head) (A2 : Option Addr) (c2 : Nat) (wind : List Vec) (w : World) (ht : RH w w.heap.size A' t) (hl : l.length ≤ maxLen) (htl : t.length ≤ maxLen) (hf : fewB l t = false) :
    Calls Try.prog 7 #[.slice A l.length c, .slice A' t.length c', .slice A2 wind.length c2] w fun e w' => e = .returned (.bool true) ∧ Below w.heap.size w w' := by
  have Hv := Lib.hid (fun W h => hf ▸ Few_any A c l A' c' t W h hl htl)
  clear hf hl htl
  go_enter Try.func7, Try.ntmps7
  go_wp2_with (first | (go_at_call 14; refine (Hv.out _ ht).mono ?_; rintro e w1 ⟨rfl, hb1⟩) | (go_at_call 20; refine (wakes_any _).mono ?_; rintro e w2 ⟨rfl, hb2⟩; obtain ⟨hc2, hf2⟩ := bcell hb2))
  go_ret
  exact ⟨rfl, sh_next hb1 hb2⟩
theorem broken_long (A : Option Addr) (c : Nat) (l : List Tst) (A' : Option Addr) (c' : Nat) (t : List Head) (A2 : Option Addr) (c2 : Nat) (wind : List Vec) (w : World) (ht : RH w w.heap.size A' t) (hl : l.length ≤ maxLen) (htl : t.length ≤ maxLen) (hf : fewB l t = true) (h12 : 12 < wind.length) :
    Calls Try.prog 7 #[.slice A l.length c, .slice A' t.length c', .slice A2 wind.length c2] w fun e w' => e = .returned (.bool true) ∧ Below w.heap.size w w' := by
  have Hv := Lib.hid (fun W h => hf ▸ Few_any A c l A' c' t W h hl htl)
  clear hf hl htl
  go_enter Try.func7, Try.ntmps7
  go_wp2_with (first | (go_at_call 14; refine (Hv.out _ ht).mono ?_; rintro e w1 ⟨rfl, hb1⟩) | (go_at_call 20; refine (wakes_any _).mono ?_; rintro e w2 ⟨rfl, hb2⟩; obtain ⟨hc2, hf2⟩ := bcell hb2))
  go_ret
  exact ⟨rfl, sh_next hb1 hb2⟩
theorem broken_blown (A : Option Addr) (c : Nat) (l : List Tst) (A' : Option Addr) (c' : Nat) (t : List Head) (A2 : Option Addr) (c2 : Nat) (wind : List Vec) (w : World) (hr : RS encT 4 w w.heap.size A l) (ht : RH w w.heap.size A' t) (hw : RS encV 2 w w.heap.size A2 wind) (hl : l.length ≤ maxLen) (htl : t.length ≤ maxLen) (hf : fewB l t = true) (h12 : wind.length ≤ 12) (hE : windyE l t wind ≠ 0) :
    Calls Try.prog 7 #[.slice A l.length c, .slice A' t.length c', .slice A2 wind.length c2] w fun e w' => e = .returned (.bool true) ∧ Below w.heap.size w w' := by
  have Hv := Lib.hid (fun W h => hf ▸ Few_any A c l A' c' t W h hl htl)
  obtain ⟨z, hz⟩ : ∃ z, windyE l t wind = z := ⟨_, rfl⟩
  have Hb := Lib.hid (fun W hr ht hw => hz ▸ blown_any A c l A' c' t A2 c2 wind W hr hl ht htl hw (by show _ ≤ _; unfold maxLen; omega))
  rw [hz] at hE
  have e0 : (z != 0) = true := by simpa using hE
  clear hf hl htl hz hE
  go_enter Try.func7, Try.ntmps7
  go_wp2_with (first | (go_at_call 14; refine (Hv.out _ ht).mono ?_; rintro e w1 ⟨rfl, hb1⟩) | (go_at_call 15; refine (Hb.out _ (hr.to hb1) (ht.to hb1) (hw.to hb1)).mono ?_; rintro e w2 ⟨rfl, hb2⟩) | (go_at_call 20; refine (wakes_any _).mono ?_; rintro e w3 ⟨rfl, hb3⟩; obtain ⟨hc3, hf3⟩ := bcell hb3))
  go_ret
  exact ⟨rfl, (sh_next hb1 hb2).trans (hb3.mono (sh_next hb1 hb2).size)⟩

set_option maxRecDepth 100000 in
set_option maxHeartbeats 4000000 in
theorem broken_main (A : Option Addr) (c : Nat) (l : List Tst) (A' : Option Addr) (c' : Nat) (t : List Head) (A2 : Option Addr) (c2 : Nat) (wind : List Vec) (w : World) (hr : RS encT 4 w w.heap.size A l) (ht : RH w w.heap.size A' t) (hw : RS encV 2 w w.heap.size A2 wind) (hf : fewB l t = true) (h12 : wind.length ≤ 12) (hE : windyE l t wind = 0) :
    Calls Try.prog 7 #[.slice A l.length c, .slice A' t.length c', .slice A2 wind.length c2] w fun e w' => e = .returned (.bool true) ∧ Below w.heap.size w w' := by
  obtain ⟨hg10, hl45, ht15⟩ := fewB_iff.1 hf
  have hlm : l.length ≤ maxLen := by show _ ≤ _; unfold maxLen; omega
  have htm : t.length ≤ maxLen := by show _ ≤ _; unfold maxLen; omega
  have hwm : wind.length ≤ maxLen := by show _ ≤ _; unfold maxLen; omega
  obtain ⟨hz1', hz2', hz3', _⟩ := windyE_zero hE
  have Htok := Lib.hid (tentE_ok hz2').2
  have HE := Lib.hid hE
  have HFew := Lib.hid (fun W h => hf ▸ Few_any A c l A' c' t W h hlm htm)
  have HBl := Lib.hid (fun W hr ht hw => hE ▸ blown_any A c l A' c' t A2 c2 wind W hr hlm ht htm hw hwm)
  have HTent := Lib.hid (fun W h => Tent_any A' c' t W h (by omega) (fun x hx => by have := hg10 x hx; omega))
  have HTests := Lib.hid (fun W h => Tests_any A c l W h (by omega))
  have HWind := Lib.hid (fun W h => Wind_any A2 c2 wind W h (by omega))
  obtain ⟨b, hb⟩ : ∃ b, standsB l t wind = b := ⟨_, rfl⟩
  have HSt := Lib.hid (fun W B b1 B' b2 B2 b3 hr ht hw => stands_ok B b1 l B' b2 t B2 b3 wind hb W hr hlm ht htm hw hwm hE)
  cases b
  · have HSp := Lib.hid (fun W B b1 B' b2 B2 b3 hr ht hw => Spares_none B b1 l B' b2 t B2 b3 wind W hr hlm ht htm hw hwm hE hb)
    have tk1 : True := trivial
    have tk2 : True := trivial
    have tk3 : True := trivial
    clear hf hE hg10 hb hz1' hz2' hz3'
    go_enter Try.func7, Try.ntmps7
    go_wp2_with (first | (go_at_call 14; refine (HFew.out _ ht).mono ?_; rintro e w1 ⟨rfl, hb1⟩) | (go_at_call 15; refine (HBl.out _ (hr.to hb1) (ht.to hb1) (hw.to hb1)).mono ?_; rintro e w2 ⟨rfl, hb2⟩; have a2 := sh_next hb1 hb2; have hr2 := hr.to a2; have ht2 := ht.to a2; have hw2 := hw.to a2) | (go_at_call 17; have := tk1; clear this tk1; refine (HTests.out _ hr2).mono ?_; rintro e w3 ⟨A3, c3, rfl, hs3, _, _, hb3⟩) | (go_at_call 18; have := tk2; clear this tk2; refine (HTent.out _ (ht2.to hb3)).mono ?_; rintro e w4 ⟨A4, c4, rfl, hs4, _, _, hb4⟩; have a4 := sh_next hb3 hb4) | (go_at_call 19; have := tk3; clear this tk3; refine (HWind.out _ (hw2.to a4)).mono ?_; rintro e w5 ⟨A5, c5, rfl, hs5, _, _, hb5⟩; have a5 := a4.trans (hb5.mono a4.size)) | (go_at_call 41; refine (HSp.out _ A3 c3 A4 c4 A5 c5 ((hs3.to hb4).to hb5) (hs4.to hb5) hs5).mono ?_; rintro e w6 ⟨rfl, hb6⟩; have a6 := a5.trans (hb6.mono a5.size); have hr6 := hr2.to a6; have ht6 := ht2.to a6; have hw6 := hw2.to a6) | (go_at_call 17; refine (HTests.out _ hr6).mono ?_; rintro e w7 ⟨A7, c7, rfl, hs7, _, _, hb7⟩) | (go_at_call 18; refine (HTent.out _ (ht6.to hb7)).mono ?_; rintro e w8 ⟨A8, c8, rfl, hs8, _, _, hb8⟩; have a8 := sh_next hb7 hb8) | (go_at_call 19; refine (HWind.out _ (hw6.to a8)).mono ?_; rintro e w9 ⟨A9, c9, rfl, hs9, _, _, hb9⟩; have a9 := a8.trans (hb9.mono a8.size)) | (go_at_call 16; refine (HSt.out _ A7 c7 A8 c8 A9 c9 ((hs7.to hb8).to hb9) (hs8.to hb9) hs9).mono ?_; rintro e w10 ⟨rfl, hb10⟩; have a10 := a9.trans (hb10.mono a9.size)) | (go_at_call 20; refine (wakes_any _).mono ?_; rintro e w11 ⟨rfl, hb11⟩; obtain ⟨hc11, hf11⟩ := bcell hb11))
    go_ret
    have x1 := a2.trans (a6.mono a2.size)
    have x2 := x1.trans (a10.mono x1.size)
    exact ⟨rfl, x2.trans (hb11.mono x2.size)⟩
  · have HSp := Lib.hid (fun W B b1 B' b2 B2 b3 hr ht hw => Spares_ok B b1 l B' b2 t B2 b3 wind W hr hlm ht htm hw hwm hE hb)
    obtain ⟨sp, hspe⟩ : ∃ sp, spareL l wind t = sp := ⟨_, rfl⟩
    rw [hspe] at HSp
    have Hspe := Lib.hid hspe
    have Hb := Lib.hid hb
    have hspl : sp.length ≤ 8 * t.length := by rw [← hspe]; exact spareUp_le (fun h hh => Head.guys_le (Htok.out h hh)) _
    have tk1 : True := trivial
    have tk2 : True := trivial
    have tk3 : True := trivial
    clear hf hE hg10 hb hz1' hz2' hz3' hspe
    go_enter Try.func7, Try.ntmps7
    go_wp2_with (first | (go_at_call 14; refine (HFew.out _ ht).mono ?_; rintro e w1 ⟨rfl, hb1⟩) | (go_at_call 15; refine (HBl.out _ (hr.to hb1) (ht.to hb1) (hw.to hb1)).mono ?_; rintro e w2 ⟨rfl, hb2⟩; have a2 := sh_next hb1 hb2; have hr2 := hr.to a2; have ht2 := ht.to a2; have hw2 := hw.to a2) | (go_at_call 17; have := tk1; clear this tk1; refine (HTests.out _ hr2).mono ?_; rintro e w3 ⟨A3, c3, rfl, hs3, _, _, hb3⟩) | (go_at_call 18; have := tk2; clear this tk2; refine (HTent.out _ (ht2.to hb3)).mono ?_; rintro e w4 ⟨A4, c4, rfl, hs4, _, _, hb4⟩; have a4 := sh_next hb3 hb4) | (go_at_call 19; have := tk3; clear this tk3; refine (HWind.out _ (hw2.to a4)).mono ?_; rintro e w5 ⟨A5, c5, rfl, hs5, _, _, hb5⟩; have a5 := a4.trans (hb5.mono a4.size)) | (go_at_call 41; refine (HSp.out _ A3 c3 A4 c4 A5 c5 ((hs3.to hb4).to hb5) (hs4.to hb5) hs5).mono ?_; rintro e w6 ⟨A6, c6, rfl, hsp, hq6, hq6', hb6⟩; have a6 := a5.trans (hb6.mono a5.size); have hr6 := hr2.to a6; have ht6 := ht2.to a6; have hw6 := hw2.to a6) | (go_at_call 17; refine (HTests.out _ hr6).mono ?_; rintro e w7 ⟨A7, c7, rfl, hs7, _, _, hb7⟩) | (go_at_call 18; refine (HTent.out _ (ht6.to hb7)).mono ?_; rintro e w8 ⟨A8, c8, rfl, hs8, _, _, hb8⟩; have a8 := sh_next hb7 hb8) | (go_at_call 19; refine (HWind.out _ (hw6.to a8)).mono ?_; rintro e w9 ⟨A9, c9, rfl, hs9, _, _, hb9⟩; have a9 := a8.trans (hb9.mono a8.size)) | (go_at_call 16; refine (HSt.out _ A7 c7 A8 c8 A9 c9 ((hs7.to hb8).to hb9) (hs8.to hb9) hs9).mono ?_; rintro e w10 ⟨rfl, hb10⟩; have a10 := a9.trans (hb10.mono a9.size)))
    have x1 := a2.trans (a6.mono a2.size)
    have hB10 := x1.trans (a10.mono x1.size)
    have hsp10 := hsp.to a10
    have hr10 := hr6.to a10
    have ht10 := ht6.to a10
    have hw10 := hw6.to a10
    clear hr ht hw hr2 ht2 hw2 hr6 ht6 hw6 hs3 hs4 hs5 hs7 hs8 hs9 hb3 hb4 hb5 hb6 hb7 hb8 hb9 hb10 a2 a4 a5 a6 a8 a9 a10 x1 hb1 hb2 hsp
    go_wp2
    go_loopw [9, 10] (fun x y wr => ∃ i : Nat, i ≤ t.length ∧ x = .int .i64 ((spareUp l wind t i).length : Nat) ∧ y = .int .i64 i ∧ Below w10.heap.size w10 wr) (fun _ y _ => t.length - (intOf y).toNat)
    case atStart => exact ⟨0, Nat.zero_le _, rfl, rfl, Below.refl _ _⟩
    case round =>
      obtain ⟨i, hi, rfl, rfl, hBr⟩ := hrel
      by_cases hlt : i < t.length
      · obtain ⟨h, hh⟩ := getElem?_lt hlt
        have Hhk := Lib.hid (Htok.out h (List.mem_of_getElem? hh))
        have hg8 := Head.guys_le Hhk.out
        obtain ⟨b, off, A11, c11, rfl, hb, x0, x1, x2, hg1, hg2, hg⟩ := ht10.at_ hh
        have Hh := Lib.hid hh
        have e14 : decide ((i : Int) < (t.length : Int)) = true := by simp <;> omega
        clear hh x0 x1 hg
        go_wp2
        obtain ⟨wo, hwo⟩ : ∃ y, y = wr := ⟨_, rfl⟩
        subst hwo
        go_loopw [9, 11] (fun x y wr => ∃ m : Nat, m ≤ h.guys.length ∧ x = .int .i64 ((spareUp l wind t i ++ spareRow l wind h i m).length : Nat) ∧ y = .int .i64 m ∧ Below w10.heap.size w10 wr) (fun _ y _ => h.guys.length - (intOf y).toNat)
        case atStart => exact ⟨0, Nat.zero_le _, by simp [spareRow], rfl, hBr⟩
        case round =>
          obtain ⟨m, hm, rfl, rfl, hB2⟩ := hrel
          have z2 := (hB2.cell (p := ⟨b, off + i * 3 + 2, none⟩) (by show b < _; omega)).trans x2
          by_cases hlt2 : m < h.guys.length
          · obtain ⟨a, ha⟩ : ∃ a, (spareUp l wind t i ++ spareRow l wind h i m).length = a := ⟨_, rfl⟩
            obtain ⟨hn1, hn2⟩ := spare_next (l := l) (wind := wind) Hh.out hlt2 a ha.symm
            rw [Hspe.out] at hn1 hn2
            have hale : a ≤ sp.length := by rw [← ha, ← Hspe.out]; exact (spare_pre Hh.out hm).length_le
            obtain ⟨b9, hb9⟩ : ∃ b9, headStands l wind (h.lose m) = b9 := ⟨_, rfl⟩
            rw [hb9] at hn1 hn2
            have Hn1 := Lib.hid hn1
            have Hn2 := Lib.hid hn2
            have Ha := Lib.hid ha
            have Hb9 := Lib.hid hb9
            rw [ha]
            have hspr := hsp10.to hB2
            clear hn1 hn2 ha hb9
            have hq1 := fun x y w => eq_pair x y i m w
            have hq2 := fun x y w => eqIn_pair x y i m w
            go_upto_region 15 with fail
            go_cut [12] (fun s12 wx => s12 = .bool b9 ∧ Below w10.heap.size w10 wx)
            case first =>
              cases b9
              · by_cases hal : a < sp.length
                · obtain ⟨q, hq⟩ := getElem?_lt hal
                  have hne := Hn2.out rfl q hq
                  obtain ⟨b7, o7, rfl, hb7, hc7⟩ := hspr.at_ hq
                  have y0 := hc7 0 _ rfl
                  have y1 := hc7 1 _ rfl
                  simp only [Nat.add_zero] at y0
                  clear hspr hc7 hsp10
                  by_cases hx : q.1 = (i : Int)
                  · have hy : ¬ q.2 = (m : Int) := fun hy => hne (by obtain ⟨q1, q2⟩ := q; simp at hx hy; rw [hx, hy])
                    have e1 : (q.1 == (i : Int)) = true := by simpa using hx
                    have e2 : (q.2 == (m : Int)) = false := by simpa using hy
                    clear hx hy hne
                    go_wp2_with fail
                    go_meet
                    exact ⟨rfl, hB2⟩
                  · have e1 : (q.1 == (i : Int)) = false := by simpa using hx
                    clear hx hne
                    go_wp2_with fail
                    go_meet
                    exact ⟨rfl, hB2⟩
                · go_wp2_with fail
                  go_meet
                  exact ⟨rfl, hB2⟩
              · have hq := Hn1.out rfl
                have hal := lt_of_getElem? hq
                obtain ⟨b7, o7, rfl, hb7, hc7⟩ := hspr.at_ hq
                have y0 := hc7 0 _ rfl
                have y1 := hc7 1 _ rfl
                simp only [Nat.add_zero] at y0
                clear hspr hc7 hsp10
                go_wp2_with fail
                go_meet
                exact ⟨rfl, hB2⟩
            case rest =>
              obtain ⟨rfl, hB11⟩ := hcut
              clear hq1 hq2
              have hr11 := hr10.to hB11
              have ht11 := ht10.to hB11
              have hw11 := hw10.to hB11
              obtain ⟨t', ht'⟩ : ∃ t', t.set i (h.lose m) = t' := ⟨_, rfl⟩
              have hlen' : t'.length = t.length := by rw [← ht', List.length_set]
              have hE' : windyE l t' wind = 0 := by rw [← ht']; exact windy_set HE.out (lose_ok Hhk.out)
              have hst' : standsB l t' wind = b9 := by rw [← ht', stands_set Hb.out hlt]; exact Hb9.out
              have hg' : ∀ x ∈ t', x.guys.length ≤ 1000 := by
                intro x hx
                rw [← ht'] at hx
                rcases List.mem_or_eq_of_mem_set hx with hx | rfl
                · have := Head.guys_le (Htok.out x hx); omega
                · have := Head.guys_le (lose_ok (k := m) Hhk.out); omega
              have HWo := Lib.hid (fun W hW => ht' ▸ refWithout_any (some ⟨b, off, none⟩) c' t i m h Hh.out hlt2 hg8 (by omega) W hW)
              have HTe2 := Lib.hid (fun W B b1 hW => Tent_any B b1 t' W hW (by omega) hg')
              have HSt2 := Lib.hid (fun W B b1 B' b2 B2 b3 hr ht hw => stands_ok B b1 l B' b2 t' B2 b3 wind hst' W hr hlm ht (by rw [hlen']; exact htm) hw hwm hE')
              have n1 : IntKind.i64.wrap ((a : Int) + 1) = (a : Int) + 1 := IntWalk.i64_in _ (by omega)
              have n2 : IntKind.i64.wrap ((m : Int) + 1) = (m : Int) + 1 := IntWalk.i64_in _ (by omega)
              clear ht' hlen' hE' hst' hg' hspr z2
              cases b9
              · go_wp2_with (first | (go_at_call 17; refine (HTests.out _ hr11).mono ?_; rintro e w12 ⟨A12, c12, rfl, hs12, _, _, hb12⟩) | (go_at_call 46; refine (HWo.out _ (ht11.to hb12)).mono ?_; rintro e w13 ⟨A13, c13, rfl, hs13, _, _, hb13⟩; have a13 := sh_next hb12 hb13) | (go_at_call 18; refine (HTe2.out _ A13 c13 hs13).mono ?_; rintro e w14 ⟨A14, c14, rfl, hs14, _, _, hb14⟩; have a14 := a13.trans (hb14.mono a13.size)) | (go_at_call 19; refine (HWind.out _ (hw11.to a14)).mono ?_; rintro e w15 ⟨A15, c15, rfl, hs15, _, _, hb15⟩; have a15 := a14.trans (hb15.mono a14.size)) | (go_at_call 16; refine (HSt2.out _ A12 c12 A14 c14 A15 c15 (((hs12.to hb13).to hb14).to hb15) (hs14.to hb15) hs15).mono ?_; rintro e w16 ⟨rfl, hb16⟩; have a16 := a15.trans (hb16.mono a15.size)))
                go_roundw
                case rel => exact ⟨m + 1, by omega, by rw [← Ha.out, spareRow, Hb9.out]; simp, by go_num, hB11.trans (a16.mono hB11.size)⟩
                case measure => simp [intOf]; omega
              · go_wp2_with (first | (go_at_call 17; refine (HTests.out _ hr11).mono ?_; rintro e w12 ⟨A12, c12, rfl, hs12, _, _, hb12⟩) | (go_at_call 46; refine (HWo.out _ (ht11.to hb12)).mono ?_; rintro e w13 ⟨A13, c13, rfl, hs13, _, _, hb13⟩; have a13 := sh_next hb12 hb13) | (go_at_call 18; refine (HTe2.out _ A13 c13 hs13).mono ?_; rintro e w14 ⟨A14, c14, rfl, hs14, _, _, hb14⟩; have a14 := a13.trans (hb14.mono a13.size)) | (go_at_call 19; refine (HWind.out _ (hw11.to a14)).mono ?_; rintro e w15 ⟨A15, c15, rfl, hs15, _, _, hb15⟩; have a15 := a14.trans (hb15.mono a14.size)) | (go_at_call 16; refine (HSt2.out _ A12 c12 A14 c14 A15 c15 (((hs12.to hb13).to hb14).to hb15) (hs14.to hb15) hs15).mono ?_; rintro e w16 ⟨rfl, hb16⟩; have a16 := a15.trans (hb16.mono a15.size)))
                go_roundw
                case rel => exact ⟨m + 1, by omega, by rw [spareRow, Hb9.out, ← List.append_assoc, List.length_append, Ha.out]; simp, by go_num, hB11.trans (a16.mono hB11.size)⟩
                case measure => simp [intOf]; omega
          · go_wp2
            obtain rfl : m = h.guys.length := by omega
            refine ⟨⟨i + 1, by omega, by rw [spareUp, Hh.out], by go_num, hB2⟩, by simp [intOf]; omega⟩
      · obtain rfl : i = t.length := by omega
        have he : (spareUp l wind t t.length).length = sp.length := by rw [← Hspe.out]; rfl
        rw [he]
        go_wp2_with ((go_at_call 20; refine (wakes_any _).mono ?_; rintro e w17 ⟨rfl, hb17⟩; obtain ⟨hc17, hf17⟩ := bcell hb17))
        go_ret
        have x5 := hB10.trans (hBr.mono hB10.size)
        exact ⟨rfl, x5.trans (hb17.mono x5.size)⟩

theorem broken_any (A : Option Addr) (c : Nat) (l : List Tst) (A' : Option Addr) (c' : Nat) (t : List Head) (A2 : Option Addr) (c2 : Nat) (wind : List Vec) (w : World) (hr : RS encT 4 w w.heap.size A l) (hl : l.length ≤ maxLen) (ht : RH w w.heap.size A' t) (htl : t.length ≤ maxLen) (hw : RS encV 2 w w.heap.size A2 wind) :
    Calls Try.prog 7 #[.slice A l.length c, .slice A' t.length c', .slice A2 wind.length c2] w fun e w' => e = .returned (.bool true) ∧ Below w.heap.size w w' := by
  cases hf : fewB l t with
  | false => exact broken_many A c l A' c' t A2 c2 wind w ht hl htl hf
  | true =>
    by_cases h12 : 12 < wind.length
    · exact broken_long A c l A' c' t A2 c2 wind w ht hl htl hf h12
    · by_cases hE : windyE l t wind = 0
      · exact broken_main A c l A' c' t A2 c2 wind w hr ht hw hf (by omega) hE
      · exact broken_blown A c l A' c' t A2 c2 wind w hr ht hw hl htl hf (by omega) hE
end Go.Proofs.Ytibaindlbpfecaa
