import Derived.Test.YtkeicglphmnilaaGreatSparesP
import Derived.Test.YtkeicglphmnilaaGreatBroken

/- Which guys are spare is as the document says. -/
namespace Go.Proofs.YtkeicglphmnilaaGreat
open Go.RowKit
theorem infoRP : (Tryz.prog.info? 79).map (fun i => (i.zero, i.size, i.bytes)) = some (some (.agg #[.int .i64 0, .int .i64 0]), 2, 16) := by kernel_rfl
set_option maxRecDepth 100000 in
set_option maxHeartbeats 4000000 in
theorem refSpares_any (A : Option Addr) (c : Nat) (l : List Tst) (A' : Option Addr) (c' : Nat) (t : List Head) (A2 : Option Addr) (c2 : Nat) (wind : List Vec) (w : World) (hr : RS encT 4 w w.heap.size A l) (hl : l.length ≤ maxLen) (ht : RH w w.heap.size A' t) (htl : t.length ≤ 15) (hw : RS encV 2 w w.heap.size A2 wind) (hwl : wind.length ≤ maxLen) (hE : windyE l t wind = 0) (hs : standsB l t wind = true) :
    Calls Tryz.prog 13 #[.slice A l.length c, .slice A' t.length c', .slice A2 wind.length c2] w fun e w' => ∃ A c, e = .returned (.slice A (spareL l wind t).length c) ∧ RS encP 2 w' w'.heap.size A (spareL l wind t) ∧ Below w.heap.size w w' := by
  obtain ⟨i0, hi0, hz0, hz1, hz2⟩ := info_parts infoRP
  obtain ⟨hz1', hz2', hz3', _⟩ := windyE_zero hE
  have Hok := Lib.hid (testsFault_ok hz1').1
  have Htok := Lib.hid (tentE_ok hz2').2
  have Hvb := Lib.hid (windE_ok hz3').2
  have Hle := Lib.hid (fun k => spareUp_le (l := l) (wind := wind) (t := t) (fun h hh => Head.guys_le (Htok.out h hh)) k)
  have HE := Lib.hid hE
  have HS := Lib.hid hs
  have htm : t.length ≤ maxLen := by show _ ≤ _; unfold maxLen; omega
  have HRW := Lib.hid (fun (t' : List Head) (htk : ∀ x ∈ t', x.ok = true) (hlen : t'.length = t.length) W B b1 hr ht hw => refWeakest_any A c l B b1 t' A2 c2 wind W hr hl ht (by rw [hlen]; exact htm) hw hwl Hok.out htk Hvb.out)
  have HWo := Lib.hid (fun (i m : Nat) (h : Head) (hh : t[i]? = some h) (hlt : m < h.guys.length) W hW => refWithout_any A' c' t i m h hh hlt (Head.guys_le (Htok.out h (List.mem_of_getElem? hh))) (by omega) W hW)
  have HT := Lib.hid ht
  clear hE hs hz1' hz2' hz3'
  go_enter Tryz.func13, Tryz.ntmps13
  go_wp2
  go_loopw [7, 8] (fun v i wr => ∃ k : Nat, k ≤ t.length ∧ i = .int .i64 k ∧ wr.ownsRow w.heap.size 79 2 v (spareUp l wind t k).length ((spareUp l wind t k).flatMap encP) ∧ Below w.heap.size w wr) (fun _ i _ => t.length - (intOf i).toNat)
  case atStart => exact ⟨0, Nat.zero_le _, rfl, World.ownsRow_nil _ _ _ _, Below.refl _ _⟩
  case round =>
    obtain ⟨k, hk, rfl, hown, hB⟩ := hrel
    by_cases hlt : k < t.length
    case neg =>
      obtain ⟨A1, c1, rfl, hc1, hc2⟩ := own_slice hown
      obtain rfl : k = t.length := by omega
      have hS := RS.of_own (enc := encP) (sz := 2) (fun _ => rfl) hown rfl
      clear hown
      go_wp2
      go_ret
      exact ⟨A1, c1, rfl, hS, hB⟩
    case pos =>
      obtain ⟨h, hh⟩ := getElem?_lt hlt
      have Hhk := Lib.hid (Htok.out h (List.mem_of_getElem? hh))
      have hg8 := Head.guys_le Hhk.out
      obtain ⟨b, off, A3, c3, rfl, hb, x0, x1, x2, hg1, hg2, hg⟩ := HT.out.at_ hh
      have Hh := Lib.hid hh
      have hlek := Hle.out k
      have HX2 := Lib.hid x2
      have hktI : (k : Int) < (t.length : Int) := by omega
      clear hh x0 x1 x2 hg1 hg2 hg
      obtain ⟨wo, hwo⟩ : ∃ y, y = wr := ⟨_, rfl⟩
      subst hwo
      go_wp2
      go_loopw [7, 9] (fun v j wr => ∃ m : Nat, m ≤ h.guys.length ∧ j = .int .i64 m ∧ wr.ownsRow w.heap.size 79 2 v (spareUp l wind t k ++ spareRow l wind h k m).length ((spareUp l wind t k ++ spareRow l wind h k m).flatMap encP) ∧ Below w.heap.size w wr) (fun _ j _ => h.guys.length - (intOf j).toNat)
      case atStart => exact ⟨0, Nat.zero_le _, rfl, by simpa [spareRow] using hown, hB⟩
      case round =>
        obtain ⟨m, hm, rfl, hrow, hB2⟩ := hrel
        have z2 := cell_after hB2 HX2.out
        have hlr := spareRow_le (l := l) (wind := wind) (h := h) (i := k) m
        by_cases hlt2 : m < h.guys.length
        case neg =>
          obtain rfl : m = h.guys.length := by omega
          go_wp2
          go_roundw
          case rel =>
            refine ⟨k + 1, by omega, by go_num, ?_, hB2⟩
            rw [show spareUp l wind t (k + 1) = spareUp l wind t k ++ spareRow l wind h k h.guys.length from by rw [spareUp, Hh.out]]
            exact hrow
          case measure => simp [intOf]; omega
        case pos =>
          obtain ⟨b9, hb9⟩ : ∃ b9, headStands l wind (h.lose m) = b9 := ⟨_, rfl⟩
          have Hb9 := Lib.hid hb9
          obtain ⟨t', ht'⟩ : ∃ t', t.set k (h.lose m) = t' := ⟨_, rfl⟩
          have hlen' : t'.length = t.length := by rw [← ht', List.length_set]
          have hst' : standsB l t' wind = b9 := by rw [← ht', stands_set HS.out hlt]; exact hb9
          have htk' : ∀ x ∈ t', x.ok = true := by
            intro x hx
            rw [← ht'] at hx
            rcases List.mem_or_eq_of_mem_set hx with hx | rfl
            · exact Htok.out x hx
            · exact lose_ok (k := m) Hhk.out
          have HWk := Lib.hid (fun W hW => ht' ▸ HWo.out k m h Hh.out hlt2 W hW)
          have HWe := Lib.hid (HRW.out t' htk' hlen')
          have hll : (spareUp l wind t k ++ spareRow l wind h k m).length ≤ 8 * k + m := by rw [List.length_append]; omega
          obtain ⟨zi, hzi⟩ : ∃ x, wkI l t' wind = x := ⟨_, rfl⟩
          obtain ⟨zk, hzk⟩ : ∃ x, wkK l t' wind = x := ⟨_, rfl⟩
          rw [hzi, hzk] at HWe
          have hzs : decide (zi < 0) = b9 := by
            rw [← hst', ← hzi]
            cases ho : wkO l t' wind with
            | none => rw [stands_none.2 ho]; unfold wkI; rw [ho]; rfl
            | some a =>
              have hsf : standsB l t' wind = false := by
                cases hx : standsB l t' wind with
                | false => rfl
                | true => rw [stands_none.1 hx] at ho; cases ho
              rw [hsf]
              unfold wkI
              rw [ho]
              exact decide_eq_false (by simp)
          rw [hlen'] at HWe
          clear hb9 ht' hst' htk' hzi hzk
          have hr2 := hr.to hB2
          have ht2 := HT.out.to hB2
          have hw2 := hw.to hB2
          obtain ⟨nn, hnn⟩ : ∃ nn, (spareUp l wind t k ++ spareRow l wind h k m).length = nn := ⟨_, rfl⟩
          have HNN := Lib.hid hnn
          have hrow' := hrow
          rw [hnn] at hrow' hll
          clear hrow hnn
          cases b9
          case false =>
            have hzn : ¬ zi < 0 := of_decide_eq_false hzs
            go_wp2_with (first | (go_at_call 33; refine (HWk.out _ ht2).mono ?_; rintro e w3 ⟨A13, c13, rfl, hs13, _, _, hb3⟩; rw [hlen'] at *) | (go_at_call 11; refine (HWe.out _ A13 c13 (hr2.to hb3) hs13 (hw2.to hb3)).mono ?_; rintro e w4 ⟨rfl, hb4⟩))
            have a4 := sh_next hb3 hb4
            go_roundw
            case rel =>
              refine ⟨m + 1, by omega, by go_num, ?_, hB2.trans (a4.mono hB2.size)⟩
              rw [show spareRow l wind h k (m + 1) = spareRow l wind h k m from by rw [spareRow, Hb9.out]; simp, HNN.out]
              exact own_below hrow' a4
            case measure => simp [intOf]; omega
          case true =>
            have hzn : zi < 0 := of_decide_eq_true hzs
            have hBz2 := hB2.size
            go_wp2_with (first | (go_at_call 33; refine (HWk.out _ ht2).mono ?_; rintro e w3 ⟨A13, c13, rfl, hs13, _, _, hb3⟩; rw [hlen'] at *) | (go_at_call 11; refine (HWe.out _ A13 c13 (hr2.to hb3) hs13 (hw2.to hb3)).mono ?_; rintro e w4 ⟨rfl, hb4⟩; have a4 := sh_next hb3 hb4; have hrow4 := own_below hrow' a4; have hB4 := hB2.trans (a4.mono hBz2); have hz4 := hB4.size) | (at_builtin; refine wpList_append_own _ rfl _ _ 28 rfl w.heap.size 79 i0 _ 2 16 Tryz.underlying28 hi0 hz0 hz1 hz2 rfl (by decide) _ nn _ rfl (hrow4.alloc _) ⟨w4.heap.size, 0, none⟩ 1 1 [.int .i64 k, .int .i64 m] rfl rfl ?c1 ?c2 ?c3 ?c4 ?c5 ?_))
            case c1 => exact World.news_of_block (cs := #[.int .i64 k, .int .i64 m]) (t := 79) (fr := (0, 0)) (heap_alloc_new w4 _)
            case c2 => simp [Value.oneCell']
            case c3 => unfold maxLen; omega
            case c4 => omega
            case c5 => simp; omega
            intro v2 w5 hrow5 hgrow5 _
            have hB6 := app_belowL (hB4.alloc hz4 (.cells #[.int .i64 k, .int .i64 m] 79)) (Nat.le_refl _) (by simp; omega) (hrow4.alloc _) hgrow5
            have HR5 := Lib.hid hrow5
            clear hrow5 hrow4 hgrow5
            go_wp2
            go_roundw
            case rel =>
              refine ⟨m + 1, by omega, by go_num, ?_, hB6⟩
              have hsp : spareUp l wind t k ++ spareRow l wind h k (m + 1) = (spareUp l wind t k ++ spareRow l wind h k m) ++ [((k : Int), (m : Int))] := by rw [spareRow, Hb9.out]; simp
              rw [hsp, List.length_append, HNN.out, List.flatMap_append, List.flatMap_append, List.append_assoc]
              exact HR5.out
            case measure => simp [intOf]; omega
theorem spares_many (A : Option Addr) (c : Nat) (l : List Tst) (A' : Option Addr) (c' : Nat) (t : List Head) (A2 : Option Addr) (c2 : Nat) (wind : List Vec) (w : World) (ht : RH w w.heap.size A' t) (hl : l.length ≤ maxLen) (htl : t.length ≤ maxLen) (hf : fewB l t = false ∨ 15 < wind.length) :
    Calls Tryz.prog 3 #[.slice A l.length c, .slice A' t.length c', .slice A2 wind.length c2] w fun e w' => e = .returned (.bool true) ∧ Below w.heap.size w w' := by
  obtain ⟨b, hb⟩ : ∃ b, fewB l t = b := ⟨_, rfl⟩
  have Hv := Lib.hid (fun W h => hb ▸ Few_any A c l A' c' t W h hl htl)
  rw [hb] at hf
  clear hb hl htl
  cases b
  · clear hf
    go_enter Tryz.func3, Tryz.ntmps3
    go_wp2_with (first | (go_at_call 4; refine (Hv.out _ ht).mono ?_; rintro e w1 ⟨rfl, hb1⟩) | (go_at_call 5; refine (wakes_any _).mono ?_; rintro e w2 ⟨rfl, hb2⟩; obtain ⟨hc2, hf2⟩ := bcell hb2))
    go_ret
    exact ⟨rfl, sh_next hb1 hb2⟩
  · have h15 : 15 < wind.length := by simpa using hf
    clear hf
    go_enter Tryz.func3, Tryz.ntmps3
    go_wp2_with (first | (go_at_call 4; refine (Hv.out _ ht).mono ?_; rintro e w1 ⟨rfl, hb1⟩) | (go_at_call 5; refine (wakes_any _).mono ?_; rintro e w2 ⟨rfl, hb2⟩; obtain ⟨hc2, hf2⟩ := bcell hb2))
    go_ret
    exact ⟨rfl, sh_next hb1 hb2⟩
set_option maxRecDepth 100000 in
set_option maxHeartbeats 4000000 in
theorem spares_main (A : Option Addr) (c : Nat) (l : List Tst) (A' : Option Addr) (c' : Nat) (t : List Head) (A2 : Option Addr) (c2 : Nat) (wind : List Vec) (w : World) (hr : RS encT 4 w w.heap.size A l) (ht : RH w w.heap.size A' t) (hw : RS encV 2 w w.heap.size A2 wind) (hf : fewB l t = true) (h15 : wind.length ≤ 15) :
    Calls Tryz.prog 3 #[.slice A l.length c, .slice A' t.length c', .slice A2 wind.length c2] w fun e w' => e = .returned (.bool true) ∧ Below w.heap.size w w' := by
  obtain ⟨hg10, hl45, ht15⟩ := fewB_iff.1 hf
  have hlm : l.length ≤ maxLen := by show _ ≤ _; unfold maxLen; omega
  have htm : t.length ≤ maxLen := by show _ ≤ _; unfold maxLen; omega
  have hwm : wind.length ≤ maxLen := by show _ ≤ _; unfold maxLen; omega
  obtain ⟨z, hz⟩ : ∃ z, windyE l t wind = z := ⟨_, rfl⟩
  have HFew := Lib.hid (fun W h => hf ▸ Few_any A c l A' c' t W h hlm htm)
  have HBl := Lib.hid (fun W hr ht hw => hz ▸ blown_any A c l A' c' t A2 c2 wind W hr hlm ht htm hw hwm)
  have HTent := Lib.hid (fun W h => Tent_any A' c' t W h (by omega) (fun x hx => by have := hg10 x hx; omega))
  have HTests := Lib.hid (fun W h => Tests_any A c l W h (by omega))
  have HWind := Lib.hid (fun W h => Wind_any A2 c2 wind W h (by omega))
  by_cases h0 : z = 0
  case neg =>
    have HSp := Lib.hid (fun W B b1 B' b2 B2 b3 hr ht hw => Spares_err B b1 l B' b2 t B2 b3 wind z h0 W hr hlm ht htm hw hwm hz)
    have e1 : (z != 0) = true := by simpa using h0
    clear hf hz hg10
    go_enter Tryz.func3, Tryz.ntmps3
    go_wp2_with (first | (go_at_call 4; refine (HFew.out _ ht).mono ?_; rintro e w1 ⟨rfl, hb1⟩; have hr1 := hr.to hb1; have ht1 := ht.to hb1; have hw1 := hw.to hb1) | (go_at_call 7; refine (HTests.out _ hr1).mono ?_; rintro e w2 ⟨A3, c3, rfl, hs2, _, _, hb2⟩; have ht2 := ht1.to hb2; have hw2 := hw1.to hb2) | (go_at_call 8; refine (HTent.out _ ht2).mono ?_; rintro e w3 ⟨A4, c4, rfl, hs3, _, _, hb3⟩; have hw3 := hw2.to hb3) | (go_at_call 9; refine (HWind.out _ hw3).mono ?_; rintro e w4 ⟨A5, c5, rfl, hs4, _, _, hb4⟩) | (go_at_call 6; refine (HSp.out _ A3 c3 A4 c4 A5 c5 ((hs2.to hb3).to hb4) (hs3.to hb4) hs4).mono ?_; rintro e w5 ⟨rfl, hb5⟩; have a5 := sh_next (sh_next (sh_next (sh_next hb1 hb2) hb3) hb4) hb5; have hr5 := hr.to a5; have ht5 := ht.to a5; have hw5 := hw.to a5) | (go_at_call 10; refine (HBl.out _ hr5 ht5 hw5).mono ?_; rintro e w6 ⟨rfl, hb6⟩) | (go_at_call 5; refine (wakes_any _).mono ?_; rintro e w9 ⟨rfl, hb9⟩; obtain ⟨hc9, hf9⟩ := bcell hb9))
    go_ret
    have b7 := sh_next hb6 hb9
    exact ⟨rfl, a5.trans (b7.mono a5.size)⟩
  case pos =>
    subst h0
    obtain ⟨hz1, hz2, hz3, _⟩ := windyE_zero hz
    have Hok := Lib.hid (testsFault_ok hz1).1
    have Htok := Lib.hid (tentE_ok hz2).2
    have Hvb := Lib.hid (windE_ok hz3).2
    obtain ⟨zi, hzi⟩ : ∃ x, wkI l t wind = x := ⟨_, rfl⟩
    obtain ⟨zk, hzk⟩ : ∃ x, wkK l t wind = x := ⟨_, rfl⟩
    have HRW := Lib.hid (fun W hr ht hw => hzi ▸ hzk ▸ refWeakest_any A c l A' c' t A2 c2 wind W hr hlm ht htm hw hwm Hok.out Htok.out Hvb.out)
    cases hs : standsB l t wind
    case false =>
      have h0i : (0 : Int) ≤ zi := by
        rw [← hzi]
        unfold wkI
        cases ho : wkO l t wind with
        | none => rw [stands_none.2 ho] at hs; cases hs
        | some k => simp only; omega
      have HSp := Lib.hid (fun W B b1 B' b2 B2 b3 hr ht hw => Spares_none B b1 l B' b2 t B2 b3 wind W hr hlm ht htm hw hwm hz hs)
      clear hf hz hg10 hzi hzk hz1 hz2 hz3 hs
      go_enter Tryz.func3, Tryz.ntmps3
      go_wp2_with (first | (go_at_call 4; refine (HFew.out _ ht).mono ?_; rintro e w1 ⟨rfl, hb1⟩; have hr1 := hr.to hb1; have ht1 := ht.to hb1; have hw1 := hw.to hb1) | (go_at_call 7; refine (HTests.out _ hr1).mono ?_; rintro e w2 ⟨A3, c3, rfl, hs2, _, _, hb2⟩; have ht2 := ht1.to hb2; have hw2 := hw1.to hb2) | (go_at_call 8; refine (HTent.out _ ht2).mono ?_; rintro e w3 ⟨A4, c4, rfl, hs3, _, _, hb3⟩; have hw3 := hw2.to hb3) | (go_at_call 9; refine (HWind.out _ hw3).mono ?_; rintro e w4 ⟨A5, c5, rfl, hs4, _, _, hb4⟩) | (go_at_call 6; refine (HSp.out _ A3 c3 A4 c4 A5 c5 ((hs2.to hb3).to hb4) (hs3.to hb4) hs4).mono ?_; rintro e w5 ⟨rfl, hb5⟩; have a5 := sh_next (sh_next (sh_next (sh_next hb1 hb2) hb3) hb4) hb5; have hr5 := hr.to a5; have ht5 := ht.to a5; have hw5 := hw.to a5) | (go_at_call 10; refine (HBl.out _ hr5 ht5 hw5).mono ?_; rintro e w6 ⟨rfl, hb6⟩) | (go_at_call 11; refine (HRW.out _ (hr5.to hb6) (ht5.to hb6) (hw5.to hb6)).mono ?_; rintro e w7 ⟨rfl, hb7⟩) | (go_at_call 5; refine (wakes_any _).mono ?_; rintro e w9 ⟨rfl, hb9⟩; obtain ⟨hc9, hf9⟩ := bcell hb9))
      go_ret
      have b7 := sh_next (sh_next hb6 hb7) hb9
      exact ⟨rfl, a5.trans (b7.mono a5.size)⟩
    case true =>
      have h0i : ¬ (0 : Int) ≤ zi := by
        rw [← hzi]
        unfold wkI
        rw [stands_none.1 hs]
        simp
      have HSp := Lib.hid (fun W B b1 B' b2 B2 b3 hr ht hw => Spares_ok B b1 l B' b2 t B2 b3 wind W hr hlm ht htm hw hwm hz hs)
      have HRS := Lib.hid (fun W hr ht hw => refSpares_any A c l A' c' t A2 c2 wind W hr hlm ht ht15 hw hwm hz hs)
      obtain ⟨sp, hspe⟩ : ∃ sp, spareL l wind t = sp := ⟨_, rfl⟩
      have hspl : sp.length ≤ 8 * t.length := by rw [← hspe]; exact spareUp_le (fun h hh => Head.guys_le (Htok.out h hh)) _
      rw [hspe] at HSp HRS
      have HPA := Lib.hid (fun A1 A2 c1 c2 W h1 h2 => pairs_same A1 A2 c1 c2 sp W h1 h2 (by omega))
      clear hf hz hg10 hzi hzk hz1 hz2 hz3 hs hspe hspl
      go_enter Tryz.func3, Tryz.ntmps3
      go_wp2_with (first | (go_at_call 4; refine (HFew.out _ ht).mono ?_; rintro e w1 ⟨rfl, hb1⟩; have hr1 := hr.to hb1; have ht1 := ht.to hb1; have hw1 := hw.to hb1) | (go_at_call 7; refine (HTests.out _ hr1).mono ?_; rintro e w2 ⟨A3, c3, rfl, hs2, _, _, hb2⟩; have ht2 := ht1.to hb2; have hw2 := hw1.to hb2) | (go_at_call 8; refine (HTent.out _ ht2).mono ?_; rintro e w3 ⟨A4, c4, rfl, hs3, _, _, hb3⟩; have hw3 := hw2.to hb3) | (go_at_call 9; refine (HWind.out _ hw3).mono ?_; rintro e w4 ⟨A5, c5, rfl, hs4, _, _, hb4⟩) | (go_at_call 6; refine (HSp.out _ A3 c3 A4 c4 A5 c5 ((hs2.to hb3).to hb4) (hs3.to hb4) hs4).mono ?_; rintro e w5 ⟨A9, c9, rfl, hsp, _, _, hb5⟩; have a5 := sh_next (sh_next (sh_next (sh_next hb1 hb2) hb3) hb4) hb5; have hr5 := hr.to a5; have ht5 := ht.to a5; have hw5 := hw.to a5) | (go_at_call 10; refine (HBl.out _ hr5 ht5 hw5).mono ?_; rintro e w6 ⟨rfl, hb6⟩) | (go_at_call 11; refine (HRW.out _ (hr5.to hb6) (ht5.to hb6) (hw5.to hb6)).mono ?_; rintro e w7 ⟨rfl, hb7⟩) | (go_at_call 13; refine (HRS.out _ ((hr5.to hb6).to hb7) ((ht5.to hb6).to hb7) ((hw5.to hb6).to hb7)).mono ?_; rintro e w8 ⟨A8, c8, rfl, hs8, hb8⟩) | (go_at_call 12; refine (HPA.out _ _ _ _ _ (((hsp.to hb6).to hb7).to hb8) hs8).mono ?_; rintro e w10 ⟨rfl, hb10⟩) | (go_at_call 5; refine (wakes_any _).mono ?_; rintro e w9 ⟨rfl, hb9⟩; obtain ⟨hc9, hf9⟩ := bcell hb9))
      go_ret
      have b7 := sh_next (sh_next (sh_next (sh_next hb6 hb7) hb8) hb10) hb9
      exact ⟨rfl, a5.trans (b7.mono a5.size)⟩
theorem spares_any (A : Option Addr) (c : Nat) (l : List Tst) (A' : Option Addr) (c' : Nat) (t : List Head) (A2 : Option Addr) (c2 : Nat) (wind : List Vec) (w : World) (hr : RS encT 4 w w.heap.size A l) (hl : l.length ≤ maxLen) (ht : RH w w.heap.size A' t) (htl : t.length ≤ maxLen) (hw : RS encV 2 w w.heap.size A2 wind) :
    Calls Tryz.prog 3 #[.slice A l.length c, .slice A' t.length c', .slice A2 wind.length c2] w fun e w' => e = .returned (.bool true) ∧ Below w.heap.size w w' := by
  cases hf : fewB l t with
  | false => exact spares_many A c l A' c' t A2 c2 wind w ht hl htl (.inl hf)
  | true =>
    by_cases h15 : 15 < wind.length
    · exact spares_many A c l A' c' t A2 c2 wind w ht hl htl (.inr h15)
    · exact spares_main A c l A' c' t A2 c2 wind w hr ht hw hf (by omega)
end Go.Proofs.YtkeicglphmnilaaGreat
