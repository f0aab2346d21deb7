import Derived.Test.YtibaindlbpfecaaWeakest
import Derived.Test.YtibaindlbpfecaaCanG
import Derived.Test.YtibaindlbpfecaaCanF

namespace Go.Proofs.Ytibaindlbpfecaa
open Go.RowKit

theorem headE_eq {l : List Tst} {t : List Head} {head : Int} {b : Bool} : headE l t head b = if faultE l t = 0 then (if (b && headB t head) = true then agreeE l else 2) else faultE l t := by
  unfold headE firstE
  rw [fault_tented]
theorem asked_any (A : Option Addr) (c : Nat) (l : List Tst) (A' : Option Addr) (c' : Nat) (t : List Head) (head : Int) (b : Bool) (w : World) (hr : RS encT 4 w w.heap.size A l) (hl : l.length ≤ maxLen) (ht : RH w w.heap.size A' t) (htl : t.length ≤ maxLen) :
    Calls Try.prog 22 #[.slice A l.length c, .slice A' t.length c', .int .i64 head, .bool b] w fun e w' => e = .returned (.int .i64 (headE l t head b)) ∧ Below w.heap.size w w' := by
  obtain ⟨z, hz⟩ : ∃ z, faultE l t = z := ⟨_, rfl⟩
  have HE : Hid (headE l t head b = if z = 0 then (if (b && headB t head) = true then agreeE l else 2) else z) := by show _ = _; rw [headE_eq, hz]
  have Hok := Lib.hid (fun h0 : z = 0 => fault_ok (hz.trans h0))
  have HF := Lib.hid (fun W hr ht => hz ▸ Fault_any A c l A' c' t W hr hl ht htl)
  clear hz
  have htl' := htl
  unfold maxLen at htl'
  by_cases h0 : z = 0
  · have e0 : (z != 0) = false := by simpa using h0
    have Hok' := Lib.hid (Hok.out h0)
    subst h0
    by_cases h1 : head < 0
    · have HB : Hid (headB t head = false) := by show _ = _; unfold headB; rw [inB_false]; omega
      go_enter Try.func22, Try.ntmps22
      go_wp2_with (go_at_call 55; refine (HF.out _ hr ht).mono ?_; rintro e w1 ⟨rfl, hb1⟩)
      go_ret
      exact ⟨ret_int (by rw [HE.out, HB.out]; simp), hb1⟩
    · by_cases h2 : (t.length : Int) ≤ head
      · have HB : Hid (headB t head = false) := by show _ = _; unfold headB; rw [inB_false]; omega
        go_enter Try.func22, Try.ntmps22
        go_wp2_with (go_at_call 55; refine (HF.out _ hr ht).mono ?_; rintro e w1 ⟨rfl, hb1⟩)
        go_ret
        exact ⟨ret_int (by rw [HE.out, HB.out]; simp), hb1⟩
      · have HB : Hid (headB t head = true) := by show _ = _; unfold headB; rw [inB_true]; omega
        cases b
        · go_enter Try.func22, Try.ntmps22
          go_wp2_with (go_at_call 55; refine (HF.out _ hr ht).mono ?_; rintro e w1 ⟨rfl, hb1⟩)
          go_ret
          exact ⟨ret_int (by rw [HE.out, HB.out]; simp), hb1⟩
        · go_enter Try.func22, Try.ntmps22
          go_wp2_with (first | (go_at_call 55; refine (HF.out _ hr ht).mono ?_; rintro e w1 ⟨rfl, hb1⟩) | (go_at_call 49; refine (clashing_any A c l _ (hr.to hb1) hl Hok'.out).mono ?_; rintro e w3 ⟨rfl, hb3⟩))
          go_ret
          exact ⟨ret_int (by rw [HE.out, HB.out]; simp), sh_next hb1 hb3⟩
  · have e0 : (z != 0) = true := by simpa using h0
    go_enter Try.func22, Try.ntmps22
    go_wp2_with (go_at_call 55; refine (HF.out _ hr ht).mono ?_; rintro e w1 ⟨rfl, hb1⟩)
    go_ret
    exact ⟨ret_int (by rw [HE.out, if_neg h0]), hb1⟩

theorem zip_get {f : List Vec} {ps : List Int} {k : Nat} {v : Vec} {n : Int} (hv : f[k]? = some v) (hn : ps[k]? = some n) : (List.zip f ps)[k]? = some (v, n) := by
  simp [List.getElem?_zip_eq_some, hv, hn]
theorem balBy_len {p : Vec} {f : List Vec} {whole : Int} {ps : List Int} (h : ps.length ≠ f.length) : balByB p f whole ps = false := by
  unfold balByB; simp [h]
theorem balBy_whole {p : Vec} {f : List Vec} {whole : Int} {ps : List Int} (h : inB whole 1 500000000000 = false) : balByB p f whole ps = false := by
  unfold balByB; rw [h]; rfl
theorem balBy_part {p : Vec} {f : List Vec} {whole : Int} {ps : List Int} {k : Nat} {n : Int} (hn : ps[k]? = some n) (h : inB n 0 whole = false) : balByB p f whole ps = false := by
  unfold balByB; rw [all_bad hn h]; simp
theorem balBy_end {p : Vec} {f : List Vec} {whole : Int} {ps : List Int} (h1 : inB whole 1 500000000000 = true) (h2 : ps.length = f.length) (h3 : ps.all (inB · 0 whole) = true) {u : Vec} (hu : balSum p f whole ps = u) : balByB p f whole ps = decide (u = vecZ) := by
  unfold balByB; rw [h1, h3, hu]; simp [h2]
theorem zip_take : ∀ (f : List Vec) (ps : List Int) (k : Nat), (List.zip f ps).take k = List.zip (f.take k) (ps.take k) := by
  intro f
  induction f with
  | nil => intro ps k; simp
  | cons a f ih =>
    intro ps k
    cases ps with
    | nil => simp
    | cons b ps =>
      cases k with
      | zero => rfl
      | succ k => simp only [List.zip_cons_cons, List.take_succ_cons, ih]
theorem balSum_upto {P : Vec} {f : List Vec} {ps : List Int} {k : Nat} (hP : VB P 5000000000000000000) (hf : ∀ v ∈ f, VB v 500000) (hk : k ≤ 8) (hp : ∀ m ∈ ps.take k, 0 ≤ m ∧ m ≤ 500000000000) : VB (((List.zip f ps).take k).foldl plusStep P) (5000000000000000000 + 250000000000000000 * k) := by
  have := balSum_vb hP (f := f.take k) (ps := ps.take k) (fun v hv => hf v (List.mem_of_mem_take hv)) hp k hk
  rw [← zip_take, List.take_take, Nat.min_self] at this
  exact this
set_option maxRecDepth 100000 in
set_option maxHeartbeats 2000000 in
theorem refIsBalance_any (A A3 : Option Addr) (c c3 : Nat) (f : List Vec) (push : Vec) (whole : Int) (ps : List Int) (w : World) (hr : RS encV 2 w w.heap.size A f) (hl : f.length ≤ 8) (hf : ∀ v ∈ f, VB v 500000) (hp : VB push 10000000) (hrp : RS encI 1 w w.heap.size A3 ps) (hpl : ps.length ≤ maxLen) :
    Calls Try.prog 30 #[.slice A f.length c, .agg #[.int .i64 push.x, .int .i64 push.y], .agg #[.int .i64 whole, .slice A3 ps.length c3]] w fun e w' => e = .returned (.bool (balByB push f whole ps)) ∧ Below w.heap.size w w' := by
  have hpl' := hpl
  unfold maxLen at hpl'
  have hB := ((Below.refl w.heap.size w).alloc (Nat.le_refl _) (.cells #[.int .i64 push.x, .int .i64 push.y] 49)).alloc (by simp) (.cells #[.int .i64 whole, .slice A3 ps.length c3] 52)
  cases h1 : inB whole 1 500000000000
  · have HV := Lib.hid (balBy_whole (p := push) (f := f) (ps := ps) h1)
    clear hr hrp hf hp
    go_enter Try.func30, Try.ntmps30
    go_wp2_with ((go_at_call 26; refine (in_val h1 _).mono ?_; rintro e w' ⟨rfl, rfl⟩))
    go_ret
    exact ⟨ret_bool HV.out.symm, hB⟩
  · by_cases h2 : ps.length = f.length
    · rw [h2] at hB ⊢
      have hwb := inB_true.1 h1
      have hP := hp.times (n := whole) (q := 500000000000) (by omega)
      have q1 : IntKind.i64.wrap (whole * push.x) = whole * push.x := IntWalk.i64_in _ (by have := hP.1; simp only [Vec.times] at this; omega)
      have q2 : IntKind.i64.wrap (whole * push.y) = whole * push.y := IntWalk.i64_in _ (by have := hP.2; simp only [Vec.times] at this; omega)
      have HP : Hid (VB (push.times whole) 5000000000000000000) := hP.mono (by omega)
      have HV := Lib.hid (fun h3 u hu => balBy_end (p := push) (f := f) (u := u) h1 h2 h3 hu)
      have HVp := Lib.hid (fun k n hn h => balBy_part (p := push) (f := f) (whole := whole) (ps := ps) (k := k) (n := n) hn h)
      have Hf := Lib.hid hf
      have Hwb := Lib.hid hwb
      have bP := (Blk.new w 49 #[.int .i64 push.x, .int .i64 push.y]).alloc (.cells #[.int .i64 whole, .slice A3 f.length c3] 52)
      have bB := Blk.new (w.alloc (.cells #[.int .i64 push.x, .int .i64 push.y] 49)) 52 #[.int .i64 whole, .slice A3 f.length c3]
      simp only [World.size_alloc] at bB
      have hr1 := hr.to hB
      have hrp1 := hrp.to hB
      have H2 := Lib.hid h2
      clear hr hrp hf hp hP hwb h2 hpl hpl'
      go_enter Try.func30, Try.ntmps30
      go_upto_region 3 with ((go_at_call 26; refine (in_val h1 _).mono ?_; rintro e w' ⟨rfl, rfl⟩))
      generalize hWo : (w.alloc (.cells #[.int .i64 push.x, .int .i64 push.y] 49)).alloc (.cells #[.int .i64 whole, .slice A3 f.length c3] 52) = wo at *
      clear hWo
      have p0 := bP.cell 0
      have p1 := bP.cell 1
      have b0 := bB.cell 0
      have b1 := bB.cell 1
      simp at p0 p1 b0 b1
      have H1 := Lib.hid h1
      clear h1
      go_region
      go_wp2
      go_loopw [7, 8, 9] (fun x y i wr => ∃ k : Nat, k ≤ f.length ∧ i = .int .i64 k ∧ x = .int .i64 (((List.zip f ps).take k).foldl plusStep (push.times whole)).x ∧ y = .int .i64 (((List.zip f ps).take k).foldl plusStep (push.times whole)).y ∧ (ps.take k).all (inB · 0 whole) = true ∧ Below wo.heap.size wo wr) (fun _ _ i _ => f.length - (intOf i).toNat)
      case atStart => exact ⟨0, Nat.zero_le _, rfl, rfl, rfl, rfl, (Below.refl _ _).drew⟩
      case round =>
        obtain ⟨k, hk, rfl, rfl, rfl, hall, hBr⟩ := hrel
        obtain ⟨s, hs⟩ : ∃ s, ((List.zip f ps).take k).foldl plusStep (push.times whole) = s := ⟨_, rfl⟩
        have Hall := Lib.hid hall
        rw [hs]
        have bPr := bP.below hBr bP.lt
        have bBr := bB.below hBr bB.lt
        have p0 := bPr.cell 0
        have p1 := bPr.cell 1
        have b0 := bBr.cell 0
        have b1 := bBr.cell 1
        simp at p0 p1 b0 b1
        have Hs := Lib.hid hs
        clear hall hs bPr bBr
        by_cases hlt : k < f.length
        · obtain ⟨v, hv⟩ := getElem?_lt hlt
          obtain ⟨n, hn⟩ := getElem?_lt (l := ps) (k := k) (by have := H2.out; omega)
          have Hvb := Lib.hid (Hf.out v (List.mem_of_getElem? hv))
          obtain ⟨b, off, rfl, hb, hc⟩ := (hr1.below hBr (Nat.le_refl _)).at_ hv
          obtain ⟨b2, off2, rfl, hb2, hc2⟩ := (hrp1.below hBr (Nat.le_refl _)).at_ hn
          have y0 := hc 0 _ rfl
          have y1 := hc 1 _ rfl
          have y2 := hc2 0 _ rfl
          simp only [Nat.add_zero, Nat.mul_one] at y0 y2
          have Hn := Lib.hid hn
          have Hz := Lib.hid (zip_get hv hn)
          have hbz : b < wr.heap.size := by have := hBr.size; omega
          have hbz2 : b2 < wr.heap.size := by have := hBr.size; omega
          have kz1 : w.heap.size < wr.heap.size := by have := hBr.size; have := hB.size; have := bB.lt; omega
          have kz2 : w.heap.size + 1 < wr.heap.size := by have := hBr.size; have := bB.lt; omega
          clear hv hn hc hc2 hr1 hrp1 bP bB
          cases hin : inB n 0 whole
          · have Hbad := Lib.hid (HVp.out k n Hn.out hin)
            go_wp2
            refine name_world (motive := fun W => Code.wp _ _ _ _ W) _ ?_
            intro W0 hW
            have hWc := hW.cell
            have hWz := hW.size
            have hWb := hW.below (Below.refl wr.heap.size wr)
            go_region_held3 (fun w' => (∀ b o, b < W0.heap.size → w'.cell? ⟨b, o, none⟩ = W0.cell? ⟨b, o, none⟩) ∧ Below W0.heap.size W0 w') (first | with_reducible exact sh_refl _ | (with_reducible refine sh_of ?_; with_reducible assumption) | (with_reducible refine sh_alloc ?_ _; with_reducible assumption) | with_reducible exact sh_first _ _)
              (first | (go_at_call 26; refine (in_val hin _).mono ?_; rintro e w3 ⟨rfl, rfl⟩))
            go_wp2
            go_ret
            refine ⟨ret_bool Hbad.out.symm, ?_⟩
            have a1 := hB.trans ((hBr.trans (hWb.mono hBr.size)).mono hB.size)
            first | exact a1 | exact a1.drew
          · have hsv := balSum_upto HP.out Hf.out (k := k) (ps := ps) (by omega) (fun m hm => by have := inB_true.1 (List.all_eq_true.1 Hall.out m hm); have := Hwb.out; omega)
            rw [Hs.out] at hsv
            have hnb := inB_true.1 hin
            have hw5 := Hwb.out
            have m1 := mulb (p := 500000000000) (q := 500000) (show -500000000000 ≤ n ∧ n ≤ 500000000000 by omega) Hvb.out.1
            have m2 := mulb (p := 500000000000) (q := 500000) (show -500000000000 ≤ n ∧ n ≤ 500000000000 by omega) Hvb.out.2
            have n1 : IntKind.i64.wrap (n * v.x) = n * v.x := IntWalk.i64_in _ (by omega)
            have n2 : IntKind.i64.wrap (n * v.y) = n * v.y := IntWalk.i64_in _ (by omega)
            have n3 : IntKind.i64.wrap (s.x + n * v.x) = s.x + n * v.x := IntWalk.i64_in _ (by have := hsv.1; omega)
            have n4 : IntKind.i64.wrap (s.y + n * v.y) = s.y + n * v.y := IntWalk.i64_in _ (by have := hsv.2; omega)
            clear m1 m2 hsv hnb hw5
            go_wp2
            refine name_world (motive := fun W => Code.wp _ _ _ _ W) _ ?_
            intro W0 hW
            have hWc := hW.cell
            have hWz := hW.size
            have hWb := hW.below (Below.refl wr.heap.size wr)
            go_region_held3 (fun w' => (∀ b o, b < W0.heap.size → w'.cell? ⟨b, o, none⟩ = W0.cell? ⟨b, o, none⟩) ∧ Below W0.heap.size W0 w') (first | with_reducible exact sh_refl _ | (with_reducible refine sh_of ?_; with_reducible assumption) | (with_reducible refine sh_alloc ?_ _; with_reducible assumption) | with_reducible exact sh_first _ _)
              (first | (go_at_call 26; refine (in_val hin _).mono ?_; rintro e w3 ⟨rfl, rfl⟩))
            go_wp2
            go_region
            go_wp2
            refine ⟨⟨k + 1, by omega, by go_num, ?_, ?_, all_snoc Hn.out Hall.out hin, ?_⟩, by simp [intOf]; omega⟩
            · rw [foldl_snoc Hz.out, Hs.out]; rfl
            · rw [foldl_snoc Hz.out, Hs.out]; rfl
            · have a1 := hBr.trans (hWb.mono hBr.size)
              first | exact a1 | exact a1.drew | exact a1.drew.drew
        · have hu : balSum push f whole ps = s := by
            unfold balSum
            rw [← Hs.out, List.take_of_length_le (by rw [List.length_zip]; omega)]
          have HE := Lib.hid (HV.out (all_end (by have := H2.out; omega) Hall.out) s hu)
          clear hu
          by_cases hx : s.x = 0
          · have e1 : (s.x == 0) = true := by simpa using hx
            go_wp2
            go_ret
            refine ⟨ret_bool ?_, hB.trans (hBr.mono hB.size)⟩
            rw [HE.out]
            by_cases hy : s.y = 0
            · rw [decide_eq_true (vecZ_iff.2 ⟨hx, hy⟩)]; simpa using hy
            · rw [decide_eq_false (fun h => hy (vecZ_iff.1 h).2)]; simpa using hy
          · have e1 : (s.x == 0) = false := by simpa using hx
            go_wp2
            go_ret
            refine ⟨ret_bool ?_, hB.trans (hBr.mono hB.size)⟩
            rw [HE.out, decide_eq_false (fun h => hx (vecZ_iff.1 h).1)]
    · have HV := Lib.hid (balBy_len (p := push) (whole := whole) h2)
      have e2 : ((ps.length : Int) != (f.length : Int)) = true := by simp; omega
      have e3 : (ps.length != f.length) = true := by simp; omega
      clear hr hrp hf hp
      go_enter Try.func30, Try.ntmps30
      go_wp2_with ((go_at_call 26; refine (in_val h1 _).mono ?_; rintro e w' ⟨rfl, rfl⟩))
      go_ret
      exact ⟨ret_bool HV.out.symm, hB⟩
end Go.Proofs.Ytibaindlbpfecaa
