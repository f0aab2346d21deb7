import Derived.Test.YtibaindlbpfecaaLawC

namespace Go.Proofs.Ytibaindlbpfecaa
open Go.RowKit

def evenV (v : Vec) : Vec := ⟨v.x.tdiv 2 * 2, v.y.tdiv 2 * 2⟩
def evens (wind : List Vec) : List Vec := wind.map evenV
theorem evens_len (wind : List Vec) : (evens wind).length = wind.length := by simp [evens]
theorem td2 (x : Int) : (0 ≤ x → x.tdiv 2 = x / 2) ∧ (x < 0 → x.tdiv 2 = -(-x / 2)) := by
  constructor
  · intro h; rw [Int.tdiv_eq_ediv_of_nonneg h]
  · intro h
    rw [show x = -(-x) from by omega, Int.neg_tdiv, Int.tdiv_eq_ediv_of_nonneg (by omega), Int.neg_neg]
theorem even_one (x : Int) (h : -10000 ≤ x ∧ x ≤ 10000) : -10000 ≤ x.tdiv 2 * 2 ∧ x.tdiv 2 * 2 ≤ 10000 := by have := td2 x; omega
theorem even_wrap (x : Int) (h : -10000 ≤ x ∧ x ≤ 10000) : IntKind.i64.wrap (IntKind.i64.wrap (x.tdiv 2) * 2) = x.tdiv 2 * 2 := by
  have := td2 x
  rw [IntWalk.i64_in (x.tdiv 2) (by omega), IntWalk.i64_in _ (by omega)]
theorem evenV_vb {v : Vec} (h : VB v 10000) : VB (evenV v) 10000 := ⟨even_one _ h.1, even_one _ h.2⟩
theorem evens_ok {wind : List Vec} (h : windOk wind = true) : windOk (evens wind) = true := by
  simp only [windOk, Bool.and_eq_true, decide_eq_true_eq, List.all_eq_true, evens_len] at *
  refine ⟨h.1, h.2.1, fun v hv => ?_⟩
  unfold evens at hv
  obtain ⟨u, hu, rfl⟩ := List.mem_map.1 hv
  exact Vec.corner_iff.2 (evenV_vb (Vec.corner_iff.1 (h.2.2 u hu)))
theorem windy_of {l : List Tst} {t : List Head} {wind wind' : List Vec} (h : windyE l t wind = 0) (hk : windOk wind' = true) : windyE l t wind' = 0 := by
  obtain ⟨h1, h2, h3, h4⟩ := windyE_zero h
  have : windE wind' = 0 := by unfold windE; rw [hk]; rfl
  unfold windyE firstE
  simp [orM, h1, h2, this, h4]
theorem windOk_of {l : List Tst} {t : List Head} {wind : List Vec} (h : windyE l t wind = 0) : windOk wind = true := by
  have := (windyE_zero h).2.2.1
  unfold windE at this
  split at this
  · assumption
  · cases this

theorem mod_nat {i : Int} {n : Nat} (h0 : 0 ≤ i) (hn : 1 ≤ n) : ∃ a : Nat, i.tmod n = a ∧ i % n = a ∧ a < n := by
  have h1 := Int.emod_nonneg i (show (n : Int) ≠ 0 by omega)
  have h2 := Int.emod_lt_of_pos i (show (0 : Int) < n by omega)
  refine ⟨(i % n).toNat, ?_, by omega, by omega⟩
  rw [Int.tmod_eq_emod_of_nonneg h0]; omega
theorem means_many (A : Option Addr) (c : Nat) (l : List Tst) (A' : Option Addr) (c' : Nat) (t : List Head) (A2 : Option Addr) (c2 : Nat) (wind : List Vec) (i k : Int) (w : World) (ht : RH w w.heap.size A' t) (hl : l.length ≤ maxLen) (htl : t.length ≤ maxLen) (hf : fewB l t = false) :
    Calls Try.prog 6 #[.slice A l.length c, .slice A' t.length c', .slice A2 wind.length c2, .int .u8 i, .int .u8 k] w fun e w' => e = .returned (.bool true) ∧ Below w.heap.size w w' := by
  have hv := fun W h => Few_any A c l A' c' t W h hl htl
  rw [hf] at hv
  have Hv := Lib.hid hv
  clear hv hf hl htl
  go_enter Try.func6, Try.ntmps6
  go_wp2_with (first | (go_at_call 14; refine (Hv.out _ ht).mono ?_; rintro e w1 ⟨rfl, hb1⟩) | (go_at_call 20; refine (wakes_any _).mono ?_; rintro e w2 ⟨rfl, hb2⟩; obtain ⟨hc2, hf2⟩ := bcell hb2))
  go_ret
  exact ⟨rfl, sh_next hb1 hb2⟩
theorem means_long (A : Option Addr) (c : Nat) (l : List Tst) (A' : Option Addr) (c' : Nat) (t : List Head) (A2 : Option Addr) (c2 : Nat) (wind : List Vec) (i k : Int) (w : World) (ht : RH w w.heap.size A' t) (hl : l.length ≤ maxLen) (htl : t.length ≤ maxLen) (hf : fewB l t = true) (h12 : 12 < wind.length) :
    Calls Try.prog 6 #[.slice A l.length c, .slice A' t.length c', .slice A2 wind.length c2, .int .u8 i, .int .u8 k] w fun e w' => e = .returned (.bool true) ∧ Below w.heap.size w w' := by
  have hv := fun W h => Few_any A c l A' c' t W h hl htl
  rw [hf] at hv
  have Hv := Lib.hid hv
  clear hv hf hl htl
  go_enter Try.func6, Try.ntmps6
  go_wp2_with (first | (go_at_call 14; refine (Hv.out _ ht).mono ?_; rintro e w1 ⟨rfl, hb1⟩) | (go_at_call 20; refine (wakes_any _).mono ?_; rintro e w2 ⟨rfl, hb2⟩; obtain ⟨hc2, hf2⟩ := bcell hb2))
  go_ret
  exact ⟨rfl, sh_next hb1 hb2⟩
theorem means_blown (A : Option Addr) (c : Nat) (l : List Tst) (A' : Option Addr) (c' : Nat) (t : List Head) (A2 : Option Addr) (c2 : Nat) (wind : List Vec) (i k : Int) (w : World) (hr : RS encT 4 w w.heap.size A l) (ht : RH w w.heap.size A' t) (hw : RS encV 2 w w.heap.size A2 wind) (hl : l.length ≤ maxLen) (htl : t.length ≤ maxLen) (hf : fewB l t = true) (h12 : wind.length ≤ 12) (hE : windyE l t wind ≠ 0) :
    Calls Try.prog 6 #[.slice A l.length c, .slice A' t.length c', .slice A2 wind.length c2, .int .u8 i, .int .u8 k] w fun e w' => e = .returned (.bool true) ∧ Below w.heap.size w w' := by
  have hv := fun W h => Few_any A c l A' c' t W h hl htl
  rw [hf] at hv
  have Hv := Lib.hid hv
  obtain ⟨z, hz⟩ : ∃ z, windyE l t wind = z := ⟨_, rfl⟩
  have Hb := Lib.hid (fun W hr ht hw => hz ▸ blown_any A c l A' c' t A2 c2 wind W hr hl ht htl hw (by show _ ≤ _; unfold maxLen; omega))
  rw [hz] at hE
  have e0 : (z != 0) = true := by simpa using hE
  clear hv hf hl htl hz hE
  go_enter Try.func6, Try.ntmps6
  go_wp2_with (first | (go_at_call 14; refine (Hv.out _ ht).mono ?_; rintro e w1 ⟨rfl, hb1⟩) | (go_at_call 15; refine (Hb.out _ (hr.to hb1) (ht.to hb1) (hw.to hb1)).mono ?_; rintro e w2 ⟨rfl, hb2⟩) | (go_at_call 20; refine (wakes_any _).mono ?_; rintro e w3 ⟨rfl, hb3⟩; obtain ⟨hc3, hf3⟩ := bcell hb3))
  go_ret
  exact ⟨rfl, (sh_next hb1 hb2).trans (hb3.mono (sh_next hb1 hb2).size)⟩

theorem rs_new {α : Type} {enc : α → List Value} {sz : Nat} (hs : ∀ x, (enc x).length = sz) (w : World) (l : List α) (t : TypeId) {cs : Array Value} (hc : cs = (l.flatMap enc).toArray) : RS enc sz (w.alloc (.cells cs t)) (w.alloc (.cells cs t)).heap.size (some ⟨w.heap.size, 0, none⟩) l := by
  subst hc
  refine .inr ⟨w.heap.size, 0, rfl, by simp, fun k x hk j v hv => ?_⟩
  rw [Nat.zero_add, (Blk.new w t _).cell, List.getElem?_toArray]
  exact flat_get hs l k x hk j v hv
theorem RS.takeN {α : Type} {enc : α → List Value} {sz B : Nat} {w : World} {A : Option Addr} {l : List α} (h : RS enc sz w B A l) (n : Nat) : RS enc sz w B A (l.take n) := by
  rcases h with rfl | ⟨b, off, hA, hb, hc⟩
  · exact .inl (by simp)
  · refine .inr ⟨b, off, hA, hb, fun k x hk j v hv => hc k x ?_ j v hv⟩
    have hl := lt_of_getElem? hk
    rw [List.length_take] at hl
    rwa [List.getElem?_take_of_lt (by omega)] at hk
theorem stands_n {b : Bool} {l : List Tst} {t : List Head} {wind : List Vec} {n : Nat} (hn : wind.length = n) (A : Option Addr) (c : Nat) (A' : Option Addr) (c' : Nat) (A2 : Option Addr) (c2 : Nat) (hs : standsB l t wind = b) (w : World) (hr : RS encT 4 w w.heap.size A l) (hl : l.length ≤ maxLen) (ht : RH w w.heap.size A' t) (htl : t.length ≤ maxLen) (hw : RS encV 2 w w.heap.size A2 wind) (hwl : wind.length ≤ maxLen) (hE : windyE l t wind = 0) :
    Calls Try.prog 16 #[.slice A l.length c, .slice A' t.length c', .slice A2 n c2] w fun e w' => e = .returned (.bool b) ∧ Below w.heap.size w w' := by
  subst hn
  exact stands_ok A c l A' c' t A2 c2 wind hs w hr hl ht htl hw hwl hE
theorem two_boxes (w : World) (p q : Vec) : Blk ((w.alloc (.cells #[.int .i64 p.x, .int .i64 p.y] 58)).alloc (.cells #[.int .i64 q.x, .int .i64 q.y] 58)).drew w.heap.size 58 #[.int .i64 p.x, .int .i64 p.y] := ((Blk.new w _ _).alloc _).drew
theorem two_boxes2 (w : World) (p q : Vec) : Blk ((w.alloc (.cells #[.int .i64 p.x, .int .i64 p.y] 58)).alloc (.cells #[.int .i64 q.x, .int .i64 q.y] 58)).drew (w.heap.size + 1) 58 #[.int .i64 q.x, .int .i64 q.y] := by
  have := Blk.new (w.alloc (.cells #[.int .i64 p.x, .int .i64 p.y] 58)) 58 #[.int .i64 q.x, .int .i64 q.y]
  rw [World.size_alloc] at this
  exact this.drew
theorem two_below (w : World) (p q : Vec) : Below w.heap.size w ((w.alloc (.cells #[.int .i64 p.x, .int .i64 p.y] 58)).alloc (.cells #[.int .i64 q.x, .int .i64 q.y] 58)).drew := (((Below.refl w.heap.size w).alloc (Nat.le_refl _) _).alloc (by simp) _).drew
theorem evens_in {wind : List Vec} (hv : ∀ v ∈ wind, VB v 10000) {k : Nat} {p : Vec} (hp : (evens wind)[k]? = some p) : (∃ a, p.x = a * 2 ∧ -5000 ≤ a ∧ a ≤ 5000) ∧ (∃ a, p.y = a * 2 ∧ -5000 ≤ a ∧ a ≤ 5000) := by
  unfold evens at hp
  rw [List.getElem?_map] at hp
  cases hx : wind[k]? with
  | none => rw [hx] at hp; cases hp
  | some x =>
    rw [hx] at hp
    cases hp
    obtain ⟨h1, h2⟩ := hv x (List.mem_of_getElem? hx)
    have a1 := td2 x.x
    have a2 := td2 x.y
    exact ⟨⟨x.x.tdiv 2, rfl, by omega, by omega⟩, ⟨x.y.tdiv 2, rfl, by omega, by omega⟩⟩
theorem mean_in {a b : Int} (ha : ∃ x, a = x * 2 ∧ -5000 ≤ x ∧ x ≤ 5000) (hb : ∃ x, b = x * 2 ∧ -5000 ≤ x ∧ x ≤ 5000) : ∃ m, 2 * m = a + b ∧ (-10000 ≤ m ∧ m ≤ 10000) ∧ (a + b).tdiv 2 = m := by
  obtain ⟨x, rfl, hx1, hx2⟩ := ha
  obtain ⟨y, rfl, hy1, hy2⟩ := hb
  refine ⟨x + y, by omega, by omega, ?_⟩
  have := td2 (x * 2 + y * 2)
  omega
theorem take_ok {wind : List Vec} {n : Nat} (hn : 1 ≤ n) (h : windOk wind = true) : windOk (wind.take n) = true := by
  simp only [windOk, Bool.and_eq_true, decide_eq_true_eq, List.all_eq_true, List.length_take] at *
  exact ⟨by omega, by omega, fun v hv => h.2.2 v (List.mem_of_mem_take hv)⟩
theorem one_ok {v : Vec} (h : VB v 10000) : windOk [v] = true := by
  simp [windOk, Vec.corner_iff.2 h]

set_option maxRecDepth 100000 in
set_option maxHeartbeats 4000000 in
theorem means_main (A : Option Addr) (c : Nat) (l : List Tst) (A' : Option Addr) (c' : Nat) (t : List Head) (A2 : Option Addr) (c2 : Nat) (wind : List Vec) (i k : Int) (hi8 : 0 ≤ i ∧ i ≤ 255) (hk8 : 0 ≤ k ∧ k ≤ 255) (w : World) (hr : RS encT 4 w w.heap.size A l) (ht : RH w w.heap.size A' t) (hw : RS encV 2 w w.heap.size A2 wind) (hf : fewB l t = true) (h12 : wind.length ≤ 12) (hE : windyE l t wind = 0) :
    Calls Try.prog 6 #[.slice A l.length c, .slice A' t.length c', .slice A2 wind.length c2, .int .u8 i, .int .u8 k] w fun e w' => e = .returned (.bool true) ∧ Below w.heap.size w w' := by
  obtain ⟨i0, hi0, hz0, hz1, hz2⟩ := info_parts infoCV
  obtain ⟨hg10, hl45, ht15⟩ := fewB_iff.1 hf
  have hlm : l.length ≤ maxLen := by show _ ≤ _; unfold maxLen; omega
  have htm : t.length ≤ maxLen := by show _ ≤ _; unfold maxLen; omega
  have hwm : wind.length ≤ maxLen := by show _ ≤ _; unfold maxLen; omega
  have Hwk := Lib.hid (windOk_of hE)
  have HEv := Lib.hid (windy_of hE (evens_ok Hwk.out))
  have h1w : 1 ≤ wind.length := by have := Hwk.out; simp [windOk] at this; exact this.1
  have Hvb := Lib.hid (windE_ok (windyE_zero hE).2.2.1).2
  have HE := Lib.hid hE
  have HFew := Lib.hid (fun W h => hf ▸ Few_any A c l A' c' t W h hlm htm)
  have HBl := Lib.hid (fun W hr ht hw => hE ▸ blown_any A c l A' c' t A2 c2 wind W hr hlm ht htm hw hwm)
  have HTent := Lib.hid (fun W h => Tent_any A' c' t W h (by omega) (fun x hx => by have := hg10 x hx; omega))
  have HTests := Lib.hid (fun W h => Tests_any A c l W h (by omega))
  have HSt := Lib.hid (fun b hb W B b1 B' b2 B2 b3 hr ht hw => evens_len wind ▸ stands_ok (b := b) B b1 l B' b2 t B2 b3 (evens wind) hb W hr hlm ht htm hw (by rw [evens_len]; exact hwm) HEv.out)
  clear hf hE hg10
  go_enter Try.func6, Try.ntmps6
  go_upto_region 3 with (first | (go_at_call 14; refine (HFew.out _ ht).mono ?_; rintro e w1 ⟨rfl, hb1⟩) | (go_at_call 15; refine (HBl.out _ (hr.to hb1) (ht.to hb1) (hw.to hb1)).mono ?_; rintro e w2 ⟨rfl, hb2⟩))
  have hB2 := sh_next hb1 hb2
  clear hb1 hb2
  go_wp2
  go_loopw [11, 12] (fun v j wr => ∃ m : Nat, m ≤ wind.length ∧ j = .int .i64 m ∧ wr.ownsRow w.heap.size 58 2 v m (((evens wind).take m).flatMap encV) ∧ Below w.heap.size w wr) (fun _ j _ => wind.length - (intOf j).toNat)
  case atStart => exact ⟨0, Nat.zero_le _, rfl, World.ownsRow_nil _ _ _ _, hB2⟩
  case round =>
    obtain ⟨m, hm, rfl, hown, hB⟩ := hrel
    have hBz := hB.size
    by_cases hlt : m < wind.length
    · obtain ⟨x, hx⟩ := getElem?_lt hlt
      have hxb := Hvb.out x (List.mem_of_getElem? hx)
      obtain ⟨b, off, rfl, hb, hc⟩ := (hw.below hB (Nat.le_refl _)).at_ hx
      have c0 := hc 0 _ rfl
      have c1 := hc 1 _ rfl
      simp only [Nat.add_zero] at c0
      have Hx : Hid ((evens wind)[m]? = some (evenV x)) := by show _ = _; unfold evens; rw [List.getElem?_map, hx]; rfl
      clear hx hc hr ht hw
      go_wp2
      refine name_world (motive := fun W => Code.wp _ _ _ _ W) _ ?_
      intro W0 hW
      have hWc := hW.cell
      have hBW : w.heap.size ≤ W0.heap.size := by rw [hW.size]; exact hBz
      have hownW : W0.ownsRow w.heap.size 58 2 u11 m (((evens wind).take m).flatMap encV) := by rw [hW.eq.out]; exact hown
      go_region_held3 (fun w' => (∀ b o, b < w.heap.size → w'.cell? ⟨b, o, none⟩ = W0.cell? ⟨b, o, none⟩) ∧ Below (w.heap.size) W0 w') (first | with_reducible exact shB_refl _ _ | (with_reducible refine shB_of ?_; with_reducible assumption) | with_reducible exact shB_first _ hBW _ | (with_reducible refine shB_alloc ?_ hBW _; with_reducible assumption))
        (first | ((refine step_append_lies _ (by rfl) _ _ _ (by rfl) w.heap.size 58 i0 _ 2 16 Try.underlying38 hi0 hz0 hz1 hz2 rfl (by omega) u11 m _ (by rfl) ((hownW).alloc _).drew ⟨W0.heap.size, 0, none⟩ 1 1 [.int .i64 (IntKind.i64.wrap (IntKind.i64.wrap (x.x.tdiv 2) * 2)), .int .i64 (IntKind.i64.wrap (IntKind.i64.wrap (x.y.tdiv 2) * 2))] (by rfl) (by rfl) (World.news_of_block (cs := #[.int .i64 (IntKind.i64.wrap (IntKind.i64.wrap (x.x.tdiv 2) * 2)), .int .i64 (IntKind.i64.wrap (IntKind.i64.wrap (x.y.tdiv 2) * 2))]) (t := 58) (fr := (0, 0)) (heap_alloc_new W0 _)) (by simp [Value.oneCell']) (by omega) (by unfold maxLen; omega) (by omega) (by simp; omega) (W0.heap.size + 1) (by simp) ?_); intro gg cap w2 hown2 hgrow2 hat hlt2; have hB2 : Below w.heap.size W0 w2 := app_below (((Below.refl _ W0).alloc hBW _).drew) (by simp; omega) ((hownW).alloc _).drew hgrow2))
      go_wp2
      refine ⟨⟨m + 1, by omega, by go_num, ?_, (hW.below hB).trans hB2⟩, by simp [intOf]; omega⟩
      rw [flat_snoc Hx.out]
      have n1 := even_wrap _ hxb.1
      have n2 := even_wrap _ hxb.2
      rw [n1, n2] at hown2
      exact hown2
    · obtain ⟨A5, c5, rfl, hc5, hc6⟩ := own_slice hown
      obtain rfl : m = wind.length := by omega
      rw [List.take_of_length_le (by rw [evens_len]; omega)] at hown
      have hev : RS encV 2 wr wr.heap.size A5 (evens wind) := RS.of_own (enc := encV) (sz := 2) (fun _ => rfl) hown (evens_len wind).symm
      obtain ⟨b, hb⟩ : ∃ b, standsB l t (evens wind) = b := ⟨_, rfl⟩
      have hrr := hr.to hB
      have htr := ht.to hB
      have HS := Lib.hid (HSt.out b hb)
      have Hb := Lib.hid hb
      clear hown hb hr ht hw hB2
      cases b
      · go_wp2_with (first | (go_at_call 17; refine (HTests.out _ hrr).mono ?_; rintro e w3 ⟨A3, c3, rfl, hs3, _, _, hb3⟩; have htr3 := htr.to hb3; have hev3 := hev.to hb3) | (go_at_call 18; refine (HTent.out _ htr3).mono ?_; rintro e w4 ⟨A4, c4, rfl, hs4, _, _, hb4⟩) | (go_at_call 16; refine (HS.out _ A3 c3 A4 c4 A5 c5 (hs3.to hb4) hs4 (hev3.to hb4)).mono ?_; rintro e w5 ⟨rfl, hb5⟩) | (go_at_call 20; refine (wakes_any _).mono ?_; rintro e w6 ⟨rfl, hb6⟩; obtain ⟨hc6, hf6⟩ := bcell hb6))
        go_ret
        have h34 := sh_next hb3 hb4
        have h56 := sh_next hb5 hb6
        exact ⟨rfl, hB.trans ((h34.trans (h56.mono h34.size)).mono hB.size)⟩
      · have n1 : IntKind.i64.wrap i = i := IntWalk.i64_in _ (by omega)
        have n2 : IntKind.i64.wrap k = k := IntWalk.i64_in _ (by omega)
        go_upto_region 11 with (first | (go_at_call 17; refine (HTests.out _ hrr).mono ?_; rintro e w3 ⟨A3, c3, rfl, hs3, _, _, hb3⟩; have htr3 := htr.to hb3; have hev3 := hev.to hb3) | (go_at_call 18; refine (HTent.out _ htr3).mono ?_; rintro e w4 ⟨A4, c4, rfl, hs4, _, _, hb4⟩) | (go_at_call 16; refine (HS.out _ A3 c3 A4 c4 A5 c5 (hs3.to hb4) hs4 (hev3.to hb4)).mono ?_; rintro e w5 ⟨rfl, hb5⟩))
        have hev5 := (hev3.to hb4).to hb5
        obtain ⟨ia, t1, t2, hil⟩ := mod_nat hi8.1 h1w
        obtain ⟨ka, t3, t4, hkl⟩ := mod_nat hk8.1 h1w
        obtain ⟨p, hp⟩ := getElem?_lt (l := evens wind) (k := ia) (by rw [evens_len]; exact hil)
        obtain ⟨q, hq⟩ := getElem?_lt (l := evens wind) (k := ka) (by rw [evens_len]; exact hkl)
        obtain ⟨b, off, rfl, hb, hc⟩ := hev5.at_ hp
        have y0 := hc 0 _ rfl
        have y1 := hc 1 _ rfl
        obtain ⟨b', off', hA, _, hc⟩ := hev5.at_ hq
        obtain ⟨rfl, rfl⟩ : b = b' ∧ off = off' := by simpa using hA
        have y2 := hc 0 _ rfl
        have y3 := hc 1 _ rfl
        simp only [Nat.add_zero] at y0 y2
        have hne : ¬ wind = [] := by intro e; rw [e] at h1w; simp at h1w
        have Hp := Lib.hid hp
        have Hq := Lib.hid hq
        clear hp hq hA hc hev hev3
        go_cut [15, 16] (fun s15 s16 wx => ∃ P Q : Nat, s15 = .pointer (some ⟨P, 0, none⟩) ∧ s16 = .pointer (some ⟨Q, 0, none⟩) ∧ Blk wx P 58 #[.int .i64 p.x, .int .i64 p.y] ∧ Blk wx Q 58 #[.int .i64 q.x, .int .i64 q.y] ∧ Below w5.heap.size w5 wx)
        case first =>
          go_region
          all_goals
            go_wp2_with fail
            go_meet
          · refine ⟨_, _, rfl, rfl, two_boxes w5 p q, ?_, ?_⟩
            · exact two_boxes2 w5 p q
            · exact two_below w5 p q
          · refine ⟨_, _, rfl, rfl, ?_, ?_, ?_⟩
            · exact two_boxes2 w5 q p
            · exact two_boxes w5 q p
            · exact two_below w5 q p
        case rest =>
          obtain ⟨P, Q, rfl, rfl, kP, kQ, hBx⟩ := hcut
          have p0 := kP.cell 0
          have p1 := kP.cell 1
          have q0 := kQ.cell 0
          have q1 := kQ.cell 1
          simp at p0 p1 q0 q1
          obtain ⟨hpx, hpy⟩ := evens_in Hvb.out Hp.out
          obtain ⟨hqx, hqy⟩ := evens_in Hvb.out Hq.out
          obtain ⟨mx, hmx, hm1, hm2⟩ := mean_in hpx hqx
          obtain ⟨my, hmy, hm3, hm4⟩ := mean_in hpy hqy
          have hsm := stands_mean (m := ⟨mx, my⟩) Hb.out (List.mem_of_getElem? Hp.out) (List.mem_of_getElem? Hq.out) hmx hmy
          have hsf := stands_fewer (wind' := (evens wind).take (1 + ka)) Hb.out (fun x hx => List.mem_of_mem_take hx)
          have H1 := Lib.hid (fun W B b1 B' b2 B2 b3 hr ht hw => stands_n (wind := [⟨mx, my⟩]) (n := 1) rfl B b1 B' b2 B2 b3 hsm W hr hlm ht htm hw (by show _ ≤ _; unfold maxLen; simp) (windy_of HE.out (one_ok ⟨hm1, hm3⟩)))
          have H2 := Lib.hid (fun W B b1 B' b2 B2 b3 hr ht hw => stands_n (wind := (evens wind).take (1 + ka)) (n := 1 + ka) (by rw [List.length_take, evens_len]; omega) B b1 B' b2 B2 b3 hsf W hr hlm ht htm hw (by rw [List.length_take, evens_len]; omega) (windy_of HE.out (take_ok (by omega) (evens_ok Hwk.out))))
          have hs5 : RS encT 4 wc wc.heap.size A3 l := ((hs3.to hb4).to hb5).to hBx
          have ht5 : RH wc wc.heap.size A4 t := (hs4.to hb5).to hBx
          have he5 := hev5.to hBx
          have hBo : Below wc.heap.size wc (wc.alloc (.cells #[.int .i64 mx, .int .i64 my] 58)) := (Below.refl _ _).alloc (Nat.le_refl _) _
          have hm6 : RS encV 2 (wc.alloc (.cells #[.int .i64 mx, .int .i64 my] 58)) (wc.alloc (.cells #[.int .i64 mx, .int .i64 my] 58)).heap.size (some ⟨wc.heap.size, 0, none⟩) [⟨mx, my⟩] := rs_new (enc := encV) (sz := 2) (fun _ => rfl) wc [⟨mx, my⟩] _ rfl
          have hs6 := hs5.to hBo
          have ht6 := ht5.to hBo
          have he6 := (he5.to hBo).takeN (1 + ka)
          have z1 : IntKind.i64.wrap (1 + (ka : Int)) = ((1 + ka : Nat) : Int) := by rw [IntWalk.i64_in _ (by omega)]; omega
          have tk1 : True := trivial
          clear hs3 hs4 hev5 hrr htr hs5 ht5 he5 y0 y1 y2 y3
          go_wp2_with (first | (go_at_call 16; have := tk1; clear this tk1; refine (H1.out _ A3 c3 A4 c4 _ _ hs6 ht6 hm6).mono ?_; rintro e w7 ⟨rfl, hb7⟩; have hs7 := hs6.to hb7; have ht7 := ht6.to hb7; have he7 := he6.to hb7) | (go_at_call 16; refine (H2.out _ A3 c3 A4 c4 _ _ hs7 ht7 he7).mono ?_; rintro e w8 ⟨rfl, hb8⟩) | (go_at_call 20; refine (wakes_any _).mono ?_; rintro e w9 ⟨rfl, hb9⟩; obtain ⟨hc9, hf9⟩ := bcell hb9))
          go_ret
          have a1 := sh_next hb3 hb4
          have a2 := a1.trans (hb5.mono a1.size)
          have a3 := a2.trans (hBx.mono a2.size)
          have a4 := a3.trans (hBo.mono a3.size)
          have a5 := a4.trans (hb7.mono a4.size)
          have a6 := a5.trans (hb8.mono a5.size)
          have a7 := a6.trans (hb9.mono a6.size)
          exact ⟨rfl, hB.trans (a7.mono hB.size)⟩

theorem means_any (A : Option Addr) (c : Nat) (l : List Tst) (A' : Option Addr) (c' : Nat) (t : List Head) (A2 : Option Addr) (c2 : Nat) (wind : List Vec) (i k : Int) (hi8 : 0 ≤ i ∧ i ≤ 255) (hk8 : 0 ≤ k ∧ k ≤ 255) (w : World) (hr : RS encT 4 w w.heap.size A l) (hl : l.length ≤ maxLen) (ht : RH w w.heap.size A' t) (htl : t.length ≤ maxLen) (hw : RS encV 2 w w.heap.size A2 wind) :
    Calls Try.prog 6 #[.slice A l.length c, .slice A' t.length c', .slice A2 wind.length c2, .int .u8 i, .int .u8 k] w fun e w' => e = .returned (.bool true) ∧ Below w.heap.size w w' := by
  cases hf : fewB l t with
  | false => exact means_many A c l A' c' t A2 c2 wind i k w ht hl htl hf
  | true =>
    by_cases h12 : 12 < wind.length
    · exact means_long A c l A' c' t A2 c2 wind i k w ht hl htl hf h12
    · by_cases hE : windyE l t wind = 0
      · exact means_main A c l A' c' t A2 c2 wind i k hi8 hk8 w hr ht hw hf (by omega) hE
      · exact means_blown A c l A' c' t A2 c2 wind i k w hr ht hw hl htl hf (by omega) hE
end Go.Proofs.Ytibaindlbpfecaa
