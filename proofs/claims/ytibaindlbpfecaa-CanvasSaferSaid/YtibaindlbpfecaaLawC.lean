import Derived.Test.YtibaindlbpfecaaRefB
import Derived.Test.YtibaindlbpfecaaCanC
import Derived.Test.YtibaindlbpfecaaWeak
import Derived.Test.YtibaindlbpfecaaPartsA

namespace Go.Proofs.Ytibaindlbpfecaa
open Go.RowKit

theorem Vector_any (v : Vec) (w : World) :
    Calls Try.prog 25 #[.agg #[.int .i64 v.x, .int .i64 v.y]] w fun e w' => e = .returned (.agg #[.int .i64 v.x, .int .i64 v.y]) ∧ Below w.heap.size w w' := by
  go_enter Try.func25, Try.ntmps25
  go_wp2
  exact bodyPost_ret (v := .agg #[.int .i64 v.x, .int .i64 v.y]) (by simp [results, Try.results25, go_sem]) rfl ⟨rfl, ((Below.refl _ _).alloc (Nat.le_refl _) _).alloc (by simp) _⟩

set_option maxRecDepth 100000 in
set_option maxHeartbeats 1000000 in
theorem Wind_any (A : Option Addr) (c : Nat) (l : List Vec) (w : World) (hr : RS encV 2 w w.heap.size A l) (hl : l.length ≤ 1000) :
    Calls Try.prog 19 #[.slice A l.length c] w (CopyPost encV 2 l w) := by
  obtain ⟨i0, hi0, hz0, hz1q, hz2⟩ := info_parts infoCV
  go_enter Try.func19, Try.ntmps19
  go_wp2
  go_loopw [3, 4] (fun v i wr => ∃ k : Nat, k ≤ l.length ∧ i = .int .i64 k ∧ wr.ownsRow w.heap.size 58 2 v k ((l.take k).flatMap encV) ∧ Below w.heap.size w wr) (fun _ i _ => l.length - (intOf i).toNat)
  case atStart => exact ⟨0, Nat.zero_le _, rfl, World.ownsRow_nil _ _ _ _, Below.refl _ _⟩
  case round =>
    obtain ⟨k, hk, rfl, hown, hB⟩ := hrel
    have hBz := hB.size
    by_cases hlt : k < l.length
    · obtain ⟨x, hx⟩ := getElem?_lt hlt
      obtain ⟨b, off, rfl, hb, hc⟩ := (hr.below hB (Nat.le_refl _)).at_ hx
      have c0 := hc 0 _ rfl
      have c1 := hc 1 _ rfl
      simp only [Nat.add_zero] at c0
      have Hx := Lib.hid hx
      clear hx hc hr
      go_wp2_with (first | (go_at_call 25; refine (Vector_any x _).mono ?_; rintro e w1 ⟨rfl, hb1⟩; have hown1 := own_below hown hb1; have hB1 := hB.trans (hb1.mono hBz); have hz1 := hB1.size) | (at_builtin; refine wpList_append_own _ rfl _ _ 38 rfl w.heap.size 58 i0 _ 2 16 Try.underlying38 hi0 hz0 hz1q hz2 rfl (by decide) _ k _ rfl (hown1.alloc (.cells #[.int .i64 x.x, .int .i64 x.y] 58)) ⟨w1.heap.size, 0, none⟩ 1 1 [.int .i64 x.x, .int .i64 x.y] rfl rfl ?c1 ?c2 ?c3 ?c4 ?c5 ?_))
      case c1 => exact World.news_of_block (cs := #[.int .i64 x.x, .int .i64 x.y]) (t := 58) (fr := (0, 0)) (heap_alloc_new w1 _)
      case c2 => simp [Value.oneCell']
      case c3 => unfold maxLen; omega
      case c4 => omega
      case c5 => simp; omega
      intro v2 w3 hown3 hgrow3 _
      have hB4 := app_belowL (hB1.alloc hz1 (.cells #[.int .i64 x.x, .int .i64 x.y] 58)) (Nat.le_refl _) (by simp; omega) (hown1.alloc _) hgrow3
      go_wp2
      refine ⟨⟨k + 1, by omega, by go_num, ?_, hB4⟩, by simp [intOf]; omega⟩
      rw [flat_snoc Hx.out]
      exact hown3
    · go_wp2
      obtain ⟨A1, c1, rfl, hc1, hc2⟩ := own_slice hown
      obtain rfl : k = l.length := by omega
      go_ret
      rw [List.take_of_length_le (Nat.le_refl _)] at hown
      exact ⟨A1, c1, rfl, RS.of_own (enc := encV) (sz := 2) (fun _ => rfl) hown rfl, hc1, hc2, hB⟩

theorem windOk_all {l : List Vec} (h : l.all Vec.corner = true) : windOk l = (decide (1 ≤ l.length) && decide (l.length ≤ 12)) := by
  unfold windOk; rw [h]; simp
theorem windOk_bad {l : List Vec} {k : Nat} {v : Vec} (hk : l[k]? = some v) (hb : v.corner = false) : windOk l = false := by
  unfold windOk
  rw [all_bad hk hb]; simp
theorem refCorner_val {v : Vec} {b : Bool} (h : v.corner = b) (w : World) :
    Calls Try.prog 23 #[.agg #[.int .i64 v.x, .int .i64 v.y]] w fun e w' => e = .returned (.bool b) ∧ Below w.heap.size w w' := by rw [← h]; exact refCorner_any v w
set_option maxRecDepth 100000 in
theorem refWind_any (A : Option Addr) (c : Nat) (l : List Vec) (w : World) (hr : RS encV 2 w w.heap.size A l) (hl : l.length ≤ maxLen) :
    Calls Try.prog 60 #[.slice A l.length c] w fun e w' => e = .returned (.bool (windOk l)) ∧ Below w.heap.size w w' := by
  unfold maxLen at hl
  go_enter Try.func60, Try.ntmps60
  go_wp2
  go_loopw [3] (fun i wr => ∃ k : Nat, k ≤ l.length ∧ i = .int .i64 k ∧ (l.take k).all Vec.corner = true ∧ Below w.heap.size w wr) (fun i _ => l.length - (intOf i).toNat)
  case atStart => exact ⟨0, Nat.zero_le _, rfl, rfl, Below.refl _ _⟩
  case round =>
    obtain ⟨k, hk, rfl, hall, hB⟩ := hrel
    have Hall := Lib.hid hall
    clear hall
    by_cases hlt : k < l.length
    · obtain ⟨x, hx⟩ := getElem?_lt hlt
      obtain ⟨b, off, rfl, hb, hc⟩ := (hr.below hB (Nat.le_refl _)).at_ hx
      have c0 := hc 0 _ rfl
      have c1 := hc 1 _ rfl
      simp only [Nat.add_zero] at c0
      have Hx := Lib.hid hx
      clear hx hc hr
      cases h1 : x.corner
      · have Hbad := Lib.hid (windOk_bad Hx.out h1)
        go_wp2_with (go_at_call 23; refine (refCorner_val h1 _).mono ?_; rintro e w1 ⟨rfl, hb1⟩)
        go_ret
        exact ⟨ret_bool Hbad.out.symm, hB.trans (hb1.mono hB.size)⟩
      · go_wp2_with (go_at_call 23; refine (refCorner_val h1 _).mono ?_; rintro e w1 ⟨rfl, hb1⟩)
        refine ⟨⟨k + 1, by omega, by go_num, all_snoc Hx.out Hall.out h1, hB.trans (hb1.mono hB.size)⟩, by simp [intOf]; omega⟩
    · have HT := Lib.hid (windOk_all (all_end hlt Hall.out))
      by_cases h1 : 1 ≤ l.length
      · by_cases h2 : l.length ≤ 12
        all_goals
          go_wp2
          go_ret
          exact ⟨ret_bool (by rw [HT.out]; simp [h1]; omega), hB⟩
      · go_wp2
        go_ret
        exact ⟨ret_bool (by rw [HT.out]; simp [h1]), hB⟩

/-- The law's errors, as the program's. -/
theorem testsFault_zero {l : List Tst} {t : List Head} (h : faultE l t = 0) : testsFault l = 0 ∧ tentOk t = true := by
  unfold faultE at h
  split at h
  · rename_i h1
    split at h
    · rename_i h2; exact ⟨h1, h2⟩
    · cases h
  · rename_i h1; exact absurd h h1
theorem fault_tented (l : List Tst) (t : List Head) : faultE l t = tentedE l t := by
  unfold faultE tentedE tentE
  simp only [orM]
  by_cases h1 : testsFault l = 0 <;> by_cases h2 : tentOk t = true <;> simp [h1, h2]
theorem windy_eq {l : List Tst} {t : List Head} {wind : List Vec} : windyE l t wind = if faultE l t = 0 then (if windOk wind = true then agreeE l else 1) else faultE l t := by
  unfold windyE firstE faultE tentE windE
  simp only [orM]
  by_cases h1 : testsFault l = 0 <;> by_cases h2 : tentOk t = true <;> by_cases h3 : windOk wind = true <;> simp [h1, h2, h3]
theorem fault_ok {l : List Tst} {t : List Head} (h : faultE l t = 0) : ∀ x ∈ l, x.ok = true := (testsFault_ok (testsFault_zero h).1).1
theorem refWind_val {l : List Vec} {b : Bool} (h : windOk l = b) (A : Option Addr) (c : Nat) (w : World) (hr : RS encV 2 w w.heap.size A l) (hl : l.length ≤ maxLen) :
    Calls Try.prog 60 #[.slice A l.length c] w fun e w' => e = .returned (.bool b) ∧ Below w.heap.size w w' := by rw [← h]; exact refWind_any A c l w hr hl

theorem blown_any (A : Option Addr) (c : Nat) (l : List Tst) (A' : Option Addr) (c' : Nat) (t : List Head) (A2 : Option Addr) (c2 : Nat) (wind : List Vec) (w : World) (hr : RS encT 4 w w.heap.size A l) (hl : l.length ≤ maxLen) (ht : RH w w.heap.size A' t) (htl : t.length ≤ maxLen) (hw : RS encV 2 w w.heap.size A2 wind) (hwl : wind.length ≤ maxLen) :
    Calls Try.prog 15 #[.slice A l.length c, .slice A' t.length c', .slice A2 wind.length c2] w fun e w' => e = .returned (.int .i64 (windyE l t wind)) ∧ Below w.heap.size w w' := by
  obtain ⟨z, hz⟩ : ∃ z, faultE l t = z := ⟨_, rfl⟩
  obtain ⟨b, hb⟩ : ∃ b, windOk wind = b := ⟨_, rfl⟩
  have HE : Hid (windyE l t wind = if z = 0 then (if b = true then agreeE l else 1) else z) := by show _ = _; rw [windy_eq, hz, hb]
  have Hok := Lib.hid (fun h0 : z = 0 => fault_ok (hz.trans h0))
  have HF := Lib.hid (fun W hr ht => hz ▸ Fault_any A c l A' c' t W hr hl ht htl)
  have HW := Lib.hid hb
  clear hz hb
  by_cases h0 : z = 0
  · have e0 : (z != 0) = false := by simpa using h0
    have Hok' := Lib.hid (Hok.out h0)
    subst h0
    cases b
    · go_enter Try.func15, Try.ntmps15
      go_wp2_with (first | (go_at_call 55; refine (HF.out _ hr ht).mono ?_; rintro e w1 ⟨rfl, hb1⟩) | (go_at_call 60; refine (refWind_val HW.out A2 c2 _ (hw.to hb1) hwl).mono ?_; rintro e w2 ⟨rfl, hb2⟩))
      go_ret
      exact ⟨ret_int (by rw [HE.out]; rfl), sh_next hb1 hb2⟩
    · go_enter Try.func15, Try.ntmps15
      go_wp2_with (first | (go_at_call 55; refine (HF.out _ hr ht).mono ?_; rintro e w1 ⟨rfl, hb1⟩) | (go_at_call 60; refine (refWind_val HW.out A2 c2 _ (hw.to hb1) hwl).mono ?_; rintro e w2 ⟨rfl, hb2⟩) | (go_at_call 49; refine (clashing_any A c l _ ((hr.to hb1).to hb2) hl Hok'.out).mono ?_; rintro e w3 ⟨rfl, hb3⟩))
      go_ret
      exact ⟨ret_int (by rw [HE.out]; rfl), (sh_next hb1 hb2).trans (hb3.mono (sh_next hb1 hb2).size)⟩
  · have e0 : (z != 0) = true := by simpa using h0
    go_enter Try.func15, Try.ntmps15
    go_wp2_with (go_at_call 55; refine (HF.out _ hr ht).mono ?_; rintro e w1 ⟨rfl, hb1⟩)
    go_ret
    exact ⟨ret_int (by rw [HE.out, if_neg h0]), hb1⟩
end Go.Proofs.Ytibaindlbpfecaa
