import Derived.Test.YtibaindlbpfecaaWithout

namespace Go.Proofs.Ytibaindlbpfecaa
open Go.RowKit

def encP (p : Int × Int) : List Value := [.int .i64 p.1, .int .i64 p.2]
/-- The guys of a head without which it stands, among its first ones. -/
def spareRow (l : List Tst) (wind : List Vec) (h : Head) (i : Int) : Nat → List (Int × Int)
  | 0 => []
  | m + 1 => spareRow l wind h i m ++ (if headStands l wind (h.lose m) = true then [(i, (m : Int))] else [])
def spareUp (l : List Tst) (wind : List Vec) (t : List Head) : Nat → List (Int × Int)
  | 0 => []
  | k + 1 => spareUp l wind t k ++ (match t[k]? with | some h => spareRow l wind h k h.guys.length | none => [])
def spareL (l : List Tst) (wind : List Vec) (t : List Head) : List (Int × Int) := spareUp l wind t t.length
theorem spareRow_le {l : List Tst} {wind : List Vec} {h : Head} {i : Int} : ∀ m, (spareRow l wind h i m).length ≤ m := by
  intro m
  induction m with
  | zero => simp [spareRow]
  | succ m ih => rw [spareRow, List.length_append]; split <;> simp <;> omega
theorem spareUp_le {l : List Tst} {wind : List Vec} {t : List Head} (hg : ∀ h ∈ t, h.guys.length ≤ 8) : ∀ k, (spareUp l wind t k).length ≤ 8 * k := by
  intro k
  induction k with
  | zero => simp [spareUp]
  | succ k ih =>
    rw [spareUp, List.length_append]
    cases hk : t[k]? with
    | none => simp; omega
    | some h =>
      have h1 := spareRow_le (l := l) (wind := wind) (h := h) (i := k) h.guys.length
      have h2 := hg h (List.mem_of_getElem? hk)
      simp only; omega
theorem infoP : (Try.prog.info? 93).map (fun i => (i.zero, i.size, i.bytes)) = some (some (.agg #[.int .i64 0, .int .i64 0]), 2, 16) := by kernel_rfl
def SparesPost (sp : List (Int × Int)) (er : Int) (w : World) (e : Ending) (w' : World) : Prop :=
  ∃ A c, e = .returned (.tuple #[.slice A sp.length c, .int .i64 er]) ∧ RS encP 2 w' w'.heap.size A sp ∧ sp.length ≤ c ∧ c ≤ maxLen ∧ Below w.heap.size w w'
theorem own_ne_blk {w : World} {base e sz n X : Nat} {v : Value} {xs : List Value} {ty : TypeId} {cs : Array Value} (h : w.ownsRow base e sz v n xs) (hb : Blk w X ty cs) (ht : ty ≠ e) : some X ≠ v.ownBlock := by
  intro he
  rcases h.2 with ⟨rfl, _⟩ | ⟨g, cap, cur, rfl, _, hg, _⟩
  · cases he
  · have hX : X = g := by simpa [Value.ownBlock] using he
    subst hX
    unfold Blk at hb
    rw [hg] at hb
    simp at hb
    exact ht hb.2.symm
theorem lose_corner {l : List Tst} {wind : List Vec} {h : Head} {b : Bool} (hb : headStands l wind h = b) : decide (cornerI h.area (forcesM l h) wind < 0) = b := by
  rw [← hb]
  have h1 := headBad_neg (l := l) (wind := wind) (h := h)
  unfold headBad at h1
  cases hs : headStands l wind h with
  | true => rw [hs] at h1; exact decide_eq_true (h1.1 rfl)
  | false => rw [hs] at h1; exact decide_eq_false (fun hx => by have := h1.2 hx; simp at this)

set_option maxRecDepth 100000 in
set_option maxHeartbeats 2000000 in
theorem Spares_ok (A : Option Addr) (c : Nat) (l : List Tst) (A' : Option Addr) (c' : Nat) (t : List Head) (A2 : Option Addr) (c2 : Nat) (wind : List Vec) (w : World) (hr : RS encT 4 w w.heap.size A l) (hl : l.length ≤ maxLen) (ht : RH w w.heap.size A' t) (htl : t.length ≤ maxLen) (hw : RS encV 2 w w.heap.size A2 wind) (hwl : wind.length ≤ maxLen) (hE : windyE l t wind = 0) (hs : standsB l t wind = true) :
    Calls Try.prog 41 #[.slice A l.length c, .slice A' t.length c', .slice A2 wind.length c2] w (SparesPost (spareL l wind t) 0 w) := by
  obtain ⟨i0, hi0, hz0, hz1, hz2⟩ := info_parts infoP
  obtain ⟨hz1', hz2', hz3', _⟩ := windyE_zero hE
  have Hok := Lib.hid (testsFault_ok hz1').1
  have Htok := Lib.hid (tentE_ok hz2').2
  have ht12 := (tentE_ok hz2').1.2
  have Hwb := Lib.hid (windE_ok hz3').2
  have Hle := Lib.hid (fun k => spareUp_le (l := l) (wind := wind) (t := t) (fun h hh => Head.guys_le (Htok.out h hh)) k)
  have ho := stands_none.1 hs
  have HW := Lib.hid (fun W hr ht hw => (show wkI l t wind = -1 from by unfold wkI; rw [ho]) ▸ Weakest_ok A c l A' c' t A2 c2 wind W hr hl ht htl hw hwl hE)
  obtain ⟨zk, hzk⟩ : ∃ x, wkK l t wind = x := ⟨_, rfl⟩
  obtain ⟨u, hu⟩ : ∃ x, wkW l t wind = x := ⟨_, rfl⟩
  rw [hzk, hu] at HW
  unfold maxLen at htl hwl
  clear hE hs hz1' hz2' hz3' ho hzk hu
  go_enter Try.func41, Try.ntmps41
  go_wp2_with (go_at_call 42; refine (HW.out _ hr ht hw).mono ?_; rintro e w1 ⟨rfl, hb1⟩)
  have hB1 := hb1.alloc hb1.size (.cells #[.int .i64 u.x, .int .i64 u.y] 58)
  clear hb1
  go_loopw [12, 36] (fun v i wr => ∃ k : Nat, k ≤ t.length ∧ i = .int .i64 k ∧ wr.ownsRow w.heap.size 93 2 v (spareUp l wind t k).length ((spareUp l wind t k).flatMap encP) ∧ Below w.heap.size w wr) (fun _ i _ => t.length - (intOf i).toNat)
  case atStart => exact ⟨0, Nat.zero_le _, rfl, World.ownsRow_nil _ _ _ _, hB1⟩
  case round =>
    obtain ⟨k, hk, rfl, hown, hB⟩ := hrel
    have hBz := hB.size
    by_cases hlt : k < t.length
    · obtain ⟨h, hh⟩ := getElem?_lt hlt
      have Hhk := Lib.hid (Htok.out h (List.mem_of_getElem? hh))
      have hg8 := Head.guys_le Hhk.out
      obtain ⟨b, off, A3, c3, rfl, hb, x0, x1, x2, hg1, hg2, hg⟩ := ht.at_ hh
      have z0 := (hB.cell (p := ⟨b, off + k * 3, none⟩) (by show b < _; omega)).trans x0
      have z1 := (hB.cell (p := ⟨b, off + k * 3 + 1, none⟩) (by show b < _; omega)).trans x1
      have z2 := (hB.cell (p := ⟨b, off + k * 3 + 2, none⟩) (by show b < _; omega)).trans x2
      have Hh := Lib.hid hh
      unfold maxLen at hg2
      have kX := Blk.new wr 43 #[.int .i64 h.area, .int .i64 h.bears, .slice A3 h.guys.length c3]
      have hBa := hB.alloc hBz (.cells #[.int .i64 h.area, .int .i64 h.bears, .slice A3 h.guys.length c3] 43)
      have hown1 := hown.alloc (.cells #[.int .i64 h.area, .int .i64 h.bears, .slice A3 h.guys.length c3] 43)
      have hlek := Hle.out k
      clear hh x0 x1 x2 hB1 hown hB
      obtain ⟨wo, hwo⟩ : ∃ y, y = wr := ⟨_, rfl⟩
      subst hwo
      have y2 := kX.cell 2
      simp at y2
      go_wp2
      go_loopw [12, 44] (fun v j wr => ∃ m : Nat, m ≤ h.guys.length ∧ j = .int .i64 m ∧ wr.ownsRow w.heap.size 93 2 v (spareUp l wind t k ++ spareRow l wind h k m).length ((spareUp l wind t k ++ spareRow l wind h k m).flatMap encP) ∧ Blk wr wo.heap.size 43 #[.int .i64 h.area, .int .i64 h.bears, .slice A3 h.guys.length c3] ∧ Below w.heap.size w wr) (fun _ j _ => h.guys.length - (intOf j).toNat)
      case atStart => exact ⟨0, Nat.zero_le _, rfl, by simpa [spareRow] using hown1, kX, hBa⟩
      case round =>
        obtain ⟨m, hm, rfl, hrow, kXr, hB2⟩ := hrel
        have hBz2 := hB2.size
        have a0 := kXr.cell 0
        have a1 := kXr.cell 1
        have a2 := kXr.cell 2
        have az := kXr.lt
        simp at a0 a1 a2
        have hlr := spareRow_le (l := l) (wind := wind) (h := h) (i := k) m
        by_cases hlt2 : m < h.guys.length
        · obtain ⟨f, hf⟩ : ∃ f, forcesM l (h.lose m) = f := ⟨_, rfl⟩
          have hlok := lose_ok (k := m) Hhk.out
          obtain ⟨hfl, hfv⟩ := forces_in hf Hok.out hlok
          have Hf := Lib.hid hf
          have Hlok := Lib.hid hlok
          obtain ⟨b9, hb9⟩ : ∃ b, headStands l wind (h.lose m) = b := ⟨_, rfl⟩
          have hcor := lose_corner hb9
          rw [hf] at hcor
          obtain ⟨z, hz⟩ : ∃ z, cornerI (h.lose m).area f wind = z := ⟨_, rfl⟩
          obtain ⟨u2, hu2⟩ : ∃ z, cornerW (h.lose m).area f wind = z := ⟨_, rfl⟩
          have Hc := Lib.hid (fun W A1 A5 c1 c5 hrs hww => hz ▸ hu2 ▸ weakCorner_any (h.lose m) A1 A5 A2 c1 c5 c2 f wind W hrs hfl hfv (Head.area_in hlok) hww (by unfold maxLen; omega) Hwb.out)
          rw [hz] at hcor
          have Hb9 := Lib.hid hb9
          have n1 : IntKind.i64.wrap ((m : Int) + 1) = (m : Int) + 1 := IntWalk.i64_in _ (by omega)
          have hll : (spareUp l wind t k ++ spareRow l wind h k m).length ≤ 8 * k + m := by rw [List.length_append]; omega
          clear hf hlok hfv hb9 hz hu2
          cases b9
          · have hz0n : ¬ z < 0 := of_decide_eq_false hcor
            go_wp2_with (first | (go_at_call 78; refine (without_any h A3 c3 m hlt2 hg8 _ (hg.to hB2)).mono ?_; rintro e w2 ⟨A5, c5, rfl, hrs5, hb2⟩; have hr2 := (hr.to hB2).to hb2; have hw2 := (hw.to hB2).to hb2) | (go_at_call 63; refine (measureV_any A c l A5 c5 (h.lose m) f Hf.out _ hr2 hl Hok.out Hlok.out hrs5).mono ?_; rintro e w3 ⟨A6, c6, rfl, hrs6, _, _, hb3⟩; have hw3 := hw2.to hb3) | (go_at_call 79; refine (Hc.out _ A6 A5 c6 c5 hrs6 hw3).mono ?_; rintro e w4 ⟨rfl, hb4⟩))
            have b1 := sh_next hb2 hb3
            have b2 := b1.trans (hb4.mono b1.size)
            have kX4 := (kXr.below b2 kXr.lt).alloc (.cells #[.int .i64 u2.x, .int .i64 u2.y] 58)
            have hrow4 := (own_below hrow b2).alloc (.cells #[.int .i64 u2.x, .int .i64 u2.y] 58)
            have hB4 := (hB2.trans (b2.mono hB2.size))
            have hB5 := hB4.alloc hB4.size (.cells #[.int .i64 u2.x, .int .i64 u2.y] 58)
            refine ⟨⟨m + 1, by omega, by go_num, ?_, kX4, hB5⟩, by simp [intOf]; omega⟩
            rw [show spareRow l wind h k (m + 1) = spareRow l wind h k m from by rw [spareRow, Hb9.out]; simp]
            exact hrow4
          · have hz0n : z < 0 := of_decide_eq_true hcor
            go_wp2_with (first | (go_at_call 78; refine (without_any h A3 c3 m hlt2 hg8 _ (hg.to hB2)).mono ?_; rintro e w2 ⟨A5, c5, rfl, hrs5, hb2⟩; have hr2 := (hr.to hB2).to hb2; have hw2 := (hw.to hB2).to hb2) | (go_at_call 63; refine (measureV_any A c l A5 c5 (h.lose m) f Hf.out _ hr2 hl Hok.out Hlok.out hrs5).mono ?_; rintro e w3 ⟨A6, c6, rfl, hrs6, _, _, hb3⟩; have hw3 := hw2.to hb3) | (go_at_call 79; refine (Hc.out _ A6 A5 c6 c5 hrs6 hw3).mono ?_; rintro e w4 ⟨rfl, hb4⟩; have b1 := sh_next hb2 hb3; have b2 := b1.trans (hb4.mono b1.size); have kX4 := (kXr.below b2 kXr.lt).alloc (.cells #[.int .i64 u2.x, .int .i64 u2.y] 58); have hrow4 := (own_below hrow b2).alloc (.cells #[.int .i64 u2.x, .int .i64 u2.y] 58); have hB4 := (hB2.trans (b2.mono hB2.size)); have hB5 := hB4.alloc hB4.size (.cells #[.int .i64 u2.x, .int .i64 u2.y] 58)) | (at_builtin; refine wpList_append_own _ rfl _ _ 87 rfl w.heap.size 93 i0 _ 2 16 Try.underlying87 hi0 hz0 hz1 hz2 rfl (by decide) _ _ _ rfl (hrow4.alloc (.cells #[.int .i64 k, .int .i64 m] 93)) ⟨_, 0, none⟩ 1 1 [.int .i64 k, .int .i64 m] rfl rfl ?c1 ?c2 ?c3 ?c4 ?c5 ?_))
            case c1 => exact World.news_of_block (cs := #[.int .i64 k, .int .i64 m]) (t := 93) (fr := (0, 0)) (by simpa using heap_alloc_new (w4.alloc (.cells #[.int .i64 u2.x, .int .i64 u2.y] 58)) (.cells #[.int .i64 k, .int .i64 m] 93))
            case c2 => simp [Value.oneCell']
            case c3 => unfold maxLen; omega
            case c4 => omega
            case c5 => have := hB5.size; simp at this ⊢; omega
            intro v2 w5 hrow5 hgrow5 _
            have hne := own_ne_blk hrow4 kX4 (by decide)
            have kX5 := (kX4.alloc (.cells #[.int .i64 k, .int .i64 m] 93)).grown hgrow5 hne
            have hB6 := app_belowL (hB5.alloc hB5.size (.cells #[.int .i64 k, .int .i64 m] 93)) (Nat.le_refl _) (by have := hB5.size; simp at this ⊢; omega) (hrow4.alloc _) hgrow5
            go_wp2
            refine ⟨⟨m + 1, by omega, by go_num, ?_, kX5, hB6⟩, by simp [intOf]; omega⟩
            have hsp : spareUp l wind t k ++ spareRow l wind h k (m + 1) = (spareUp l wind t k ++ spareRow l wind h k m) ++ [((k : Int), (m : Int))] := by rw [spareRow, Hb9.out]; simp
            rw [hsp, List.length_append, List.length_append, List.flatMap_append, List.flatMap_append, List.append_assoc]
            exact hrow5
        · go_wp2
          obtain rfl : m = h.guys.length := by omega
          refine ⟨⟨k + 1, by omega, by go_num, ?_, hB2⟩, by simp [intOf]; omega⟩
          rw [show spareUp l wind t (k + 1) = spareUp l wind t k ++ spareRow l wind h k h.guys.length from by rw [spareUp, Hh.out]]
          exact hrow
    · go_wp2
      obtain ⟨A1, c1, rfl, hc1, hc2⟩ := own_slice hown
      obtain rfl : k = t.length := by omega
      go_ret2
      exact ⟨A1, c1, rfl, RS.of_own (enc := encP) (sz := 2) (fun _ => rfl) hown rfl, hc1, hc2, hB⟩
end Go.Proofs.Ytibaindlbpfecaa
