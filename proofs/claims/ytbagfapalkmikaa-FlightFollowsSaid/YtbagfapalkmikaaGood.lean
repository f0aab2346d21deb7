import Derived.Test.YtbagfapalkmikaaCatches

/- Whether a release is good; whether a flyer is surely caught at a tick. -/
namespace Go.Proofs.Ytbagfapalkmikaa
open Go.RowKit Go.Shelf
attribute [local go_sem] Oper.semAt_some

set_option linter.unusedSimpArgs false in
set_option maxRecDepth 100000 in
set_option maxHeartbeats 8000000 in
theorem good_in (n : Nat) (hn : 3 ≤ n) (g : Nat) (f : Flt) (A Ab An : Option Addr) (c cb cn r : Nat) (hc1 : 1 ≤ f.cycle.length) (hc2 : f.cycle.length ≤ 600) (hm : f.most ≤ 300) (hr : r ≤ 6000) (w : World) (hF : FolW f A c w w.heap.size g Ab An cb cn) :
    CallsIn Fence.wide n Try.prog 104 #[.pointer (some ⟨g, 0, none⟩), .int .i64 r] w fun e w' => e = .returned (.bool (decide (0 < (sureL f r).length))) ∧ Below w.heap.size w w' := by
  refine callsIn_of_wp_marks Try.func104 rfl trivial ?_ rfl
  simp only [Try.ntmps104, List.size_toArray, List.length_cons, List.length_nil, Nat.reduceAdd, Nat.reduceSub, Array.replicate_succ, Array.replicate_zero, List.push_toArray, List.append_toArray, List.nil_append, List.cons_append]
  have hn1 : 1 ≤ n := by omega
  gi_wp2_with ((refine ⟨trivial, ?_⟩; gi_at_call 67; (with_reducible refine (callsIn_wide.2 (sure_any _ _ _)).mono ?_); rintro e w1 ⟨rfl, rfl⟩))
  have hB0 := (((Below.refl w.heap.size w).alloc (Nat.le_refl _) (.cells #[.bool false] 4)).alloc (by simp) (.cells #[.pointer (some ⟨g, 0, none⟩)] 124)).alloc (by simp <;> omega) (.cells #[.int .i64 r] 3)
  have kG := ((Blk.new w 4 #[.bool false]).alloc (.cells #[.pointer (some ⟨g, 0, none⟩)] 124)).alloc (.cells #[.int .i64 r] 3)
  have kP := (Blk.new (w.alloc (.cells #[.bool false] 4)) 124 #[.pointer (some ⟨g, 0, none⟩)]).alloc (.cells #[.int .i64 r] 3)
  have kR := Blk.new ((w.alloc (.cells #[.bool false] 4)).alloc (.cells #[.pointer (some ⟨g, 0, none⟩)] 124)) 3 #[.int .i64 r]
  simp only [World.size_alloc] at kP kR
  have hF1 := (hF.below hB0 (Nat.le_refl _)).more' hB0.size
  obtain ⟨WL, hWL⟩ : ∃ W, ((w.alloc (.cells #[.bool false] 4)).alloc (.cells #[.pointer (some ⟨g, 0, none⟩)] 124)).alloc (.cells #[.int .i64 r] 3) = W := ⟨_, rfl⟩
  rw [hWL] at hB0 kG kP kR hF1
  have hz : WL.heap.size = w.heap.size + 3 := by rw [← hWL]; simp

  simp only [hWL]
  clear hF hWL
  have hpl := kP.lt
  have hrl := kR.lt
  refine wpIn_rangeFunc_ownF (F := Fence.wide) rfl (by omega) (gf := 100) (lb := #[.pointer (some ⟨w.heap.size + 1, 0, none⟩), .pointer (some ⟨w.heap.size + 1 + 1, 0, none⟩)]) rfl trivial (enters_of Try.func100 (by kernel_rfl) rfl)
    (sure_stops (n - 1) (by omega) g (w.heap.size + 1) (w.heap.size + 1 + 1) f A Ab An c cb cn r hc1 hc2 hm hr WL.heap.size WL (Nat.le_refl _) hF1 kP kR hpl hrl) belowK_t (belowK_b (by omega)) (Below.refl _ _) (fun _ => by rfl)
    (fun pre W => (pre = [] ∧ Blk W w.heap.size 4 #[.bool false]) ∧ Below w.heap.size w W)
    (fun c pre W => (c = .ret ∧ pre ≠ [] ∧ Blk W w.heap.size 4 #[.bool true]) ∧ Below w.heap.size w W)
    (OwnFrom.and (Own.from (fun s A B row hs hg hr => ⟨hs.1, hs.2.kept hg hr⟩) _) (ownFrom_below (Nat.le_refl _) (by omega)))
    (fun c => OwnFrom.and (Own.from (fun s A B row hs hg hr => ⟨hs.1, hs.2.1, hs.2.2.kept hg hr⟩) _) (ownFrom_below (Nat.le_refl _) (by omega)))
    ⟨⟨rfl, kG⟩, hB0⟩
    (fun x => { tmps := #[.pointer (some ⟨g, 0, none⟩), .int .i64 r, undef, undef, .pointer (some ⟨w.heap.size, 0, none⟩), .pointer (some ⟨g, 0, none⟩), .int .i64 r, .func (.func 100) #[] #[.pointer (some ⟨w.heap.size + 1, 0, none⟩), .pointer (some ⟨w.heap.size + 1 + 1, 0, none⟩)], .int .i64 x], defers := [] }) ?assign ?body ?done ?stop
  case assign =>
    intro l x W K hK
    gi_wp2
    simpa using hK
  case body =>
    rintro l pre x W ⟨⟨rfl, hG⟩, hB⟩ hlt
    have c0 := hG.cell 0
    have f0 := hG.frozen 0
    simp at c0
    gi_wp2
    exact ⟨KeepsOthers.setCell _ _ _, ⟨rfl, by simp, hG.set_ 0 (.bool true)⟩, hB.setCell (p := ⟨w.heap.size, 0, none⟩) (Nat.le_refl _) _⟩
  case done =>
    rintro D ys W hD rfl ⟨⟨hnil, hG⟩, hB⟩ hK
    have c0 := hG.cell 0
    have f0 := hG.frozen 0
    simp at c0
    have HN : Hid (decide (0 < (sureL f r).length) = false) := by show _ = _; rw [hnil]; rfl
    clear hnil
    gi_wp2
    have hK' : (W.setCell ⟨w.heap.size, 0, none⟩ (.bool false)).heap[D]? = some (.deferred (some [])) := (KeepsOthers.setCell W ⟨w.heap.size, 0, none⟩ (.bool false)).same D _ hK rfl
    refine ⟨by simp, .inl ⟨_, _, rfl, run_takeDeferred hK', ?_⟩⟩
    have d2 := Blk.kept (hG.set_ 0 (.bool false)) (grownBy_putObj' _ D (.deferred none)) (fun r e => by cases e; exact ⟨_, hK', rfl⟩)
    have v0 := d2.cell 0
    simp at v0
    refine ⟨.bool false, by simp [results, Try.results104, go_sem, v0], by rw [HN.out], ?_⟩
    exact (hB.setCell (p := ⟨w.heap.size, 0, none⟩) (Nat.le_refl _) _).trans (belowK_b (w := w) (Nat.le_refl _) _ D _ _ (by omega) hK' rfl rfl)
  case stop =>
    rintro D c pre W hD hpre ⟨⟨rfl, hne, hG⟩, hB⟩ hK
    have HN : Hid (decide (0 < (sureL f r).length) = true) := by
      show _ = _
      refine decide_eq_true ?_
      have h1 := hpre.length_le
      have h2 := List.length_pos_iff.2 hne
      omega
    clear hne hpre
    gi_wp2
    refine ⟨by simp, .inl ⟨_, _, rfl, run_takeDeferred hK, ?_⟩⟩
    have d2 := Blk.kept hG (grownBy_putObj' _ D (.deferred none)) (fun r e => by cases e; exact ⟨_, hK, rfl⟩)
    have v0 := d2.cell 0
    simp at v0
    refine ⟨.bool true, by simp [results, Try.results104, go_sem, v0], by rw [HN.out], ?_⟩
    exact hB.trans (belowK_b (w := w) (Nat.le_refl _) _ D _ _ (by omega) hK rfl rfl)

set_option linter.unusedSimpArgs false in
set_option maxRecDepth 100000 in
set_option maxHeartbeats 8000000 in
theorem caught_in (n : Nat) (hn : 3 ≤ n) (g : Nat) (f : Flt) (A Ab An : Option Addr) (c cb cn r : Nat) (tk : Int) (hc1 : 1 ≤ f.cycle.length) (hc2 : f.cycle.length ≤ 600) (hm : f.most ≤ 300) (hr : r ≤ 6000) (w : World) (hF : FolW f A c w w.heap.size g Ab An cb cn) :
    CallsIn Fence.wide n Try.prog 102 #[.pointer (some ⟨g, 0, none⟩), .int .i64 r, .int .i64 tk] w fun e w' => e = .returned (.bool (decide (tk ∈ ints (sureL f r)))) ∧ Below w.heap.size w w' := by
  have hn1 : 1 ≤ n := by omega
  refine callsIn_of_wp_marks Try.func102 rfl trivial ?_ rfl
  simp only [Try.ntmps102, List.size_toArray, List.length_cons, List.length_nil, Nat.reduceAdd, Nat.reduceSub, Array.replicate_succ, Array.replicate_zero, List.push_toArray, List.append_toArray, List.nil_append, List.cons_append]
  gi_wp2_with ((refine ⟨trivial, ?_⟩; gi_at_call 67; (with_reducible refine (callsIn_wide.2 (sure_any _ _ _)).mono ?_); rintro e w1 ⟨rfl, rfl⟩))
  have hB0 := ((((Below.refl w.heap.size w).alloc (Nat.le_refl _) (.cells #[.int .i64 tk] 3)).alloc (by simp) (.cells #[.bool false] 4)).alloc (by simp <;> omega) (.cells #[.pointer (some ⟨g, 0, none⟩)] 124)).alloc (by simp <;> omega) (.cells #[.int .i64 r] 3)
  have kT := (((Blk.new w 3 #[.int .i64 tk]).alloc (.cells #[.bool false] 4)).alloc (.cells #[.pointer (some ⟨g, 0, none⟩)] 124)).alloc (.cells #[.int .i64 r] 3)
  have kG := ((Blk.new (w.alloc (.cells #[.int .i64 tk] 3)) 4 #[.bool false]).alloc (.cells #[.pointer (some ⟨g, 0, none⟩)] 124)).alloc (.cells #[.int .i64 r] 3)
  have kP := (Blk.new ((w.alloc (.cells #[.int .i64 tk] 3)).alloc (.cells #[.bool false] 4)) 124 #[.pointer (some ⟨g, 0, none⟩)]).alloc (.cells #[.int .i64 r] 3)
  have kR := Blk.new (((w.alloc (.cells #[.int .i64 tk] 3)).alloc (.cells #[.bool false] 4)).alloc (.cells #[.pointer (some ⟨g, 0, none⟩)] 124)) 3 #[.int .i64 r]
  simp only [World.size_alloc] at kG kP kR
  have hF1 := (hF.below hB0 (Nat.le_refl _)).more' hB0.size
  obtain ⟨WL, hWL⟩ : ∃ W, (((w.alloc (.cells #[.int .i64 tk] 3)).alloc (.cells #[.bool false] 4)).alloc (.cells #[.pointer (some ⟨g, 0, none⟩)] 124)).alloc (.cells #[.int .i64 r] 3) = W := ⟨_, rfl⟩
  rw [hWL] at hB0 kT kG kP kR hF1
  have hz : WL.heap.size = w.heap.size + 4 := by rw [← hWL]; simp
  simp only [hWL]
  clear hF hWL
  have hpl := kP.lt
  have hrl := kR.lt
  refine wpIn_rangeFunc_ownF (F := Fence.wide) rfl (by omega) (gf := 100) (lb := #[.pointer (some ⟨w.heap.size + 1 + 1, 0, none⟩), .pointer (some ⟨w.heap.size + 1 + 1 + 1, 0, none⟩)]) rfl trivial (enters_of Try.func100 (by kernel_rfl) rfl)
    (sure_stops (n - 1) (by omega) g (w.heap.size + 1 + 1) (w.heap.size + 1 + 1 + 1) f A Ab An c cb cn r hc1 hc2 hm hr WL.heap.size WL (Nat.le_refl _) hF1 kP kR hpl hrl) belowK_t (belowK_b (by omega)) (Below.refl _ _) (fun _ => by rfl)
    (fun pre W => ((tk ∉ ints pre) ∧ Blk W w.heap.size 3 #[.int .i64 tk] ∧ Blk W (w.heap.size + 1) 4 #[.bool false]) ∧ Below w.heap.size w W)
    (fun c pre W => (c = .ret ∧ tk ∈ ints pre ∧ Blk W (w.heap.size + 1) 4 #[.bool true]) ∧ Below w.heap.size w W)
    (OwnFrom.and (Own.from (fun s A B row hs hg hr => ⟨hs.1, hs.2.1.kept hg hr, hs.2.2.kept hg hr⟩) _) (ownFrom_below (Nat.le_refl _) (by omega)))
    (fun c => OwnFrom.and (Own.from (fun s A B row hs hg hr => ⟨hs.1, hs.2.1, hs.2.2.kept hg hr⟩) _) (ownFrom_below (Nat.le_refl _) (by omega)))
    ⟨⟨by simp [ints], kT, kG⟩, hB0⟩
    (fun x => { tmps := #[.pointer (some ⟨g, 0, none⟩), .int .i64 r, .int .i64 tk, undef, undef, .pointer (some ⟨w.heap.size, 0, none⟩), .pointer (some ⟨w.heap.size + 1, 0, none⟩), .int .i64 x, .pointer (some ⟨g, 0, none⟩), .int .i64 r, .func (.func 100) #[] #[.pointer (some ⟨w.heap.size + 1 + 1, 0, none⟩), .pointer (some ⟨w.heap.size + 1 + 1 + 1, 0, none⟩)], .int .i64 x, undef, undef, undef], defers := [] }) ?assign ?body ?done ?stop
  case assign =>
    intro l x W K hK
    gi_wp2
    first | exact hK | simpa using hK
  case body =>
    rintro l pre x W ⟨⟨hno, hT, hG⟩, hB⟩ hlt
    have c0 := hG.cell 0
    have f0 := hG.frozen 0
    have t0 := hT.cell 0
    simp at c0 t0
    have HNO := Lib.hid hno
    clear hno
    by_cases hx : (x : Int) = tk
    · subst hx
      gi_wp2
      exact ⟨KeepsOthers.setCell _ _ _, ⟨rfl, by simp [ints], hG.set_ 0 (.bool true)⟩, hB.setCell (p := ⟨w.heap.size + 1, 0, none⟩) (by simp) _⟩
    · gi_wp2
      refine ⟨KeepsOthers.refl _, Below.refl _ _, ⟨?_, hT, hG⟩, hB⟩
      have h1 := HNO.out
      unfold ints at h1 ⊢
      rw [List.map_append, List.mem_append]
      rintro (h | h)
      · exact h1 h
      · simp at h; exact hx h.symm
  case done =>
    rintro D ys W hD rfl ⟨⟨hno, hT, hG⟩, hB⟩ hK
    have c0 := hG.cell 0
    have f0 := hG.frozen 0
    simp at c0
    have HN : Hid (decide (tk ∈ ints (sureL f r)) = false) := decide_eq_false hno
    clear hno
    gi_wp2
    have hK' : (W.setCell ⟨w.heap.size + 1, 0, none⟩ (.bool false)).heap[D]? = some (.deferred (some [])) := (KeepsOthers.setCell W ⟨w.heap.size + 1, 0, none⟩ (.bool false)).same D _ hK rfl
    refine ⟨by simp, .inl ⟨_, _, rfl, run_takeDeferred hK', ?_⟩⟩
    have d2 := Blk.kept (hG.set_ 0 (.bool false)) (grownBy_putObj' _ D (.deferred none)) (fun r e => by cases e; exact ⟨_, hK', rfl⟩)
    have v0 := d2.cell 0
    simp at v0
    refine ⟨.bool false, by simp [results, Try.results102, go_sem, v0], by rw [HN.out], ?_⟩
    exact (hB.setCell (p := ⟨w.heap.size + 1, 0, none⟩) (by simp) _).trans (belowK_b (w := w) (Nat.le_refl _) _ D _ _ (by omega) hK' rfl rfl)
  case stop =>
    rintro D c pre W hD hpre ⟨⟨rfl, hin, hG⟩, hB⟩ hK
    have HN : Hid (decide (tk ∈ ints (sureL f r)) = true) := by
      show _ = _
      refine decide_eq_true ?_
      obtain ⟨y, hy⟩ := hpre
      rw [← hy]
      unfold ints at hin ⊢
      rw [List.map_append]
      exact List.mem_append_left _ hin
    clear hin hpre
    gi_wp2
    refine ⟨by simp, .inl ⟨_, _, rfl, run_takeDeferred hK, ?_⟩⟩
    have d2 := Blk.kept hG (grownBy_putObj' _ D (.deferred none)) (fun r e => by cases e; exact ⟨_, hK, rfl⟩)
    have v0 := d2.cell 0
    simp at v0
    refine ⟨.bool true, by simp [results, Try.results102, go_sem, v0], by rw [HN.out], ?_⟩
    exact hB.trans (belowK_b (w := w) (Nat.le_refl _) _ D _ _ (by omega) hK rfl rfl)

theorem good_any (g : Nat) (f : Flt) (A Ab An : Option Addr) (c cb cn r : Nat) (hf : f.ok = true) (hr : r ≤ 6000) (w : World) (hF : FolW f A c w w.heap.size g Ab An cb cn) :
    Calls Try.prog 104 #[.pointer (some ⟨g, 0, none⟩), .int .i64 r] w fun e w' => e = .returned (.bool (decide (0 < (sureL f r).length))) ∧ Below w.heap.size w w' := by
  obtain ⟨_, ⟨hc1, hc2⟩, _, _, _, _, _, hmo, _⟩ := Flt.ok_iff.1 hf
  exact (callsIn_wide (n := 9)).1 (good_in 9 (by omega) g f A Ab An c cb cn r hc1 hc2 hmo.2 hr w hF)
theorem caught_any (g : Nat) (f : Flt) (A Ab An : Option Addr) (c cb cn r : Nat) (tk : Int) (hf : f.ok = true) (hr : r ≤ 6000) (w : World) (hF : FolW f A c w w.heap.size g Ab An cb cn) :
    Calls Try.prog 102 #[.pointer (some ⟨g, 0, none⟩), .int .i64 r, .int .i64 tk] w fun e w' => e = .returned (.bool (decide (tk ∈ ints (sureL f r)))) ∧ Below w.heap.size w w' := by
  obtain ⟨_, ⟨hc1, hc2⟩, _, _, _, _, _, hmo, _⟩ := Flt.ok_iff.1 hf
  exact (callsIn_wide (n := 9)).1 (caught_in 9 (by omega) g f A Ab An c cb cn r tk hc1 hc2 hmo.2 hr w hF)

/-- Does each catch of a window show that its release is good? -/
def provedB (f : Flt) (first : Nat) (l : List Int) (k : Nat) : Bool := (List.range k).all fun i => match l[i]? with | some x => decide (x ∈ ints (sureL f (first + i))) | none => true
theorem provedB_succ {f : Flt} {first : Nat} {l : List Int} {k : Nat} {x : Int} (h : l[k]? = some x) : provedB f first l (k + 1) = (provedB f first l k && decide (x ∈ ints (sureL f (first + k)))) := by
  unfold provedB
  rw [List.range_succ, List.all_append]
  simp [h]
theorem provedB_false {f : Flt} {first : Nat} {l : List Int} {k n : Nat} (hk : k ≤ n) (h : provedB f first l k = false) : provedB f first l n = false := by
  rw [Bool.eq_false_iff] at h ⊢
  intro hn
  apply h
  unfold provedB at hn ⊢
  rw [List.all_eq_true] at hn ⊢
  intro i hi
  exact hn i (by rw [List.mem_range] at hi ⊢; omega)
set_option maxRecDepth 100000 in
set_option maxHeartbeats 4000000 in
theorem proved_any (g : Nat) (f : Flt) (A Ab An Al : Option Addr) (c cb cn cl : Nat) (l : List Int) (first last : Nat) (hf : f.ok = true) (hlast : last ≤ 6000) (hl : l.length = last + 1 - first) (hfl : first ≤ last) (w : World) (hF : FolW f A c w w.heap.size g Ab An cb cn) (hL : RS encI 1 w w.heap.size Al l) :
    Calls Try.prog 71 #[.pointer (some ⟨g, 0, none⟩), .agg #[.int .i64 first, .int .i64 last], .slice Al l.length cl] w fun e w' => e = .returned (.bool (provedB f first l l.length)) ∧ Below w.heap.size w w' := by
  have HC : Hid (∀ (r : Nat) (tk : Int) (W : World), r ≤ 6000 → FolW f A c W W.heap.size g Ab An cb cn → Calls Try.prog 102 #[.pointer (some ⟨g, 0, none⟩), .int .i64 (r : Int), .int .i64 tk] W fun e w' => e = .returned (.bool (decide (tk ∈ ints (sureL f r)))) ∧ Below W.heap.size W w') := fun r tk W hr h => caught_any g f A Ab An c cb cn r tk hf hr W h
  have hB0 := (Below.refl w.heap.size w).alloc (Nat.le_refl _) (.cells #[.int .i64 first, .int .i64 last] 92)
  have kW := Blk.new w 92 #[.int .i64 first, .int .i64 last]
  have hF1 := Lib.hid ((hF.below hB0 (Nat.le_refl _)).more' hB0.size)
  have hL1 := Lib.hid (hL.to hB0)
  have hz : w.heap.size ≤ (w.alloc (.cells #[.int .i64 first, .int .i64 last] 92)).heap.size := hB0.size
  have hlen : first + l.length ≤ 6001 := by omega
  clear hf hF hL hl hfl hlast
  go_enter Try.func71, Try.ntmps71
  go_wp2
  obtain ⟨Wo, hWo⟩ : ∃ W, w.alloc (.cells #[.int .i64 first, .int .i64 last] 92) = W := ⟨_, rfl⟩
  rw [hWo] at hB0 kW hF1 hL1
  simp only [hWo]
  clear hWo hz
  go_loopw [11] (fun i wr => ∃ k : Nat, k ≤ l.length ∧ i = .int .i64 k ∧ provedB f first l k = true ∧ Below Wo.heap.size Wo wr) (fun i _ => l.length - (intOf i).toNat)
  case atStart => exact ⟨0, Nat.zero_le _, rfl, rfl, Below.refl _ _⟩
  case round =>
    obtain ⟨k, hk, rfl, hall, hB⟩ := hrel
    have HALL := Lib.hid hall
    clear hall
    by_cases hlt : k < l.length
    case neg =>
      obtain rfl : k = l.length := by omega
      go_wp2
      go_ret
      exact ⟨ret_bool HALL.out.symm, hB0.trans (hB.mono hB0.size)⟩
    case pos =>
      have hkI : (k : Int) < (l.length : Int) := by omega
      obtain ⟨x, hx⟩ := getElem?_lt hlt
      obtain ⟨q1, o1, rfl, hq1, hc1⟩ := (hL1.out.to hB).at_ hx
      have e1 := hc1 0 _ rfl
      simp only [Nat.add_zero, Nat.mul_one] at e1
      have kWr := kW.below hB kW.lt
      have y0 := kWr.cell 0; have y1 := kWr.cell 1; simp at y0 y1
      have HS := Lib.hid (provedB_succ (f := f) (first := first) hx)
      have HFr := Lib.hid ((hF1.out.below hB (Nat.le_refl _)).more' hB.size)
      have hrk : first + k ≤ 6000 := by omega
      have HCk : Hid (∀ W : World, FolW f A c W W.heap.size g Ab An cb cn → Calls Try.prog 102 #[.pointer (some ⟨g, 0, none⟩), .int .i64 ((first : Int) + (k : Int)), .int .i64 x] W fun e w' => e = .returned (.bool (decide (x ∈ ints (sureL f (first + k))))) ∧ Below W.heap.size W w') := fun W h => by
        have := HC.out (first + k) x W hrk h
        rw [Int.natCast_add] at this
        exact this
      have HX := Lib.hid hx
      clear hx hc1
      obtain ⟨d, hd⟩ : ∃ d, decide (x ∈ ints (sureL f (first + k))) = d := ⟨_, rfl⟩
      rw [hd] at HCk HS
      rw [HALL.out] at HS
      clear hd
      cases d
      · have HN : Hid (provedB f first l l.length = false) := provedB_false (k := k + 1) (by omega) (by rw [HS.out]; rfl)
        go_wp2_with (go_at_call 102; (with_reducible refine (HCk.out _ HFr.out).mono ?_); rintro e w1 ⟨rfl, hb1⟩)
        go_ret
        exact ⟨ret_bool HN.out.symm, hB0.trans ((sh_next hB hb1).mono hB0.size)⟩
      · go_wp2_with (go_at_call 102; (with_reducible refine (HCk.out _ HFr.out).mono ?_); rintro e w1 ⟨rfl, hb1⟩)
        go_roundw
        case rel => exact ⟨k + 1, by omega, by go_num, by rw [HS.out]; rfl, sh_next hB hb1⟩
        case measure => simp [intOf]; omega
end Go.Proofs.Ytbagfapalkmikaa
