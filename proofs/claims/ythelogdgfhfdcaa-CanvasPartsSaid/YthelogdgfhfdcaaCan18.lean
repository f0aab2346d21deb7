import Derived.Test.YthelogdgfhfdcaaCan17
namespace Go.Proofs.Ythelogdgfhfdcaa
open Go.RowKit

theorem sumV_vb {f : List Vec} {q : Int} (hf : ∀ v ∈ f, VB v q) : VB (sumV f) (q * f.length) := by
  have key : ∀ (f : List Vec) (a : Vec) (p : Int), (∀ v ∈ f, VB v q) → VB a p → VB (f.foldl Vec.plus a) (p + q * f.length) := by
    intro f
    induction f with
    | nil => intro a p _ ha; simpa using ha
    | cons v f ih =>
      intro a p hv ha
      have h1 := hv v (by simp)
      have h2 := ih (a.plus v) (p + q) (fun u hu => hv u (by simp [hu])) (by unfold VB Vec.plus at *; simp only; omega)
      rw [List.foldl_cons, List.length_cons]
      exact h2.mono (by push_cast; rw [Int.mul_add]; omega)
  exact (key f vecZ 0 hf (by unfold VB vecZ; simp)).mono (by omega)
theorem sumV_lg {f : List Vec} {q : Int} (hq : 0 ≤ q) (hl : q * f.length ≤ 4000000000000000000) (hf : ∀ v ∈ f, VB v q) (k : Nat) : Lg (sumV (f.take k)).x ∧ Lg (sumV (f.take k)).y := by
  have h := sumV_vb (fun v hv => hf v (List.mem_of_mem_take hv)) (f := f.take k)
  have hle : (f.take k).length ≤ f.length := by rw [List.length_take]; omega
  have h2 : q * (f.take k).length ≤ q * f.length := Int.mul_le_mul_of_nonneg_left (by omega) hq
  unfold VB at h; unfold Lg; omega

/-- The forces whose bit is set, the first of them having the bit i. -/
def fullFrom (s : Nat) : Nat → List Vec → List Vec
  | _, [] => []
  | i, v :: f => (if s.testBit i then [v] else []) ++ fullFrom s (i + 1) f
theorem fullFrom_snoc {s : Nat} : ∀ (f : List Vec) (i k : Nat) (v : Vec), f[k]? = some v → fullFrom s i (f.take (k + 1)) = fullFrom s i (f.take k) ++ (if s.testBit (i + k) then [v] else []) := by
  intro f
  induction f with
  | nil => intro i k v h; simp at h
  | cons a f ih =>
    intro i k v h
    cases k with
    | zero => simp at h; subst h; simp [fullFrom]
    | succ k =>
      have := ih (i + 1) k v (by simpa using h)
      simp only [List.take_succ_cons, fullFrom, List.append_assoc]
      rw [this, show i + 1 + k = i + (k + 1) from by omega]
theorem fullFrom_mem {s : Nat} : ∀ (f : List Vec) (i : Nat) (v : Vec), v ∈ fullFrom s i f → v ∈ f := by
  intro f
  induction f with
  | nil => intro i v h; simp [fullFrom] at h
  | cons a f ih =>
    intro i v h
    simp only [fullFrom, List.mem_append] at h
    rcases h with h | h
    · split at h
      · simp at h; simp [h]
      · simp at h
    · exact List.mem_cons_of_mem _ (ih _ _ h)
theorem fullFrom_len {s : Nat} : ∀ (f : List Vec) (i : Nat), (fullFrom s i f).length ≤ f.length := by
  intro f
  induction f with
  | nil => intro i; simp [fullFrom]
  | cons a f ih =>
    intro i
    have := ih (i + 1)
    simp only [fullFrom, List.length_append, List.length_cons]
    split <;> simp <;> omega
/-- What is left to the others where those of the set s pull fully against p. -/
def restM (s : Nat) (p : Vec) (f : List Vec) : Vec := (sumV (p :: fullFrom s 0 f)).times (-1)
theorem restM_vb {s : Nat} {p : Vec} {f : List Vec} (hp : VB p 10000000) (hf : ∀ v ∈ f, VB v 500000) (hl : f.length ≤ 8) : VB (restM s p f) 100000000 := by
  have hlen := fullFrom_len (s := s) f 0
  have := sumV_vb (f := p :: fullFrom s 0 f) (q := 10000000) (by
    intro v hv
    simp only [List.mem_cons] at hv
    rcases hv with rfl | hv
    · exact hp
    · exact (hf v (fullFrom_mem _ _ _ hv)).mono (by omega))
  exact (this.mono (by simp only [List.length_cons]; push_cast; omega)).neg

set_option maxRecDepth 100000 in
set_option maxHeartbeats 1000000 in
theorem rest_any (h : Head) (A1 A2 : Option Addr) (c1 c2 : Nat) (f : List Vec) (push : Vec) (s : Nat) (w : World) (hr : RS encV 2 w w.heap.size A1 f) (hl : f.length ≤ 8) (hf : ∀ v ∈ f, VB v 500000) (ha : 0 ≤ h.area ∧ h.area ≤ 1000) (hp : VB push 10000) (hs : s < 65536) :
    Calls Try.prog 101 #[.agg #[.int .i64 h.area, .int .i64 h.bears, .slice A2 h.guys.length c2, .slice A1 f.length c1], .agg #[.int .i64 push.x, .int .i64 push.y], .int .i64 s] w fun e w' => e = .returned (.agg #[.int .i64 (restM s (push.times h.area) f).x, .int .i64 (restM s (push.times h.area) f).y]) ∧ Below w.heap.size w w' := by
  obtain ⟨i0, hi0, hz0, hz1, hz2⟩ := info_parts infoCV
  have hpt := hp.times (n := h.area) (q := 1000) (by omega)
  have p1 : Sm (h.area * push.x) := by have := hpt.1; simp only [Vec.times] at this; unfold Sm; omega
  have p2 : Sm (h.area * push.y) := by have := hpt.2; simp only [Vec.times] at this; unfold Sm; omega
  have Hpt := Lib.hid hpt
  have Hf := Lib.hid hf
  have hB0 := (((Below.refl w.heap.size w).alloc (Nat.le_refl _) (.cells #[.int .i64 h.area, .int .i64 h.bears, .slice A2 h.guys.length c2, .slice A1 f.length c1] 137)).alloc (by simp) (.cells #[.int .i64 push.x, .int .i64 push.y] 74)).alloc (by simp <;> omega) (.cells #[.int .i64 0, .int .i64 0] 74)
  clear hf hp hpt
  go_enter Try.func101, Try.ntmps101
  go_wp2_with fail
  refine (pushed_any h A1 A2 c1 c2 f push _ p1 p2).mono ?_
  rintro e w1 ⟨rfl, hb1⟩
  have kM := (((Blk.new w 137 #[.int .i64 h.area, .int .i64 h.bears, .slice A2 h.guys.length c2, .slice A1 f.length c1]).alloc (.cells #[.int .i64 push.x, .int .i64 push.y] 74)).alloc (.cells #[.int .i64 0, .int .i64 0] 74)).below hb1 (by simp <;> omega)
  have kR := (Blk.new ((w.alloc (.cells #[.int .i64 h.area, .int .i64 h.bears, .slice A2 h.guys.length c2, .slice A1 f.length c1] 137)).alloc (.cells #[.int .i64 push.x, .int .i64 push.y] 74)) 74 #[.int .i64 0, .int .i64 0]).below hb1 (by simp)
  simp only [World.size_alloc] at kR
  have hB1 := hB0.trans (hb1.mono hB0.size)
  have hz1' : w.heap.size + 3 ≤ w1.heap.size := by have := hb1.size; simp at this; omega
  have HP : Hid (Blk w1 w.heap.size 137 #[.int .i64 h.area, .int .i64 h.bears, .slice A2 h.guys.length c2, .slice A1 f.length c1]) := kM
  have m1 := kM.cell 3
  have m1z := kM.lt
  simp at m1
  clear hb1 kM
  go_wp2
  go_loopw [7, 17] (fun v i wr => ∃ k : Nat, k ≤ f.length ∧ i = .int .i64 k ∧ wr.ownsRow w1.heap.size 74 2 v (push.times h.area :: fullFrom s 0 (f.take k)).length ((push.times h.area :: fullFrom s 0 (f.take k)).flatMap encV) ∧ Below w1.heap.size w1 wr) (fun _ i _ => f.length - (intOf i).toNat)
  case atStart =>
    refine ⟨0, Nat.zero_le _, rfl, ⟨by simp [fullFrom, encV], .inr ⟨w1.heap.size, 1, _, rfl, Nat.le_refl _, by simpa using heap_alloc_new w1 _, by simp [fullFrom], by unfold maxLen; omega, rfl, rfl⟩⟩, (Below.refl _ _).alloc (Nat.le_refl _) _⟩
  case round =>
    obtain ⟨k, hk, rfl, hown, hB⟩ := hrel
    have hBw := hB1.trans (hB.mono hB1.size)
    have hzr := hB.size
    have kMr := HP.out.below hB m1z
    have m2 := kMr.cell 3
    have m2z := kMr.lt
    simp at m2
    have hlen := fullFrom_len (s := s) (f.take k) 0
    have hlen2 : (f.take k).length ≤ f.length := by rw [List.length_take]; omega
    by_cases hlt : k < f.length
    · obtain ⟨v, hv⟩ := getElem?_lt hlt
      have hsn := fullFrom_snoc (s := s) f 0 k v hv
      rw [Nat.zero_add] at hsn
      obtain ⟨b, off, rfl, hb, hc⟩ := (hr.below hBw (Nat.le_refl _)).at_ hv
      have c0 := hc 0 _ rfl
      have c1 := hc 1 _ rfl
      simp only [Nat.add_zero] at c0
      have Hsn := Lib.hid hsn
      have hk64 : k < 64 := by omega
      clear hv hc hr hsn
      cases hbit : s.testBit k with
      | true =>
        have hs2 := Hsn.out
        rw [hbit, if_pos rfl] at hs2
        have Hs2 := Lib.hid hs2
        clear hs2
        go_wp2_with (first | (go_at_call 102; refine (has_any s k _ hs hk64).mono ?_; rintro e w' ⟨rfl, rfl⟩) | (at_builtin; refine wpList_append_own _ rfl _ _ 91 rfl w1.heap.size 74 i0 _ 2 16 Try.underlying91 hi0 hz0 hz1 hz2 rfl (by decide) _ _ _ rfl ((hown.alloc _).alloc _) ⟨wr.heap.size + 1, 0, none⟩ 1 1 [.int .i64 v.x, .int .i64 v.y] rfl rfl ?c1 ?c2 ?c3 ?c4 ?c5 ?_))
        case c1 => exact World.news_of_block (cs := #[.int .i64 v.x, .int .i64 v.y]) (t := 74) (fr := (0, 0)) (by simpa using heap_alloc_new (wr.alloc (.cells #[.int .i64 v.x, .int .i64 v.y] 74)) (.cells #[.int .i64 v.x, .int .i64 v.y] 74))
        case c2 => simp [Value.oneCell']
        case c3 => simp only [List.length_cons]; unfold maxLen; omega
        case c4 => simp only [List.length_cons]; omega
        case c5 => simp <;> omega
        intro v2 w2 hown2 hgrow2 _
        have hB2 := app_belowL ((hB.alloc hzr (.cells #[.int .i64 v.x, .int .i64 v.y] 74)).alloc (by simp <;> omega) (.cells #[.int .i64 v.x, .int .i64 v.y] 74)) (Nat.le_refl _) (by simp <;> omega) ((hown.alloc _).alloc _) hgrow2
        go_wp2
        refine ⟨⟨k + 1, by omega, by go_num, ?_, hB2⟩, by simp [intOf]; omega⟩
        rw [Hs2.out]
        simpa [encV] using hown2
      | false =>
        have hs2 := Hsn.out
        rw [hbit, if_neg (by simp), List.append_nil] at hs2
        have Hs2 := Lib.hid hs2
        clear hs2
        go_wp2_with ((go_at_call 102; refine (has_any s k _ hs hk64).mono ?_; rintro e w' ⟨rfl, rfl⟩))
        refine ⟨⟨k + 1, by omega, by go_num, ?_, hB.alloc hzr _⟩, by simp [intOf]; omega⟩
        rw [Hs2.out]
        exact hown.alloc _
    · obtain rfl : k = f.length := by omega
      rw [List.take_of_length_le (by omega)] at hown hlen
      obtain ⟨A3, c3, rfl, _⟩ := own_slice hown
      have hrs : RS encV 2 wr wr.heap.size A3 (push.times h.area :: fullFrom s 0 f) := RS.of_own (enc := encV) (sz := 2) (fun _ => rfl) hown rfl
      have hall : ∀ v ∈ push.times h.area :: fullFrom s 0 f, VB v 10000000 := by
        intro v hv
        simp only [List.mem_cons] at hv
        rcases hv with rfl | hv
        · exact Hpt.out
        · exact (Hf.out v (fullFrom_mem _ _ _ hv)).mono (by omega)
      have hsum := sumV_vb hall
      simp only [List.length_cons] at hsum
      have HR : Hid (restM s (push.times h.area) f = (sumV (push.times h.area :: fullFrom s 0 f)).times (-1)) := rfl
      have hlg := fun k (_ : k ≤ (push.times h.area :: fullFrom s 0 f).length) => sumV_lg (q := 10000000) (by omega) (by simp only [List.length_cons]; push_cast; omega) hall k
      have Hlg := Lib.hid hlg
      have t1 : Sm (-1 * (sumV (push.times h.area :: fullFrom s 0 f)).x) := by have := hsum.1; unfold Sm; push_cast at this; omega
      have t2 : Sm (-1 * (sumV (push.times h.area :: fullFrom s 0 f)).y) := by have := hsum.2; unfold Sm; push_cast at this; omega
      have hrl : (push.times h.area :: fullFrom s 0 f).length ≤ 100 := by simp only [List.length_cons]; omega
      have kRr := kR.below hB (by omega)
      clear hsum hlg hall hown kMr m2 hlen hr
      go_wp2_with (first | (go_at_call 109; refine (sum_any A3 c3 _ _ hrs hrl Hlg.out).mono ?_; rintro e w2 ⟨rfl, hb2⟩) | (go_at_call 99; refine (times_any (sumV (push.times h.area :: fullFrom s 0 f)) (-1) _ t1 t2).mono ?_; rintro e w3 ⟨rfl, hb3⟩; have kRz := (kRr.below hb2 (by omega)).below hb3 (by have := hb2.size; omega); have q0 := kRz.cell 0; have q1 := kRz.cell 1; have q2 := kRz.frozen 0; have q3 := kRz.frozen 1; have q4 := kRz.lt; simp at q0 q1))
      have bf := (kRz.set_ 0 (.int .i64 ((sumV (push.times h.area :: fullFrom s 0 f)).times (-1)).x)).set_ 1 (.int .i64 ((sumV (push.times h.area :: fullFrom s 0 f)).times (-1)).y)
      have v0 := bf.cell 0
      have v1 := bf.cell 1
      simp at v0 v1
      refine bodyPost_ret (v := .agg #[.int .i64 ((sumV (push.times h.area :: fullFrom s 0 f)).times (-1)).x, .int .i64 ((sumV (push.times h.area :: fullFrom s 0 f)).times (-1)).y]) (by simp [results, Try.results101, go_sem, v0, v1]) rfl ⟨?_, ?_⟩
      · rw [HR.out]
      · exact (((hBw.trans (hb2.mono hBw.size)).trans (hb3.mono (by have := hBw.size; have := hb2.size; omega))).setCell (by show w.heap.size ≤ w.heap.size + 1 + 1; omega) _).setCell (by show w.heap.size ≤ w.heap.size + 1 + 1; omega) _
end Go.Proofs.Ythelogdgfhfdcaa
