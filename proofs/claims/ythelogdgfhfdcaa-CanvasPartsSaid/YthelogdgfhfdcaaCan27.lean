import Derived.Test.YthelogdgfhfdcaaCan24
import Derived.Test.YthelogdgfhfdcaaCan23
namespace Go.Proofs.Ythelogdgfhfdcaa
open Go.RowKit

theorem vecZ_iff' {v : Vec} : v = vecZ ↔ v.x = 0 ∧ v.y = 0 := by
  obtain ⟨x, y⟩ := v
  simp [vecZ]
theorem sumV_pair_lg {a b : Vec} (ha : VB a 9000000000000000000) (hs : VB (a.plus b) 9000000000000000000) (k : Nat) (hk : k ≤ 2) : Lg (sumV ([a, b].take k)).x ∧ Lg (sumV ([a, b].take k)).y := by
  unfold VB at ha hs
  have h0 : sumV [a] = a := by simp [sumV, Vec.plus, vecZ]
  rcases k with _ | _ | _ | k
  · simp [sumV, vecZ, Lg]
  · simp only [List.take_succ_cons, List.take_zero, h0]; unfold Lg; omega
  · simp only [List.take_succ_cons, List.take_zero, sumV_two]; unfold Lg; omega
  · omega
theorem sum2_any (a b : Vec) (g : Nat) (w : World) (hb : Blk w g 74 #[.int .i64 a.x, .int .i64 a.y, .int .i64 b.x, .int .i64 b.y]) (hl : ∀ k, k ≤ 2 → Lg (sumV ([a, b].take k)).x ∧ Lg (sumV ([a, b].take k)).y) :
    Calls Try.prog 109 #[.slice (some ⟨g, 0, none⟩) 2 2] w fun e w' => e = .returned (.agg #[.int .i64 (a.plus b).x, .int .i64 (a.plus b).y]) ∧ Below w.heap.size w w' := by
  have h := sum_any (some ⟨g, 0, none⟩) 2 [a, b] w (RS.of_blk (enc := encV) (sz := 2) (fun _ => rfl) hb) (by simp) hl
  rw [sumV_two] at h
  exact h
theorem everyI_r {l : List Int} {whole : Int} {r : Bool} (h : l.all (inB · 0 whole) = r) (A : Option Addr) (c : Nat) (b : Nat) (w : World) (hr : RS encI 1 w w.heap.size A l) (hl : l.length ≤ maxLen) (hb : w.cell? ⟨b, 0, none⟩ = some (.int .i64 whole)) :
    Calls Try.prog 107 #[.slice A l.length c, .func (.func 106) #[] #[.pointer (some ⟨b, 0, none⟩)]] w fun e w' => e = .returned (.bool r) ∧ w = w' := by rw [← h]; exact everyI_any A c l b whole w hr hl hb
theorem balSum_step {f : List Vec} {ps : List Int} {k : Nat} {v : Vec} {n : Int} {s : Vec} (hv : f[k]? = some v) (hn : ps[k]? = some n) :
    ((List.zip f ps).take (k + 1)).foldl plusStep s = (((List.zip f ps).take k).foldl plusStep s).plus (v.times n) := by
  have : (List.zip f ps)[k]? = some (v, n) := by rw [List.getElem?_zip_eq_some]; exact ⟨hv, hn⟩
  rw [foldl_snoc this]; rfl
theorem balSum_vb {f : List Vec} {ps : List Int} {s : Vec} (hs : VB s 5000000000000000000) (hf : ∀ v ∈ f, VB v 500000) (hp : ∀ n ∈ ps, 0 ≤ n ∧ n ≤ 500000000000) : ∀ k : Nat, k ≤ 8 → VB (((List.zip f ps).take k).foldl plusStep s) (5000000000000000000 + 250000000000000000 * k)
  | 0, _ => by simpa using hs
  | k + 1, hk => by
    have ih := balSum_vb hs hf hp k (by omega)
    by_cases hlt : k < (List.zip f ps).length
    · obtain ⟨⟨v, n⟩, hx⟩ := getElem?_lt hlt
      obtain ⟨hv, hn⟩ := List.getElem?_zip_eq_some.1 hx
      rw [balSum_step hv hn]
      have h1 := hp n (List.mem_of_getElem? hn)
      have h2 := (hf v (List.mem_of_getElem? hv)).times (n := n) (q := 500000000000) (by omega)
      unfold VB Vec.plus at *
      simp only
      omega
    · rw [List.take_of_length_le (by omega)]
      rw [List.take_of_length_le (by omega)] at ih
      exact ih.mono (by omega)

theorem balancedBy_few (h : Head) (A1 A2 A3 : Option Addr) (c1 c2 c3 : Nat) (f : List Vec) (push : Vec) (whole : Int) (ps : List Int) (w : World) (_hr : RS encV 2 w w.heap.size A1 f) (hrp : RS encI 1 w w.heap.size A3 ps) (hpl : ps.length ≤ maxLen) (hno : (inB whole 1 500000000000 && (decide (ps.length = f.length) && ps.all (inB · 0 whole))) = false) :
    Calls Try.prog 80 #[.agg #[.int .i64 h.area, .int .i64 h.bears, .slice A2 h.guys.length c2, .slice A1 f.length c1], .agg #[.int .i64 push.x, .int .i64 push.y], .agg #[.int .i64 whole, .slice A3 ps.length c3]] w fun e w' => e = .returned (.bool false) ∧ Below w.heap.size w w' := by
  have hB := (((Below.refl w.heap.size w).alloc (Nat.le_refl _) (.cells #[.int .i64 h.area, .int .i64 h.bears, .slice A2 h.guys.length c2, .slice A1 f.length c1] 137)).alloc (by simp) (.cells #[.int .i64 push.x, .int .i64 push.y] 74)).alloc (by simp <;> omega) (.cells #[.int .i64 whole, .slice A3 ps.length c3] 71)
  have hr1 := (hrp.below hB (Nat.le_refl _)).more hB.size
  have Hpl := Lib.hid hpl
  have b0 := Blk.new ((w.alloc (.cells #[.int .i64 h.area, .int .i64 h.bears, .slice A2 h.guys.length c2, .slice A1 f.length c1] 137)).alloc (.cells #[.int .i64 push.x, .int .i64 push.y] 74)) 71 #[.int .i64 whole, .slice A3 ps.length c3]
  simp only [World.size_alloc] at b0
  have z0 := b0.cell 0
  simp at z0
  unfold maxLen at hpl
  clear hrp
  cases h1 : inB whole 1 500000000000
  · go_enter Try.func80, Try.ntmps80
    go_wp2_with ((go_at_call 64; refine (within_any _ _ _ _).mono ?_; rintro e w' ⟨rfl, rfl⟩))
    go_ret
    exact ⟨rfl, hB⟩
  · by_cases h2 : ps.length = f.length
    · have h3 : ps.all (inB · 0 whole) = false := by simpa [h1, h2] using hno
      have Hall := Lib.hid h3
      have e2 : ((ps.length : Int) != (f.length : Int)) = false := by simp; omega
      have e3 : (ps.length != f.length) = false := by simp; omega
      have H2 := Lib.hid h2
      clear h2 h3 hno
      go_enter Try.func80, Try.ntmps80
      go_wp2_with (first | (go_at_call 64; refine (within_any _ _ _ _).mono ?_; rintro e w' ⟨rfl, rfl⟩) | (go_at_call 107; refine (everyI_r Hall.out A3 c3 _ _ hr1 Hpl.out z0).mono ?_; rintro e w' ⟨rfl, rfl⟩))
      go_ret
      exact ⟨rfl, hB⟩
    · have e2 : ((ps.length : Int) != (f.length : Int)) = true := by simp; omega
      have e3 : (ps.length != f.length) = true := by simp; omega
      clear h2 hno
      go_enter Try.func80, Try.ntmps80
      go_wp2_with ((go_at_call 64; refine (within_any _ _ _ _).mono ?_; rintro e w' ⟨rfl, rfl⟩))
      go_ret
      exact ⟨rfl, hB⟩
end Go.Proofs.Ythelogdgfhfdcaa
