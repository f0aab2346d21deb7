import Derived.Test.YtbagfapalkmikaaGood
import Derived.Test.YtbagfapalkmikaaAppF

/- The windows of some ticks: how one more good release is added. -/
namespace Go.Proofs.Ytbagfapalkmikaa
open Go.RowKit Go.Shelf
def encW (p : Int × Int) : List Value := [.int .i64 p.1, .int .i64 p.2]
theorem encW_len (x : Int × Int) : (encW x).length = 2 := rfl
/-- One more good release. -/
def addW (ws : List (Int × Int)) (r : Int) : List (Int × Int) := match ws.getLast? with
  | some p => if p.2 = r - 1 then ws.dropLast ++ [(p.1, r)] else ws ++ [(r, r)]
  | none => [(r, r)]
theorem addW_nil {r : Int} : addW [] r = [(r, r)] := rfl
theorem addW_hit {ws : List (Int × Int)} {a b r : Int} (h : b = r - 1) : addW (ws ++ [(a, b)]) r = ws ++ [(a, r)] := by simp [addW, h]
theorem addW_miss {ws : List (Int × Int)} {a b r : Int} (h : ¬ b = r - 1) : addW (ws ++ [(a, b)]) r = ws ++ [(a, b)] ++ [(r, r)] := by simp [addW, h]
theorem addW_len {ws : List (Int × Int)} {r : Int} : (addW ws r).length ≤ ws.length + 1 := by
  rcases List.eq_nil_or_concat ws with rfl | ⟨l, p, rfl⟩
  · simp [addW_nil]
  · obtain ⟨a, b⟩ := p
    by_cases h : b = r - 1
    · rw [List.concat_eq_append, addW_hit h]; simp
    · rw [List.concat_eq_append, addW_miss h]; simp
theorem winFlat_len (ws : List (Int × Int)) : (ws.flatMap encW).length = ws.length * 2 := by
  induction ws with
  | nil => rfl
  | cons x ws ih => rw [List.flatMap_cons, List.length_append, ih, encW_len]; simp; omega
/-- A row of the call's own: its block and its cells. -/
theorem own_cells2 {w : World} {B : Nat} {e : TypeId} {sz n : Nat} {v : Value} {xs : List Value} (h : w.ownsRow B e sz v n xs) (hp : 0 < n) :
    ∃ g c cur, v = .slice (some ⟨g, 0, none⟩) n c ∧ B ≤ g ∧ Blk w g e cur ∧ n ≤ c ∧ c ≤ maxLen ∧ cur.size = c * sz ∧ cur.toList.take (n * sz) = xs := by
  rcases h.2 with ⟨_, rfl⟩ | ⟨g, cap, cur, hv, hg, hh, h1, h3, h4, h5⟩
  · omega
  · exact ⟨g, cap, cur, hv, hg, hh, h1, h3, h4, h5⟩
theorem own_set {w : World} {B : Nat} {e : TypeId} {sz n g c : Nat} {cur : Array Value} {xs : List Value} (hn : xs.length = n * sz) (hg : B ≤ g) (hh : Blk w g e cur) (h1 : n ≤ c) (h3 : c ≤ maxLen) (h4 : cur.size = c * sz) (h5 : cur.toList.take (n * sz) = xs) (j : Nat) (u : Value) :
    (w.setCell ⟨g, j, none⟩ u).ownsRow B e sz (.slice (some ⟨g, 0, none⟩) n c) n (xs.set j u) :=
  ⟨by rw [List.length_set]; exact hn, .inr ⟨g, c, cur.setIfInBounds j u, rfl, hg, hh.set_ j u, h1, h3, by simpa using h4, by rw [Array.toList_setIfInBounds, List.take_set, h5]⟩⟩
theorem infoWin : (Try.prog.info? 92).map (fun i => (i.zero, i.size, i.bytes)) = some (some (.agg #[.int .i64 0, .int .i64 0]), 2, 16) := by kernel_rfl

set_option linter.unusedSimpArgs false in
set_option maxRecDepth 100000 in
set_option maxHeartbeats 8000000 in
theorem add_any (gL B B0 : Nat) (v : Value) (ws : List (Int × Int)) (r : Int) (w : World) (hr : 0 ≤ r ∧ r ≤ 6000) (hws : ws.length ≤ 7000) (hL : Blk w gL 94 #[v]) (hB0 : B0 ≤ gL) (hgB : gL < B) (hB : B ≤ w.heap.size)
    (hown : w.ownsRow B 92 2 v ws.length (ws.flatMap encW)) :
    Calls Try.prog 103 #[.int .i64 r, .pointer (some ⟨gL, 0, none⟩)] w fun e w' => ∃ u v', e = .returned u ∧ Blk w' gL 94 #[v'] ∧ w'.ownsRow B 92 2 v' (addW ws r).length ((addW ws r).flatMap encW) ∧ Below B0 w w' ∧ w.heap.size ≤ w'.heap.size := by
  obtain ⟨i0, hi0, hz0, hz1, hz2⟩ := info_parts infoWin
  obtain ⟨r1, r2⟩ := hr
  obtain ⟨A, c, rfl, hnc, _⟩ := own_slice hown
  have l0 := hL.cell 0
  have lf := hL.frozen 0
  have ll := hL.lt
  simp at l0
  have hml : (8000 : Nat) ≤ maxLen := by unfold maxLen; omega
  have app : ∀ (xs : List (Int × Int)) (n : Nat) (A : Option Addr) (c : Nat), True := fun _ _ _ _ => trivial
  clear app
  rcases List.eq_nil_or_concat ws with rfl | ⟨l, p, rfl⟩
  · have hown0 := hown
    simp only [List.length_nil, List.flatMap_nil] at hown0 l0 hL
    clear hown
    go_enter Try.func103, Try.ntmps103
    go_wp2_with (at_builtin; refine wpList_append_own _ rfl _ _ 94 rfl B 92 i0 _ 2 16 Try.underlying94 hi0 hz0 hz1 hz2 rfl (by decide) _ 0 _ rfl (hown0.alloc _) ⟨w.heap.size, 0, none⟩ 1 1 [.int .i64 r, .int .i64 r] rfl rfl ?c1 ?c2 ?c3 ?c4 ?c5 ?_)
    case c1 => exact fun j u h => Blk.add (Blk.new w 92 #[.int .i64 r, .int .i64 r]) h
    case c2 => simp [Value.oneCell']
    case c3 => omega
    case c4 => omega
    case c5 => simp; omega
    intro v3 w3 hown3 hgrow3 _
    obtain ⟨g3, c3, rfl⟩ := ownsRow_succ hown3
    have hL3 := (hL.alloc (.cells #[.int .i64 r, .int .i64 r] 92)).grown hgrow3 (fun e => by have := own_base (hown0.alloc (.cells #[.int .i64 r, .int .i64 r] 92)) _ e.symm; omega)
    have hB3 := app_belowF ((Below.refl B0 w).alloc (by omega) (.cells #[.int .i64 r, .int .i64 r] 92)) (by omega) (by simp; omega) (hown0.alloc _) hgrow3
    have hsz := hB3.size
    have m0 := hL3.cell 0
    have mf := hL3.frozen 0
    have ml := hL3.lt
    simp at m0
    have hfin := hown3.kept (gr_set (grown_same w3 gL) 0 (.slice (some ⟨g3, 0, none⟩) 1 c3)) (.inr (fun e => by have := own_base hown3 _ e; omega))
    go_wp2
    go_end0
    exact ⟨_, _, rfl, hL3.set_ 0 _, by rw [addW_nil]; exact hfin, hB3.setCell (p := ⟨gL, 0, none⟩) hB0 _, by simpa using hsz⟩
  · obtain ⟨a, b⟩ := p
    rw [List.concat_eq_append] at *
    have hS := RS.of_own (enc := encW) (sz := 2) encW_len hown rfl
    obtain ⟨g, c', cur, hA, hg, hG, h1, h3, h4, h5⟩ := own_cells2 hown (by simp)
    injection hA with hA1 _ hA3
    subst hA1
    subst hA3
    obtain ⟨g2, o2, hA2, hb2, hc2⟩ := hS.at_ (k := l.length) (x := (a, b)) (by simp)
    cases hA2
    have e1 := hc2 1 (.int .i64 b) rfl
    have hfl := winFlat_len (l ++ [(a, b)])
    obtain ⟨m, hm⟩ : ∃ m, l.length = m := ⟨_, rfl⟩
    obtain ⟨n, hn⟩ : ∃ n, (l ++ [(a, b)]).length = n := ⟨_, rfl⟩
    have hnm : n = m + 1 := by rw [← hn, ← hm]; simp
    rw [hn] at hown h1 h5 hfl hws hL l0 hnc
    rw [hm] at e1
    simp only [Nat.zero_add] at e1
    have hI1 : (0 : Int) < (n : Int) := by omega
    have hI2 : (n : Int) - 1 = (m : Int) := by omega
    have hI3 : (m : Int) < (n : Int) := by omega
    have hI4 : (0 : Int) ≤ (m : Int) := by omega
    have gl := hG.lt
    have gf := hG.frozen (m * 2 + 1)
    have HM := Lib.hid hm
    have HN := Lib.hid hn
    have HNM := Lib.hid hnm
    have HFL := Lib.hid hfl
    have H5 := Lib.hid h5
    have HC2 := Lib.hid hc2
    have hne : g ≠ gL := by omega
    clear hm hn hnm hS hc2 h5 hfl
    by_cases hbr : b = r - 1
    · have HBR := Lib.hid hbr
      have hset := own_set (n := n) HFL.out hg hG h1 h3 h4 H5.out (m * 2 + 1) (.int .i64 r)
      have HSET := Lib.hid hset
      clear hset
      go_enter Try.func103, Try.ntmps103
      go_wp2
      go_end0
      refine ⟨⟨_, rfl⟩, _, hL.far (p := ⟨g, m * 2 + 1, none⟩) (by simp; omega) _, ?_, (Below.refl B0 w).setCell (p := ⟨g, m * 2 + 1, none⟩) (by show B0 ≤ g; omega) _, by simp⟩
      have hq := HSET.out
      first | rw [addW_hit HBR.out] | rw [addW_hit (b := r - 1) rfl]
      have hl2 : (l ++ [(a, r)]).length = n := by rw [← HN.out]; simp
      rw [hl2]
      have he : (l ++ [(a, r)]).flatMap encW = ((l ++ [(a, b)]).flatMap encW).set (m * 2 + 1) (.int .i64 r) := by
        have hlf : (l.flatMap encW).length = m * 2 := by rw [winFlat_len, HM.out]
        rw [List.flatMap_append, List.flatMap_append, List.set_append, if_neg (by omega), hlf, Nat.add_sub_cancel_left]
        rfl
      rw [he]
      exact hq
    · have HBR := Lib.hid hbr
      go_enter Try.func103, Try.ntmps103
      go_wp2_with (at_builtin; refine wpList_append_own _ rfl _ _ 94 rfl B 92 i0 _ 2 16 Try.underlying94 hi0 hz0 hz1 hz2 rfl (by decide) _ n _ rfl (hown.alloc _) ⟨w.heap.size, 0, none⟩ 1 1 [.int .i64 r, .int .i64 r] rfl rfl ?c1 ?c2 ?c3 ?c4 ?c5 ?_)
      try (case c1 => exact fun j u h => Blk.add (Blk.new w 92 #[.int .i64 r, .int .i64 r]) h)
      case c2 => simp [Value.oneCell']
      case c3 => omega
      case c4 => omega
      case c5 => (try simp) <;> omega
      intro v3 w3 hown3 hgrow3 _
      obtain ⟨g3, c3, rfl⟩ := ownsRow_succ hown3
      have hL3 := (hL.alloc (.cells #[.int .i64 r, .int .i64 r] 92)).grown hgrow3 (fun e => by have := own_base (hown.alloc (.cells #[.int .i64 r, .int .i64 r] 92)) _ e.symm; omega)
      have hB3 := app_belowF ((Below.refl B0 w).alloc (by omega) (.cells #[.int .i64 r, .int .i64 r] 92)) (by omega) (by simp; omega) (hown.alloc _) hgrow3
      have hsz := hB3.size
      have m0 := hL3.cell 0
      have mf := hL3.frozen 0
      have ml := hL3.lt
      simp at m0
      have hfin := hown3.kept (gr_set (grown_same w3 gL) 0 (.slice (some ⟨g3, 0, none⟩) (n + 1) c3)) (.inr (fun e => by have := own_base hown3 _ e; omega))
      have HFIN := Lib.hid hfin
      clear hfin
      go_wp2
      go_end0
      refine ⟨_, _, rfl, hL3.set_ 0 _, ?_, hB3.setCell (p := ⟨gL, 0, none⟩) hB0 _, by simpa using hsz⟩
      have hx : (l ++ [(a, b)] ++ [(r, r)]).flatMap encW = l.flatMap encW ++ (encW (a, b) ++ [.int .i64 r, .int .i64 r]) := by simp [encW]
      rw [addW_miss HBR.out, List.length_append, HN.out, hx]
      exact HFIN.out
end Go.Proofs.Ytbagfapalkmikaa
