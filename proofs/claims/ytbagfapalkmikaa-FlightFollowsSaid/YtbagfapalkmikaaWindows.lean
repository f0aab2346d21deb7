import Derived.Test.YtbagfapalkmikaaWin
import Derived.Test.YtbagfapalkmikaaProveW

/- The windows of some ticks. -/
namespace Go.Proofs.Ytbagfapalkmikaa
open Go.RowKit Go.Shelf
def goodB (f : Flt) (r : Nat) : Bool := decide (0 < (sureL f r).length)
/-- The windows in the ticks from a on, below n. -/
def winsTo (f : Flt) (a n : Nat) : List (Int × Int) := (List.range' a (n - a)).foldl (fun (ws : List (Int × Int)) r => if goodB f r then addW ws r else ws) []
theorem winsTo_start {f : Flt} {a : Nat} : winsTo f a a = [] := by unfold winsTo; rw [Nat.sub_self]; rfl
theorem winsTo_succ {f : Flt} {a n : Nat} (h : a ≤ n) : winsTo f a (n + 1) = if goodB f n then addW (winsTo f a n) n else winsTo f a n := by
  unfold winsTo
  rw [show n + 1 - a = (n - a) + 1 by omega, List.range'_concat, List.foldl_append, Nat.one_mul, show a + (n - a) = n by omega]
  rfl
theorem winsTo_len {f : Flt} {a n : Nat} (h : a ≤ n) : (winsTo f a n).length ≤ n - a := by
  obtain ⟨c, rfl⟩ := Nat.le.dest h
  clear h
  induction c with
  | zero => rw [Nat.add_zero, winsTo_start]; simp
  | succ c ih =>
    rw [show a + (c + 1) = (a + c) + 1 by omega, winsTo_succ (by omega)]
    have := addW_len (ws := winsTo f a (a + c)) (r := ((a + c : Nat) : Int))
    split <;> omega
set_option maxRecDepth 100000 in
set_option maxHeartbeats 8000000 in
theorem windows_any (g : Nat) (f : Flt) (A Ab An : Option Addr) (c cb cn : Nat) (a b : Nat) (hf : f.ok = true) (hab : a ≤ b) (hb6 : b ≤ 6000) (w : World) (hF : FolW f A c w w.heap.size g Ab An cb cn) :
    Calls Try.prog 72 #[.pointer (some ⟨g, 0, none⟩), .int .i64 a, .int .i64 b] w fun e w' => ∃ A' c', e = .returned (.slice A' (winsTo f a (b + 1)).length c') ∧ RS encW 2 w' w'.heap.size A' (winsTo f a (b + 1)) ∧ Below w.heap.size w w' := by
  have HG : Hid (∀ (r : Nat) (W : World), r ≤ 6000 → FolW f A c W W.heap.size g Ab An cb cn → Calls Try.prog 104 #[.pointer (some ⟨g, 0, none⟩), .int .i64 (r : Int)] W fun e w' => e = .returned (.bool (goodB f r)) ∧ Below W.heap.size W w') := fun r W h1 h2 => good_any g f A Ab An c cb cn r hf h1 W h2
  have HADD : Hid (∀ (v : Value) (ws : List (Int × Int)) (r : Nat) (W : World), r ≤ 6000 → ws.length ≤ 7000 → Blk W w.heap.size 94 #[v] → w.heap.size + 1 ≤ W.heap.size → W.ownsRow (w.heap.size + 1) 92 2 v ws.length (ws.flatMap encW) →
    Calls Try.prog 103 #[.int .i64 (r : Int), .pointer (some ⟨w.heap.size, 0, none⟩)] W fun e w' => ∃ u v', e = .returned u ∧ Blk w' w.heap.size 94 #[v'] ∧ w'.ownsRow (w.heap.size + 1) 92 2 v' (addW ws r).length ((addW ws r).flatMap encW) ∧ Below w.heap.size W w' ∧ W.heap.size ≤ w'.heap.size) :=
    fun v ws r W h1 h2 h3 h4 h5 => add_any w.heap.size (w.heap.size + 1) w.heap.size v ws r W ⟨by omega, by omega⟩ h2 h3 (Nat.le_refl _) (Nat.lt_succ_self _) h4 h5
  have hB0 := (Below.refl w.heap.size w).alloc (Nat.le_refl _) (.cells #[.slice none 0 0] 94)
  have kL0 := Blk.new w 94 #[.slice none 0 0]
  have HF := Lib.hid hF
  clear hf hF
  go_enter Try.func72, Try.ntmps72
  go_wp2
  go_loopw [9] (fun i wr => ∃ (n : Nat) (v : Value), a ≤ n ∧ n ≤ b + 1 ∧ i = .int .i64 n ∧ Blk wr w.heap.size 94 #[v] ∧ wr.ownsRow (w.heap.size + 1) 92 2 v (winsTo f a n).length ((winsTo f a n).flatMap encW) ∧ w.heap.size + 1 ≤ wr.heap.size ∧ Below w.heap.size w wr) (fun i _ => b + 1 - (intOf i).toNat)
  case atStart => exact ⟨a, _, Nat.le_refl _, by omega, rfl, kL0, by rw [winsTo_start]; exact World.ownsRow_nil _ _ _ _, by simp, hB0⟩
  case round =>
    obtain ⟨n, v, hn1, hn2, rfl, hL, hown, hsz, hB⟩ := hrel
    clear hB0 kL0
    by_cases hnb : n ≤ b
    case pos =>
      have hFr := Lib.hid ((HF.out.below hB (Nat.le_refl _)).more' hB.size)
      have HS := Lib.hid (winsTo_succ (f := f) (a := a) (n := n) hn1)
      have hlen := winsTo_len (f := f) (a := a) (n := n) hn1
      obtain ⟨ws, hws⟩ : ∃ ws, winsTo f a n = ws := ⟨_, rfl⟩
      rw [hws] at HS hown hlen
      have HGn : Hid (∀ W : World, FolW f A c W W.heap.size g Ab An cb cn → Calls Try.prog 104 #[.pointer (some ⟨g, 0, none⟩), .int .i64 (n : Int)] W fun e w' => e = .returned (.bool (goodB f n)) ∧ Below W.heap.size W w') := fun W h => HG.out n W (by omega) h
      have hn6 : n ≤ 6000 := by omega
      have hlw : ws.length ≤ 7000 := by omega
      obtain ⟨d, hd⟩ : ∃ d, goodB f n = d := ⟨_, rfl⟩
      rw [hd] at HGn HS
      clear hws hd hlen
      cases d
      · go_wp2_with (go_at_call 104; (with_reducible refine (HGn.out _ hFr.out).mono ?_); rintro e w1 ⟨rfl, hb1⟩)
        have hB1 := sh_next hB hb1
        go_roundw
        case rel => exact ⟨n + 1, v, by omega, by omega, by go_num, hL.below hb1 hL.lt, by rw [HS.out]; exact own_below hown hb1, Nat.le_trans hsz hb1.size, hB1⟩
        case measure => simp [intOf]; omega
      · have HADn := fun (W : World) h1 h2 h3 => HADD.out v ws n W hn6 hlw h1 h2 h3
        have HAD := Lib.hid HADn
        clear HADn
        go_wp2_with (first | (go_at_call 104; (with_reducible refine (HGn.out _ hFr.out).mono ?_); rintro e w1 ⟨rfl, hb1⟩) | (go_at_call 103; (refine (HAD.out _ (hL.below hb1 hL.lt) (Nat.le_trans hsz hb1.size) (own_below hown hb1)).mono ?_); rintro e w2 ⟨u, v2, rfl, hL2, hown2, hb2, hz2⟩))
        have hB1 := (sh_next hB hb1).trans hb2
        go_roundw
        case rel => exact ⟨n + 1, v2, by omega, by omega, by go_num, hL2, by rw [HS.out]; exact hown2, Nat.le_trans hsz (Nat.le_trans hb1.size hz2), hB1⟩
        case measure => simp [intOf]; omega
    case neg =>
      obtain rfl : n = b + 1 := by omega
      obtain ⟨A3, c3, rfl, _⟩ := own_slice hown
      have l0 := hL.cell 0
      have hll := hL.lt
      simp at l0
      have hS := RS.of_own (enc := encW) (sz := 2) encW_len hown rfl
      go_wp2
      go_ret
      exact ⟨A3, c3, rfl, hS, hB⟩
end Go.Proofs.Ytbagfapalkmikaa
