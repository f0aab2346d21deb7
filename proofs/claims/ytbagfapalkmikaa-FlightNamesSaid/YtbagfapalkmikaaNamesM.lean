import Derived.Test.YtbagfapalkmikaaChainE
import Derived.Test.YtbagfapalkmikaaWidestE
import Derived.Test.YtbagfapalkmikaaMoveE
import Derived.Test.YtbagfapalkmikaaProveW
import Derived.Test.YtbagfapalkmikaaWakes

/- The calls of the document's examples. -/
namespace Go.Proofs.Ytbagfapalkmikaa
open Go.RowKit Go.Shelf
def farF : Flt := { leapF with reach := 100 }
theorem far_ok : farF.ok = true := by decide +kernel
/-- With one box in the cycle all releases are alike. -/
theorem sure_one {f : Flt} (h : f.cycle.length = 1) (r : Nat) : (sureL f r).length = (sureL f 0).length := by
  unfold sureL sureTo
  rw [List.length_map, List.length_map]
  congr 1
  refine List.filter_congr fun t _ => ?_
  unfold Flt.hitB Flt.hands
  rw [h, Nat.mod_one, Nat.mod_one]
theorem leap_good (r : Nat) : goodB leapF r = true := by
  unfold goodB
  rw [sure_one rfl]
  decide +kernel
theorem far_good (r : Nat) : goodB farF r = false := by
  unfold goodB
  rw [sure_one rfl]
  decide +kernel
theorem leap_wins : winsTo leapF 0 51 = [(0, 50)] := by
  have : winsTo leapF 0 51 = (List.range' 0 51).foldl (fun (ws : List (Int × Int)) (r : Nat) => addW ws r) [] := by
    unfold winsTo
    simp only [leap_good, if_true, Nat.sub_zero]
  rw [this]
  decide +kernel
theorem far_wins : winsTo farF 0 6 = [] := by
  have : winsTo farF 0 6 = (List.range' 0 6).foldl (fun (ws : List (Int × Int)) (_ : Nat) => ws) [] := by
    unfold winsTo
    simp [far_good]
  rw [this]
  rfl
theorem leap_first {b : Nat} (h : b ≤ 5000) : firstW leapF b 5 = some (b + 4) := by
  unfold firstW
  rw [findW_more (by omega) (leap_good _) (by omega), findW_more (by omega) (leap_good _) (by omega), findW_more (by omega) (leap_good _) (by omega), findW_more (by omega) (leap_good _) (by omega), findW_hit (by omega) (leap_good _) rfl]
theorem far_find : ∀ (m r run : Nat), findW farF 5 m r run = none
  | 0, _, _ => rfl
  | m + 1, r, run => by
    unfold findW
    rw [far_good]
    exact far_find m _ _
theorem leap_chain : chainOf [leapF, leapF] 5 100 = ⟨[(0, 4), (154, 158)], 0, 0⟩ := by
  unfold chainOf chainGo
  rw [leap_first (by decide)]
  show chainGo 5 100 [leapF] 1 154 [(0, 4)] = _
  unfold chainGo
  rw [leap_first (by decide)]
  rfl
theorem far_chain : chainOf [leapF, farF] 5 100 = ⟨[], 1, 7⟩ := by
  unfold chainOf chainGo
  rw [leap_first (by decide)]
  show chainGo 5 100 [farF] 1 154 [(0, 4)] = _
  unfold chainGo firstW
  rw [far_find]
theorem nm_Swing (w : World) : Calls Try.prog 50 #[.int .i64 10000, .int .i64 0] w fun e w' => e = .returned (.tuple #[.agg #[.int .i64 634, .int .i64 635], .int .i64 0]) ∧ Below w.heap.size w w' := by
  have := Swing_ok 10000 0 w (by omega) (by omega)
  rw [show swing 10000 0 = ⟨634, 635⟩ by decide +kernel] at this
  exact this
theorem nm_SwingB (w : World) : Calls Try.prog 50 #[.int .i64 0, .int .i64 0] w fun e w' => e = .returned (.tuple #[.agg #[.int .i64 0, .int .i64 0], .int .i64 2]) ∧ Below w.heap.size w w' := Swing_bad 0 0 w rfl
theorem nm_Load (A : Option Addr) (c : Nat) (w : World) (h : RS encB 4 w w.heap.size A leapF.cycle) : Calls Try.prog 18 #[.agg #[.int .i64 leapF.fly.pos.x.lo, .int .i64 leapF.fly.pos.x.hi, .int .i64 leapF.fly.pos.z.lo, .int .i64 leapF.fly.pos.z.hi, .int .i64 leapF.fly.speed.x.lo, .int .i64 leapF.fly.speed.x.hi, .int .i64 leapF.fly.speed.z.lo, .int .i64 leapF.fly.speed.z.hi, .int .i64 leapF.fly.mass, .slice A leapF.cycle.length c, .int .i64 leapF.reach, .int .i64 leapF.soft, .int .i64 leapF.bears, .int .i64 leapF.least, .int .i64 leapF.most], .int .i64 40] w fun e w' => e = .returned (.tuple #[.int .i64 23880, .int .i64 0]) ∧ Below w.heap.size w w' := by
  have := Load_ok leapF A c 40 w leap_ok h rfl
  rw [show leapF.load 40 = 23880 by decide +kernel] at this
  exact this
theorem nm_Widest (A : Option Addr) (c : Nat) (w : World) (h : RS encB 4 w w.heap.size A leapF.cycle) : Calls Try.prog 43 #[.agg #[.int .i64 leapF.fly.pos.x.lo, .int .i64 leapF.fly.pos.x.hi, .int .i64 leapF.fly.pos.z.lo, .int .i64 leapF.fly.pos.z.hi, .int .i64 leapF.fly.speed.x.lo, .int .i64 leapF.fly.speed.x.hi, .int .i64 leapF.fly.speed.z.lo, .int .i64 leapF.fly.speed.z.hi, .int .i64 leapF.fly.mass, .slice A leapF.cycle.length c, .int .i64 leapF.reach, .int .i64 leapF.soft, .int .i64 leapF.bears, .int .i64 leapF.least, .int .i64 leapF.most], .int .i64 0, .int .i64 50] w fun e w' => e = .returned (.tuple #[.agg #[.int .i64 0, .int .i64 50], .int .i64 0]) ∧ Below w.heap.size w w' := Widest_ok leapF A c 0 50 (0, 50) [] w leap_ok h (by decide) (by decide) leap_wins
theorem nm_WidestF (A : Option Addr) (c : Nat) (w : World) (h : RS encB 4 w w.heap.size A leapF.cycle) : Calls Try.prog 43 #[.agg #[.int .i64 leapF.fly.pos.x.lo, .int .i64 leapF.fly.pos.x.hi, .int .i64 leapF.fly.pos.z.lo, .int .i64 leapF.fly.pos.z.hi, .int .i64 leapF.fly.speed.x.lo, .int .i64 leapF.fly.speed.x.hi, .int .i64 leapF.fly.speed.z.lo, .int .i64 leapF.fly.speed.z.hi, .int .i64 leapF.fly.mass, .slice A leapF.cycle.length c, .int .i64 100, .int .i64 leapF.soft, .int .i64 leapF.bears, .int .i64 leapF.least, .int .i64 leapF.most], .int .i64 0, .int .i64 5] w fun e w' => e = .returned (.tuple #[.agg #[.int .i64 0, .int .i64 0], .int .i64 7]) ∧ Below w.heap.size w w' := Widest_none farF A c 0 5 w far_ok h (by decide) (by decide) far_wins
theorem nm_Landing (w : World) : Calls Try.prog 27 #[.agg #[.int .i64 leapF.fly.pos.x.lo, .int .i64 leapF.fly.pos.x.hi, .int .i64 leapF.fly.pos.z.lo, .int .i64 leapF.fly.pos.z.hi, .int .i64 leapF.fly.speed.x.lo, .int .i64 leapF.fly.speed.x.hi, .int .i64 leapF.fly.speed.z.lo, .int .i64 leapF.fly.speed.z.hi, .int .i64 leapF.fly.mass], .agg #[.int .i64 300000, .int .i64 600000, .int .i64 0]] w fun e w' => e = .returned (.tuple #[.agg #[.int .i64 124, .int .i64 124], .int .i64 0]) ∧ Below w.heap.size w w' := by
  have := Landing_ok leapF.fly netF w leap_flyer leap_net
  rw [show landR leapF.fly netF = ⟨124, 124⟩ by decide +kernel, show comesB leapF.fly netF = true by decide +kernel] at this
  exact this
theorem nm_LandingB (w : World) : Calls Try.prog 27 #[.agg #[.int .i64 leapF.fly.pos.x.lo, .int .i64 leapF.fly.pos.x.hi, .int .i64 leapF.fly.pos.z.lo, .int .i64 leapF.fly.pos.z.hi, .int .i64 leapF.fly.speed.x.lo, .int .i64 leapF.fly.speed.x.hi, .int .i64 leapF.fly.speed.z.lo, .int .i64 leapF.fly.speed.z.hi, .int .i64 leapF.fly.mass], .agg #[.int .i64 0, .int .i64 0, .int .i64 (-9000000)]] w fun e w' => e = .returned (.tuple #[.agg #[.int .i64 0, .int .i64 0], .int .i64 7]) ∧ Below w.heap.size w w' := by
  have := Landing_ok leapF.fly ⟨⟨0, 0⟩, -9000000⟩ w leap_flyer (by decide +kernel)
  rw [show landR leapF.fly ⟨⟨0, 0⟩, -9000000⟩ = ⟨0, 0⟩ by decide +kernel, show comesB leapF.fly ⟨⟨0, 0⟩, -9000000⟩ = false by decide +kernel] at this
  exact this
theorem nm_PW (A Al : Option Addr) (c cl : Nat) (l : List Int) (b : Bool) (n : Nat) (w : World) (h : RS encB 4 w w.heap.size A leapF.cycle) (hl : RS encI 1 w w.heap.size Al l) (hn : l.length = n) (hb : pwB leapF 7 8 l = b) : Calls Try.prog 41 #[.agg #[.int .i64 leapF.fly.pos.x.lo, .int .i64 leapF.fly.pos.x.hi, .int .i64 leapF.fly.pos.z.lo, .int .i64 leapF.fly.pos.z.hi, .int .i64 leapF.fly.speed.x.lo, .int .i64 leapF.fly.speed.x.hi, .int .i64 leapF.fly.speed.z.lo, .int .i64 leapF.fly.speed.z.hi, .int .i64 leapF.fly.mass, .slice A leapF.cycle.length c, .int .i64 leapF.reach, .int .i64 leapF.soft, .int .i64 leapF.bears, .int .i64 leapF.least, .int .i64 leapF.most], .agg #[.int .i64 7, .int .i64 8], .slice Al n cl] w fun e w' => e = .returned (.bool b) ∧ Below w.heap.size w w' := by
  subst hn hb
  exact ProveWindow_any leapF A Al c cl 7 8 l w (by decide) h hl
theorem nm_p1 : pwB leapF 7 8 [45, 48] = true := by decide +kernel
theorem nm_p2 : pwB leapF 7 8 [45, 49] = false := by decide +kernel
theorem nm_p3 : pwB leapF 7 8 [45] = false := by decide +kernel
theorem nm_CatchB (A : Option Addr) (c : Nat) (w : World) (h : RS encB 4 w w.heap.size A leapF.cycle) : Calls Try.prog 35 #[.agg #[.int .i64 leapF.fly.pos.x.lo, .int .i64 leapF.fly.pos.x.hi, .int .i64 leapF.fly.pos.z.lo, .int .i64 leapF.fly.pos.z.hi, .int .i64 leapF.fly.speed.x.lo, .int .i64 leapF.fly.speed.x.hi, .int .i64 leapF.fly.speed.z.lo, .int .i64 leapF.fly.speed.z.hi, .int .i64 leapF.fly.mass, .slice A leapF.cycle.length c, .int .i64 leapF.reach, .int .i64 leapF.soft, .int .i64 leapF.bears, .int .i64 leapF.least, .int .i64 leapF.most], .int .i64 (-1)] w fun e w' => e = .returned (.tuple #[.slice none 0 0, .int .i64 2]) ∧ Below w.heap.size w w' := by
  have he : tickE leapF.ok (-1) = 2 := by decide +kernel
  have := Catches_bad leapF A c (-1) w (by decide) h (by rw [he]; decide)
  rw [he] at this
  exact this
theorem nm_Check (w : World) : Calls Try.prog 23 #[.agg #[.int .i64 0, .int .i64 0, .int .i64 0, .int .i64 0, .int .i64 0, .int .i64 0, .int .i64 0, .int .i64 0, .int .i64 0, .slice none 0 0, .int .i64 0, .int .i64 0, .int .i64 0, .int .i64 0, .int .i64 0]] w fun e w' => e = .returned (.int .i64 1) ∧ Below w.heap.size w w' := by
  have := Check_any ⟨⟨⟨⟨0, 0⟩, ⟨0, 0⟩⟩, ⟨⟨0, 0⟩, ⟨0, 0⟩⟩, 0⟩, [], 0, 0, 0, 0, 0⟩ none 0 w (by decide) (.inl rfl)
  exact this
theorem nm_Chain0 (w : World) : Calls Try.prog 47 #[.slice none 0 0, .int .i64 1, .int .i64 0] w fun e w' => e = .returned (.tuple #[.slice none 0 0, .int .i64 0, .int .i64 3]) ∧ Below w.heap.size w w' := by
  have := Chain_bad none 0 [] 1 0 w ⟨.inl rfl, fun x hx => by cases hx⟩ (by decide) (fun x hx => by cases hx) (by decide)
  exact this
theorem nm_Chain1 (A1 A2 : Option Addr) (c1 c2 B : Nat) (w : World) (hB : Blk w B 50 #[.int .i64 leapF.fly.pos.x.lo, .int .i64 leapF.fly.pos.x.hi, .int .i64 leapF.fly.pos.z.lo, .int .i64 leapF.fly.pos.z.hi, .int .i64 leapF.fly.speed.x.lo, .int .i64 leapF.fly.speed.x.hi, .int .i64 leapF.fly.speed.z.lo, .int .i64 leapF.fly.speed.z.hi, .int .i64 leapF.fly.mass, .slice A1 leapF.cycle.length c1, .int .i64 leapF.reach, .int .i64 leapF.soft, .int .i64 leapF.bears, .int .i64 leapF.least, .int .i64 leapF.most, .int .i64 leapF.fly.pos.x.lo, .int .i64 leapF.fly.pos.x.hi, .int .i64 leapF.fly.pos.z.lo, .int .i64 leapF.fly.pos.z.hi, .int .i64 leapF.fly.speed.x.lo, .int .i64 leapF.fly.speed.x.hi, .int .i64 leapF.fly.speed.z.lo, .int .i64 leapF.fly.speed.z.hi, .int .i64 leapF.fly.mass, .slice A2 leapF.cycle.length c2, .int .i64 leapF.reach, .int .i64 leapF.soft, .int .i64 leapF.bears, .int .i64 leapF.least, .int .i64 leapF.most]) (h1 : RS encB 4 w w.heap.size A1 leapF.cycle) (h2 : RS encB 4 w w.heap.size A2 leapF.cycle) :
    Calls Try.prog 47 #[.slice (some ⟨B, 0, none⟩) 2 2, .int .i64 5, .int .i64 100] w fun e w' => ∃ A' c', e = .returned (.tuple #[.slice A' 2 c', .int .i64 0, .int .i64 0]) ∧ RS encW 2 w' w'.heap.size A' [(0, 4), (154, 158)] ∧ Below w.heap.size w w' := by
  have := Chain_ok (some ⟨B, 0, none⟩) 2 [⟨leapF, A1, c1⟩, ⟨leapF, A2, c2⟩] 5 100 w ⟨RS.of_blk encFA_len hB, fun x hx => by
    rcases List.mem_cons.1 hx with rfl | hx
    · exact h1
    · rw [List.mem_singleton] at hx; subst hx; exact h2⟩ (by simp) (show [leapF, leapF].all Flt.ok = true by decide +kernel) (by decide) (by decide)
  rw [show actF [(⟨leapF, A1, c1⟩ : FltA), ⟨leapF, A2, c2⟩] = [leapF, leapF] from rfl, leap_chain] at this
  exact this
theorem nm_Chain2 (A1 A2 : Option Addr) (c1 c2 B : Nat) (w : World) (hB : Blk w B 50 #[.int .i64 leapF.fly.pos.x.lo, .int .i64 leapF.fly.pos.x.hi, .int .i64 leapF.fly.pos.z.lo, .int .i64 leapF.fly.pos.z.hi, .int .i64 leapF.fly.speed.x.lo, .int .i64 leapF.fly.speed.x.hi, .int .i64 leapF.fly.speed.z.lo, .int .i64 leapF.fly.speed.z.hi, .int .i64 leapF.fly.mass, .slice A1 leapF.cycle.length c1, .int .i64 leapF.reach, .int .i64 leapF.soft, .int .i64 leapF.bears, .int .i64 leapF.least, .int .i64 leapF.most, .int .i64 leapF.fly.pos.x.lo, .int .i64 leapF.fly.pos.x.hi, .int .i64 leapF.fly.pos.z.lo, .int .i64 leapF.fly.pos.z.hi, .int .i64 leapF.fly.speed.x.lo, .int .i64 leapF.fly.speed.x.hi, .int .i64 leapF.fly.speed.z.lo, .int .i64 leapF.fly.speed.z.hi, .int .i64 leapF.fly.mass, .slice A2 leapF.cycle.length c2, .int .i64 100, .int .i64 leapF.soft, .int .i64 leapF.bears, .int .i64 leapF.least, .int .i64 leapF.most]) (h1 : RS encB 4 w w.heap.size A1 leapF.cycle) (h2 : RS encB 4 w w.heap.size A2 leapF.cycle) :
    Calls Try.prog 47 #[.slice (some ⟨B, 0, none⟩) 2 2, .int .i64 5, .int .i64 100] w fun e w' => ∃ A' c', e = .returned (.tuple #[.slice A' 0 c', .int .i64 1, .int .i64 7]) ∧ Below w.heap.size w w' := by
  have := Chain_ok (some ⟨B, 0, none⟩) 2 [⟨leapF, A1, c1⟩, ⟨farF, A2, c2⟩] 5 100 w ⟨RS.of_blk encFA_len hB, fun x hx => by
    rcases List.mem_cons.1 hx with rfl | hx
    · exact h1
    · rw [List.mem_singleton] at hx; subst hx; exact h2⟩ (by simp) (show [leapF, farF].all Flt.ok = true by decide +kernel) (by decide) (by decide)
  rw [show actF [(⟨leapF, A1, c1⟩ : FltA), ⟨farF, A2, c2⟩] = [leapF, farF] from rfl, far_chain] at this
  exact this.mono fun e w' ⟨A', c', h1, _, h3⟩ => ⟨A', c', h1, h3⟩
end Go.Proofs.Ytbagfapalkmikaa
