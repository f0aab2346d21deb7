import Derived.Test.YtkeicglphmnilaaSparesP
import Derived.Test.YtkeicglphmnilaaPartsA

/- The calls of the document's examples of canvas. -/
namespace Go.Proofs.Ytkeicglphmnilaa
open Go.RowKit
def badM : List Tst := soilM ++ [⟨0, 400, 320, false⟩]
def windA : List Vec := [⟨100, 0⟩, ⟨0, 100⟩]
def windB : List Vec := [⟨100, 0⟩, ⟨500, 600⟩]
def windC : List Vec := [⟨600, 0⟩]
theorem nm_Holds (A : Option Addr) (c : Nat) (w : World) (hr : RS encT 4 w w.heap.size A soilM) :
    Calls Try.prog 33 #[.slice A soilM.length c, .int .i64 1, .int .i64 700] w fun e w' => e = .returned (.tuple #[.agg #[.int .i64 0, .int .i64 10000000], .int .i64 0]) ∧ Below w.heap.size w w' := by
  have := Holds_ok A c soilM 1 700 w hr (by decide) (by decide +kernel)
  rw [show holdsM soilM 1 700 = (0, 10000000) by decide +kernel] at this
  exact this
theorem nm_Deep (A : Option Addr) (c : Nat) (w : World) (hr : RS encT 4 w w.heap.size A soilM) :
    Calls Try.prog 35 #[.slice A soilM.length c, .int .i64 0, .int .i64 900] w fun e w' => e = .returned (.tuple #[.int .i64 1125, .int .i64 0]) ∧ Below w.heap.size w w' := by
  have := Deep_any A c soilM 0 900 w hr (by decide)
  rw [show deepV soilM 0 900 = 1125 by decide +kernel, show deepE soilM 0 900 = 0 by decide +kernel] at this
  exact this
theorem nm_Deep2 (A : Option Addr) (c : Nat) (w : World) (hr : RS encT 4 w w.heap.size A soilM) :
    Calls Try.prog 35 #[.slice A soilM.length c, .int .i64 1, .int .i64 1] w fun e w' => e = .returned (.tuple #[.int .i64 0, .int .i64 7]) ∧ Below w.heap.size w w' := by
  have := Deep_any A c soilM 1 1 w hr (by decide)
  rw [show deepV soilM 1 1 = 0 by decide +kernel, show deepE soilM 1 1 = 7 by decide +kernel] at this
  exact this
theorem nm_Clash (A : Option Addr) (c : Nat) (w : World) (hr : RS encT 4 w w.heap.size A badM) :
    Calls Try.prog 36 #[.slice A 3 c] w fun e w' => e = .returned (.tuple #[.int .i64 0, .int .i64 2, .int .i64 0]) ∧ Below w.heap.size w w' := by
  have := Clash_any A c badM w hr (by decide)
  rw [show (if testsFault badM = 0 then fcI badM else 0) = 0 by decide +kernel, show (if testsFault badM = 0 then fcK badM else 0) = 2 by decide +kernel, show clashE badM = 0 by decide +kernel] at this
  exact this
theorem nm_HoldsB (A : Option Addr) (c : Nat) (w : World) (hr : RS encT 4 w w.heap.size A badM) :
    Calls Try.prog 33 #[.slice A 3 c, .int .i64 5, .int .i64 1] w fun e w' => e = .returned (.tuple #[.agg #[.int .i64 0, .int .i64 0], .int .i64 9]) ∧ Below w.heap.size w w' :=
  Holds_err A c badM 5 1 9 w hr (by decide) (by decide +kernel) (by decide)
theorem nm_Over (A : Option Addr) (c : Nat) (w : World) (ht : RH w w.heap.size A fourM) :
    Calls Try.prog 37 #[.slice A fourM.length c] w fun e w' => ∃ A1 c1, e = .returned (.tuple #[.slice A1 1 c1, .int .i64 0]) ∧ RS encI 1 w' w'.heap.size A1 [0] ∧ Below w.heap.size w w' := by
  refine (Over_ok A c fourM w ht (by decide) (by decide +kernel) (by decide) (by decide +kernel)).mono ?_
  unfold OverPost
  rw [show overM fourM fourM.length = [0] by decide +kernel]
  rintro e w' ⟨A1, c1, rfl, h1, _, _, h4⟩
  exact ⟨A1, c1, rfl, h1, h4⟩
theorem nm_Bal (A : Option Addr) (c : Nat) (A' : Option Addr) (c' : Nat) (w : World) (hr : RS encT 4 w w.heap.size A soilM) (ht : RH w w.heap.size A' fourM) :
    Calls Try.prog 24 #[.slice A soilM.length c, .slice A' fourM.length c', .int .i64 0, .agg #[.int .i64 600, .int .i64 0]] w fun e w' => ∃ A c, e = .returned (.tuple #[.agg #[.int .i64 0, .slice A 0 c], .int .i64 7]) ∧ Below w.heap.size w w' := by
  refine (Balanced_ok A c soilM A' c' fourM 0 head4 four_get ⟨600, 0⟩ f4 wk_forces w hr (by decide) ht (by decide) (by decide +kernel)).mono ?_
  unfold BalancedPost
  rw [show head4.area = 100 from rfl, show findBal (Vec.times ⟨600, 0⟩ 100) f4 = none by decide +kernel]
  rintro e w' ⟨A, c, rfl, h1, h2, h3, h4⟩
  exact ⟨A, c, rfl, h4⟩
theorem nm_Reach (A : Option Addr) (c : Nat) (A' : Option Addr) (c' : Nat) (w : World) (hr : RS encT 4 w w.heap.size A soilM) (ht : RH w w.heap.size A' fourM) :
    Calls Try.prog 40 #[.slice A soilM.length c, .slice A' fourM.length c', .int .i64 0, .agg #[.int .i64 1, .int .i64 0]] w fun e w' => e = .returned (.tuple #[.int .i64 560, .int .i64 0]) ∧ Below w.heap.size w w' := by
  have := Reach_ok A c soilM A' c' fourM 0 head4 four_get ⟨1, 0⟩ f4 wk_forces w hr (by decide) ht (by decide) (by decide +kernel)
  rw [show head4.area = 100 from rfl, show reachM 100 f4 ⟨1, 0⟩ = 560 by decide +kernel] at this
  exact this
theorem nm_ReachB (A : Option Addr) (c : Nat) (A' : Option Addr) (c' : Nat) (w : World) (hr : RS encT 4 w w.heap.size A soilM) (ht : RH w w.heap.size A' fourM) :
    Calls Try.prog 40 #[.slice A soilM.length c, .slice A' fourM.length c', .int .i64 1, .agg #[.int .i64 1, .int .i64 0]] w fun e w' => e = .returned (.tuple #[.int .i64 0, .int .i64 2]) ∧ Below w.heap.size w w' :=
  Reach_err A c soilM A' c' fourM 1 ⟨1, 0⟩ 2 (by decide) w hr (by decide) ht (by decide) (by decide +kernel)
theorem nm_Spares (A : Option Addr) (c : Nat) (A' : Option Addr) (c' : Nat) (A2 : Option Addr) (c2 : Nat) (w : World) (hr : RS encT 4 w w.heap.size A soilM) (ht : RH w w.heap.size A' fourM) (hw : RS encV 2 w w.heap.size A2 windA) :
    Calls Try.prog 41 #[.slice A soilM.length c, .slice A' fourM.length c', .slice A2 2 c2] w fun e w' => ∃ A c, e = .returned (.tuple #[.slice A soilM.length c, .int .i64 0]) ∧ RS encP 2 w' w'.heap.size A [(0, 0), (0, 1)] ∧ Below w.heap.size w w' := by
  refine (Spares_ok A c soilM A' c' fourM A2 c2 windA w hr (by decide) ht (by decide) hw (by decide) (by decide +kernel) (by decide +kernel)).mono ?_
  unfold SparesPost
  rw [show spareL soilM windA fourM = [(0, 0), (0, 1)] by decide +kernel]
  rintro e w' ⟨A, c, rfl, h1, _, _, h4⟩
  exact ⟨A, c, rfl, h1, h4⟩
theorem nm_SparesB (A : Option Addr) (c : Nat) (A' : Option Addr) (c' : Nat) (A2 : Option Addr) (c2 : Nat) (w : World) (hr : RS encT 4 w w.heap.size A soilM) (ht : RH w w.heap.size A' fourM) (hw : RS encV 2 w w.heap.size A2 windC) :
    Calls Try.prog 41 #[.slice A soilM.length c, .slice A' fourM.length c', .slice A2 1 c2] w fun e w' => e = .returned (.tuple #[.slice none 0 0, .int .i64 7]) ∧ Below w.heap.size w w' :=
  Spares_none A c soilM A' c' fourM A2 c2 windC w hr (by decide) ht (by decide) hw (by decide) (by decide +kernel) (by decide +kernel)
def wayB : Vec := wkW soilM fourM windB
theorem nm_Weakest (A : Option Addr) (c : Nat) (A' : Option Addr) (c' : Nat) (A2 : Option Addr) (c2 : Nat) (w : World) (hr : RS encT 4 w w.heap.size A soilM) (ht : RH w w.heap.size A' fourM) (hw : RS encV 2 w w.heap.size A2 windB) :
    Calls Try.prog 42 #[.slice A soilM.length c, .slice A' fourM.length c', .slice A2 2 c2] w fun e w' => e = .returned (.tuple #[.int .i64 0, .int .i64 1, .agg #[.int .i64 wayB.x, .int .i64 wayB.y], .int .i64 0]) ∧ Below w.heap.size w w' := by
  have := Weakest_ok A c soilM A' c' fourM A2 c2 windB w hr (by decide) ht (by decide) hw (by decide) (by decide +kernel)
  rw [show wkI soilM fourM windB = 0 by decide +kernel, show wkK soilM fourM windB = 1 by decide +kernel] at this
  exact this
theorem nm_PW (push way : Vec) (b : Bool) (hE : headE soilM fourM ((0 : Nat) : Int) push.corner = 0) (hb : (way.insideB 1000000 && weakInB f4 (push.times 100) way) = b) (A : Option Addr) (c : Nat) (A' : Option Addr) (c' : Nat) (w : World) (hr : RS encT 4 w w.heap.size A soilM) (ht : RH w w.heap.size A' fourM) :
    Calls Try.prog 32 #[.slice A soilM.length c, .slice A' fourM.length c', .int .i64 0, .agg #[.int .i64 push.x, .int .i64 push.y], .agg #[.int .i64 way.x, .int .i64 way.y]] w fun e w' => e = .returned (.bool b) ∧ Below w.heap.size w w' := by
  have := ProveWeak_ok A c soilM A' c' fourM 0 head4 four_get push way f4 wk_forces w hr (by decide) ht (by decide) hE
  rw [show head4.area = 100 from rfl, hb] at this
  exact this
theorem nm_PW1 (A : Option Addr) (c : Nat) (A' : Option Addr) (c' : Nat) (w : World) (hr : RS encT 4 w w.heap.size A soilM) (ht : RH w w.heap.size A' fourM) :
    Calls Try.prog 32 #[.slice A soilM.length c, .slice A' fourM.length c', .int .i64 0, .agg #[.int .i64 500, .int .i64 600], .agg #[.int .i64 wayB.x, .int .i64 wayB.y]] w fun e w' => e = .returned (.bool true) ∧ Below w.heap.size w w' := nm_PW ⟨500, 600⟩ wayB true (by decide +kernel) (by decide +kernel) A c A' c' w hr ht
theorem nm_PW2 (A : Option Addr) (c : Nat) (A' : Option Addr) (c' : Nat) (w : World) (hr : RS encT 4 w w.heap.size A soilM) (ht : RH w w.heap.size A' fourM) :
    Calls Try.prog 32 #[.slice A soilM.length c, .slice A' fourM.length c', .int .i64 0, .agg #[.int .i64 600, .int .i64 0], .agg #[.int .i64 1, .int .i64 0]] w fun e w' => e = .returned (.bool true) ∧ Below w.heap.size w w' := nm_PW ⟨600, 0⟩ ⟨1, 0⟩ true (by decide +kernel) (by decide +kernel) A c A' c' w hr ht
theorem nm_PW3 (A : Option Addr) (c : Nat) (A' : Option Addr) (c' : Nat) (w : World) (hr : RS encT 4 w w.heap.size A soilM) (ht : RH w w.heap.size A' fourM) :
    Calls Try.prog 32 #[.slice A soilM.length c, .slice A' fourM.length c', .int .i64 0, .agg #[.int .i64 560, .int .i64 0], .agg #[.int .i64 1, .int .i64 0]] w fun e w' => e = .returned (.bool false) ∧ Below w.heap.size w w' := nm_PW ⟨560, 0⟩ ⟨1, 0⟩ false (by decide +kernel) (by decide +kernel) A c A' c' w hr ht
theorem nm_PB (ps : List Int) (n : Nat) (hn : ps.length = n) (b : Bool) (hb : balByB (Vec.times ⟨-300, 100⟩ 100) f4 56 ps = b) (hpl : ps.length ≤ 12) (A : Option Addr) (c : Nat) (A' : Option Addr) (c' : Nat) (A3 : Option Addr) (c3 : Nat) (w : World) (hr : RS encT 4 w w.heap.size A soilM) (ht : RH w w.heap.size A' fourM) (hp : RS encI 1 w w.heap.size A3 ps) :
    Calls Try.prog 31 #[.slice A soilM.length c, .slice A' fourM.length c', .int .i64 0, .agg #[.int .i64 (-300), .int .i64 100], .agg #[.int .i64 56, .slice A3 n c3]] w fun e w' => e = .returned (.bool b) ∧ Below w.heap.size w w' := by
  subst hn
  have := ProveBalance_ok A c soilM A' c' fourM 0 head4 four_get ⟨-300, 100⟩ 56 A3 c3 ps f4 wk_forces w hr (by decide) ht (by decide) hp (by show _ ≤ _; unfold maxLen; omega) wk_balE
  rw [show head4.area = 100 from rfl, hb] at this
  exact this
theorem nm_b1 : balByB (Vec.times ⟨-300, 100⟩ 100) f4 56 [30, 0, 0, 10] = true := by decide +kernel
theorem nm_b2 : balByB (Vec.times ⟨-300, 100⟩ 100) f4 56 [30, 0, 0, 11] = false := by decide +kernel
theorem nm_b3 : balByB (Vec.times ⟨-300, 100⟩ 100) f4 56 [30, 0, 0] = false := by decide +kernel
theorem nm_CT (w : World) : Calls Try.prog 44 #[.slice none 0 0] w fun e w' => e = .returned (.int .i64 1) ∧ Below w.heap.size w w' := by
  have := checkTent_any none 0 [] w (.inl rfl) (by decide)
  rw [show tentE [] = 1 by decide +kernel] at this
  exact this
theorem nm_CS (A : Option Addr) (c : Nat) (w : World) (hr : RS encT 4 w w.heap.size A [⟨10, 1, 1, false⟩]) : Calls Try.prog 45 #[.slice A 1 c] w fun e w' => e = .returned (.int .i64 1) ∧ Below w.heap.size w w' := by
  have := checkTests_any A c [⟨10, 1, 1, false⟩] w hr (by decide)
  rw [show testsFault [⟨10, 1, 1, false⟩] = 1 by decide +kernel] at this
  exact this
theorem tail15 {c : Code} {F : Fence} {n : Nat} {P : Program} {Q : Exit → Act → World → Prop} {a : Act} {w : World} (S : World → Prop) (h : ∀ (v171 v172 v173 v174 v175 v176 v177 v178 v179 v180 v181 v182 v183 v184 v185 v186 v187 v188 v189 v190 v191 v192 : Value) (w' : World), S w' → Q .normal (Act.put (Act.put (Act.put (Act.put (Act.put (Act.put (Act.put (Act.put (Act.put (Act.put (Act.put (Act.put (Act.put (Act.put (Act.put (Act.put (Act.put (Act.put (Act.put (Act.put (Act.put (Act.put (Act.put a (some 171) v171) (some 172) v172) (some 173) v173) (some 174) v174) (some 175) v175) (some 176) v176) (some 177) v177) (some 178) v178) (some 179) v179) (some 180) v180) (some 181) v181) (some 182) v182) (some 183) v183) (some 184) v184) (some 185) v185) (some 186) v186) (some 187) v187) (some 188) v188) (some 189) v189) (some 190) v190) (some 191) v191) (some 192) v192) (some 193) (.bool false)) w') (k : (∀ (v171 v172 v173 v174 v175 v176 v177 v178 v179 v180 v181 v182 v183 v184 v185 v186 v187 v188 v189 v190 v191 v192 : Value) (w' : World), S w' → Q .normal (Act.put (Act.put (Act.put (Act.put (Act.put (Act.put (Act.put (Act.put (Act.put (Act.put (Act.put (Act.put (Act.put (Act.put (Act.put (Act.put (Act.put (Act.put (Act.put (Act.put (Act.put (Act.put (Act.put a (some 171) v171) (some 172) v172) (some 173) v173) (some 174) v174) (some 175) v175) (some 176) v176) (some 177) v177) (some 178) v178) (some 179) v179) (some 180) v180) (some 181) v181) (some 182) v182) (some 183) v183) (some 184) v184) (some 185) v185) (some 186) v186) (some 187) v187) (some 188) v188) (some 189) v189) (some 190) v190) (some 191) v191) (some 192) v192) (some 193) (.bool false)) w') → c.wpIn F n P Q a w) : c.wpIn F n P Q a w := k h
theorem neqRg (a b c d : Int) (w : World) : (binOp .neq 72 (.agg #[.int .i64 a, .int .i64 b]) (.agg #[.int .i64 c, .int .i64 d])).run Try.prog w = .ok (.bool (!(a == c && b == d))) w := by
  have hS : Try.prog.underlying 72 = some (.struct (Try.prog.fieldsOf 72)) := by kernel_rfl
  have hp : Try.prog.stoodInHeld 72 = false := by kernel_rfl
  have he0 : ∀ (d : Nat) (a b : Int) (w : World), (Op.equalIn (d + 1) 3 (.int .i64 a) (.int .i64 b)).run Try.prog w = .ok (a == b) w := fun d a b w => by simp [Op.equalIn]
  have he : ∀ (a b : Int) (w : World), (Op.equalIn 9999 3 (.int .i64 a) (.int .i64 b)).run Try.prog w = .ok (a == b) w := fun a b w => he0 9998 a b w
  rw [run_neq_struct, show (10000 : Nat) = 9999 + 1 from rfl, run_equalIn_agg w 9999 _ _ _ hS hp]
  simp only [Program.fieldsOf, Try.underlying72]
  go_simp
  by_cases h1 : a = c <;> by_cases h2 : b = d <;> simp [h1, h2]
theorem nwS {W : World} {A : Option Addr} (h : RS encT 4 W W.heap.size A soilM) (o : Obj) : RS encT 4 (W.alloc o) (W.alloc o).heap.size A soilM := h.to ((Below.refl _ _).alloc (Nat.le_refl _) _)
theorem nwF {W : World} {A : Option Addr} (h : RH W W.heap.size A fourM) (o : Obj) : RH (W.alloc o) (W.alloc o).heap.size A fourM := h.to ((Below.refl _ _).alloc (Nat.le_refl _) _)
end Go.Proofs.Ytkeicglphmnilaa
