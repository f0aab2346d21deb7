import Derived.Test.YtkeicglphmnilaaGreatBalA
import Derived.Test.YtkeicglphmnilaaGreatCanH

namespace Go.Proofs.YtkeicglphmnilaaGreat
open Go.RowKit

def BalAll (wh : Int) (ps : List Int) (er : Int) (w : World) (e : Ending) (w' : World) : Prop :=
  ∃ A c, e = .returned (.tuple #[.agg #[.int .i64 wh, .slice A ps.length c], .int .i64 er]) ∧ RS encI 1 w' w'.heap.size A ps ∧ ps.length ≤ c ∧ c ≤ maxLen ∧ Below w.heap.size w w' ∧ ∀ ad, A = some ad → w.heap.size ≤ ad.block
/-- What the program's balance of a head and a push is: a whole, parts and an error. -/
structure BalIs (l : List Tst) (t : List Head) (head : Int) (push : Vec) (wh : Int) (ps : List Int) (er : Int) : Prop where
  bad : headE l t head push.corner ≠ 0 → wh = 0 ∧ ps = [] ∧ er = headE l t head push.corner
  good : headE l t head push.corner = 0 → ∃ (k : Nat) (h : Head), head = k ∧ t[k]? = some h ∧ (findBal (push.times h.area) (forcesM l h)).getD (0, []) = (wh, ps) ∧ er = if (findBal (push.times h.area) (forcesM l h)).isSome then 0 else 7
theorem balIs_ex (l : List Tst) (t : List Head) (head : Int) (push : Vec) : ∃ wh ps er, BalIs l t head push wh ps er := by
  by_cases h : headE l t head push.corner = 0
  · obtain ⟨k, x, rfl, hx⟩ := headE_get h
    exact ⟨_, _, _, fun e => absurd h e, fun _ => ⟨k, x, rfl, hx, rfl, rfl⟩⟩
  · exact ⟨_, _, _, fun _ => ⟨rfl, rfl, rfl⟩, fun e => absurd e h⟩
def BalOwn (wh : Int) (ps : List Int) (er : Int) (w : World) (e : Ending) (w' : World) : Prop :=
  ∃ A c, e = .returned (.tuple #[.agg #[.int .i64 wh, .slice A ps.length c], .int .i64 er]) ∧ RSF w' w'.heap.size A ps ∧ ps.length ≤ c ∧ c ≤ maxLen ∧ Below w.heap.size w w' ∧ ∀ ad, A = some ad → w.heap.size ≤ ad.block
theorem Balanced_any {l : List Tst} {t : List Head} {head : Int} {push : Vec} {wh : Int} {ps : List Int} {er : Int} (hI : BalIs l t head push wh ps er) (A : Option Addr) (c : Nat) (A' : Option Addr) (c' : Nat) (w : World) (hr : RS encT 4 w w.heap.size A l) (hl : l.length ≤ maxLen) (ht : RH w w.heap.size A' t) (htl : t.length ≤ maxLen) :
    Calls Tryz.prog 19 #[.slice A l.length c, .slice A' t.length c', .int .i64 head, .agg #[.int .i64 push.x, .int .i64 push.y]] w (BalAll wh ps er w) := by
  by_cases h : headE l t head push.corner = 0
  · obtain ⟨k, x, rfl, hx, e1, e2⟩ := hI.good h
    have := Balanced_fr A c l A' c' t k x hx push _ rfl w hr hl ht htl h
    unfold BalancedFr at this
    rw [e1, ← e2] at this
    exact this.mono fun e w' ⟨A, c, h1, h2, h3⟩ => ⟨A, c, h1, h2.1, h3⟩
  · obtain ⟨rfl, rfl, e3⟩ := hI.bad h
    refine (Balanced_err A c l A' c' t head push er (by rw [e3]; exact h) w hr hl ht htl e3.symm).mono ?_
    rintro e w' ⟨rfl, hb⟩
    exact ⟨none, 0, rfl, .inl rfl, Nat.le_refl _, Nat.zero_le _, hb, fun ad e => by cases e⟩

theorem Balanced_own {l : List Tst} {t : List Head} {head : Int} {push : Vec} {wh : Int} {ps : List Int} {er : Int} (hI : BalIs l t head push wh ps er) (A : Option Addr) (c : Nat) (A' : Option Addr) (c' : Nat) (w : World) (hr : RS encT 4 w w.heap.size A l) (hl : l.length ≤ maxLen) (ht : RH w w.heap.size A' t) (htl : t.length ≤ maxLen) :
    Calls Tryz.prog 19 #[.slice A l.length c, .slice A' t.length c', .int .i64 head, .agg #[.int .i64 push.x, .int .i64 push.y]] w (BalOwn wh ps er w) := by
  by_cases h : headE l t head push.corner = 0
  · obtain ⟨k, x, rfl, hx, e1, e2⟩ := hI.good h
    have := Balanced_fr A c l A' c' t k x hx push _ rfl w hr hl ht htl h
    unfold BalancedFr at this
    rw [e1, ← e2] at this
    exact this
  · obtain ⟨rfl, rfl, e3⟩ := hI.bad h
    refine (Balanced_err A c l A' c' t head push er (by rw [e3]; exact h) w hr hl ht htl e3.symm).mono ?_
    rintro e w' ⟨rfl, hb⟩
    exact ⟨none, 0, rfl, RSF.nil, Nat.le_refl _, Nat.zero_le _, hb, fun ad e => by cases e⟩

theorem box_close {w1 w5 : World} {X : Nat} {A5 : Option Addr} {ps : List Int} {wh : Int} {c5 : Nat} (hb : Blk w5 X 63 #[.int .i64 0, .slice none 0 0]) (hrb : RS encI 1 w5 w5.heap.size A5 ps) (hfr : ∀ ad, A5 = some ad → ad.block ≠ X) (hB : Below w1.heap.size w1 w5) (hX : w1.heap.size ≤ X) :
    Blk ((w5.setCell ⟨X, 0, none⟩ (.int .i64 wh)).setCell ⟨X, 1, none⟩ (.slice A5 ps.length c5)) X 63 #[.int .i64 wh, .slice A5 ps.length c5] ∧
    RS encI 1 ((w5.setCell ⟨X, 0, none⟩ (.int .i64 wh)).setCell ⟨X, 1, none⟩ (.slice A5 ps.length c5)) ((w5.setCell ⟨X, 0, none⟩ (.int .i64 wh)).setCell ⟨X, 1, none⟩ (.slice A5 ps.length c5)).heap.size A5 ps ∧
    Below w1.heap.size w1 ((w5.setCell ⟨X, 0, none⟩ (.int .i64 wh)).setCell ⟨X, 1, none⟩ (.slice A5 ps.length c5)) := by
  refine ⟨?_, ?_, ?_⟩
  · have := (hb.set_ 0 (.int .i64 wh)).set_ 1 (.slice A5 ps.length c5)
    simpa using this
  · exact ((hrb.far (p := ⟨X, 0, none⟩) (fun ad e => by have := hfr ad e; dsimp only; omega) _).far (p := ⟨X, 1, none⟩) (fun ad e => by have := hfr ad e; dsimp only; omega) _).more (by simp)
  · exact (hB.setCell (p := ⟨X, 0, none⟩) (by dsimp only; omega) _).setCell (p := ⟨X, 1, none⟩) (by dsimp only; omega) _
end Go.Proofs.YtkeicglphmnilaaGreat
