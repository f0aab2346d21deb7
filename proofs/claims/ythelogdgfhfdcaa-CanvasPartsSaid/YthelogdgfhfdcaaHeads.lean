/- Heads in memory: a slice of heads, each with its own slice of guys. -/
import Derived.Test.YthelogdgfhfdcaaOwn
import Derived.Test.YthelogdgfhfdcaaMathC
namespace Go.Proofs.Ythelogdgfhfdcaa
open Go.RowKit
def encG (g : Guy) : List Value := [.int .i64 g.x, .int .i64 g.y, .int .i64 g.down, .int .i64 g.soil, .int .i64 g.depth]
def encV (v : Vec) : List Value := [.int .i64 v.x, .int .i64 v.y]
def encI (i : Int) : List Value := [.int .i64 i]
/-- The slice at A reads as the heads t; all of it lies below block B. -/
def RH (w : World) (B : Nat) (A : Option Addr) (t : List Head) : Prop :=
  t = [] ∨ ∃ b off, A = some ⟨b, off, none⟩ ∧ b < B ∧ ∀ k h, t[k]? = some h → ∃ A' c', w.cell? ⟨b, off + k * 3, none⟩ = some (.int .i64 h.area) ∧ w.cell? ⟨b, off + k * 3 + 1, none⟩ = some (.int .i64 h.bears) ∧
    w.cell? ⟨b, off + k * 3 + 2, none⟩ = some (.slice A' h.guys.length c') ∧ h.guys.length ≤ c' ∧ c' ≤ maxLen ∧ RS encG 5 w B A' h.guys
section
variable {B B' : Nat} {w w' : World} {A : Option Addr} {t : List Head}
theorem RH.at_ (h : RH w B A t) {k : Nat} {x : Head} (hk : t[k]? = some x) :
    ∃ b off A' c', A = some ⟨b, off, none⟩ ∧ b < B ∧ w.cell? ⟨b, off + k * 3, none⟩ = some (.int .i64 x.area) ∧ w.cell? ⟨b, off + k * 3 + 1, none⟩ = some (.int .i64 x.bears) ∧
    w.cell? ⟨b, off + k * 3 + 2, none⟩ = some (.slice A' x.guys.length c') ∧ x.guys.length ≤ c' ∧ c' ≤ maxLen ∧ RS encG 5 w B A' x.guys := by
  rcases h with rfl | ⟨b, off, hA, hb, hc⟩
  · simp at hk
  · obtain ⟨A', c', h⟩ := hc k x hk
    exact ⟨b, off, A', c', hA, hb, h⟩
theorem RH.below (h : RH w B A t) (hb : Below B' w w') (hB : B ≤ B') : RH w' B A t := by
  rcases h with rfl | ⟨b, off, hA, hlt, hc⟩
  · exact .inl rfl
  · refine .inr ⟨b, off, hA, hlt, fun k x hk => ?_⟩
    obtain ⟨A', c', h0, h1, h2, h3, h4, h5⟩ := hc k x hk
    have key : ∀ o, w'.cell? ⟨b, o, none⟩ = w.cell? ⟨b, o, none⟩ := fun o => hb.cell (p := ⟨b, o, none⟩) (by show b < B'; omega)
    exact ⟨A', c', (key _).trans h0, (key _).trans h1, (key _).trans h2, h3, h4, h5.below hb hB⟩
theorem RH.more (h : RH w B A t) (hB : B ≤ B') : RH w B' A t := by
  rcases h with rfl | ⟨b, off, hA, hlt, hc⟩
  · exact .inl rfl
  · refine .inr ⟨b, off, hA, by omega, fun k x hk => ?_⟩
    obtain ⟨A', c', h0, h1, h2, h3, h4, h5⟩ := hc k x hk
    exact ⟨A', c', h0, h1, h2, h3, h4, h5.more hB⟩
theorem RH.to {W0 w1 : World} (h : RH W0 W0.heap.size A t) (hb : Below W0.heap.size W0 w1) : RH w1 w1.heap.size A t := (h.below hb (Nat.le_refl _)).more hb.size
end
theorem five_cells {g : Guy} {w : World} {b o : Nat} (hc : ∀ j v, (encG g)[j]? = some v → w.cell? ⟨b, o + j, none⟩ = some v) :
    w.cell? ⟨b, o, none⟩ = some (.int .i64 g.x) ∧ w.cell? ⟨b, o + 1, none⟩ = some (.int .i64 g.y) ∧ w.cell? ⟨b, o + 2, none⟩ = some (.int .i64 g.down) ∧ w.cell? ⟨b, o + 3, none⟩ = some (.int .i64 g.soil) ∧ w.cell? ⟨b, o + 4, none⟩ = some (.int .i64 g.depth) :=
  ⟨hc 0 _ rfl, hc 1 _ rfl, hc 2 _ rfl, hc 3 _ rfl, hc 4 _ rfl⟩
end Go.Proofs.Ythelogdgfhfdcaa
