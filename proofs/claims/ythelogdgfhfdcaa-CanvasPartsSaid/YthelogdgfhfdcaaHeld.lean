/- One condition for every region that draws its order and calls functions that make memory: below the heap's size at its begin nothing turns. -/
import Derived.Test.YthelogdgfhfdcaaLib
namespace Go.Proofs.Ythelogdgfhfdcaa
open Go.RowKit
attribute [go_sem] Instr.field asAgg

structure Named (W W0 : World) : Prop where
  cell : ∀ b o, W0.cell? ⟨b, o, none⟩ = W.cell? ⟨b, o, none⟩
  frozen : ∀ b o, W0.frozen? ⟨b, o, none⟩ = W.frozen? ⟨b, o, none⟩
  size : W0.heap.size = W.heap.size
  eq : Hid (W0 = W)
theorem name_world {motive : World → Prop} (W : World) (h : ∀ W0, Named W W0 → motive W0) : motive W := h W ⟨fun _ _ => rfl, fun _ _ => rfl, rfl, rfl⟩
theorem Named.below {W W0 a : World} {B : Nat} (h : Named W W0) (hb : Below B a W) : Below B a W0 := by rw [h.eq.out]; exact hb
theorem Named.blk {W W0 : World} {g t : Nat} {cs : Array Value} (h : Named W W0) (hb : Blk W g t cs) : Blk W0 g t cs := by rw [h.eq.out]; exact hb
theorem sh_refl (W0 : World) : (∀ b o, b < W0.heap.size → W0.drew.cell? ⟨b, o, none⟩ = W0.cell? ⟨b, o, none⟩) ∧ Below W0.heap.size W0 W0.drew := ⟨fun _ _ _ => rfl, (Below.refl _ _).drew⟩
theorem sh_of {W0 w1 : World} (h : Below W0.heap.size W0 w1) : (∀ b o, b < W0.heap.size → w1.cell? ⟨b, o, none⟩ = W0.cell? ⟨b, o, none⟩) ∧ Below W0.heap.size W0 w1 := ⟨fun b o hb => h.cell (p := ⟨b, o, none⟩) hb, h⟩
theorem sh_alloc {W0 w1 : World} (h : Below W0.heap.size W0 w1) (o : Obj) : (∀ b i, b < W0.heap.size → (w1.alloc o).cell? ⟨b, i, none⟩ = W0.cell? ⟨b, i, none⟩) ∧ Below W0.heap.size W0 (w1.alloc o) := sh_of (h.alloc h.size o)
theorem sh_next {W0 w1 w2 : World} (h : Below W0.heap.size W0 w1) (h2 : Below w1.heap.size w1 w2) : Below W0.heap.size W0 w2 := h.trans (h2.mono h.size)
theorem RS.to {α : Type} {enc : α → List Value} {sz : Nat} {W0 w1 : World} {A : Option Addr} {l : List α} (h : RS enc sz W0 W0.heap.size A l) (hb : Below W0.heap.size W0 w1) : RS enc sz w1 w1.heap.size A l := (h.below hb (Nat.le_refl _)).more hb.size
theorem quiet_l {P : Program} {f : FuncId} {args : Array Value} {w : World} {n : Nat} {v : Value}
    (h : Calls P f args (w.drewN n) fun e w' => e = .returned v ∧ w.drewN n = w') : Calls P f args (w.drewN n) fun e w'' => e = .returned v ∧ ∃ m, w'' = w.drewN m :=
  h.mono fun _ _ ⟨he, hm⟩ => ⟨he, n, hm.symm⟩
theorem quiet_al {P : Program} {f : FuncId} {args : Array Value} {w : World} {a n : Nat} {v : Value}
    (h : Calls P f args (w.drewN (a + n)) fun e w' => e = .returned v ∧ w.drewN (a + n) = w') :
    Calls P f args (w.drewN (a + n)) fun e w'' => e = .returned v ∧ ∃ m, w'' = w.drewN (a + m) :=
  h.mono fun _ _ ⟨he, hm⟩ => ⟨he, n, hm.symm⟩
theorem sh_first (W0 : World) (o : Obj) : (∀ b i, b < W0.heap.size → (W0.alloc o).drew.cell? ⟨b, i, none⟩ = W0.cell? ⟨b, i, none⟩) ∧ Below W0.heap.size W0 (W0.alloc o).drew := sh_of (((Below.refl _ W0).alloc (Nat.le_refl _) o).drew)
end Go.Proofs.Ythelogdgfhfdcaa
