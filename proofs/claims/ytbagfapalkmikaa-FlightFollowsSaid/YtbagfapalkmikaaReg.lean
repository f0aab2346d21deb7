import Derived.Test.YtbagfapalkmikaaBase

/- Regions that draw their order, call functions that make memory, and store into one block R that lay before. -/
namespace Go.Proofs.Ytbagfapalkmikaa
open Go.RowKit
section
variable {W0 w w1 : World} {R : Nat}
theorem gr_refl (W0 : World) (R : Nat) : W0.grownBy W0.drew (some R) := ⟨rfl, rfl, rfl, Nat.le_refl _, fun _ _ _ => rfl⟩
theorem gr_cells (h : W0.grownBy w (some R)) : (∀ b o, b < W0.heap.size → b ≠ R → w.cell? ⟨b, o, none⟩ = W0.cell? ⟨b, o, none⟩) ∧ W0.grownBy w (some R) :=
  ⟨fun b o hb hr => by
    have := h.block b hb (by simpa using hr)
    simp only [World.cell?, this], h⟩
theorem gr_first (W0 : World) (R : Nat) : (∀ b o, b < W0.heap.size → b ≠ R → W0.drew.cell? ⟨b, o, none⟩ = W0.cell? ⟨b, o, none⟩) ∧ W0.grownBy W0.drew (some R) := gr_cells (gr_refl W0 R)
theorem gr_call (h : W0.grownBy w (some R)) (hb : Below w.heap.size w w1) : W0.grownBy w1 (some R) :=
  ⟨hb.os.trans h.os, hb.tape.trans h.tape, hb.output.trans h.output, Nat.le_trans h.size hb.size, fun k hk hr => (hb.block k (Nat.lt_of_lt_of_le hk h.size)).trans (h.block k hk hr)⟩
theorem gr_alloc (h : W0.grownBy w (some R)) (o : Obj) : W0.grownBy (w.alloc o) (some R) := gr_call h ((Below.refl _ w).alloc (Nat.le_refl _) o)
theorem gr_drew (h : W0.grownBy w (some R)) : W0.grownBy w.drew (some R) := ⟨h.os, h.tape, h.output, h.size, h.block⟩
theorem gr_set (h : W0.grownBy w (some R)) (i : Nat) (v : Value) : W0.grownBy (w.setCell ⟨R, i, none⟩ v) (some R) :=
  ⟨h.os, h.tape, h.output, Nat.le_trans h.size (Nat.le_of_eq (by simp)), fun k hk hr => (Below.heap_setCell _ _ _ k (fun e => hr (by rw [e]))).trans (h.block k hk hr)⟩
theorem gr_below {a : World} {B : Nat} (h : W0.grownBy w (some R)) (hb : Below B a W0) (hB : B ≤ W0.heap.size) (hR : B ≤ R) : Below B a w :=
  hb.grown h hB (fun j e => by cases e; exact hR)
end
end Go.Proofs.Ytbagfapalkmikaa
