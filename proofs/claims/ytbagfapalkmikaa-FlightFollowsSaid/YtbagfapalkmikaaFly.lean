import Derived.Test.YtbagfapalkmikaaBase

/- What layer 4 says, as plain functions on integers and lists. -/
namespace Go.Proofs.Ytbagfapalkmikaa
structure Rng where
  lo : Int
  hi : Int
deriving DecidableEq
structure Bx where
  x : Rng
  z : Rng
deriving DecidableEq
structure Fly where
  pos : Bx
  speed : Bx
  mass : Int
structure Flt where
  fly : Fly
  cycle : List Bx
  reach : Int
  soft : Int
  bears : Int
  least : Int
  most : Int
structure Net where
  x : Rng
  height : Int
def Rng.inside (r : Rng) (m : Int) : Bool := decide (-m ≤ r.lo) && (decide (r.lo ≤ r.hi) && decide (r.hi ≤ m))
def Bx.inside (b : Bx) (m : Int) : Bool := b.x.inside m && b.z.inside m
def Bx.tent (b : Bx) : Bool := b.inside 10000000
def Fly.ok (f : Fly) : Bool := f.pos.tent && (f.speed.inside 10000 && inB f.mass 1 200)
def Flt.cat (f : Flt) : Bool := decide (1 ≤ f.cycle.length) && (decide (f.cycle.length ≤ 600) && (f.cycle.all Bx.tent && (inB f.reach 0 10000000 && (inB f.soft 1 100 && inB f.bears 0 100000000))))
def Flt.ok (f : Flt) : Bool := f.fly.ok && (f.cat && (inB f.least 0 300 && (inB f.most 0 300 && decide (f.least ≤ f.most))))
def Net.ok (n : Net) : Bool := n.x.inside 10000000 && inB n.height (-10000000) 10000000
def Rng.join (r o : Rng) : Rng := ⟨min r.lo o.lo, max r.hi o.hi⟩
def Rng.plus (r o : Rng) : Rng := ⟨r.lo + o.lo, r.hi + o.hi⟩
def Rng.times (r : Rng) (n : Int) : Rng := ⟨n * r.lo, n * r.hi⟩
def Rng.hasB (r o : Rng) : Bool := decide (r.lo ≤ o.lo) && decide (o.hi ≤ r.hi)
def Bx.hasB (b o : Bx) : Bool := b.x.hasB o.x && b.z.hasB o.z
/-- The box after t ticks. -/
def Fly.after (f : Fly) (t : Int) : Bx :=
  ⟨⟨f.pos.x.lo + t * f.speed.x.lo, f.pos.x.hi + t * f.speed.x.hi⟩, ⟨f.pos.z.lo + t * f.speed.z.lo - 49 * t * t, f.pos.z.hi + t * f.speed.z.hi - 49 * t * t⟩⟩
def sizeI (n : Int) : Int := max n (-n)
def Fly.fast (f : Fly) (t : Int) : Int := max (max (sizeI f.speed.x.lo) (sizeI f.speed.x.hi)) (max (sizeI (f.speed.z.lo - 98 * t)) (sizeI (f.speed.z.hi - 98 * t)))
def Flt.load (f : Flt) (t : Int) : Int := f.fly.mass * (98 + cdiv (f.fly.fast t) f.soft)
/-- All points that are near from anywhere in a box. -/
def Bx.near (b : Bx) (r : Int) : Bx := ⟨⟨b.x.hi - r, b.x.lo + r⟩, ⟨b.z.hi - r, b.z.lo + r⟩⟩
def Flt.hands (f : Flt) (n : Nat) : Bx := f.cycle[n % f.cycle.length]?.getD ⟨⟨0, 0⟩, ⟨0, 0⟩⟩
def Flt.sure (f : Flt) (r t : Nat) : Bool := decide (f.load t ≤ f.bears) && ((f.hands (r + t)).near f.reach).hasB (f.fly.after t)
/-- The ticks after letting go from Least to Most. -/
def Flt.air (f : Flt) : List Nat := List.range' f.least.toNat (f.most.toNat + 1 - f.least.toNat)
def Flt.borne (f : Flt) : List Nat := f.air.filter fun t => decide (f.load t ≤ f.bears)
def Flt.catches (f : Flt) (r : Nat) : List Nat := (f.air.filter (f.sure r)).map (r + ·)

theorem Rng.inside_iff {r : Rng} {m : Int} : r.inside m = true ↔ -m ≤ r.lo ∧ r.lo ≤ r.hi ∧ r.hi ≤ m := by simp [Rng.inside]
theorem Bx.inside_iff {b : Bx} {m : Int} : b.inside m = true ↔ (-m ≤ b.x.lo ∧ b.x.lo ≤ b.x.hi ∧ b.x.hi ≤ m) ∧ (-m ≤ b.z.lo ∧ b.z.lo ≤ b.z.hi ∧ b.z.hi ≤ m) := by simp [Bx.inside, Rng.inside_iff]
theorem Fly.ok_iff {f : Fly} : f.ok = true ↔ f.pos.inside 10000000 = true ∧ f.speed.inside 10000 = true ∧ 1 ≤ f.mass ∧ f.mass ≤ 200 := by simp [Fly.ok, Bx.tent, inB_true]
theorem Flt.ok_iff {f : Flt} : f.ok = true ↔ f.fly.ok = true ∧ (1 ≤ f.cycle.length ∧ f.cycle.length ≤ 600) ∧ (∀ b ∈ f.cycle, b.inside 10000000 = true) ∧ (0 ≤ f.reach ∧ f.reach ≤ 10000000) ∧ (1 ≤ f.soft ∧ f.soft ≤ 100) ∧ (0 ≤ f.bears ∧ f.bears ≤ 100000000) ∧ (0 ≤ f.least ∧ f.least ≤ 300) ∧ (0 ≤ f.most ∧ f.most ≤ 300) ∧ f.least ≤ f.most := by
  simp [Flt.ok, Flt.cat, Bx.tent, inB_true, and_assoc]
theorem Rng.join_eq {r o : Rng} : r.join o = r ↔ r.hasB o = true := by
  cases r; cases o
  simp [Rng.join, Rng.hasB]
  omega
theorem tickb {t : Int} {u p : Int} (ht : 0 ≤ t ∧ t ≤ 300) (hu : -p ≤ u ∧ u ≤ p) : -(300 * p) ≤ t * u ∧ t * u ≤ 300 * p := mulb (p := 300) (by omega) hu
theorem sqb {t : Int} (ht : 0 ≤ t ∧ t ≤ 300) : 0 ≤ 49 * t * t ∧ 49 * t * t ≤ 4410000 := by
  have h1 : 0 ≤ t * t := Int.mul_nonneg ht.1 ht.1
  have h2 : t * t ≤ 300 * 300 := Int.mul_le_mul ht.2 ht.2 ht.1 (by omega)
  rw [Int.mul_assoc]; omega
theorem fast_bounds {f : Fly} {t : Int} (hf : f.speed.inside 10000 = true) (ht : 0 ≤ t ∧ t ≤ 300) : 0 ≤ f.fast t ∧ f.fast t ≤ 39400 := by
  have := Bx.inside_iff.1 hf
  unfold Fly.fast sizeI
  omega
end Go.Proofs.Ytbagfapalkmikaa
