import Derived.Test.YtmhnbchfmddhcaaRefC
import Derived.Test.YtmhnbchfmddhcaaMoveE

/- The ticks at which a flyer comes to a net, counted from the last one down. -/
namespace Go.Proofs.Ytmhnbchfmddhcaa
/-- The first tick from j on after which p. -/
def downT (p : Nat → Bool) (j : Nat) : Option Nat := (List.range' j (301 - j)).find? p
theorem downT_start {p : Nat → Bool} : downT p 301 = none := rfl
theorem downT_step {p : Nat → Bool} {j : Nat} (h : j ≤ 300) : downT p j = if p j then some j else downT p (j + 1) := by
  unfold downT
  rw [show 301 - j = (301 - (j + 1)) + 1 by omega, List.range'_succ, List.find?_cons]
  cases p j <;> rfl
theorem downT_all {p : Nat → Bool} : downT p 0 = firstT p := by unfold downT firstT; rw [List.range_eq_range']
def tickI (o : Option Nat) : Int := match o with | some k => (k : Int) | none => -1
theorem tickI_some {o : Option Nat} (h : o.isSome = true) : tickI o = (tickN o : Int) := by cases o <;> simp_all [tickI, tickN]
theorem low_some {f : Fly} {n : Net} (hf : f.ok = true) (hc : comesB f n = true) : (lowO f n).isSome = true := by
  obtain ⟨hp, hs, _⟩ := Fly.ok_iff.1 hf
  obtain ⟨_, p5⟩ := Bx.inside_iff.1 hp
  obtain ⟨_, s5⟩ := Bx.inside_iff.1 hs
  unfold comesB at hc
  obtain ⟨k, hk⟩ := Option.isSome_iff_exists.1 hc
  have hk1 := List.find?_some hk
  have hk2 := List.mem_of_find?_eq_some hk
  simp at hk1 hk2
  have hzz : (f.after k).z.lo ≤ (f.after k).z.hi := by
    simp only [Fly.after]
    have : (k : Int) * f.speed.z.lo ≤ k * f.speed.z.hi := Int.mul_le_mul_of_nonneg_left (by omega) (by omega)
    omega
  cases hl : lowO f n with
  | none =>
    have := (List.find?_eq_none.1 hl) k (by simpa using hk2)
    simp at this
    omega
  | some j => rfl
theorem land_ref {f : Fly} {n : Net} (hf : f.ok = true) (hc : comesB f n = true) : tickI (lowO f n) = (landR f n).lo ∧ tickI (highO f n) = (landR f n).hi := by
  unfold landR
  rw [hc]
  exact ⟨tickI_some (low_some hf hc), tickI_some hc⟩
/-- Whoever is missed: at the first tick at which the flyer is not above the net the flyer is over it, if the net takes the flyer. -/
theorem netted {f : Fly} {n : Net} (hf : f.ok = true) (ht : takesB f n = true) {x z u v : Int} (hx : f.pos.x.lo ≤ x ∧ x ≤ f.pos.x.hi) (hz : f.pos.z.lo ≤ z ∧ z ≤ f.pos.z.hi) (hu : f.speed.x.lo ≤ u ∧ u ≤ f.speed.x.hi) (hv : f.speed.z.lo ≤ v ∧ v ≤ f.speed.z.hi)
    {k : Nat} (hk : k ≤ 300) (hno : ∀ t : Nat, t < k → ¬ z + t * v - 49 * t * t ≤ n.height) (hyes : z + k * v - 49 * k * k ≤ n.height) :
    (landR f n).lo ≤ k ∧ (k : Int) ≤ (landR f n).hi ∧ n.x.lo ≤ x + k * u ∧ x + k * u ≤ n.x.hi := by
  unfold takesB at ht
  rw [Bool.and_eq_true] at ht
  obtain ⟨hc, hall⟩ := ht
  have hls := low_some hf hc
  obtain ⟨a, ha⟩ := Option.isSome_iff_exists.1 hls
  obtain ⟨b, hb⟩ := Option.isSome_iff_exists.1 (show (highO f n).isSome = true from hc)
  have hland : landR f n = ⟨(a : Int), (b : Int)⟩ := by unfold landR; rw [hc, ha, hb]; rfl
  rw [hland]
  rw [ha, hb] at hall
  have mid : ∀ t : Nat, (f.after t).z.lo ≤ z + t * v - 49 * t * t ∧ z + t * v - 49 * t * t ≤ (f.after t).z.hi := by
    intro t
    have h1 : (t : Int) * f.speed.z.lo ≤ t * v := Int.mul_le_mul_of_nonneg_left hv.1 (by omega)
    have h2 : (t : Int) * v ≤ t * f.speed.z.hi := Int.mul_le_mul_of_nonneg_left hv.2 (by omega)
    unfold Fly.after
    dsimp only
    omega
  have hak : a ≤ k := by
    refine Nat.not_lt.1 fun hlt => ?_
    have hn := first_least ha k hlt
    have := mid k
    simp at hn
    omega
  have hb1 := List.find?_some hb
  simp at hb1
  have hkb : k ≤ b := by
    refine Nat.not_lt.1 fun hlt => hno b hlt ?_
    have := mid b
    omega
  have ho : overB f n k = true := by
    unfold allFrom at hall
    rw [List.all_eq_true] at hall
    refine hall k ?_
    rw [List.mem_range'_1]
    show a ≤ k ∧ k < a + (b + 1 - a)
    omega
  unfold overB Rng.hasB Fly.after at ho
  simp only [Bool.and_eq_true, decide_eq_true_eq] at ho
  have h1 : (k : Int) * f.speed.x.lo ≤ k * u := Int.mul_le_mul_of_nonneg_left hu.1 (by omega)
  have h2 : (k : Int) * u ≤ k * f.speed.x.hi := Int.mul_le_mul_of_nonneg_left hu.2 (by omega)
  dsimp only
  omega
/-- ... and there is such a tick. -/
theorem netted_ends {f : Fly} {n : Net} (ht : takesB f n = true) {z v : Int} (hz : f.pos.z.lo ≤ z ∧ z ≤ f.pos.z.hi) (hv : f.speed.z.lo ≤ v ∧ v ≤ f.speed.z.hi) : ¬ ∀ t : Nat, t < 301 → ¬ z + t * v - 49 * t * t ≤ n.height := by
  intro hno
  unfold takesB at ht
  rw [Bool.and_eq_true] at ht
  obtain ⟨b, hb⟩ := Option.isSome_iff_exists.1 (show (highO f n).isSome = true from ht.1)
  have hb1 := List.find?_some hb
  have hb2 := List.mem_of_find?_eq_some hb
  simp at hb1 hb2
  refine hno b hb2 ?_
  have h2 : (b : Int) * v ≤ b * f.speed.z.hi := Int.mul_le_mul_of_nonneg_left hv.2 (by omega)
  unfold Fly.after at hb1
  dsimp only at hb1
  omega
end Go.Proofs.Ytmhnbchfmddhcaa
