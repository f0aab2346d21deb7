import Derived.Test.YtbagfapalkmikaaRefE

/- What a sure catch says of any choice. -/
namespace Go.Proofs.Ytbagfapalkmikaa
theorem air_sure {f : Flt} {r : Nat} (hm : f.most ≤ 300) : airTo f r (f.most.toNat + 1 - f.least.toNat) = sureL f r := by
  unfold sureL sureTo borneL borneTo airTo
  rw [List.take_length, List.filter_map, List.map_map, List.filter_filter]
  have hb : ∀ t ∈ List.range' f.least.toNat (f.most.toNat + 1 - f.least.toNat), t ≤ 300 := by
    intro t ht
    rw [List.mem_range'_1] at ht
    omega
  have hfc : (List.range' f.least.toNat (f.most.toNat + 1 - f.least.toNat)).filter (fun a => ((fun t : Tick => f.hitB r t.1) ∘ tickAt) a && f.bornB a) = (List.range' f.least.toNat (f.most.toNat + 1 - f.least.toNat)).filter (fun t => f.sure r t) := by
    refine List.filter_congr fun t ht => ?_
    show (f.hitB r (tickAt t).1 && f.bornB t) = f.sure r t
    rw [tickAt_val (hb t ht), Bool.and_comm]
    rfl
  rw [hfc]
  refine List.map_congr_left fun t ht => ?_
  show r + t = r + (tickAt t).1
  rw [tickAt_val (hb t (List.mem_filter.1 ht).1)]
theorem mem_sure {f : Flt} {r x : Nat} (hm : f.most ≤ 300) (hn : 0 ≤ f.most) (h0 : 0 ≤ f.least) : x ∈ sureL f r ↔ ∃ t : Nat, x = r + t ∧ f.least ≤ t ∧ (t : Int) ≤ f.most ∧ f.hitB r t = true ∧ f.load t ≤ f.bears := by
  rw [← air_sure hm]
  unfold airTo
  simp only [List.mem_map, List.mem_filter, List.mem_range'_1]
  constructor
  · rintro ⟨t, ⟨⟨h1, h2⟩, h3⟩, rfl⟩
    refine ⟨t, rfl, by omega, by omega, ?_⟩
    unfold Flt.sure at h3
    rw [Bool.and_eq_true, decide_eq_true_eq] at h3
    exact ⟨h3.2, h3.1⟩
  · rintro ⟨t, rfl, h1, h2, h3, h4⟩
    refine ⟨t, ⟨⟨by omega, by omega⟩, ?_⟩, rfl⟩
    unfold Flt.sure
    rw [Bool.and_eq_true, decide_eq_true_eq]
    exact ⟨h4, h3⟩

/-- A number of a range, by a word. -/
def pickI (r : Rng) (w : Int) : Int := r.lo + w % (r.hi - r.lo + 1)
theorem pickI_in {r : Rng} {w : Int} (h : r.lo ≤ r.hi) : r.lo ≤ pickI r w ∧ pickI r w ≤ r.hi := by
  unfold pickI
  have h1 := Int.emod_nonneg w (show r.hi - r.lo + 1 ≠ 0 by omega)
  have h2 := Int.emod_lt_of_pos w (show 0 < r.hi - r.lo + 1 by omega)
  omega
theorem cdiv_mul {n s : Int} (hs : 1 ≤ s) : n ≤ cdiv n s * s := by
  have hq := Int.mul_ediv_add_emod (n + s - 1) s
  have hr := Int.emod_lt_of_pos (n + s - 1) (show 0 < s by omega)
  have e : cdiv n s * s = s * ((n + s - 1) / s) := Int.mul_comm _ _
  rw [e]
  omega
theorem hands_in {f : Flt} (hf : f.ok = true) (n : Nat) : (f.hands n).inside 10000000 = true := by
  obtain ⟨_, ⟨h1, h2⟩, hb, _⟩ := Flt.ok_iff.1 hf
  obtain ⟨b, hx⟩ : ∃ b, f.cycle[n % f.cycle.length]? = some b := getElem?_lt (Nat.mod_lt _ (by omega))
  unfold Flt.hands
  rw [hx]
  exact hb b (List.mem_of_getElem? hx)
theorem sure_air_x {f : Flt} {r t : Nat} (ht : t ≤ 300) (hit : f.hitB r t = true) {x u y : Int}
    (hx : f.fly.pos.x.lo ≤ x ∧ x ≤ f.fly.pos.x.hi) (hu : f.fly.speed.x.lo ≤ u ∧ u ≤ f.fly.speed.x.hi) (hy : (f.hands (r + t)).x.lo ≤ y ∧ y ≤ (f.hands (r + t)).x.hi) :
    sizeI (x + t * u - y) ≤ f.reach := by
  unfold Flt.hitB Bx.hasB Rng.hasB Bx.near Fly.after at hit
  simp only [Bool.and_eq_true, decide_eq_true_eq] at hit
  have h1 : (t : Int) * f.fly.speed.x.lo ≤ t * u := Int.mul_le_mul_of_nonneg_left hu.1 (by omega)
  have h2 : (t : Int) * u ≤ t * f.fly.speed.x.hi := Int.mul_le_mul_of_nonneg_left hu.2 (by omega)
  unfold sizeI
  omega
theorem sure_air_z {f : Flt} {r t : Nat} (ht : t ≤ 300) (hit : f.hitB r t = true) {x u y : Int}
    (hx : f.fly.pos.z.lo ≤ x ∧ x ≤ f.fly.pos.z.hi) (hu : f.fly.speed.z.lo ≤ u ∧ u ≤ f.fly.speed.z.hi) (hy : (f.hands (r + t)).z.lo ≤ y ∧ y ≤ (f.hands (r + t)).z.hi) :
    sizeI (x + t * u - 49 * t * t - y) ≤ f.reach := by
  unfold Flt.hitB Bx.hasB Rng.hasB Bx.near Fly.after at hit
  simp only [Bool.and_eq_true, decide_eq_true_eq] at hit
  have h1 : (t : Int) * f.fly.speed.z.lo ≤ t * u := Int.mul_le_mul_of_nonneg_left hu.1 (by omega)
  have h2 : (t : Int) * u ≤ t * f.fly.speed.z.hi := Int.mul_le_mul_of_nonneg_left hu.2 (by omega)
  obtain ⟨q, hq⟩ : ∃ q : Int, 49 * (t : Int) * t = q := ⟨_, rfl⟩
  rw [hq] at hit ⊢
  unfold sizeI
  omega
theorem sure_load {f : Flt} {t : Nat} (hf : f.ok = true) (hl : f.load t ≤ f.bears) {u v : Int}
    (hu : f.fly.speed.x.lo ≤ u ∧ u ≤ f.fly.speed.x.hi) (hv : f.fly.speed.z.lo ≤ v ∧ v ≤ f.fly.speed.z.hi) :
    f.fly.mass * 98 * f.soft + f.fly.mass * max (sizeI u) (sizeI (v - 98 * t)) ≤ f.bears * f.soft := by
  obtain ⟨hfl, _, _, _, ⟨s1, s2⟩, _, _, _, _⟩ := Flt.ok_iff.1 hf
  obtain ⟨_, _, m1, m2⟩ := Fly.ok_iff.1 hfl
  have hF : max (sizeI u) (sizeI (v - 98 * t)) ≤ f.fly.fast t := by unfold Fly.fast sizeI; omega
  obtain ⟨F, hFe⟩ : ∃ F, f.fly.fast t = F := ⟨_, rfl⟩
  obtain ⟨G, hG⟩ : ∃ G, max (sizeI u) (sizeI (v - 98 * t)) = G := ⟨_, rfl⟩
  unfold Flt.load at hl
  rw [hFe] at hl hF
  rw [hG] at hF ⊢
  have h1 : f.fly.mass * G ≤ f.fly.mass * F := Int.mul_le_mul_of_nonneg_left hF (by omega)
  have h2 : f.fly.mass * F ≤ f.fly.mass * (cdiv F f.soft * f.soft) := Int.mul_le_mul_of_nonneg_left (cdiv_mul s1) (by omega)
  have h3 : f.fly.mass * (98 + cdiv F f.soft) * f.soft ≤ f.bears * f.soft := Int.mul_le_mul_of_nonneg_right hl (by omega)
  have h4 : f.fly.mass * (98 + cdiv F f.soft) * f.soft = f.fly.mass * 98 * f.soft + f.fly.mass * (cdiv F f.soft * f.soft) := by grind
  omega

/-- A range within another one, by words. -/
def narrowI (r : Rng) (a b : Int) : Rng := ⟨r.lo + a % (r.hi - r.lo + 1), r.lo + a % (r.hi - r.lo + 1) + b % (r.hi - (r.lo + a % (r.hi - r.lo + 1)) + 1)⟩
theorem narrowI_in {r : Rng} {a b : Int} (h : r.lo ≤ r.hi) : r.lo ≤ (narrowI r a b).lo ∧ (narrowI r a b).lo ≤ (narrowI r a b).hi ∧ (narrowI r a b).hi ≤ r.hi := by
  unfold narrowI
  have h1 := Int.emod_nonneg a (show r.hi - r.lo + 1 ≠ 0 by omega)
  have h2 := Int.emod_lt_of_pos a (show 0 < r.hi - r.lo + 1 by omega)
  obtain ⟨q, hq⟩ : ∃ q, r.lo + a % (r.hi - r.lo + 1) = q := ⟨_, rfl⟩
  simp only [hq]
  have h3 := Int.emod_nonneg b (show r.hi - q + 1 ≠ 0 by omega)
  have h4 := Int.emod_lt_of_pos b (show 0 < r.hi - q + 1 by omega)
  omega
theorem hit_iff {f : Flt} {r t : Nat} : f.hitB r t = true ↔ ((f.hands (r + t)).x.hi - f.reach ≤ (f.fly.after t).x.lo ∧ (f.fly.after t).x.hi ≤ (f.hands (r + t)).x.lo + f.reach) ∧ (f.hands (r + t)).z.hi - f.reach ≤ (f.fly.after t).z.lo ∧ (f.fly.after t).z.hi ≤ (f.hands (r + t)).z.lo + f.reach := by
  unfold Flt.hitB Bx.hasB Rng.hasB Bx.near
  simp only [Bool.and_eq_true, decide_eq_true_eq]
/-- With a greater reach, with greater bears, no catch is lost. -/
theorem sure_more {f : Flt} {r : Nat} {re be : Int} (hf : f.ok = true) (h1 : f.reach ≤ re) (h2 : f.bears ≤ be) {x : Nat} (h : x ∈ sureL f r) : x ∈ sureL { f with reach := re, bears := be } r := by
  obtain ⟨_, _, _, _, _, _, ⟨l1, l2⟩, ⟨m1, m2⟩, _⟩ := Flt.ok_iff.1 hf
  rw [mem_sure m2 m1 l1] at h
  rw [mem_sure (f := { f with reach := re, bears := be }) m2 m1 l1]
  obtain ⟨t, rfl, a1, a2, a3, a4⟩ := h
  refine ⟨t, rfl, a1, a2, hit_iff.2 ?_, Int.le_trans a4 h2⟩
  have b3 := hit_iff.1 a3
  obtain ⟨H, hH⟩ : ∃ H, f.hands (r + t) = H := ⟨_, rfl⟩
  obtain ⟨B, hB⟩ : ∃ B, f.fly.after t = B := ⟨_, rfl⟩
  have e1 : ({ f with reach := re, bears := be } : Flt).hands (r + t) = H := hH
  have e2 : ({ f with reach := re, bears := be } : Flt).fly.after t = B := hB
  rw [hH, hB] at b3
  rw [e1, e2]
  show (H.x.hi - re ≤ B.x.lo ∧ B.x.hi ≤ H.x.lo + re) ∧ H.z.hi - re ≤ B.z.lo ∧ B.z.hi ≤ H.z.lo + re
  omega
/-- With smaller ranges, no catch is lost. -/
theorem sure_less {f : Flt} {g : Fly} {r : Nat} (hf : f.ok = true) (hm : g.mass = f.fly.mass) (h1 : f.fly.pos.x.lo ≤ g.pos.x.lo ∧ g.pos.x.hi ≤ f.fly.pos.x.hi) (h2 : f.fly.pos.z.lo ≤ g.pos.z.lo ∧ g.pos.z.hi ≤ f.fly.pos.z.hi)
    (h3 : f.fly.speed.x.lo ≤ g.speed.x.lo ∧ g.speed.x.hi ≤ f.fly.speed.x.hi ∧ g.speed.x.lo ≤ g.speed.x.hi) (h4 : f.fly.speed.z.lo ≤ g.speed.z.lo ∧ g.speed.z.hi ≤ f.fly.speed.z.hi ∧ g.speed.z.lo ≤ g.speed.z.hi) {x : Nat} (h : x ∈ sureL f r) : x ∈ sureL { f with fly := g } r := by
  obtain ⟨hfl, _, _, _, ⟨s1, s2⟩, _, ⟨l1, l2⟩, ⟨m1, m2⟩, _⟩ := Flt.ok_iff.1 hf
  obtain ⟨_, _, ma1, ma2⟩ := Fly.ok_iff.1 hfl
  rw [mem_sure m2 m1 l1] at h
  rw [mem_sure (f := { f with fly := g }) m2 m1 l1]
  obtain ⟨t, rfl, a1, a2, a3, a4⟩ := h
  have p1 : (t : Int) * f.fly.speed.x.lo ≤ t * g.speed.x.lo := Int.mul_le_mul_of_nonneg_left h3.1 (by omega)
  have p2 : (t : Int) * g.speed.x.hi ≤ t * f.fly.speed.x.hi := Int.mul_le_mul_of_nonneg_left h3.2.1 (by omega)
  have p3 : (t : Int) * f.fly.speed.z.lo ≤ t * g.speed.z.lo := Int.mul_le_mul_of_nonneg_left h4.1 (by omega)
  have p4 : (t : Int) * g.speed.z.hi ≤ t * f.fly.speed.z.hi := Int.mul_le_mul_of_nonneg_left h4.2.1 (by omega)
  have q1 : (f.fly.after t).x.lo ≤ (g.after t).x.lo := by simp only [Fly.after]; omega
  have q2 : (g.after t).x.hi ≤ (f.fly.after t).x.hi := by simp only [Fly.after]; omega
  have q3 : (f.fly.after t).z.lo ≤ (g.after t).z.lo := by simp only [Fly.after]; omega
  have q4 : (g.after t).z.hi ≤ (f.fly.after t).z.hi := by simp only [Fly.after]; omega
  have hF : g.fast t ≤ f.fly.fast t := by
    have w1 : sizeI g.speed.x.lo ≤ max (sizeI f.fly.speed.x.lo) (sizeI f.fly.speed.x.hi) := by unfold sizeI; omega
    have w2 : sizeI g.speed.x.hi ≤ max (sizeI f.fly.speed.x.lo) (sizeI f.fly.speed.x.hi) := by unfold sizeI; omega
    have w3 : sizeI (g.speed.z.lo - 98 * t) ≤ max (sizeI (f.fly.speed.z.lo - 98 * t)) (sizeI (f.fly.speed.z.hi - 98 * t)) := by unfold sizeI; omega
    have w4 : sizeI (g.speed.z.hi - 98 * t) ≤ max (sizeI (f.fly.speed.z.lo - 98 * t)) (sizeI (f.fly.speed.z.hi - 98 * t)) := by unfold sizeI; omega
    unfold Fly.fast
    omega
  clear p1 p2 p3 p4
  refine ⟨t, rfl, a1, a2, hit_iff.2 ?_, ?_⟩
  · have b3 := hit_iff.1 a3
    obtain ⟨H, hH⟩ : ∃ H, f.hands (r + t) = H := ⟨_, rfl⟩
    have e1 : ({ f with fly := g } : Flt).hands (r + t) = H := hH
    rw [hH] at b3
    rw [e1]
    show (H.x.hi - f.reach ≤ (g.after t).x.lo ∧ (g.after t).x.hi ≤ H.x.lo + f.reach) ∧ H.z.hi - f.reach ≤ (g.after t).z.lo ∧ (g.after t).z.hi ≤ H.z.lo + f.reach
    omega
  · have hc : cdiv (g.fast t) f.soft ≤ cdiv (f.fly.fast t) f.soft := by
      unfold cdiv
      exact Int.ediv_le_ediv (by omega) (by omega)
    refine Int.le_trans ?_ a4
    show g.mass * (98 + cdiv (g.fast t) f.soft) ≤ f.fly.mass * (98 + cdiv (f.fly.fast t) f.soft)
    rw [hm]
    exact Int.mul_le_mul_of_nonneg_left (by omega) (by omega)
end Go.Proofs.Ytbagfapalkmikaa
