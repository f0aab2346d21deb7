import Derived.Test.YtibaindlbpfecaaGeoD
import Derived.Test.YtibaindlbpfecaaWeak

/- What CanvasSafer leans on: a head that stands still stands with less area, with a deeper stake, with one more guy. -/
namespace Go.Proofs.Ytibaindlbpfecaa
open Go.RowKit
theorem help_nonneg (d : Vec) : ∀ f : List Vec, 0 ≤ helpM f d
  | [] => by rw [help_nil]; exact Int.le_refl _
  | a :: f => by
    rw [help_cons]
    have := help_nonneg d f
    have := Int.le_max_left 0 (-(d.dot a))
    omega
theorem bad_all {a : Int} {f : List Vec} {p : Vec} (hf : ∀ v ∈ f, VB v 500000) : badB a f p = false ↔ ∀ d : Vec, d.dot (p.times a) ≤ helpM f d := by
  rw [bad_bal hf]
  constructor
  · intro h d
    have h1 := (balancesB_iff hf).1 (by simpa using h)
    have h2 := (bal_find hf).2 h1
    cases hb : findBal (p.times a) f with
    | none => exact absurd hb h2
    | some r => exact balBy_sound (find_sound hf hb) d
  · intro h
    rw [(balancesB_iff hf).2 (fun d _ => h d)]
    rfl
theorem bad_area {a a' : Int} {f : List Vec} {p : Vec} (hf : ∀ v ∈ f, VB v 500000) (h0 : 0 ≤ a') (h1 : a' ≤ a) (h : badB a f p = false) : badB a' f p = false := by
  rw [bad_all hf] at h ⊢
  intro d
  have h2 := h d
  have h3 := help_nonneg d f
  rw [dot_times] at h2 ⊢
  by_cases hd : 0 ≤ d.dot p
  · have := Int.mul_le_mul_of_nonneg_right h1 hd
    omega
  · have := Int.mul_nonneg h0 (show 0 ≤ -(d.dot p) by omega)
    rw [Int.mul_neg] at this
    omega
theorem bad_more {a : Int} {f f' : List Vec} {p : Vec} (hf : ∀ v ∈ f, VB v 500000) (hf' : ∀ v ∈ f', VB v 500000) (hle : ∀ d, helpM f d ≤ helpM f' d) (h : badB a f p = false) : badB a f' p = false := by
  rw [bad_all hf] at h
  rw [bad_all hf']
  intro d
  exact Int.le_trans (h d) (hle d)
theorem helpM_append (d : Vec) (g : List Vec) : ∀ f : List Vec, helpM (f ++ g) d = helpM f d + helpM g d
  | [] => by rw [help_nil, List.nil_append]; omega
  | a :: f => by rw [List.cons_append, help_cons, help_cons, helpM_append d g f]; omega
theorem holds_deeper_go {soil d d' : Int} (h0 : 0 ≤ d) (hd : d ≤ d') : ∀ (l : List Tst) (r r' : Int × Int), (∀ x ∈ l, x.ok = true) → r.1 ≤ r'.1 → (l.foldl (holdsStep soil d) r).1 ≤ (l.foldl (holdsStep soil d') r').1
  | [], _, _, _, h => h
  | x :: l, r, r', hok, h => by
    rw [List.foldl_cons, List.foldl_cons]
    refine holds_deeper_go h0 hd l _ _ (fun y hy => hok y (List.mem_cons_of_mem _ hy)) ?_
    obtain ⟨_, ⟨hx1, _⟩, ⟨hx2, _⟩⟩ := Tst.ok_iff.1 (hok x List.mem_cons_self)
    unfold holdsStep
    by_cases hs : x.soil = soil
    · cases hh : x.held
      · simp [hs, h]
      · have h1 : x.force * d ≤ x.force * d' := Int.mul_le_mul_of_nonneg_left hd (by omega)
        have h2 : x.force * d / x.depth ≤ x.force * d' / x.depth := Int.ediv_le_ediv (by omega) h1
        simp only [if_pos hs, if_true]
        omega
    · simp [hs, h]
theorem holds_deeper {soil d d' : Int} (h0 : 0 ≤ d) (hd : d ≤ d') {l : List Tst} (hok : ∀ x ∈ l, x.ok = true) : (holdsM l soil d).1 ≤ (holdsM l soil d').1 := holds_deeper_go h0 hd l _ _ hok (Int.le_refl _)
theorem part_mono {l : List Tst} (hok : ∀ x ∈ l, x.ok = true) {g : Guy} (hg : g.ok = true) {d' : Int} (hd : g.depth ≤ d') : g.part l ≤ ({ g with depth := d' } : Guy).part l := by
  obtain ⟨_, _, _, _, _, ga, gb⟩ := Guy.ok_iff.1 hg
  have h1 := holds_deeper (soil := g.soil) (by omega) hd hok
  have h2 := length_bounds hg
  have h3 : 100 * (holdsM l g.soil g.depth).1 / g.length ≤ 100 * (holdsM l g.soil d').1 / g.length := Int.ediv_le_ediv (by omega) (by omega)
  show partOf _ _ ≤ partOf _ _
  unfold partOf
  show min 100 (100 * (holdsM l g.soil g.depth).1 / g.length) ≤ min 100 (100 * (holdsM l g.soil d').1 / g.length)
  omega
theorem help_deeper {l : List Tst} (hok : ∀ x ∈ l, x.ok = true) {g : Guy} (hg : g.ok = true) {d' : Int} (hd : g.depth ≤ d') (d : Vec) : max 0 (-(d.dot (g.force l))) ≤ max 0 (-(d.dot (({ g with depth := d' } : Guy).force l))) := by
  have h1 := part_mono hok hg hd
  have h2 := (part_bounds hok hg).1
  have e1 : d.dot (g.force l) = g.part l * (d.x * g.x + d.y * g.y) := by
    unfold Vec.dot Guy.force
    rw [Int.mul_add, Int.mul_left_comm, Int.mul_left_comm d.y]
  have e2 : d.dot (({ g with depth := d' } : Guy).force l) = ({ g with depth := d' } : Guy).part l * (d.x * g.x + d.y * g.y) := by
    unfold Vec.dot Guy.force
    rw [Int.mul_add, Int.mul_left_comm, Int.mul_left_comm d.y]
  rw [e1, e2]
  by_cases hs : 0 ≤ d.x * g.x + d.y * g.y
  · have := Int.mul_nonneg h2 hs
    omega
  · have := Int.mul_le_mul_of_nonneg_right h1 (show 0 ≤ -(d.x * g.x + d.y * g.y) by omega)
    rw [Int.mul_neg, Int.mul_neg] at this
    omega
theorem head_area {l : List Tst} {wind : List Vec} {h : Head} (hok : ∀ x ∈ l, x.ok = true) (hh : h.ok = true) {a' : Int} (h0 : 0 ≤ a') (h1 : a' ≤ h.area) (hs : headStands l wind h = true) : headStands l wind { h with area := a' } = true := by
  rw [headStands_iff] at hs ⊢
  have hv : ∀ v ∈ forcesM l h, VB v 500000 := forces_vb hok (Head.guys_ok hh)
  exact fun p hp => bad_area hv h0 h1 (hs p hp)
theorem help_set {f : List Vec} {j : Nat} {v u : Vec} (d : Vec) (hj : f[j]? = some v) (hle : max 0 (-(d.dot v)) ≤ max 0 (-(d.dot u))) : helpM f d ≤ helpM (f.set j u) d := by
  induction f generalizing j with
  | nil => simp at hj
  | cons a f ih =>
    cases j with
    | zero =>
      simp at hj
      subst hj
      rw [List.set_cons_zero, help_cons, help_cons]
      omega
    | succ j =>
      rw [List.set_cons_succ, help_cons, help_cons]
      have := ih (by simpa using hj)
      omega
theorem head_deeper {l : List Tst} {wind : List Vec} {h : Head} (hok : ∀ x ∈ l, x.ok = true) (hh : h.ok = true) {j : Nat} {g : Guy} (hj : h.guys[j]? = some g) {d' : Int} (hd : g.depth ≤ d') (hd3 : d' ≤ 3000) (hs : headStands l wind h = true) :
    headStands l wind { h with guys := h.guys.set j { g with depth := d' } } = true := by
  have hgs := Head.guys_ok hh
  have hg := hgs g (List.mem_of_getElem? hj)
  obtain ⟨g1, g2, g3, g4, g5, g6⟩ := Guy.ok_iff.1 hg
  have hg' : ({ g with depth := d' } : Guy).ok = true := Guy.ok_iff.2 ⟨g1, g2, g3, g4, g5, by show 1 ≤ d'; omega, hd3⟩
  have hgs' : ∀ x ∈ h.guys.set j { g with depth := d' }, x.ok = true := by
    intro x hx
    rcases List.mem_or_eq_of_mem_set hx with h1 | h1
    · exact hgs x h1
    · rw [h1]; exact hg'
  have hfs : forcesM l { h with guys := h.guys.set j { g with depth := d' } } = (forcesM l h).set j (({ g with depth := d' } : Guy).force l) := by
    show (h.guys.set j _).map _ = (h.guys.map _).set j _
    rw [List.map_set]
  have hfj : (forcesM l h)[j]? = some (g.force l) := by
    show (h.guys.map _)[j]? = _
    rw [List.getElem?_map, hj]
    rfl
  rw [headStands_iff] at hs ⊢
  intro p hp
  have hf' : ∀ v ∈ forcesM l { h with guys := h.guys.set j { g with depth := d' } }, VB v 500000 := by
    intro v hv
    obtain ⟨x, hx, rfl⟩ := List.mem_map.1 hv
    exact force_vb hok (hgs' x hx)
  refine bad_more (forces_vb hok hgs) hf' (fun d => ?_) (hs p hp)
  rw [hfs]
  exact help_set d hfj (help_deeper hok hg hd d)
theorem head_more {l : List Tst} {wind : List Vec} {h : Head} (hok : ∀ x ∈ l, x.ok = true) (hh : h.ok = true) {g : Guy} (hg : g.ok = true) (hs : headStands l wind h = true) :
    headStands l wind { h with guys := h.guys ++ [g] } = true := by
  have hgs := Head.guys_ok hh
  have hfs : forcesM l { h with guys := h.guys ++ [g] } = forcesM l h ++ [g.force l] := by
    show (h.guys ++ [g]).map _ = h.guys.map _ ++ _
    rw [List.map_append]
    rfl
  rw [headStands_iff] at hs ⊢
  intro p hp
  refine bad_more (forces_vb hok hgs) ?_ (fun d => ?_) (hs p hp)
  · intro v hv
    rw [hfs] at hv
    rcases List.mem_append.1 hv with h1 | h1
    · exact forces_vb hok hgs v h1
    · rw [List.mem_singleton.1 h1]
      exact force_vb hok hg
  · rw [hfs, helpM_append]
    have := help_nonneg d [g.force l]
    omega
theorem stands_set_head {l : List Tst} {wind : List Vec} {t : List Head} {i : Nat} {h' : Head} (hs : standsB l t wind = true) (hh : headStands l wind h' = true) : standsB l (t.set i h') wind = true := by
  unfold standsB at *
  rw [List.all_eq_true] at *
  intro x hx
  rcases List.mem_or_eq_of_mem_set hx with h1 | h1
  · exact hs x h1
  · rw [h1]
    exact hh
end Go.Proofs.Ytibaindlbpfecaa
