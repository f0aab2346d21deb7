import Derived.Test.YtibaindlbpfecaaBase
import Derived.OrdersHeld
import Derived.OrdersIn
import Derived.TacticsIn

/- A region that draws its order, inside a fence that lets every function by (the wide one, and its rounds): what yields its value in every world that meets S may be taken first. -/
namespace Go.Proofs.Ytibaindlbpfecaa
open Go.RowKit
section
variable {F : Fence} {n : Nat} {P : Program} {ops : Array Oper} {Q : Exit → Act → World → Prop} {md : Region.Mode} {S : World → Prop}

/-- No operation of the region is a defer statement. -/
def NoDefers (ops : Array Oper) : Prop := ∀ (j : Nat) (o : Oper), ops[j]? = some o → ∀ c, o.op ≠ .defer c
def plainOp (o : Oper) : Bool := match o.op with | .defer _ => false | _ => true
theorem noDefers_of {ops : Array Oper} (h : ops.toList.all plainOp = true) : NoDefers ops := fun j o ho c e => by
  have h1 := (List.all_eq_true.1 h) o (by rw [← Array.getElem?_toList] at ho; exact List.mem_of_getElem? ho)
  rw [plainOp, e] at h1
  cases h1
theorem semAt_plain {o : Oper} (h : ∀ c, o.op ≠ .defer c) (r : Option Nat) (ρ : Operand → Value) : o.semAt r ρ = execOp ρ o := by
  cases r with
  | none => rw [Oper.semAt_none]
  | some l => exact Oper.semAt_some l ρ o h

/-- The rest of a region from a state on, in whatever order, S being met behind each step. -/
def RestIn (F : Fence) (n : Nat) (P : Program) (md : Region.Mode) (ops : Array Oper) (Q : Exit → Act → World → Prop) (S : World → Prop) : Nat → Array Bool → Act → World → Prop
  | 0, L, a, w => Region.ready md ops L = [] ∧ Q .normal a w
  | k + 1, L, a, w => (Region.ready md ops L = [] → Q .normal a w) ∧ ∀ i ∈ Region.ready md ops L, wpOpIn F n P ops Q i (fun a' w' => S w' ∧ RestIn F n P md ops Q S k (L.setIfInBounds i true) a' w') a w
theorem RestIn.any : ∀ {k : Nat} {L : Array Bool} {a : Act} {w : World}, RestIn F n P md ops Q S k L a w → wpAnyIn F n P md ops Q k L a w
  | 0, _, _, _, h => h
  | _ + 1, _, _, _, h => ⟨h.1, fun i hi => wpOpIn_mono (fun _ _ h' => h'.2.any) (h.2 i hi)⟩

/-- A read is carried out. -/
theorem read_step (hall : ∀ f, F.fn f) {i : Nat} {o : Oper} {v : Value} {a : Act} {w : World} {K : Act → World → Prop} (hi : ops[i]? = some o) (hd : ∀ c, o.op ≠ .defer c) (hy : YieldsIf P ops S o v a) (hS : S w)
    (h : K (a.put o.dst v) w) : wpOpIn F n P ops Q i K a w := by
  unfold wpOpIn
  rw [hi]
  dsimp only
  rcases hy with ⟨h1, h2⟩ | ⟨h1, rfl⟩
  · rw [if_pos h1]
    refine ⟨fun f _ => hall f, ?_⟩
    rw [semAt_plain hd, h2 w hS]
    exact h
  · rw [if_neg (by rw [h1]; exact Bool.false_ne_true)]
    exact ⟨fun f _ => hall f, h⟩

/-- What a step leaves does not hang on whether a value that nobody looks at is in its slot already. -/
theorem upon_swap {o : Oper} {a : Act} {d : Option Tmp} {v : Value} {Y : Act → Prop} {K : Act → World → Prop} (hY : ∀ u, Y (a.put o.dst u)) (hYd : ∀ x u, Y ({ a with defers := x :: a.defers }.put o.dst u))
    (hc : ∀ u, (a.put d v).put o.dst u = (a.put o.dst u).put d v) (hcd : ∀ x u, ({ (a.put d v) with defers := x :: (a.put d v).defers }.put o.dst u) = ({ a with defers := x :: a.defers }.put o.dst u).put d v)
    (hQ : ∀ c w, Q (.panic c) (a.put d v) w → Q (.panic c) a w) (r : Result Next) (h : o.uponIn F n P (a.put d v) K Q r) : o.uponIn F n P a (fun a' w' => Y a' ∧ K (a'.put d v) w') Q r := by
  match r, h with
  | .ok (.value u) w', h => exact ⟨hY u, by rw [← hc]; exact h⟩
  | .ok .skip w', h => exact ⟨hY _, by rw [← hc]; exact h⟩
  | .ok (.defer x) w', h => exact ⟨hYd x _, by rw [← hcd]; exact h⟩
  | .ok (.enter f args) w', h => exact ⟨h.1, h.2.mono fun e w'' he => by
      match e, he with
      | .returned u, he => exact ⟨hY u, by rw [← hc]; exact he⟩
      | .panicked c, he => exact hQ _ _ he
      | .outgrown, he => exact he⟩
  | .ok (.row row args) w', h => exact ⟨h.1, h.2.mono fun u w'' he => ⟨hY u, by rw [← hc]; exact he⟩⟩
  | .ok (.round l f t s b) w', h => exact ⟨h.1, h.2.mono fun e w'' he => by
      match e, he with
      | .returned u, he => exact ⟨hY u, by rw [← hc]; exact he⟩
      | .panicked c, he => exact hQ _ _ he
      | .outgrown, he => exact he⟩
  | .halt (.panic x) w', h => exact hQ _ _ h

theorem step_swap {j : Nat} {oi oj : Oper} {v : Value} (hj : ops[j]? = some oj) (hd : ∀ c, oj.op ≠ .defer c) (hap : oi.apart ops oj = true) (hsi : ∀ cs b, oi.op ≠ .select cs b) (hsj : ∀ cs b, oj.op ≠ .select cs b)
    (hQ : ∀ c a w, Q (.panic c) (a.put oi.dst v) w → Q (.panic c) a w) {K : Act → World → Prop} {a : Act} {w : World} (hy : YieldsIf P ops S oi v a) (h : wpOpIn F n P ops Q j K (a.put oi.dst v) w) :
    wpOpIn F n P ops Q j (fun a' w' => YieldsIf P ops S oi v a' ∧ K (a'.put oi.dst v) w') a w := by
  obtain ⟨q1, q2, q3⟩ := Oper.apart_spec hap
  have hY : ∀ (b : Act), YieldsIf P ops S oi v b → ∀ u, YieldsIf P ops S oi v (b.put oj.dst u) := fun b hb u => hb.of_same (execOp_put oi hsi b oj.dst u q3) (wanted_put oi b oj.dst u q3)
  have hD : ∀ x, YieldsIf P ops S oi v { a with defers := x :: a.defers } := fun _ => hy.of_same rfl rfl
  unfold wpOpIn at h ⊢
  rw [hj] at h ⊢
  dsimp only at h ⊢
  rw [wanted_put oj a oi.dst v q1, about_put oj w a oi.dst v q1] at h
  by_cases hw : Region.wanted oj (yielded ops a.tmps) = true
  · rw [if_pos hw] at h ⊢
    obtain ⟨h1, h2⟩ := h
    rw [about_put oj w a oi.dst v q1] at h1
    rw [semAt_plain hd, execOp_put oj hsj a oi.dst v q1] at h2
    refine ⟨h1, ?_⟩
    rw [semAt_plain hd]
    exact upon_swap (hY a hy) (fun x u => hY _ (hD x) u) (fun u => Act.put_comm a v u q2) (fun x u => by rw [← Act.put_comm _ v u q2]; cases oi.dst <;> rfl) (fun c w => hQ c a w) _ h2
  · rw [if_neg hw] at h ⊢
    exact ⟨h.1, hY a hy _, by rw [← Act.put_comm a v undef q2]; exact h.2⟩

theorem rest_first (hall : ∀ f, F.fn f) (hnd : NoDefers ops) {i : Nat} {oi : Oper} {v : Value} (hi : ops[i]? = some oi) (hsel : ∀ (j : Nat) (o : Oper) cs b, ops[j]? = some o → o.op ≠ .select cs b) (hQ : ∀ c a w, Q (.panic c) (a.put oi.dst v) w → Q (.panic c) a w) :
    ∀ (k : Nat) (L : Array Bool) (a : Act) (w : World), (∀ j oj, ops[j]? = some oj → j ≠ i → L.getD j true = false → (∀ e ∈ oj.after, Region.binds md e = true → e.on ≠ i) → oi.apart ops oj = true) →
      i ∈ Region.ready md ops L → YieldsIf P ops S oi v a → S w → RestIn F n P md ops Q S k (L.setIfInBounds i true) (a.put oi.dst v) w → RestIn F n P md ops Q S (k + 1) L a w := by
  intro k
  induction k with
  | zero =>
    intro L a w _ hr hy hS H
    refine ⟨fun h => absurd (h ▸ hr) (by simp), fun j hj => ?_⟩
    rcases Decidable.em (j = i) with rfl | hji
    · exact read_step hall hi (hnd _ _ hi) hy hS ⟨hS, H⟩
    · exact absurd (H.1 ▸ ready_mono hj hji) (by simp)
  | succ k ih =>
    intro L a w hfr hr hy hS H
    refine ⟨fun h => absurd (h ▸ hr) (by simp), fun j hj => ?_⟩
    rcases Decidable.em (j = i) with rfl | hji
    · exact read_step hall hi (hnd _ _ hi) hy hS ⟨hS, H⟩
    · obtain ⟨hju, oj, hoj, hpre⟩ := mem_ready.1 hj
      have hni : ∀ e ∈ oj.after, Region.binds md e = true → e.on ≠ i := by
        intro e he hb heq
        have p1 := hpre e he hb
        have p0 := (mem_ready.1 hr).1
        rw [heq] at p1
        by_cases hb2 : i < L.size
        · simp [hb2] at p0 p1; rw [p0] at p1; cases p1
        · simp [Array.getElem?_eq_none (Nat.le_of_not_lt hb2)] at p1
      refine wpOpIn_mono (fun a' w' q => ⟨q.2.1, ih _ a' w' ?_ (ready_mono hr (Ne.symm hji)) q.1 q.2.1 ?_⟩)
        (step_swap hoj (hnd _ _ hoj) (hfr j oj hoj hji hju hni) (fun cs b => hsel i oi cs b hi) (fun cs b => hsel j oj cs b hoj) hQ hy (H.2 j (ready_mono hj hji)))
      · intro m om hm hmi hun hno
        refine hfr m om hm hmi ?_ hno
        rcases Decidable.em (j = m) with rfl | hjm
        · exact hju
        · rwa [getD_set_ne true hjm] at hun
      · rw [Array.setIfInBounds_comm _ _ hji]; exact q.2.2

theorem rest_take {i : Nat} {oi : Oper} {v : Value} {k : Nat} {L : Array Bool} {a : Act} {w : World} (hall : ∀ f, F.fn f) (hnd : NoDefers ops) (hi : ops[i]? = some oi) (hs : Region.noSelect ops = true) (hf : Region.free md ops L i = true)
    (hr : (Region.ready md ops L).contains i = true) (hQ : ∀ c a w, Q (.panic c) (a.put oi.dst v) w → Q (.panic c) a w) (hy : YieldsIf P ops S oi v a) (hS : S w)
    (h : RestIn F n P md ops Q S k (L.setIfInBounds i true) (a.put oi.dst v) w) : RestIn F n P md ops Q S (k + 1) L a w :=
  rest_first hall hnd hi (Region.noSelect_spec hs) hQ k L a w (Region.free_spec hi hf) (by simpa using hr) hy hS h

/-- The one operation that may come up is carried out. -/
theorem rest_one {i : Nat} {o : Oper} {k : Nat} {L : Array Bool} {a : Act} {w : World} (hr : Region.ready md ops L = [i]) (ho : ops[i]? = some o)
    (h : ∀ K' : Act → World → Prop, Hid (∀ a w, S w → (S w → RestIn F n P md ops Q S k (L.setIfInBounds i true) a w) → K' a w) → if Region.wanted o (yielded ops a.tmps) = true then Oper.wpIn F n P o a w K' Q else (∀ f, o.about P w a.eval = some f → F.fn f) ∧ K' (a.put o.dst undef) w) :
    RestIn F n P md ops Q S (k + 1) L a w := by
  refine ⟨fun h0 => absurd (hr ▸ h0) (by simp), ?_⟩
  rw [hr]
  intro j hj
  obtain rfl : j = i := by simpa using hj
  exact wpOpIn_step ho fun K' hK => h K' (fun a w hS hW => hK a w ⟨hS, hW hS⟩)
/-- Each of those that may come up. -/
def AllRest (F : Fence) (n : Nat) (P : Program) (md : Region.Mode) (ops : Array Oper) (Q : Exit → Act → World → Prop) (S : World → Prop) (k : Nat) (L : Array Bool) (a : Act) (w : World) (rs : List Nat) : Prop :=
  ∀ i ∈ rs, wpOpIn F n P ops Q i (fun a' w' => S w' ∧ RestIn F n P md ops Q S k (L.setIfInBounds i true) a' w') a w
theorem AllRest.nil {k : Nat} {L : Array Bool} {a : Act} {w : World} : AllRest F n P md ops Q S k L a w [] := fun _ h => by cases h
theorem AllRest.cons {k : Nat} {L : Array Bool} {a : Act} {w : World} {i : Nat} {o : Oper} {rs : List Nat} (ho : ops[i]? = some o)
    (h : ∀ K' : Act → World → Prop, Hid (∀ a w, S w → (S w → RestIn F n P md ops Q S k (L.setIfInBounds i true) a w) → K' a w) → if Region.wanted o (yielded ops a.tmps) = true then Oper.wpIn F n P o a w K' Q else (∀ f, o.about P w a.eval = some f → F.fn f) ∧ K' (a.put o.dst undef) w)
    (hs : AllRest F n P md ops Q S k L a w rs) : AllRest F n P md ops Q S k L a w (i :: rs) := fun j hj => by
  rcases List.mem_cons.1 hj with rfl | hj
  · exact wpOpIn_step ho fun K' hK => h K' (fun a w hS hW => hK a w ⟨hS, hW hS⟩)
  · exact hs j hj
theorem rest_ready {rs : List Nat} {k : Nat} {L : Array Bool} {a : Act} {w : World} (hr : Region.ready md ops L = rs) (hne : rs ≠ []) (h : AllRest F n P md ops Q S k L a w rs) : RestIn F n P md ops Q S (k + 1) L a w :=
  ⟨fun h0 => absurd (hr ▸ h0) hne, by rw [hr]; exact h⟩
theorem rest_done {k : Nat} {L : Array Bool} {a : Act} {w : World} (hr : Region.ready md ops L = []) (h : Q .normal a w) : RestIn F n P md ops Q S k L a w := by
  cases k with
  | zero => exact ⟨hr, h⟩
  | succ k => exact ⟨fun _ => h, by rw [hr]; intro i hi; cases hi⟩
/-- The beginning: S is shown of the world behind the draw, once, and handed on. -/
theorem region_rest {id : Nat} {a : Act} {w : World} (hm : P.follows .mixedOrders = true) (hS : S w.drew) (h : S w.drew → RestIn F n P .any ops Q S ops.size (Array.replicate ops.size false) a w.drew) : (Code.region id ops true).wpIn F n P Q a w :=
  wpIn_region_any hm (h hS).any
end
theorem all_wide (f : FuncId) : Fence.wide.fn f := trivial
theorem all_round (l : Nat) (f : FuncId) : (Fence.wide.inRound l).fn f := trivial
end Go.Proofs.Ytibaindlbpfecaa
