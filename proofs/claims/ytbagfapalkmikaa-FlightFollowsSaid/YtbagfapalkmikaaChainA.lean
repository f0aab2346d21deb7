import Derived.Test.YtbagfapalkmikaaChainM
import Derived.Test.YtbagfapalkmikaaDecFl

/- Lists of flights in memory; whether all are valid. -/
namespace Go.Proofs.Ytbagfapalkmikaa
open Go.RowKit Go.Shelf
structure FltA where
  f : Flt
  A : Option Addr
  c : Nat
def encFA (x : FltA) : List Value := match x with
  | ⟨f, A, c⟩ => [.int .i64 f.fly.pos.x.lo, .int .i64 f.fly.pos.x.hi, .int .i64 f.fly.pos.z.lo, .int .i64 f.fly.pos.z.hi, .int .i64 f.fly.speed.x.lo, .int .i64 f.fly.speed.x.hi, .int .i64 f.fly.speed.z.lo, .int .i64 f.fly.speed.z.hi, .int .i64 f.fly.mass, .slice A f.cycle.length c, .int .i64 f.reach, .int .i64 f.soft, .int .i64 f.bears, .int .i64 f.least, .int .i64 f.most]
theorem encFA_len (x : FltA) : (encFA x).length = 15 := rfl
/-- A list of flights in memory, the boxes of each among them. -/
def ActW (w : World) (Al : Option Addr) (l : List FltA) : Prop := RS encFA 15 w w.heap.size Al l ∧ ∀ x ∈ l, RS encB 4 w w.heap.size x.A x.f.cycle
theorem ActW.to {w w1 : World} {Al : Option Addr} {l : List FltA} (h : ActW w Al l) (hb : Below w.heap.size w w1) : ActW w1 Al l := ⟨h.1.to hb, fun x hx => (h.2 x hx).to hb⟩
def actF (l : List FltA) : List Flt := l.map FltA.f
theorem actF_len (l : List FltA) : (actF l).length = l.length := by simp [actF]
theorem actF_get {l : List FltA} {k : Nat} {x : FltA} (h : l[k]? = some x) : (actF l)[k]? = some x.f := by simp [actF, h]
theorem all_bad' {α : Type} {p : α → Bool} {l : List α} {k : Nat} {x : α} (h : l[k]? = some x) (hx : p x = false) : l.all p = false := by
  rw [Bool.eq_false_iff]
  intro ha
  rw [List.all_eq_true] at ha
  have := ha x (List.mem_of_getElem? h)
  rw [hx] at this
  cases this
set_option maxRecDepth 100000 in
set_option maxHeartbeats 4000000 in
theorem everyF_any (Al : Option Addr) (cl : Nat) (l : List FltA) (w : World) (hr : ActW w Al l) (hl : l.length ≤ maxLen) (hx : ∀ x ∈ l, x.f.cycle.length ≤ maxLen) :
    Calls Try.prog 77 #[.slice Al l.length cl, .func (.func 56) #[] #[]] w fun e w' => e = .returned (.bool ((actF l).all Flt.ok)) ∧ Below w.heap.size w w' := by
  unfold maxLen at hl
  have HX := Lib.hid hx
  have HR := Lib.hid hr
  have HN := Lib.hid (actF_len l)
  clear hx hr
  go_enter Try.func77, Try.ntmps77
  go_wp2
  go_loopw [9] (fun i wr => ∃ k : Nat, k ≤ l.length ∧ i = .int .i64 k ∧ ((actF l).take k).all Flt.ok = true ∧ Below w.heap.size w wr) (fun i _ => l.length - (intOf i).toNat)
  case atStart => exact ⟨0, Nat.zero_le _, rfl, rfl, Below.refl _ _⟩
  case round =>
    obtain ⟨k, hk, rfl, hall, hB⟩ := hrel
    have Hall := Lib.hid hall
    clear hall
    by_cases hlt : k < l.length
    · obtain ⟨x, hx⟩ := getElem?_lt hlt
      have HrB := HR.out.to hB
      have hxl := HX.out x (List.mem_of_getElem? hx)
      have hxr := HrB.2 x (List.mem_of_getElem? hx)
      have Hx : Hid ((actF l)[k]? = some x.f) := actF_get hx
      obtain ⟨b, off, rfl, hb, hc⟩ := HrB.1.at_ hx
      obtain ⟨f, A, c⟩ := x
      have c0 := hc 0 _ rfl
      have c1 := hc 1 _ rfl
      have c2 := hc 2 _ rfl
      have c3 := hc 3 _ rfl
      have c4 := hc 4 _ rfl
      have c5 := hc 5 _ rfl
      have c6 := hc 6 _ rfl
      have c7 := hc 7 _ rfl
      have c8 := hc 8 _ rfl
      have c9 := hc 9 _ rfl
      have c10 := hc 10 _ rfl
      have c11 := hc 11 _ rfl
      have c12 := hc 12 _ rfl
      have c13 := hc 13 _ rfl
      have c14 := hc 14 _ rfl
      have hbz := hB.size
      simp only at hxr Hx hxl
      clear hx hc HrB
      simp only [Nat.add_zero] at c0
      have hv := fun (W : World) (h : RS encB 4 W W.heap.size A f.cycle) => flight_any f A c W h hxl
      have hxr1 := hxr.to ((Below.refl _ wr).alloc (Nat.le_refl _) (.cells #[.int .i64 f.fly.pos.x.lo, .int .i64 f.fly.pos.x.hi, .int .i64 f.fly.pos.z.lo, .int .i64 f.fly.pos.z.hi, .int .i64 f.fly.speed.x.lo, .int .i64 f.fly.speed.x.hi, .int .i64 f.fly.speed.z.lo, .int .i64 f.fly.speed.z.hi, .int .i64 f.fly.mass, .slice A f.cycle.length c, .int .i64 f.reach, .int .i64 f.soft, .int .i64 f.bears, .int .i64 f.least, .int .i64 f.most] 50))
      cases h1 : f.ok
      all_goals
        rw [h1] at hv
        have Hv := Lib.hid hv
        clear hv
        go_wp2_with (go_at_call 56; (with_reducible refine (Hv.out _ hxr1).mono ?_); rintro e w1 ⟨rfl, hb1⟩)
      · go_ret
        exact ⟨ret_bool (all_bad' Hx.out h1).symm, (hB.alloc hbz _).trans (hb1.mono (by simp; omega))⟩
      · go_roundw
        case rel => exact ⟨k + 1, by omega, by go_num, all_snoc Hx.out Hall.out h1, (hB.alloc hbz _).trans (hb1.mono (by simp; omega))⟩
        case measure => simp [intOf]; omega
    · go_wp2
      go_ret
      exact ⟨ret_bool (all_end (by rw [HN.out]; exact hlt) Hall.out).symm, hB⟩
end Go.Proofs.Ytbagfapalkmikaa

/- How the law's argument, a list of flights, is read. -/
namespace Go.Proofs.Ytbagfapalkmikaa
open Go.RowKit Go.ChangeShapes Go.WideShapes Go.ChangeAt Go.Deep
theorem RS.mapped {α β : Type} {enc : β → List Value} {g : α → β} {sz : Nat} {w : World} {B : Nat} {A : Option Addr} {l : List α} (h : RS (fun x => enc (g x)) sz w B A l) : RS enc sz w B A (l.map g) := by
  rcases h with rfl | ⟨b, off, hA, hb, hc⟩
  · exact .inl rfl
  · refine .inr ⟨b, off, hA, hb, fun k x hk j v hv => ?_⟩
    rw [List.getElem?_map] at hk
    cases hy : l[k]? with
    | none => rw [hy] at hk; cases hk
    | some y =>
      rw [hy] at hk
      cases hk
      exact hc k y hy j v hv
section
variable {H : Type} {enc : TypeId × Value → H} {W : World} {base : Nat}
set_option maxRecDepth 100000 in
theorem open_act {v : Value} {d : DataW H} {p : List MemPlace} (hv : Value.okWide Try.prog W .any base 103 v) (h : DataW.Trod enc Try.prog W 0 (fun _ => true) true 103 v d p) :
    ∃ (Al : Option Addr) (cl : Nat) (l : List FltA), v = .slice Al l.length cl ∧ ActW W Al l ∧ l.length ≤ maxLen ∧ ∀ x ∈ l, x.f.cycle.length ≤ maxLen := by
  obtain ⟨Al, cl, l, rfl, h1, h2, h3⟩ := open_rows (α := { x : FltA // RS encB 4 W W.heap.size x.A x.f.cycle ∧ x.f.cycle.length ≤ maxLen }) (fun x => encFA x.1) (sz := 15) (by decide) (fun _ => rfl) Try.underlying103 cellsX hv h (fun n cs x h => by
    obtain ⟨f, A, c, hcs, hr, hl, hm⟩ := dec_flight _ _ _ h
    exact ⟨⟨⟨f, A, c⟩, hr, Nat.le_trans hl hm⟩, hcs⟩)
  refine ⟨Al, cl, l.map Subtype.val, by rw [List.length_map], ⟨RS.mapped h1, ?_⟩, by rw [List.length_map]; omega, ?_⟩
  · intro x hx
    obtain ⟨y, _, rfl⟩ := List.mem_map.1 hx
    exact y.2.1
  · intro x hx
    obtain ⟨y, _, rfl⟩ := List.mem_map.1 hx
    exact y.2.2
end
end Go.Proofs.Ytbagfapalkmikaa
