import Derived.Test.YthelogdgfhfdcaaLaw4
namespace Go.Proofs.Ythelogdgfhfdcaa
open Go.RowKit

theorem infoCT : (Try.prog.info? 100).map (fun i => (i.zero, i.size, i.bytes)) = some (some (.agg #[.int .i64 0, .int .i64 0, .int .i64 0, .bool false]), 4, 32) := by kernel_rfl
def CopyPost {α : Type} (enc : α → List Value) (sz : Nat) (l : List α) (w : World) (e : Ending) (w' : World) : Prop := ∃ A c, e = .returned (.slice A l.length c) ∧ RS enc sz w' w'.heap.size A l ∧ l.length ≤ c ∧ c ≤ maxLen ∧ Below w.heap.size w w'

set_option maxRecDepth 100000 in
set_option maxHeartbeats 1000000 in
theorem Tests_any (A : Option Addr) (c : Nat) (l : List Tst) (w : World) (hr : RS encT 4 w w.heap.size A l) (hl : l.length ≤ 1000) :
    Calls Try.prog 17 #[.slice A l.length c] w (CopyPost encT 4 l w) := by
  obtain ⟨i0, hi0, hz0, hz1, hz2⟩ := info_parts infoCT
  go_enter Try.func17, Try.ntmps17
  go_wp2
  go_loopw [3, 4] (fun v i wr => ∃ k : Nat, k ≤ l.length ∧ i = .int .i64 k ∧ wr.ownsRow w.heap.size 100 4 v k ((l.take k).flatMap encT) ∧ Below w.heap.size w wr) (fun _ i _ => l.length - (intOf i).toNat)
  case atStart => exact ⟨0, Nat.zero_le _, rfl, World.ownsRow_nil _ _ _ _, Below.refl _ _⟩
  case round =>
    obtain ⟨k, hk, rfl, hown, hB⟩ := hrel
    by_cases hlt : k < l.length
    · obtain ⟨x, hx⟩ := getElem?_lt hlt
      obtain ⟨b, off, rfl, hb, hc⟩ := (hr.below hB (Nat.le_refl _)).at_ hx
      have c0 := hc 0 _ rfl
      have c1 := hc 1 _ rfl
      have c2 := hc 2 _ rfl
      have c3 := hc 3 _ rfl
      simp only [Nat.add_zero] at c0
      have Hx := Lib.hid hx
      clear hx hc hr
      have hBz := hB.size
      go_wp2
      refine name_world (motive := fun W => Code.wp _ _ _ _ W) _ ?_
      intro W0 hW
      have hWc := hW.cell
      have hBW : w.heap.size ≤ W0.heap.size := by rw [hW.size]; exact hBz
      have hownW : W0.ownsRow w.heap.size 100 4 u3 k ((l.take k).flatMap encT) := by rw [hW.eq.out]; exact hown
      go_region_held3 (fun w' => (∀ b o, b < w.heap.size → w'.cell? ⟨b, o, none⟩ = W0.cell? ⟨b, o, none⟩) ∧ Below (w.heap.size) W0 w') (first | with_reducible exact shB_refl _ _ | (with_reducible refine shB_of ?_; with_reducible assumption) | with_reducible exact shB_first _ hBW _ | (with_reducible refine shB_alloc ?_ hBW _; with_reducible assumption))
        (first | ((refine step_append_lies _ (by rfl) _ _ _ (by rfl) w.heap.size 100 i0 _ 4 32 Try.underlying28 hi0 hz0 hz1 hz2 rfl (by omega) u3 k _ (by rfl) ((hownW).alloc _).drew ⟨W0.heap.size, 0, none⟩ 1 1 [.int .i64 x.soil, .int .i64 x.depth, .int .i64 x.force, .bool x.held] (by rfl) (by rfl) (World.news_of_block (cs := #[.int .i64 x.soil, .int .i64 x.depth, .int .i64 x.force, .bool x.held]) (t := 100) (fr := (0, 0)) (heap_alloc_new W0 _)) (by simp [Value.oneCell']) (by omega) (by unfold maxLen; omega) (by omega) (by simp; omega) (W0.heap.size + 1) (by simp) ?_); intro gg cap w2 hown2 hgrow2 hat hlt2; have hB2 : Below w.heap.size W0 w2 := app_below (((Below.refl _ W0).alloc hBW _).drew) (by simp; omega) ((hownW).alloc _).drew hgrow2))
      go_wp2
      refine ⟨⟨k + 1, by omega, by go_num, ?_, (hW.below hB).trans hB2⟩, by simp [intOf]; omega⟩
      rw [flat_snoc Hx.out]
      exact hown2
    · go_wp2
      obtain ⟨A1, c1, rfl, hc1, hc2⟩ := own_slice hown
      obtain rfl : k = l.length := by omega
      go_ret
      rw [List.take_of_length_le (Nat.le_refl _)] at hown
      exact ⟨A1, c1, rfl, RS.of_own (enc := encT) (sz := 4) (fun _ => rfl) hown rfl, hc1, hc2, hB⟩

theorem fcA_neg {l : List Tst} : (decide ((0 : Int) ≤ fclA l)) = fcF l := by
  unfold fclA fcF
  cases fcl l with
  | none => rfl
  | some p => simp
theorem clashing_any (A : Option Addr) (c : Nat) (l : List Tst) (w : World) (hr : RS encT 4 w w.heap.size A l) (hl : l.length ≤ maxLen) (hok : ∀ x ∈ l, x.ok = true) :
    Calls Try.prog 22 #[.slice A l.length c] w fun e w' => e = .returned (.int .i64 (agreeE l)) ∧ Below w.heap.size w w' := by
  have HA : Hid (agreeE l = if fcF l then 9 else 0) := rfl
  have hd := fcA_neg (l := l)
  have Hok := Lib.hid hok
  clear hok
  cases hf : fcF l
  all_goals
    rw [hf] at hd HA
    go_enter Try.func22, Try.ntmps22
    go_wp2_with ((go_at_call 21; refine (refClash_any A c l _ hr hl Hok.out).mono ?_; rintro e w1 ⟨rfl, hb1⟩; obtain ⟨hc1, hf1⟩ := bcell hb1))
    go_ret
    exact ⟨ret_int (by rw [HA.out]; rfl), hb1⟩
end Go.Proofs.Ythelogdgfhfdcaa
