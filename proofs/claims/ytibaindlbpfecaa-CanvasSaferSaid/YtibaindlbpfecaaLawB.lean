import Derived.Test.YtibaindlbpfecaaLawA
import Derived.Test.YtibaindlbpfecaaCanG
import Derived.Test.YtibaindlbpfecaaCanA
import Derived.Test.YtibaindlbpfecaaRefA

namespace Go.Proofs.Ytibaindlbpfecaa
open Go.RowKit
def head4 : Head := ⟨100, 2000, guysM⟩
def f4 : List Vec := [⟨56000, 0⟩, ⟨0, 56000⟩, ⟨-56000, 0⟩, ⟨0, -56000⟩]
theorem wk_forces : forcesM soilM head4 = f4 := by decide +kernel
theorem wk_holds : holdsM soilM 0 700 = (560, 839) := by decide +kernel
theorem wk_stake : stakeE soilM (inB 0 0 9 && inB 700 1 3000) = 0 := by decide +kernel
theorem wk_parts : partsT soilM fourM = [[56, 56, 56, 56]] := by decide +kernel
theorem wk_partsE : partsE soilM fourM = 0 := by decide +kernel
theorem wk_reachE : headE soilM fourM ((0 : Nat) : Int) (wayIn ⟨3, 4⟩) = 0 := by decide +kernel
theorem wk_reach : reachM 100 f4 ⟨3, 4⟩ = 140 := by decide +kernel
theorem wk_balE : headE soilM fourM ((0 : Nat) : Int) (Vec.corner ⟨-300, 100⟩) = 0 := by decide +kernel
theorem wk_bal : findBal (Vec.times ⟨-300, 100⟩ 100) f4 = some (3136000000, [1680000000, 0, 0, 560000000]) := by decide +kernel
theorem wk_balBy : balByB (Vec.times ⟨-300, 100⟩ 100) f4 3136000000 [1680000000, 0, 0, 560000000] = true := by decide +kernel
theorem four_get : fourM[0]? = some head4 := rfl

theorem wk_Holds (A : Option Addr) (c : Nat) (w : World) (hr : RS encT 4 w w.heap.size A soilM) :
    Calls Try.prog 33 #[.slice A soilM.length c, .int .i64 0, .int .i64 700] w fun e w' => e = .returned (.tuple #[.agg #[.int .i64 560, .int .i64 839], .int .i64 0]) ∧ Below w.heap.size w w' := by
  have := Holds_ok A c soilM 0 700 w hr (by decide) wk_stake
  rw [wk_holds] at this
  exact this
def WkParts (w : World) (e : Ending) (w' : World) : Prop := ∃ A1 c1, e = .returned (.tuple #[.slice A1 1 c1, .int .i64 0]) ∧ RR w' w'.heap.size A1 [[56, 56, 56, 56]] ∧ 1 ≤ c1 ∧ c1 ≤ maxLen ∧ Below w.heap.size w w'
theorem wk_Parts (A : Option Addr) (c : Nat) (A' : Option Addr) (c' : Nat) (w : World) (hr : RS encT 4 w w.heap.size A soilM) (ht : RH w w.heap.size A' fourM) :
    Calls Try.prog 52 #[.slice A soilM.length c, .slice A' fourM.length c'] w (WkParts w) := by
  refine (Parts_ok A c soilM A' c' fourM w hr (by decide) ht (by decide) wk_partsE).mono ?_
  rintro e w' ⟨A1, c1, rfl, h1, h2, h3, h4⟩
  rw [wk_parts] at h1
  exact ⟨A1, c1, rfl, h1, h2, h3, h4⟩
theorem wk_Reach (A : Option Addr) (c : Nat) (A' : Option Addr) (c' : Nat) (w : World) (hr : RS encT 4 w w.heap.size A soilM) (ht : RH w w.heap.size A' fourM) :
    Calls Try.prog 40 #[.slice A soilM.length c, .slice A' fourM.length c', .int .i64 0, .agg #[.int .i64 3, .int .i64 4]] w fun e w' => e = .returned (.tuple #[.int .i64 140, .int .i64 0]) ∧ Below w.heap.size w w' := by
  have := Reach_ok A c soilM A' c' fourM 0 head4 four_get ⟨3, 4⟩ f4 wk_forces w hr (by decide) ht (by decide) wk_reachE
  rw [show head4.area = 100 from rfl, wk_reach] at this
  exact this
def WkBal (w : World) (e : Ending) (w' : World) : Prop := ∃ A c, e = .returned (.tuple #[.agg #[.int .i64 3136000000, .slice A 4 c], .int .i64 0]) ∧ RS encI 1 w' w'.heap.size A [1680000000, 0, 0, 560000000] ∧ 4 ≤ c ∧ c ≤ maxLen ∧ Below w.heap.size w w'
theorem wk_Balanced (A : Option Addr) (c : Nat) (A' : Option Addr) (c' : Nat) (w : World) (hr : RS encT 4 w w.heap.size A soilM) (ht : RH w w.heap.size A' fourM) :
    Calls Try.prog 24 #[.slice A soilM.length c, .slice A' fourM.length c', .int .i64 0, .agg #[.int .i64 (-300), .int .i64 100]] w (WkBal w) := by
  refine (Balanced_ok A c soilM A' c' fourM 0 head4 four_get ⟨-300, 100⟩ f4 wk_forces w hr (by decide) ht (by decide) wk_balE).mono ?_
  unfold BalancedPost
  rw [show head4.area = 100 from rfl, wk_bal]
  rintro e w' ⟨A, c, rfl, h1, h2, h3, h4⟩
  exact ⟨A, c, rfl, h1, h2, h3, h4⟩
theorem wk_Prove (A : Option Addr) (c : Nat) (A' : Option Addr) (c' : Nat) (A3 : Option Addr) (c3 : Nat) (w : World) (hr : RS encT 4 w w.heap.size A soilM) (ht : RH w w.heap.size A' fourM) (hp : RS encI 1 w w.heap.size A3 [1680000000, 0, 0, 560000000]) :
    Calls Try.prog 31 #[.slice A soilM.length c, .slice A' fourM.length c', .int .i64 0, .agg #[.int .i64 (-300), .int .i64 100], .agg #[.int .i64 3136000000, .slice A3 4 c3]] w fun e w' => e = .returned (.bool true) ∧ Below w.heap.size w w' := by
  have := ProveBalance_ok A c soilM A' c' fourM 0 head4 four_get ⟨-300, 100⟩ 3136000000 A3 c3 [1680000000, 0, 0, 560000000] f4 wk_forces w hr (by decide) ht (by decide) hp (by decide) wk_balE
  rw [show head4.area = 100 from rfl, wk_balBy] at this
  exact this
theorem wk_ints (A1 A2 : Option Addr) (c1 c2 : Nat) (w : World) (ha : RS encI 1 w w.heap.size A1 [56, 56, 56, 56]) (hb : RS encI 1 w w.heap.size A2 [56, 56, 56, 56]) :
    Calls Try.prog 39 #[.slice A1 4 c1, .slice A2 4 c2] w fun e w' => e = .returned (.bool true) ∧ Below w.heap.size w w' :=
  ints_any A1 A2 c1 c2 [56, 56, 56, 56] [56, 56, 56, 56] w ha hb (by decide) (by decide)
end Go.Proofs.Ytibaindlbpfecaa

namespace Go.Proofs.Ytibaindlbpfecaa
open Go.RowKit

set_option maxRecDepth 100000 in
set_option maxHeartbeats 2000000 in
theorem wakes_any (w : World) : Calls Try.prog 20 #[] w fun e w' => e = .returned (.bool true) ∧ Below w.heap.size w w' := by
  go_enter Try.func20, Try.ntmps20
  go_upto_region 2 with (first | (go_at_call 34; refine (soil_rs _).mono ?_; rintro e w1 ⟨A1, rfl, hs1, hb1⟩) | (go_at_call 33; refine (wk_Holds A1 2 _ hs1).mono ?_; rintro e w2 ⟨rfl, hb2⟩))
  have hB2 := sh_next hb1 hb2
  refine name_world (motive := fun W => Code.wp _ _ _ _ W) _ ?_
  intro W1 hW1
  have hX1 := hW1.below (hB2.alloc hB2.size (.cells #[.int .i64 560, .int .i64 839] 72))
  have kR := hW1.blk (Blk.new w2 72 #[.int .i64 560, .int .i64 839])
  have hz2 := hB2.size
  clear hW1 hs1 hb1 hb2 hB2
  go_upto_region 3 with (first | (go_at_call 34; refine (soil_rs _).mono ?_; rintro e w3 ⟨A3, rfl, hs3, hb3⟩) | (go_at_call 38; refine (four_any _).mono ?_; rintro e w4 ⟨A4, rfl, ht4, hb4⟩) | (go_at_call 52; refine (wk_Parts A3 2 A4 1 _ (hs3.to hb4) ht4).mono ?_; rintro e w5 ⟨A5, c5, rfl, hp5, hc5, hd5, hb5⟩))
  have hX5 := sh_next (sh_next hb3 hb4) hb5
  have kR5 := kR.below hX5 kR.lt
  have hW5 := hX1.trans (hX5.mono hX1.size)
  clear hs3 hb3 ht4 hb4 hb5 hX5 kR hX1
  go_upto_region 4 with (first | (go_at_call 34; refine (soil_rs _).mono ?_; rintro e w6 ⟨A6, rfl, hs6, hb6⟩) | (go_at_call 38; refine (four_any _).mono ?_; rintro e w7 ⟨A7, rfl, ht7, hb7⟩) | (go_at_call 40; refine (wk_Reach A6 2 A7 1 _ (hs6.to hb7) ht7).mono ?_; rintro e w8 ⟨rfl, hb8⟩))
  have hX8 := sh_next (sh_next hb6 hb7) hb8
  have kR8 := kR5.below hX8 kR5.lt
  have hp8 := hp5.to hX8
  have hW8 := hW5.trans (hX8.mono hW5.size)
  clear hs6 hb6 ht7 hb7 hb8 hX8 kR5 hp5 hW5
  go_upto_region 5 with (first | (go_at_call 34; refine (soil_rs _).mono ?_; rintro e w9 ⟨A9, rfl, hs9, hb9⟩) | (go_at_call 38; refine (four_any _).mono ?_; rintro e wa ⟨Aa, rfl, hta, hba⟩) | (go_at_call 24; refine (wk_Balanced A9 2 Aa 1 _ (hs9.to hba) hta).mono ?_; rintro e wb ⟨Ab, cb, rfl, hpb, hcb, hdb, hbb⟩))
  have hXb := sh_next (sh_next hb9 hba) hbb
  have kRb := kR8.below hXb kR8.lt
  have hp9 := hp8.to hXb
  have hWb0 := hW8.trans (hXb.mono hW8.size)
  have hzw := hWb0.size
  clear hs9 hb9 hta hba hbb hXb kR8 hp8 hW8
  refine name_world (motive := fun W => Code.wp _ _ _ _ W) _ ?_
  intro W0 hW
  have hWc := hW.cell
  have hWz := hW.size
  have hWb := hW.below (hWb0.alloc hzw (.cells #[.int .i64 3136000000, .slice Ab 4 cb] 55))
  have hBa := (Below.refl _ wb).alloc (Nat.le_refl _) (.cells #[.int .i64 3136000000, .slice Ab 4 cb] 55)
  have kR := hW.blk (kRb.alloc (.cells #[.int .i64 3136000000, .slice Ab 4 cb] 55))
  have kB := hW.blk (Blk.new wb 55 #[.int .i64 3136000000, .slice Ab 4 cb])
  have hp0 := hp9.to hBa
  have hpb0 := hpb.to hBa
  rw [← hW.eq.out] at hp0 hpb0
  have r0 := kR.cell 0
  have r1 := kR.cell 1
  have b0 := kB.cell 0
  have b1 := kB.cell 1
  have rz := kR.lt
  have bz := kB.lt
  obtain ⟨pb, po, Ap, cp, rfl, hpz, p0, hp1, hp2, hps⟩ := hp0.at_ (k := 0) rfl
  simp at r0 r1 b0 b1 p0
  clear hWc hWz hW kR kB kRb hp9 hp0 hpb hBa
  (first | (go_region_held3 (fun w' => (∀ b o, b < W0.heap.size → w'.cell? ⟨b, o, none⟩ = W0.cell? ⟨b, o, none⟩) ∧ Below W0.heap.size W0 w') (first | with_reducible exact sh_refl _ | (with_reducible refine sh_of ?_; with_reducible assumption) | (with_reducible refine sh_alloc ?_ _; with_reducible assumption) | with_reducible exact sh_first _ _) (first | (go_at_call 39; go_split_ands; have hS1 : Below W0.heap.size W0 _ := (by with_reducible assumption); refine (wk_ints Ap (some ⟨W0.heap.size, 0, none⟩) cp 4 _ (hps.to hS1) (RS.of_blk (enc := encI) (sz := 1) (l := [56, 56, 56, 56]) (fun _ => rfl) (Blk.new W0 3 #[.int .i64 56, .int .i64 56, .int .i64 56, .int .i64 56]).drew)).mono ?_; rintro e x1 ⟨rfl, hg1⟩; have hB1 := sh_next hS1 hg1) | (go_at_call 34; go_split_ands; have hS2 : Below W0.heap.size W0 _ := (by with_reducible assumption); refine (soil_rs _).mono ?_; rintro e x2 ⟨As, rfl, hsx, hg2⟩; have hB2 := sh_next hS2 hg2) | (go_at_call 38; go_split_ands; have hS3 : Below W0.heap.size W0 _ := (by with_reducible assumption); refine (four_any _).mono ?_; rintro e x3 ⟨At, rfl, htx, hg3⟩; have hB3 := sh_next hS3 hg3) | (go_at_call 31; go_split_ands; have hS4 : Below W0.heap.size W0 _ := (by with_reducible assumption); refine (wk_Prove As 2 At 1 Ab cb _ (hsx.to hg3) htx (hpb0.to hS4)).mono ?_; rintro e x4 ⟨rfl, hg4⟩; have hB4 := sh_next hS4 hg4))) | fail)
  go_wp2
  go_ret
  exact ⟨rfl, hWb.trans (hB4.mono hWb.size)⟩
end Go.Proofs.Ytibaindlbpfecaa

namespace Go.Proofs.Ytibaindlbpfecaa
open Go.RowKit

theorem infoCT : (Try.prog.info? 79).map (fun i => (i.zero, i.size, i.bytes)) = some (some (.agg #[.int .i64 0, .int .i64 0, .int .i64 0, .bool false]), 4, 32) := by kernel_rfl
def CopyPost {α : Type} (enc : α → List Value) (sz : Nat) (l : List α) (w : World) (e : Ending) (w' : World) : Prop := ∃ A c, e = .returned (.slice A l.length c) ∧ RS enc sz w' w'.heap.size A l ∧ l.length ≤ c ∧ c ≤ maxLen ∧ Below w.heap.size w w'

set_option maxRecDepth 100000 in
set_option maxHeartbeats 1000000 in
theorem Tests_any (A : Option Addr) (c : Nat) (l : List Tst) (w : World) (hr : RS encT 4 w w.heap.size A l) (hl : l.length ≤ 1000) :
    Calls Try.prog 17 #[.slice A l.length c] w (CopyPost encT 4 l w) := by
  obtain ⟨i0, hi0, hz0, hz1, hz2⟩ := info_parts infoCT
  go_enter Try.func17, Try.ntmps17
  go_wp2
  go_loopw [3, 4] (fun v i wr => ∃ k : Nat, k ≤ l.length ∧ i = .int .i64 k ∧ wr.ownsRow w.heap.size 79 4 v k ((l.take k).flatMap encT) ∧ Below w.heap.size w wr) (fun _ i _ => l.length - (intOf i).toNat)
  case atStart => exact ⟨0, Nat.zero_le _, rfl, World.ownsRow_nil _ _ _ _, Below.refl _ _⟩
  case round =>
    obtain ⟨k, hk, rfl, hown, hB⟩ := hrel
    by_cases hlt : k < l.length
    · obtain ⟨x, hx⟩ := getElem?_lt hlt
      obtain ⟨b, off, rfl, hb, hc⟩ := (hr.below hB (Nat.le_refl _)).at_ hx
      have c0 := hc 0 _ rfl
      have c1 := hc 1 _ rfl
      have c2 := hc 2 _ rfl
      have c3 := hc 3 _ rfl
      simp only [Nat.add_zero] at c0
      have Hx := Lib.hid hx
      clear hx hc hr
      have hBz := hB.size
      go_wp2
      refine name_world (motive := fun W => Code.wp _ _ _ _ W) _ ?_
      intro W0 hW
      have hWc := hW.cell
      have hBW : w.heap.size ≤ W0.heap.size := by rw [hW.size]; exact hBz
      have hownW : W0.ownsRow w.heap.size 79 4 u3 k ((l.take k).flatMap encT) := by rw [hW.eq.out]; exact hown
      go_region_held3 (fun w' => (∀ b o, b < w.heap.size → w'.cell? ⟨b, o, none⟩ = W0.cell? ⟨b, o, none⟩) ∧ Below (w.heap.size) W0 w') (first | with_reducible exact shB_refl _ _ | (with_reducible refine shB_of ?_; with_reducible assumption) | with_reducible exact shB_first _ hBW _ | (with_reducible refine shB_alloc ?_ hBW _; with_reducible assumption))
        (first | ((refine step_append_lies _ (by rfl) _ _ _ (by rfl) w.heap.size 79 i0 _ 4 32 Try.underlying33 hi0 hz0 hz1 hz2 rfl (by omega) u3 k _ (by rfl) ((hownW).alloc _).drew ⟨W0.heap.size, 0, none⟩ 1 1 [.int .i64 x.soil, .int .i64 x.depth, .int .i64 x.force, .bool x.held] (by rfl) (by rfl) (World.news_of_block (cs := #[.int .i64 x.soil, .int .i64 x.depth, .int .i64 x.force, .bool x.held]) (t := 79) (fr := (0, 0)) (heap_alloc_new W0 _)) (by simp [Value.oneCell']) (by omega) (by unfold maxLen; omega) (by omega) (by simp; omega) (W0.heap.size + 1) (by simp) ?_); intro gg cap w2 hown2 hgrow2 hat hlt2; have hB2 : Below w.heap.size W0 w2 := app_below (((Below.refl _ W0).alloc hBW _).drew) (by simp; omega) ((hownW).alloc _).drew hgrow2))
      go_wp2
      refine ⟨⟨k + 1, by omega, by go_num, ?_, (hW.below hB).trans hB2⟩, by simp [intOf]; omega⟩
      rw [flat_snoc Hx.out]
      exact hown2
    · go_wp2
      obtain ⟨A1, c1, rfl, hc1, hc2⟩ := own_slice hown
      obtain rfl : k = l.length := by omega
      go_ret
      rw [List.take_of_length_le (Nat.le_refl _)] at hown
      exact ⟨A1, c1, rfl, RS.of_own (enc := encT) (sz := 4) (fun _ => rfl) hown rfl, hc1, hc2, hB⟩

theorem fcA_neg {l : List Tst} : (decide ((0 : Int) ≤ fclA l)) = fcF l := by
  unfold fclA fcF
  cases fcl l with
  | none => rfl
  | some p => simp
theorem clashing_any (A : Option Addr) (c : Nat) (l : List Tst) (w : World) (hr : RS encT 4 w w.heap.size A l) (hl : l.length ≤ maxLen) (hok : ∀ x ∈ l, x.ok = true) :
    Calls Try.prog 49 #[.slice A l.length c] w fun e w' => e = .returned (.int .i64 (agreeE l)) ∧ Below w.heap.size w w' := by
  have HA : Hid (agreeE l = if fcF l then 9 else 0) := rfl
  have hd := fcA_neg (l := l)
  have Hok := Lib.hid hok
  clear hok
  cases hf : fcF l
  all_goals
    rw [hf] at hd HA
    go_enter Try.func49, Try.ntmps49
    go_wp2_with ((go_at_call 48; refine (refClash_any A c l _ hr hl Hok.out).mono ?_; rintro e w1 ⟨rfl, hb1⟩; obtain ⟨hc1, hf1⟩ := bcell hb1))
    go_ret
    exact ⟨ret_int (by rw [HA.out]; rfl), hb1⟩
end Go.Proofs.Ytibaindlbpfecaa

namespace Go.Proofs.Ytibaindlbpfecaa
open Go.RowKit

def holdsE (l : List Tst) (soil depth : Int) : Int := stakeE l (inB soil 0 9 && inB depth 1 3000)
theorem HoldsAll (A : Option Addr) (c : Nat) (l : List Tst) (soil depth : Int) (w : World) (hr : RS encT 4 w w.heap.size A l) (hl : l.length ≤ maxLen) {lo hi eh : Int} (he : holdsE l soil depth = eh) (h0 : eh = 0 → holdsM l soil depth = (lo, hi)) (h1 : eh ≠ 0 → lo = 0 ∧ hi = 0) :
    Calls Try.prog 33 #[.slice A l.length c, .int .i64 soil, .int .i64 depth] w fun e w' => e = .returned (.tuple #[.agg #[.int .i64 lo, .int .i64 hi], .int .i64 eh]) ∧ Below w.heap.size w w' := by
  by_cases hz : eh = 0
  · have := Holds_ok A c l soil depth w hr hl (he.trans hz)
    rw [h0 hz] at this
    rw [hz]; exact this
  · obtain ⟨rfl, rfl⟩ := h1 hz
    exact Holds_err A c l soil depth eh w hr hl he hz
theorem deepM_le (l : List Tst) (soil force : Int) : 0 ≤ deepM l soil force ∧ deepM l soil force ≤ 3000 := by
  have := deepFrom_spec l soil force 3000 1 (by omega)
  unfold deepM
  rcases this with ⟨h, _⟩ | ⟨h1, h2, _⟩ <;> omega
theorem agree_vals (l : List Tst) : agreeE l = 0 ∨ agreeE l = 9 := by unfold agreeE; split <;> simp
/-- What the program's calls on a stake say, beside what the reference's do. -/
theorem stakes_math (l : List Tst) (soil depth force : Int) :
    (testsFault l ≠ 0 → clashE l = testsFault l ∧ holdsE l soil depth = testsFault l ∧ deepE l soil force = testsFault l ∧ deepV l soil force = 0) ∧
    (testsFault l = 0 → clashE l = (if fclA l < 0 then 7 else 0) ∧ fcI l = (if fclA l < 0 then 0 else fclA l) ∧ fcK l = (if fclA l < 0 then 0 else fclB l) ∧
      holdsE l soil depth = (if (inB soil 0 9 && inB depth 1 3000) = true then agreeE l else 2) ∧
      deepE l soil force = (if (inB soil 0 9 && inB force 0 5000) = true then (if agreeE l = 0 then (if deepM l soil force = 0 then 7 else 0) else agreeE l) else 2) ∧
      deepV l soil force = (if deepE l soil force = 0 then deepM l soil force else 0)) := by
  constructor
  · intro hz
    have h1 : ∀ b, stakeE l b = testsFault l := by intro b; unfold stakeE firstE; rw [if_neg hz]
    refine ⟨by unfold clashE; rw [if_neg hz], h1 _, ?_, ?_⟩
    · unfold deepE; rw [h1, if_neg hz]
    · unfold deepV deepE; rw [h1, if_neg hz, if_neg hz]
  · intro hz
    have h1 : ∀ b, stakeE l b = if b = true then agreeE l else 2 := by intro b; unfold stakeE firstE; rw [if_pos hz]
    have hd : deepE l soil force = (if (inB soil 0 9 && inB force 0 5000) = true then (if agreeE l = 0 then (if deepM l soil force = 0 then 7 else 0) else agreeE l) else 2) := by
      have hdm := deepM_le l soil force
      have hr : deepR l soil force = 3000 ↔ deepM l soil force = 0 := by
        unfold deepR; split <;> omega
      unfold deepE
      rw [h1]
      by_cases hb : (inB soil 0 9 && inB force 0 5000) = true
      · rw [if_pos hb, if_pos hb]
        by_cases ha : agreeE l = 0
        · rw [if_pos ha, if_pos ha]
          by_cases hm : deepM l soil force = 0
          · rw [if_pos (hr.2 hm), if_pos hm]
          · rw [if_neg (fun h => hm (hr.1 h)), if_neg hm]
        · rw [if_neg ha, if_neg ha]
      · rw [if_neg hb, if_neg hb, if_neg (by omega)]
    refine ⟨?_, ?_, ?_, h1 _, hd, ?_⟩
    · unfold clashE fcF fclA; rw [if_pos hz]; cases fcl l <;> simp <;> omega
    · unfold fcI fclA; cases fcl l <;> simp <;> omega
    · unfold fcK fclA fclB; cases fcl l <;> simp <;> omega
    · unfold deepV
      by_cases h0 : deepE l soil force = 0
      · rw [if_pos h0, if_pos h0]
        rw [hd] at h0
        unfold deepR
        split at h0
        · split at h0
          · split at h0
            · omega
            · rename_i h; rw [if_neg h]; omega
          · rename_i h; exact absurd h0 h
        · omega
      · rw [if_neg h0, if_neg h0]
end Go.Proofs.Ytibaindlbpfecaa
