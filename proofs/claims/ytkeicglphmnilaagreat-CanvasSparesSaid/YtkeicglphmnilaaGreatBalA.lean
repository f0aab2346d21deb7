import Derived.Test.YtkeicglphmnilaaGreatWeakest
import Derived.Test.YtkeicglphmnilaaGreatCanG
import Derived.Test.YtkeicglphmnilaaGreatCanF

namespace Go.Proofs.YtkeicglphmnilaaGreat
open Go.RowKit

theorem headE_eq {l : List Tst} {t : List Head} {head : Int} {b : Bool} : headE l t head b = if faultE l t = 0 then (if (b && headB t head) = true then agreeE l else 2) else faultE l t := by
  unfold headE firstE
  rw [fault_tented]
theorem zip_get {f : List Vec} {ps : List Int} {k : Nat} {v : Vec} {n : Int} (hv : f[k]? = some v) (hn : ps[k]? = some n) : (List.zip f ps)[k]? = some (v, n) := by
  simp [List.getElem?_zip_eq_some, hv, hn]
theorem balBy_len {p : Vec} {f : List Vec} {whole : Int} {ps : List Int} (h : ps.length ≠ f.length) : balByB p f whole ps = false := by
  unfold balByB; simp [h]
theorem balBy_whole {p : Vec} {f : List Vec} {whole : Int} {ps : List Int} (h : inB whole 1 500000000000 = false) : balByB p f whole ps = false := by
  unfold balByB; rw [h]; rfl
theorem balBy_part {p : Vec} {f : List Vec} {whole : Int} {ps : List Int} {k : Nat} {n : Int} (hn : ps[k]? = some n) (h : inB n 0 whole = false) : balByB p f whole ps = false := by
  unfold balByB; rw [all_bad hn h]; simp
theorem balBy_end {p : Vec} {f : List Vec} {whole : Int} {ps : List Int} (h1 : inB whole 1 500000000000 = true) (h2 : ps.length = f.length) (h3 : ps.all (inB · 0 whole) = true) {u : Vec} (hu : balSum p f whole ps = u) : balByB p f whole ps = decide (u = vecZ) := by
  unfold balByB; rw [h1, h3, hu]; simp [h2]
theorem zip_take : ∀ (f : List Vec) (ps : List Int) (k : Nat), (List.zip f ps).take k = List.zip (f.take k) (ps.take k) := by
  intro f
  induction f with
  | nil => intro ps k; simp
  | cons a f ih =>
    intro ps k
    cases ps with
    | nil => simp
    | cons b ps =>
      cases k with
      | zero => rfl
      | succ k => simp only [List.zip_cons_cons, List.take_succ_cons, ih]
theorem balSum_upto {P : Vec} {f : List Vec} {ps : List Int} {k : Nat} (hP : VB P 5000000000000000000) (hf : ∀ v ∈ f, VB v 500000) (hk : k ≤ 8) (hp : ∀ m ∈ ps.take k, 0 ≤ m ∧ m ≤ 500000000000) : VB (((List.zip f ps).take k).foldl plusStep P) (5000000000000000000 + 250000000000000000 * k) := by
  have := balSum_vb hP (f := f.take k) (ps := ps.take k) (fun v hv => hf v (List.mem_of_mem_take hv)) hp k hk
  rw [← zip_take, List.take_take, Nat.min_self] at this
  exact this
end Go.Proofs.YtkeicglphmnilaaGreat
